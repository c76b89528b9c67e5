/-
  Contracts of the document's Can, Depth, Size.
-/
import Derived.Test.YtfobiknbjijphaaDtK
namespace Go.Proofs.Ytfobiknbjijphaa
open Go.RowKit
set_option linter.unusedVariables false

/-- The document's calls upon a datum that lies in a box, in any world past the box. -/
theorem z_boxed {d : Dt} {a b : Option Addr} {n c n2 c2 : Nat} {w : World} (h : DAt w d (.agg #[.int .i64 d.kd, .string d.tx, .slice a n c, .slice b n2 c2])) (hs : d.siz ≤ 1048576) (V : World) (hV : Below w.heap.size w V) :
    Calls Try.prog 16 #[.agg #[.int .i64 d.kd, .string d.tx, .slice a n c, .slice b n2 c2], .int .i64 66] V (fun r w' => Ans r (d.mayN 66) ∧ Hid (Below V.heap.size V w')) ∧
    Calls Try.prog 17 #[.agg #[.int .i64 d.kd, .string d.tx, .slice a n c, .slice b n2 c2], .int .i64 66] V (fun r w' => r = .returned (.int .i64 ((min d.dep 66 : Nat) : Int)) ∧ Hid (Below V.heap.size V w')) ∧
    Calls Try.prog 18 #[.agg #[.int .i64 d.kd, .string d.tx, .slice a n c, .slice b n2 c2]] V (fun r w' => r = .returned (.int .i64 (d.siz : Int)) ∧ Hid (Below V.heap.size V w')) :=
  ⟨z_may (d.siz + 1) d _ 66 V (Nat.lt_succ_self _) (h.under hV) hs (Nat.le_refl _), z_depth (d.siz + 1) d _ 66 V (Nat.lt_succ_self _) (h.under hV) hs (Nat.le_refl _), z_size (d.siz + 1) d _ V (Nat.lt_succ_self _) (h.under hV) hs⟩
theorem may_iff (d : Dt) : d.may ↔ (d.mayN 66 ∧ min d.dep 66 ≤ 64) := by
  unfold Dt.may Dt.mayN
  constructor
  · rintro ⟨h1, h2⟩
    exact ⟨⟨h1, by omega⟩, by omega⟩
  · rintro ⟨⟨h1, h2⟩, h3⟩
    exact ⟨h1, by omega⟩
theorem z_can {d : Dt} {v : Value} {w : World} (h : DAt w d v) (hs : d.siz ≤ 1048576) : Calls Try.prog 7 #[v] w fun e w' => Ans e d.may ∧ Hid (Below w.heap.size w w') := by
  obtain ⟨a, n, c, b, n2, c2, rfl⟩ := h.shape
  obtain ⟨W0, hW⟩ : ∃ W0, w.alloc (.cells #[.int .i64 d.kd, .string d.tx, .slice a n c, .slice b n2 c2] 24) = W0 := ⟨_, rfl⟩
  have hb0 : Below w.heap.size w W0 := by rw [← hW]; exact (Below.refl _ w).alloc (Nat.le_refl _) _
  obtain ⟨B, hB⟩ : ∃ B, w.heap.size = B := ⟨_, rfl⟩
  have h0 : W0.heap[B]? = some (.cells #[.int .i64 d.kd, .string d.tx, .slice a n c, .slice b n2 c2] 24 (0, 0)) := by rw [← hW]; exact heap_alloc_at _ _ _ hB.symm
  have HX : Hid (∀ V, Below W0.heap.size W0 V → (V.cell? ⟨B, 0, none⟩ = some (.int .i64 d.kd) ∧ V.cell? ⟨B, 1, none⟩ = some (.string d.tx) ∧ V.cell? ⟨B, 2, none⟩ = some (.slice a n c) ∧ V.cell? ⟨B, 3, none⟩ = some (.slice b n2 c2)) ∧ Hid (Below w.heap.size w V)) := fun V hV => by
    have e := (hV.block B (Array.getElem?_eq_some_iff.1 h0).1).trans h0
    exact ⟨⟨by rw [cells_at e 0]; rfl, by rw [cells_at e 1]; rfl, by rw [cells_at e 2]; rfl, by rw [cells_at e 3]; rfl⟩, hb0.trans (hV.mono hb0.size)⟩
  have HM := hid (z_boxed h hs W0 hb0).1
  have HD := hid (fun V hV => (z_boxed h hs V hV).2.1)
  have hi := hid (may_iff d)
  obtain ⟨⟨y0, y1, y2, y3⟩, -⟩ := HX.out W0 (Below.refl _ _)
  clear h hs h0 hb0
  go_enter Try.func7, Try.ntmps7
  go_wp2_with fail
  try rw [hW]
  try rw [hB]
  try go_wp2_with fail
  refine HM.out.mono ?_
  rintro r w1 ⟨⟨q, rfl, hq⟩, hb1⟩
  obtain ⟨⟨x0, x1, x2, x3⟩, hb⟩ := HX.out w1 hb1.out
  have HD1 := hid (HD.out w1 hb.out)
  cases q
  · have hn : Hid (¬ d.may) := fun p => by have := hq.2 (hi.out.1 p).1; cases this
    clear hq
    go_wp2
    go_ret
    exact ⟨Ans.no hn.out, by first | exact hb | (rw [← hB]; exact hb)⟩
  · have hm : Hid (d.mayN 66) := hq.1 rfl
    clear hq
    go_wp2_with fail
    refine HD1.out.mono ?_
    rintro r w2 ⟨rfl, hb2⟩
    have hb' : Hid (Below w.heap.size w w2) := hb.out.trans (hb2.out.mono hb.out.size)
    have hA : Hid (decide (((min d.dep 66 : Nat) : Int) ≤ 64) = true ↔ d.may) := by
      refine hid (Iff.trans ?_ hi.out.symm)
      rw [decide_eq_true_eq]
      exact ⟨fun h => ⟨hm.out, by omega⟩, fun h => by have := h.2; omega⟩
    generalize ((min d.dep 66 : Nat) : Int) = z at hA
    go_wp2
    go_ret
    exact ⟨⟨_, rfl, hA.out⟩, by first | exact hb' | (rw [← hB]; exact hb')⟩
theorem z_depthU {d : Dt} {v : Value} {w : World} (h : DAt w d v) (hs : d.siz ≤ 1048576) : Calls Try.prog 9 #[v] w fun e w' => (∃ k : Int, e = .returned (.int .i64 k) ∧ (d.may → k = d.dep) ∧ (¬ d.may → k = 0)) ∧ Hid (Below w.heap.size w w') := by
  obtain ⟨a, n, c, b, n2, c2, rfl⟩ := h.shape
  obtain ⟨W0, hW⟩ : ∃ W0, w.alloc (.cells #[.int .i64 d.kd, .string d.tx, .slice a n c, .slice b n2 c2] 24) = W0 := ⟨_, rfl⟩
  have hb0 : Below w.heap.size w W0 := by rw [← hW]; exact (Below.refl _ w).alloc (Nat.le_refl _) _
  obtain ⟨B, hB⟩ : ∃ B, w.heap.size = B := ⟨_, rfl⟩
  have h0 : W0.heap[B]? = some (.cells #[.int .i64 d.kd, .string d.tx, .slice a n c, .slice b n2 c2] 24 (0, 0)) := by rw [← hW]; exact heap_alloc_at _ _ _ hB.symm
  have HX : Hid (∀ V, Below W0.heap.size W0 V → (V.cell? ⟨B, 0, none⟩ = some (.int .i64 d.kd) ∧ V.cell? ⟨B, 1, none⟩ = some (.string d.tx) ∧ V.cell? ⟨B, 2, none⟩ = some (.slice a n c) ∧ V.cell? ⟨B, 3, none⟩ = some (.slice b n2 c2)) ∧ Hid (Below w.heap.size w V)) := fun V hV => by
    have e := (hV.block B (Array.getElem?_eq_some_iff.1 h0).1).trans h0
    exact ⟨⟨by rw [cells_at e 0]; rfl, by rw [cells_at e 1]; rfl, by rw [cells_at e 2]; rfl, by rw [cells_at e 3]; rfl⟩, hb0.trans (hV.mono hb0.size)⟩
  have HM := hid (z_can (h.under hb0) hs)
  have HD := hid (fun V hV => (z_boxed h hs V hV).2.1)
  obtain ⟨⟨y0, y1, y2, y3⟩, -⟩ := HX.out W0 (Below.refl _ _)
  clear h hs h0 hb0
  go_enter Try.func9, Try.ntmps9
  go_wp2_with fail
  try rw [hW]
  try rw [hB]
  try go_wp2_with fail
  refine HM.out.mono ?_
  rintro r w1 ⟨⟨q, rfl, hq⟩, hb1⟩
  obtain ⟨⟨x0, x1, x2, x3⟩, hb⟩ := HX.out w1 hb1.out
  have HD1 := hid (HD.out w1 hb.out)
  cases q
  · have hn : Hid (¬ d.may) := fun p => by have := hq.2 p; cases this
    clear hq
    go_wp2
    go_ret
    exact ⟨⟨0, rfl, fun p => absurd p hn.out, fun _ => rfl⟩, by first | exact hb | (rw [← hB]; exact hb)⟩
  · have hm : Hid (d.may) := hq.1 rfl
    clear hq
    go_wp2_with fail
    refine HD1.out.mono ?_
    rintro r w2 ⟨rfl, hb2⟩
    have hb' : Hid (Below w.heap.size w w2) := hb.out.trans (hb2.out.mono hb.out.size)
    have hA : Hid (((min d.dep 66 : Nat) : Int) = (d.dep : Int)) := hid (by have := hm.out.2; omega)
    go_wp2
    go_ret
    exact ⟨⟨_, rfl, fun _ => hA.out, fun p => absurd hm.out p⟩, by first | exact hb' | (rw [← hB]; exact hb')⟩
theorem z_sizeU {d : Dt} {v : Value} {w : World} (h : DAt w d v) (hs : d.siz ≤ 1048576) : Calls Try.prog 11 #[v] w fun e w' => (∃ k : Int, e = .returned (.int .i64 k) ∧ (d.may → k = d.siz) ∧ (¬ d.may → k = 0)) ∧ Hid (Below w.heap.size w w') := by
  obtain ⟨a, n, c, b, n2, c2, rfl⟩ := h.shape
  obtain ⟨W0, hW⟩ : ∃ W0, w.alloc (.cells #[.int .i64 d.kd, .string d.tx, .slice a n c, .slice b n2 c2] 24) = W0 := ⟨_, rfl⟩
  have hb0 : Below w.heap.size w W0 := by rw [← hW]; exact (Below.refl _ w).alloc (Nat.le_refl _) _
  obtain ⟨B, hB⟩ : ∃ B, w.heap.size = B := ⟨_, rfl⟩
  have h0 : W0.heap[B]? = some (.cells #[.int .i64 d.kd, .string d.tx, .slice a n c, .slice b n2 c2] 24 (0, 0)) := by rw [← hW]; exact heap_alloc_at _ _ _ hB.symm
  have HX : Hid (∀ V, Below W0.heap.size W0 V → (V.cell? ⟨B, 0, none⟩ = some (.int .i64 d.kd) ∧ V.cell? ⟨B, 1, none⟩ = some (.string d.tx) ∧ V.cell? ⟨B, 2, none⟩ = some (.slice a n c) ∧ V.cell? ⟨B, 3, none⟩ = some (.slice b n2 c2)) ∧ Hid (Below w.heap.size w V)) := fun V hV => by
    have e := (hV.block B (Array.getElem?_eq_some_iff.1 h0).1).trans h0
    exact ⟨⟨by rw [cells_at e 0]; rfl, by rw [cells_at e 1]; rfl, by rw [cells_at e 2]; rfl, by rw [cells_at e 3]; rfl⟩, hb0.trans (hV.mono hb0.size)⟩
  have HM := hid (z_can (h.under hb0) hs)
  have HD := hid (fun V hV => (z_boxed h hs V hV).2.2)
  obtain ⟨⟨y0, y1, y2, y3⟩, -⟩ := HX.out W0 (Below.refl _ _)
  clear h hs h0 hb0
  go_enter Try.func11, Try.ntmps11
  go_wp2_with fail
  try rw [hW]
  try rw [hB]
  try go_wp2_with fail
  refine HM.out.mono ?_
  rintro r w1 ⟨⟨q, rfl, hq⟩, hb1⟩
  obtain ⟨⟨x0, x1, x2, x3⟩, hb⟩ := HX.out w1 hb1.out
  have HD1 := hid (HD.out w1 hb.out)
  cases q
  · have hn : Hid (¬ d.may) := fun p => by have := hq.2 p; cases this
    clear hq
    go_wp2
    go_ret
    exact ⟨⟨0, rfl, fun p => absurd p hn.out, fun _ => rfl⟩, by first | exact hb | (rw [← hB]; exact hb)⟩
  · have hm : Hid (d.may) := hq.1 rfl
    clear hq
    go_wp2_with fail
    refine HD1.out.mono ?_
    rintro r w2 ⟨rfl, hb2⟩
    have hb' : Hid (Below w.heap.size w w2) := hb.out.trans (hb2.out.mono hb.out.size)
    go_wp2
    go_ret
    exact ⟨⟨_, rfl, fun _ => rfl, fun p => absurd hm.out p⟩, by first | exact hb' | (rw [← hB]; exact hb')⟩
end Go.Proofs.Ytfobiknbjijphaa
