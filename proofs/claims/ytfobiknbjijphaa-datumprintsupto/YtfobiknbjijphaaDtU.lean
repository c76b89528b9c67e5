/-
  Contract of the document's Print.
-/
import Derived.Test.YtfobiknbjijphaaDtT
namespace Go.Proofs.Ytfobiknbjijphaa
open Go.RowKit
set_option linter.unusedVariables false

theorem z_print {d : Dt} {v : Value} {w : World} (h : DAt w d v) (hs : d.siz ≤ 1048576) (hw : 8 * d.wt ≤ 1099511627776) : Calls Try.prog 5 #[v] w fun e w' => Prt d e ∧ Hid (Below w.heap.size w w') := by
  obtain ⟨a, n, c, b, n2, c2, rfl⟩ := h.shape
  obtain ⟨W0, hW⟩ : ∃ W0, w.alloc (.cells #[.int .i64 d.kd, .string d.tx, .slice a n c, .slice b n2 c2] 24) = W0 := ⟨_, rfl⟩
  have hb0 : Below w.heap.size w W0 := by rw [← hW]; exact (Below.refl _ w).alloc (Nat.le_refl _) _
  obtain ⟨B, hB⟩ : ∃ B, w.heap.size = B := ⟨_, rfl⟩
  have h0 : W0.heap[B]? = some (.cells #[.int .i64 d.kd, .string d.tx, .slice a n c, .slice b n2 c2] 24 (0, 0)) := by rw [← hW]; exact heap_alloc_at _ _ _ hB.symm
  have HX : Hid (∀ V, Below W0.heap.size W0 V → (V.cell? ⟨B, 0, none⟩ = some (.int .i64 d.kd) ∧ V.cell? ⟨B, 1, none⟩ = some (.string d.tx) ∧ V.cell? ⟨B, 2, none⟩ = some (.slice a n c) ∧ V.cell? ⟨B, 3, none⟩ = some (.slice b n2 c2)) ∧ Hid (Below w.heap.size w V)) := fun V hV => by
    have e := (hV.block B (Array.getElem?_eq_some_iff.1 h0).1).trans h0
    exact ⟨⟨by rw [cells_at e 0]; rfl, by rw [cells_at e 1]; rfl, by rw [cells_at e 2]; rfl, by rw [cells_at e 3]; rfl⟩, hb0.trans (hV.mono hb0.size)⟩
  have HM := hid (z_can (h.under hb0) hs)
  have HD : Hid (∀ V, Below w.heap.size w V → d.may → Calls Try.prog 14 #[.agg #[.int .i64 d.kd, .string d.tx, .slice a n c, .slice b n2 c2]] V fun r w' => r = .returned (.string (st d.out)) ∧ Hid (Below V.heap.size V w')) := fun V hV hm => z_printed (d.siz + 1) d _ V (Nat.lt_succ_self _) (h.under hV) hs hm.1 hw
  obtain ⟨⟨y0, y1, y2, y3⟩, -⟩ := HX.out W0 (Below.refl _ _)
  clear h hs h0 hb0 hw
  go_enter Try.func5, Try.ntmps5
  go_wp2_with fail
  try rw [hW]
  try rw [hB]
  try go_wp2_with fail
  refine HM.out.mono ?_
  rintro r w1 ⟨⟨q, rfl, hq⟩, hb1⟩
  obtain ⟨⟨x0, x1, x2, x3⟩, hb⟩ := HX.out w1 hb1.out
  cases q
  · have hn : Hid (¬ d.may) := fun p => by have := hq.2 p; cases this
    clear hq
    go_wp2
    go_ret
    exact ⟨.inr ⟨hn.out, rfl⟩, by first | exact hb | (rw [← hB]; exact hb)⟩
  · have hm : Hid (d.may) := hq.1 rfl
    clear hq
    have HD1 := hid (HD.out w1 hb.out hm.out)
    go_wp2_with fail
    refine HD1.out.mono ?_
    rintro r w2 ⟨rfl, hb2⟩
    have hb' : Hid (Below w.heap.size w w2) := hb.out.trans (hb2.out.mono hb.out.size)
    go_wp2
    go_ret
    exact ⟨.inl ⟨hm.out, rfl⟩, by first | exact hb' | (rw [← hB]; exact hb')⟩
end Go.Proofs.Ytfobiknbjijphaa
