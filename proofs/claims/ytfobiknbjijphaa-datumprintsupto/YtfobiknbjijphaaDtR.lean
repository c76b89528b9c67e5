/-
  Contract of datum's Print.
-/
import Derived.Test.YtfobiknbjijphaaDtQ
namespace Go.Proofs.Ytfobiknbjijphaa
open Go.RowKit
set_option linter.unusedVariables false
set_option linter.unusedSimpArgs false

/-- What Print answers. -/
def Prt (d : Dt) (e : Ending) : Prop := (d.may ∧ e = .returned (.string ⟨d.out.toArray⟩)) ∨ (¬ d.may ∧ e = .returned (.string ⟨#[]⟩))
theorem dt_print {d : Dt} {v : Value} {w : World} (h : DAt w d v) (hs : d.siz ≤ 1048576) (hw : 8 * d.wt ≤ 140737488355328) : Calls Try.prog 4 #[v] w fun e w' => Prt d e ∧ Hid (Below w.heap.size w w') := by
  obtain ⟨a, n, c, a2, n2, c2, rfl⟩ := h.shape
  obtain ⟨W0, hW⟩ : ∃ W0, w.alloc (.cells #[.int .i64 d.kd, .string d.tx, .slice a n c, .slice a2 n2 c2] 24) = W0 := ⟨_, rfl⟩
  have hb0 : Below w.heap.size w W0 := by rw [← hW]; exact (Below.refl _ w).alloc (Nat.le_refl _) _
  obtain ⟨B, hB⟩ : ∃ B, w.heap.size = B := ⟨_, rfl⟩
  have h0 : W0.heap[B]? = some (.cells #[.int .i64 d.kd, .string d.tx, .slice a n c, .slice a2 n2 c2] 24 (0, 0)) := by rw [← hW]; exact heap_alloc_at _ _ _ hB.symm
  have HX : Hid (∀ V, Below W0.heap.size W0 V → (V.cell? ⟨B, 0, none⟩ = some (.int .i64 d.kd) ∧ V.cell? ⟨B, 1, none⟩ = some (.string d.tx) ∧ V.cell? ⟨B, 2, none⟩ = some (.slice a n c) ∧ V.cell? ⟨B, 3, none⟩ = some (.slice a2 n2 c2)) ∧ Hid (Below w.heap.size w V)) := fun V hV => by
    have e := (hV.block B (Array.getElem?_eq_some_iff.1 h0).1).trans h0
    exact ⟨⟨by rw [cells_at e 0]; rfl, by rw [cells_at e 1]; rfl, by rw [cells_at e 2]; rfl, by rw [cells_at e 3]; rfl⟩, hb0.trans (hV.mono hb0.size)⟩
  have HM := hid (dt_can (h.under hb0) hs)
  have HWr : Hid (∀ V V', Below W0.heap.size W0 V → V' = V.alloc (.cells #[.pointer none, .slice none 0 0] 31) → Calls Try.prog 12 #[.pointer (some ⟨V.heap.size, 0, none⟩), .agg #[.int .i64 d.kd, .string d.tx, .slice a n c, .slice a2 n2 c2]] V' fun e w' => e = .returned (.tuple #[]) ∧ Hid (Bd V.heap.size V.heap.size d.out w' ∧ Kp V.heap.size V.heap.size V' w')) := fun V V' hV e => by
    subst e
    have hbd : Bd V.heap.size V.heap.size [] (V.alloc (.cells #[.pointer none, .slice none 0 0] 31)) := ⟨.inl ⟨Nat.le_refl _, .slice none 0 0, heap_alloc_at _ _ _ rfl, World.ownsRowF_nil _ _ _ _, by simp [Value.ownBlock]⟩, by rw [World.size_alloc]; omega⟩
    have := dt_write (w0 := V) (B := V.heap.size) (b := V.heap.size) (Nat.le_refl _) (d.siz + 1) d _ [] _ (Nat.lt_succ_self _) (h.under (hb0.trans (hV.mono hb0.size))) ((Below.refl _ _).alloc (Nat.le_refl _) _) hbd (by simpa using hw)
    simpa using this
  obtain ⟨⟨y0, y1, y2, y3⟩, -⟩ := HX.out W0 (Below.refl _ _)
  clear h hs h0 hb0 hw
  go_enter Try.func4, Try.ntmps4
  go_wp2_with fail
  try rw [hW]
  try rw [hB]
  try go_wp2_with fail
  refine HM.out.mono ?_
  rintro r w1 ⟨⟨q, rfl, hq⟩, hb1⟩
  obtain ⟨⟨x0, x1, x2, x3⟩, hb⟩ := HX.out w1 hb1.out
  cases q
  · have hn : Hid (¬ d.may) := fun p => by have := hq.2 p; cases this
    clear hq
    go_wp2
    go_ret
    exact ⟨.inr ⟨hn.out, rfl⟩, by first | exact hb | (rw [← hB]; exact hb)⟩
  · have hm : Hid (d.may) := hq.1 rfl
    clear hq
    obtain ⟨W2, hW2⟩ : ∃ W2, w1.alloc (.cells #[.pointer none, .slice none 0 0] 31) = W2 := ⟨_, rfl⟩
    have hH := hid (HWr.out w1 W2 hb1.out hW2.symm)
    have hb2 : Below w1.heap.size w1 W2 := by rw [← hW2]; exact (Below.refl _ _).alloc (Nat.le_refl _) _
    have hXX := HX.out W2 (hb1.out.trans (hb2.mono hb1.out.size))
    obtain ⟨⟨z0, z1, z2, z3⟩, hbW⟩ := hXX
    have HK : Hid (∀ V, Below w1.heap.size W2 V → Below w.heap.size w V) := fun V hV => by
      have := hb.out.size
      exact (hb.out.trans (hb2.mono this)).trans (hV.mono this)
    obtain ⟨g, hg⟩ : ∃ g, w1.heap.size = g := ⟨_, rfl⟩
    rw [hg] at hH HK
    clear hb2
    go_wp2_with fail
    refine hH.out.mono ?_
    rintro r w3 ⟨rfl, hb3⟩
    have hS := hid (Go.Proofs.Try.Builder_String_any_k g g d.out w3 hb3.out.1.1 hb3.out.1.2)
    go_wp2_with fail
    refine hS.out.mono ?_
    rintro r w4 ⟨rfl, -, hb4, -⟩
    have hE : Hid (Below w.heap.size w w4) := HK.out _ (hb3.out.2.1.trans hb4)
    clear hb4
    go_wp2
    go_ret
    exact ⟨.inl ⟨hm.out, rfl⟩, by first | exact hE | (rw [← hB]; exact hE)⟩
end Go.Proofs.Ytfobiknbjijphaa
