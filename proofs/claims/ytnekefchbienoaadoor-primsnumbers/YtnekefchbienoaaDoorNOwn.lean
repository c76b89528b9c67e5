/-
  Slices of whole numbers: those that a call builds (OwN), and those that are only read (Rd). Conditions: fewer than 2^44 of them.
-/
import Derived.Test.YtnekefchbienoaaDoorNCan4
import Derived.Laws.AppendOwnNone
import Derived.Laws.CopyOwn
namespace Go.Proofs.YtnekefchbienoaaDoor
open Go.RowKit
set_option linter.unusedVariables false

/-- The slice's n numbers are f's, in memory from block B on. -/
def OwN (q : IntKind) (t : TypeId) (w : World) (B : Nat) (v : Value) (n : Nat) (f : Nat → Int) : Prop := w.ownsRow B t 1 v n ((lst f n).map (Value.int q))
/-- The slice's n numbers are f's, wherever they lie. -/
def Rd (q : IntKind) (w : World) (v : Value) (n : Nat) (f : Nat → Int) : Prop :=
  ∃ ao c, v = .slice ao n c ∧ n ≤ c ∧ c ≤ 9223372036854775807 ∧ (n = 0 ∨ ∃ g, ao = some ⟨g, 0, none⟩ ∧ ∀ i, i < n → w.cell? ⟨g, i, none⟩ = some (.int q (f i)))
section
variable {q : IntKind} {t : TypeId} {w w' : World} {B : Nat} {v : Value} {n : Nat} {f g : Nat → Int}
theorem lst_ext' {f g : Nat → Int} {n : Nat} (e : ∀ i, i < n → f i = g i) : lst f n = lst g n := by
  unfold lst
  exact List.map_congr_left fun i hi => e i (List.mem_range.1 hi)
theorem OwN.ext (h : OwN q t w B v n f) (e : ∀ i, i < n → f i = g i) : OwN q t w B v n g := by
  unfold OwN at *
  rw [← lst_ext' e]; exact h
theorem Rd.ext (h : Rd q w v n f) (e : ∀ i, i < n → f i = g i) : Rd q w v n g := by
  obtain ⟨ao, c, h1, h2, h3, h4⟩ := h
  refine ⟨ao, c, h1, h2, h3, h4.imp id ?_⟩
  rintro ⟨g', h5, h6⟩
  exact ⟨g', h5, fun i hi => by rw [← e i hi]; exact h6 i hi⟩
theorem OwN.cellF {b cap : Nat} (h : OwN q t w B (.slice (some ⟨b, 0, none⟩) n cap) n f) (j : Nat) (hj : j < n) : w.cell? ⟨b, j, none⟩ = some (.int q (f j)) := by
  unfold OwN at h
  rw [h.cellAt j (by omega), List.getElem?_map, lst_get f n j hj]; rfl
theorem OwN.freeF {b cap : Nat} (h : OwN q t w B (.slice (some ⟨b, 0, none⟩) n cap) n f) (j : Nat) : w.frozen? ⟨b, j, none⟩ = false := by
  unfold OwN at h
  exact h.frozenAt j
theorem OwN.open (h : OwN q t w B v n f) : (v = .slice none 0 0 ∧ n = 0) ∨ ∃ b c, v = .slice (some ⟨b, 0, none⟩) n c ∧ B ≤ b ∧ b < w.heap.size ∧ n ≤ c ∧ c ≤ 9223372036854775807 := by
  rcases h.2 with h1 | ⟨b, cap, cur, h1, h2, h3, h4, h5, _⟩
  · exact .inl h1
  · exact .inr ⟨b, cap, h1, h2, (Array.getElem?_eq_some_iff.1 h3).1, h4, h5⟩
theorem OwN.rd (h : OwN q t w B v n f) : Rd q w v n f := by
  rcases h.open with ⟨rfl, rfl⟩ | ⟨b, c, rfl, _, _, h3, h4⟩
  · exact ⟨none, 0, rfl, Nat.le_refl _, by decide, .inl rfl⟩
  · exact ⟨_, c, rfl, h3, h4, .inr ⟨b, rfl, fun i hi => h.cellF i hi⟩⟩
theorem OwN.below {B' : Nat} (h : OwN q t w B v n f) (hb : Below B' w w') (hB : w.heap.size ≤ B') : OwN q t w' B v n f := by
  refine ⟨h.1, ?_⟩
  rcases h.2 with h1 | ⟨b, cap, cur, h1, h2, h3, h4⟩
  · exact .inl h1
  · exact .inr ⟨b, cap, cur, h1, h2, by rw [hb.block b (Nat.lt_of_lt_of_le (Array.getElem?_eq_some_iff.1 h3).1 hB)]; exact h3, h4⟩
theorem OwN.mono {B' : Nat} (h : OwN q t w B v n f) (hB : B' ≤ B) : OwN q t w B' v n f := by
  refine ⟨h.1, ?_⟩
  rcases h.2 with h1 | ⟨b, cap, cur, h1, h2, h3⟩
  · exact .inl h1
  · exact .inr ⟨b, cap, cur, h1, by omega, h3⟩
theorem Rd.below {B' : Nat} (h : Rd q w v n f) (hb : Below B' w w') (hB : w.heap.size ≤ B') : Rd q w' v n f := by
  obtain ⟨ao, c, h1, h2, h3, h4⟩ := h
  refine ⟨ao, c, h1, h2, h3, h4.imp id ?_⟩
  rintro ⟨b, h5, h6⟩
  refine ⟨b, h5, fun i hi => ?_⟩
  rw [hb.cell (p := ⟨b, i, none⟩) (Nat.lt_of_lt_of_le (World.block_lt_of_cell? w _ (h6 i hi)) hB)]
  exact h6 i hi
/-- A slice of none. -/
theorem OwN.nil (q : IntKind) (t : TypeId) (w : World) (B : Nat) (f : Nat → Int) : OwN q t w B (.slice none 0 0) 0 f := World.ownsRow_nil _ _ _ _
theorem OwN.set {b cap : Nat} (h : OwN q t w B (.slice (some ⟨b, 0, none⟩) n cap) n f) (j : Nat) (hj : j < n) (x : Int) :
    OwN q t (w.setCell ⟨b, j, none⟩ (.int q x)) B (.slice (some ⟨b, 0, none⟩) n cap) n (fun i => if i = j then x else f i) := by
  unfold OwN at h ⊢
  refine ⟨by simp [lst_length], .inr ?_⟩
  rcases h.2 with ⟨h1, _⟩ | ⟨b', cap', cur, h1, h2, h3, h4, h5, h6, h7⟩
  · cases h1
  · cases h1
    refine ⟨b, cap, _, rfl, h2, heap_setCell_same w b j cur t _ h3, h4, h5, by simpa using h6, ?_⟩
    apply List.ext_getElem?
    intro i
    have h8 := congrArg (fun l : List Value => l[i]?) h7
    simp only [Nat.mul_one, List.getElem?_take, List.getElem?_map] at h8 ⊢
    by_cases hi : i < n
    · rw [if_pos hi] at h8 ⊢
      rw [lst_get _ n i hi] at h8 ⊢
      by_cases e : i = j
      · subst e
        have hc : i < cur.size := by rw [h6]; omega
        simp [hc]
      · simp [Ne.symm e, e] at h8 ⊢
        exact h8
    · rw [if_neg hi, List.getElem?_eq_none (by rw [lst_length]; omega)]
      rfl
/-- The slice's beginning. -/
theorem OwN.take {b cap m : Nat} (h : OwN q t w B (.slice (some ⟨b, 0, none⟩) n cap) n f) (hm : m ≤ n) : OwN q t w B (.slice (some ⟨b, 0, none⟩) m cap) m f := by
  unfold OwN at h ⊢
  refine ⟨by simp [lst_length], .inr ?_⟩
  rcases h.2 with ⟨h1, _⟩ | ⟨b', cap', cur, h1, h2, h3, h4, h5, h6, h7⟩
  · cases h1
  · cases h1
    refine ⟨b, cap, cur, rfl, h2, h3, by omega, h5, h6, ?_⟩
    have e : cur.toList.take (m * 1) = (cur.toList.take (n * 1)).take m := by rw [List.take_take, Nat.mul_one, Nat.mul_one, Nat.min_eq_left hm]
    rw [e, h7]
    apply List.ext_getElem?
    intro i
    rw [List.getElem?_take]
    by_cases hi : i < m
    · rw [if_pos hi, List.getElem?_map, List.getElem?_map, lst_get f n i (by omega), lst_get f m i hi]
    · rw [if_neg hi, List.getElem?_eq_none (by simp [lst_length]; omega)]
theorem lst_snoc' (f : Nat → Int) (m : Nat) (x : Int) (hx : f m = x) : lst f m ++ [x] = lst f (m + 1) := by
  unfold lst
  rw [List.range_succ, List.map_append]
  simp [hx]
theorem OwN.one {x : Int} (h : w.ownsRow B t 1 v (n + 1) ((lst f n).map (Value.int q) ++ [.int q x])) (hx : f n = x) : OwN q t w B v (n + 1) f := by
  unfold OwN
  rw [← lst_snoc' f n x hx, List.map_append]
  exact h
end
theorem info3 : (Tryd.prog.info? 3).map (fun i => (i.zero, i.size, i.bytes)) = some (some (.int .i64 0), 1, 8) := by kernel_rfl
end Go.Proofs.YtnekefchbienoaaDoor
