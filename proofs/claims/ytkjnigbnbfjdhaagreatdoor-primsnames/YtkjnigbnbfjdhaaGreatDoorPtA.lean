/-
  The table of primitives: prims.table, told by its cells.
-/
import Derived.Test.YtkjnigbnbfjdhaaGreatDoorHpM
namespace Go.Proofs.YtkjnigbnbfjdhaaGreatDoor
open Go.RowKit
set_option linter.unusedVariables false

/-- The cells of the table. -/
def ptab : Array Value := #[.string ⟨#[43]⟩, .string ⟨#[78, 42]⟩, .func (.func 53) #[] #[], .string ⟨#[45]⟩, .string ⟨#[78, 78, 42]⟩, .func (.func 54) #[] #[], .string ⟨#[42]⟩, .string ⟨#[78, 42]⟩, .func (.func 55) #[] #[], .string ⟨#[113, 117, 111, 116, 105, 101, 110, 116]⟩, .string ⟨#[78, 78]⟩, .func (.func 56) #[] #[], .string ⟨#[114, 101, 109, 97, 105, 110, 100, 101, 114]⟩, .string ⟨#[78, 78]⟩, .func (.func 57) #[] #[], .string ⟨#[61]⟩, .string ⟨#[78, 78]⟩, .func (.func 58) #[] #[], .string ⟨#[60]⟩, .string ⟨#[78, 78]⟩, .func (.func 59) #[] #[], .string ⟨#[62]⟩, .string ⟨#[78, 78]⟩, .func (.func 60) #[] #[], .string ⟨#[101, 113, 63]⟩, .string ⟨#[88, 88]⟩, .func (.func 61) #[] #[], .string ⟨#[101, 113, 117, 97, 108, 63]⟩, .string ⟨#[88, 88]⟩, .func (.func 62) #[] #[], .string ⟨#[99, 111, 110, 115]⟩, .string ⟨#[88, 88]⟩, .func (.func 63) #[] #[], .string ⟨#[99, 97, 114]⟩, .string ⟨#[80]⟩, .func (.func 64) #[] #[], .string ⟨#[99, 100, 114]⟩, .string ⟨#[80]⟩, .func (.func 65) #[] #[], .string ⟨#[115, 101, 116, 45, 99, 97, 114, 33]⟩, .string ⟨#[80, 88]⟩, .func (.func 66) #[] #[], .string ⟨#[115, 101, 116, 45, 99, 100, 114, 33]⟩, .string ⟨#[80, 88]⟩, .func (.func 67) #[] #[], .string ⟨#[110, 117, 108, 108, 63]⟩, .string ⟨#[88]⟩, .func (.func 68) #[] #[], .string ⟨#[112, 97, 105, 114, 63]⟩, .string ⟨#[88]⟩, .func (.func 69) #[] #[], .string ⟨#[108, 105, 115, 116, 63]⟩, .string ⟨#[88]⟩, .func (.func 70) #[] #[], .string ⟨#[110, 117, 109, 98, 101, 114, 63]⟩, .string ⟨#[88]⟩, .func (.func 71) #[] #[], .string ⟨#[115, 121, 109, 98, 111, 108, 63]⟩, .string ⟨#[88]⟩, .func (.func 72) #[] #[], .string ⟨#[115, 116, 114, 105, 110, 103, 63]⟩, .string ⟨#[88]⟩, .func (.func 73) #[] #[], .string ⟨#[118, 101, 99, 116, 111, 114, 63]⟩, .string ⟨#[88]⟩, .func (.func 74) #[] #[], .string ⟨#[112, 114, 111, 99, 101, 100, 117, 114, 101, 63]⟩, .string ⟨#[88]⟩, .func (.func 75) #[] #[], .string ⟨#[98, 111, 111, 108, 101, 97, 110, 63]⟩, .string ⟨#[88]⟩, .func (.func 76) #[] #[], .string ⟨#[110, 111, 116]⟩, .string ⟨#[88]⟩, .func (.func 77) #[] #[], .string ⟨#[108, 105, 115, 116]⟩, .string ⟨#[88, 42]⟩, .func (.func 78) #[] #[], .string ⟨#[118, 101, 99, 116, 111, 114]⟩, .string ⟨#[88, 42]⟩, .func (.func 79) #[] #[], .string ⟨#[108, 101, 110, 103, 116, 104]⟩, .string ⟨#[76]⟩, .func (.func 80) #[] #[], .string ⟨#[114, 101, 118, 101, 114, 115, 101]⟩, .string ⟨#[76]⟩, .func (.func 81) #[] #[], .string ⟨#[97, 112, 112, 101, 110, 100]⟩, .string ⟨#[76, 42]⟩, .func (.func 82) #[] #[], .string ⟨#[118, 101, 99, 116, 111, 114, 45, 114, 101, 102]⟩, .string ⟨#[86, 78]⟩, .func (.func 83) #[] #[], .string ⟨#[118, 101, 99, 116, 111, 114, 45, 115, 101, 116, 33]⟩, .string ⟨#[86, 78, 88]⟩, .func (.func 84) #[] #[], .string ⟨#[118, 101, 99, 116, 111, 114, 45, 108, 101, 110, 103, 116, 104]⟩, .string ⟨#[86]⟩, .func (.func 85) #[] #[], .string ⟨#[109, 97, 107, 101, 45, 118, 101, 99, 116, 111, 114]⟩, .string ⟨#[78, 88]⟩, .func (.func 86) #[] #[], .string ⟨#[115, 116, 114, 105, 110, 103, 45, 97, 112, 112, 101, 110, 100]⟩, .string ⟨#[83, 42]⟩, .func (.func 87) #[] #[], .string ⟨#[115, 116, 114, 105, 110, 103, 45, 108, 101, 110, 103, 116, 104]⟩, .string ⟨#[83]⟩, .func (.func 88) #[] #[], .string ⟨#[115, 116, 114, 105, 110, 103, 45, 62, 115, 121, 109, 98, 111, 108]⟩, .string ⟨#[83]⟩, .func (.func 89) #[] #[], .string ⟨#[115, 121, 109, 98, 111, 108, 45, 62, 115, 116, 114, 105, 110, 103]⟩, .string ⟨#[89]⟩, .func (.func 90) #[] #[], .string ⟨#[110, 117, 109, 98, 101, 114, 45, 62, 115, 116, 114, 105, 110, 103]⟩, .string ⟨#[78]⟩, .func (.func 91) #[] #[], .string ⟨#[115, 116, 114, 105, 110, 103, 45, 62, 110, 117, 109, 98, 101, 114]⟩, .string ⟨#[83]⟩, .func (.func 92) #[] #[], .string ⟨#[101, 114, 114, 111, 114]⟩, .string ⟨#[83, 88, 42]⟩, .func (.func 93) #[] #[], .string ⟨#[97, 112, 112, 108, 121]⟩, .string ⟨#[88, 42]⟩, .func (.func 94) #[] #[], .string ⟨#[99, 97, 108, 108, 47, 99, 99]⟩, .string ⟨#[88, 42]⟩, .func (.func 94) #[] #[], .string ⟨#[100, 121, 110, 97, 109, 105, 99, 45, 119, 105, 110, 100]⟩, .string ⟨#[88, 42]⟩, .func (.func 94) #[] #[], .string ⟨#[115, 117, 115, 112, 101, 110, 100]⟩, .string ⟨#[88, 42]⟩, .func (.func 94) #[] #[], .string ⟨#[114, 111, 111, 116, 45, 114, 101, 102]⟩, .string ⟨#[88, 42]⟩, .func (.func 94) #[] #[], .string ⟨#[114, 111, 111, 116, 45, 115, 101, 116, 33]⟩, .string ⟨#[88, 42]⟩, .func (.func 94) #[] #[]]
/-- The primitives' names. -/
def pnames : List ByteArray := [⟨#[43]⟩, ⟨#[45]⟩, ⟨#[42]⟩, ⟨#[113, 117, 111, 116, 105, 101, 110, 116]⟩, ⟨#[114, 101, 109, 97, 105, 110, 100, 101, 114]⟩, ⟨#[61]⟩, ⟨#[60]⟩, ⟨#[62]⟩, ⟨#[101, 113, 63]⟩, ⟨#[101, 113, 117, 97, 108, 63]⟩, ⟨#[99, 111, 110, 115]⟩, ⟨#[99, 97, 114]⟩, ⟨#[99, 100, 114]⟩, ⟨#[115, 101, 116, 45, 99, 97, 114, 33]⟩, ⟨#[115, 101, 116, 45, 99, 100, 114, 33]⟩, ⟨#[110, 117, 108, 108, 63]⟩, ⟨#[112, 97, 105, 114, 63]⟩, ⟨#[108, 105, 115, 116, 63]⟩, ⟨#[110, 117, 109, 98, 101, 114, 63]⟩, ⟨#[115, 121, 109, 98, 111, 108, 63]⟩, ⟨#[115, 116, 114, 105, 110, 103, 63]⟩, ⟨#[118, 101, 99, 116, 111, 114, 63]⟩, ⟨#[112, 114, 111, 99, 101, 100, 117, 114, 101, 63]⟩, ⟨#[98, 111, 111, 108, 101, 97, 110, 63]⟩, ⟨#[110, 111, 116]⟩, ⟨#[108, 105, 115, 116]⟩, ⟨#[118, 101, 99, 116, 111, 114]⟩, ⟨#[108, 101, 110, 103, 116, 104]⟩, ⟨#[114, 101, 118, 101, 114, 115, 101]⟩, ⟨#[97, 112, 112, 101, 110, 100]⟩, ⟨#[118, 101, 99, 116, 111, 114, 45, 114, 101, 102]⟩, ⟨#[118, 101, 99, 116, 111, 114, 45, 115, 101, 116, 33]⟩, ⟨#[118, 101, 99, 116, 111, 114, 45, 108, 101, 110, 103, 116, 104]⟩, ⟨#[109, 97, 107, 101, 45, 118, 101, 99, 116, 111, 114]⟩, ⟨#[115, 116, 114, 105, 110, 103, 45, 97, 112, 112, 101, 110, 100]⟩, ⟨#[115, 116, 114, 105, 110, 103, 45, 108, 101, 110, 103, 116, 104]⟩, ⟨#[115, 116, 114, 105, 110, 103, 45, 62, 115, 121, 109, 98, 111, 108]⟩, ⟨#[115, 121, 109, 98, 111, 108, 45, 62, 115, 116, 114, 105, 110, 103]⟩, ⟨#[110, 117, 109, 98, 101, 114, 45, 62, 115, 116, 114, 105, 110, 103]⟩, ⟨#[115, 116, 114, 105, 110, 103, 45, 62, 110, 117, 109, 98, 101, 114]⟩, ⟨#[101, 114, 114, 111, 114]⟩, ⟨#[97, 112, 112, 108, 121]⟩, ⟨#[99, 97, 108, 108, 47, 99, 99]⟩, ⟨#[100, 121, 110, 97, 109, 105, 99, 45, 119, 105, 110, 100]⟩, ⟨#[115, 117, 115, 112, 101, 110, 100]⟩, ⟨#[114, 111, 111, 116, 45, 114, 101, 102]⟩, ⟨#[114, 111, 111, 116, 45, 115, 101, 116, 33]⟩]
theorem ptab_size : ptab.size = 141 := by kernel_rfl
theorem setCells_block : ∀ (L : List Value) (w : World) (b o : Nat) (cs : Array Value) (t : TypeId), w.heap[b]? = some (.cells cs t (0, 0)) → ∃ cs', (w.setCells b o L).heap[b]? = some (.cells cs' t (0, 0)) ∧ cs'.size = cs.size ∧ (∀ j, j < L.length → o + j < cs.size → cs'[o + j]? = L[j]?) ∧ (∀ j, j < o → cs'[j]? = cs[j]?) ∧ Part (fun q => q = b) w (w.setCells b o L)
  | [], w, b, o, cs, t, h => ⟨cs, h, rfl, fun j hj => by simp at hj, fun _ _ => rfl, Part.refl _ _⟩
  | v :: L, w, b, o, cs, t, h => by
    have h1 : (w.setCell ⟨b, o, none⟩ v).heap[b]? = some (.cells (cs.setIfInBounds o v) t (0, 0)) := heap_set_at h v
    obtain ⟨cs', k1, k2, k3, k4, k5⟩ := setCells_block L (w.setCell ⟨b, o, none⟩ v) b (o + 1) (cs.setIfInBounds o v) t h1
    refine ⟨cs', k1, by rw [k2]; simp, fun j hj ho => ?_, fun j hj => ?_, ?_⟩
    · cases j with
      | zero =>
        rw [Nat.add_zero, k4 o (by omega)]
        simp [Array.getElem?_setIfInBounds]
        omega
      | succ j =>
        have := k3 j (by simpa using hj) (by simp; omega)
        rw [show o + (j + 1) = o + 1 + j by omega, this]
        rfl
    · rw [k4 j (by omega), Array.getElem?_setIfInBounds_ne (by omega)]
    · exact ((Part.refl (fun q => q = b) w).setCell (p := ⟨b, o, none⟩) (fun _ => rfl) v).trans k5 (fun _ _ h => h)
/-- A block written whole. -/
theorem upon_store {P : Program} {o : Oper} {a : Act} {K : Act → World → Prop} {Q : Exit → Act → World → Prop} {b : Nat} {L : List Value} {w0 : World} {cs : Array Value} {t : TypeId} (hb : w0.heap[b]? = some (.cells cs t (0, 0))) (hl : L.length = cs.size) (h1 : ∀ u ∈ L, u.oneCell' = true)
    (hK : ∀ w1, w1.heap[b]? = some (.cells L.toArray t (0, 0)) → Part (fun q => q = b) w0 w1 → K (a.put o.dst undef) w1) : Oper.upon P o a K Q ((Sem.run P (storeCells ⟨b, 0, none⟩ L) w0).andThen fun _ w' => Result.ok Next.skip w') := by
  have hst := run_storeCells_cells (P := P) b 0 L 0 w0 (fun j hj => by rw [cells_at hb]; simp; omega) (fun j hj => cells_free hb _) h1
  rw [hst]
  obtain ⟨cs', k1, k2, k3, k4, k5⟩ := setCells_block L w0 b 0 cs t hb
  refine hK _ ?_ k5
  have : cs' = L.toArray := by
    apply Array.ext_getElem?
    intro i
    by_cases hi : i < L.length
    · have := k3 i hi (by omega)
      rw [Nat.zero_add] at this
      rw [this]; simp
    · rw [Array.getElem?_eq_none (by omega), Array.getElem?_eq_none (by simp; omega)]
  rw [← this]
  exact k1
theorem load_block {P : Program} {w : World} {b : Nat} {cs : Array Value} {t : TypeId} (hb : w.heap[b]? = some (.cells cs t (0, 0))) (n : Nat) (hn : n = cs.size) : (loadCellsFrom ⟨b, 0, none⟩ 0 n #[]).run P w = .ok cs w := by
  have h := run_loadCellsFrom (P := P) w ⟨b, 0, none⟩ (fun j => (cs[j]?).getD undef) n 0 #[] (fun j hj => by
    rw [Addr.add_lit, cells_at hb]
    simp
    rw [Array.getElem?_eq_getElem (by omega)]
    rfl)
  rw [h]
  congr 1
  apply Array.ext_getElem?
  intro i
  by_cases hi : i < n
  · simp [hi]
    rw [Array.getElem?_eq_getElem (by omega)]
    rfl
  · simp [hi]
    omega
theorem results_cell {P : Program} {f : Func} {tmps : Array Value} {w : World} {k n b : Nat} {t : TypeId} {cs : Array Value} (hr : f.results = #[.cell k t]) (ht : tmps.getD k undef = .pointer (some ⟨b, 0, none⟩)) (ha : (isAgg t).run P w = .ok true w) (hs : (sizeOf t).run P w = .ok n w) (hl : (loadCellsFrom ⟨b, 0, none⟩ 0 n #[]).run P w = .ok cs w) : (results f tmps).run P w = .ok (.agg cs) w := by
  unfold results
  rw [hr]
  have h0 : tmps[k]?.getD undef = .pointer (some ⟨b, 0, none⟩) := by simpa using ht
  have h1 : (asAddr (tmps[k]?.getD undef)).run P w = .ok ⟨b, 0, none⟩ w := by rw [h0]; rfl
  simp [loadVar, loadCells, h1, ha, hs, hl, Result.andThen]
end Go.Proofs.YtkjnigbnbfjdhaaGreatDoor
