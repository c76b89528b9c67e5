/-
  Numbers of the law's own beside a pool: sorted, cloned, compacted, searched.
-/
import Derived.Test.YtnaobkpncfbnaaaGreatDoorPoL
import Derived.Test.YtnaobkpncfbnaaaGreatDoorShelfI
import Derived.Sort.OwnSortedInts
namespace Go.Proofs.YtnaobkpncfbnaaaGreatDoor
open Go.RowKit
set_option linter.unusedVariables false

/-- A pool, whatever lies beside it. -/
structure Pf (wb w : World) (S : Nat) (m : Int) (D L bf n : Nat) (X : Nat → Bf) : Prop where
  bel : Below wb.heap.size wb w
  fr : Fresh wb D 14
  ps : Ps wb.heap.size w S m D L 4 10 bf n X
  cl : ∀ j, j < n → (X j).fi = 0 ∧ (X j).ls = 0 ∧ (X j).pg < 10 ∧ (X j).pn ≤ 100
  ld : ∀ j, j < n → Own w wb.heap.size (X j).ld (lst (fun _ => 0) 112)
  pa : ∀ i j, i < n → j < n → (X i).pg = (X j).pg → i = j
  bl : ∀ j, j < n → wb.heap.size ≤ (X j).b
  nb : n ≤ bf ∧ bf ≤ 5
  pl : w.heap[S + 1]? = some (.cells #[.pointer (some ⟨S, 0, none⟩)] 93 (0, 0))
theorem Pf.turn {wb w w' : World} {S D L bf n : Nat} {m : Int} {X : Nat → Bf} {F : Nat → Prop} (k : Pf wb w S m D L bf n X) (pt : Part F w w') (hF : ∀ b, F b → wb.heap.size ≤ b ∧ ∃ cs fz, w.heap[b]? = some (.cells cs 3 fz)) : Pf wb w' S m D L bf n X := by
  have ty : ∀ b cs t fz, F b → w.heap[b]? = some (.cells cs t fz) → t = 3 := fun b cs t fz h e => by
    obtain ⟨_, cs', fz', e'⟩ := hF b h
    rw [e'] at e
    injection e with e
    injection e with _ e
    exact e.symm
  obtain ⟨held, h1, h2⟩ := k.ps.lay
  refine ⟨k.bel.trans (pt.below (fun b h => (hF b h).1) k.bel.size), k.fr, k.ps.part pt (fun h => absurd (ty S _ _ _ h h1) (by decide)) (fun b cs t h e => by rw [ty b cs t _ h e]; exact ⟨by decide, by decide⟩), k.cl, fun j hj => ?_, k.pa, k.bl, k.nb, (pt.block _ (Array.getElem?_eq_some_iff.1 k.pl).1 (fun h => absurd (ty _ _ _ _ h k.pl) (by decide))).trans k.pl⟩
  refine pt.row (k.ld j hj) (fun q hq hf => ?_)
  rcases (k.ld j hj).2 with ⟨h, _⟩ | ⟨g, cap, cur, h, _, hg, _⟩
  · rw [h] at hq; cases hq
  · rw [h] at hq
    have hq : some g = some q := hq
    injection hq with hq
    subst hq
    exact absurd (ty g _ _ _ hf hg) (by decide)
theorem Pz.pf [E : Ext] {wb w : World} {S D L bf n : Nat} {m : Int} {X : Nat → Bf} (k : Pz wb w S m D L bf n X) : Pf wb w S m D L bf n X := ⟨k.bel, k.fr, k.ps, k.cl, k.ld, k.pa, k.bl, k.nb, k.pl.1⟩
theorem Pf.pz [E : Ext] {wb w : World} {S D L bf n : Nat} {m : Int} {X : Nat → Bf} (k : Pf wb w S m D L bf n X) (hk : ∀ k cs, E.default k cs → w.heap[k]? = some (.cells cs 3 (0, 0))) : Pz wb w S m D L bf n X := ⟨k.bel, k.fr, k.ps, k.cl, k.ld, k.pa, k.bl, k.nb, k.pl, hk⟩
theorem Pz.turn [E : Ext] {wb w w' : World} {S D L bf n : Nat} {m : Int} {X : Nat → Bf} {F : Nat → Prop} (k : Pz wb w S m D L bf n X) (pt : Part F w w') (hF : ∀ b, F b → wb.heap.size ≤ b ∧ ∃ cs fz, w.heap[b]? = some (.cells cs 3 fz)) (hk : ∀ k cs, E.default k cs → w'.heap[k]? = some (.cells cs 3 (0, 0))) : Pz wb w' S m D L bf n X := (k.pf.turn pt hF).pz hk
theorem OwnI.open {w : World} {B : Nat} {v : Value} {zs : List Int} (h : OwnI w B v zs) : (v = .slice none 0 0 ∧ zs = []) ∨ ∃ g cap cur, v = .slice (some ⟨g, 0, none⟩) zs.length cap ∧ B ≤ g ∧ w.heap[g]? = some (.cells cur 3 (0, 0)) ∧ zs.length ≤ cap ∧ cap ≤ maxLen ∧ cur.size = cap * 1 ∧ cur.toList.take zs.length = zs.map (Value.int .i64) := by
  rcases h.2 with ⟨h1, h2⟩ | ⟨g, cap, cur, h1, h2, h3, h4, h5, h6, h7⟩
  · exact .inl ⟨h1, List.length_eq_zero_iff.1 h2⟩
  · exact .inr ⟨g, cap, cur, h1, h2, h3, h4, h5, h6, by rw [Nat.mul_one] at h7; exact h7⟩
theorem OwnI.cellz {w : World} {B g cap : Nat} {zs : List Int} (h : OwnI w B (.slice (some ⟨g, 0, none⟩) zs.length cap) zs) : ∀ j, j < zs.length → w.cell? ⟨g, 0 + j, none⟩ = some (.int .i64 (zs.getD j 0)) := fun j hj => by
  unfold OwnI at h
  rw [Nat.zero_add, h.cellAt j (by omega), List.getElem?_map, List.getElem?_eq_getElem hj]
  simp [List.getD, List.getElem?_eq_getElem hj]
/-- Numbers beside a pool: what the law has of Held's answer. -/
structure Hs [E : Ext] (wb w : World) (S D L bf n : Nat) (X : Nat → Bf) (B : Nat) (v : Value) (zs : List Int) : Prop where
  pz : Pz wb w S 0 D L bf n X
  ow : OwnI w B v zs
  lo : wb.heap.size ≤ B
  ne : ∀ k cs, E.default k cs → k < B
theorem i_sort [E : Ext] {wb w : World} {S D L bf n : Nat} {X : Nat → Bf} {B : Nat} {v : Value} {zs : List Int} (k : Hs wb w S D L bf n X B v zs) (hz : zs.length ≤ 5) : Calls Tryz.prog 22 #[v] w fun r w' => r = .returned (.tuple #[]) ∧ Hid (∃ zs', zs'.Perm zs ∧ Hs wb w' S D L bf n X B v zs') := by
  rcases k.ow.open with ⟨rfl, rfl⟩ | ⟨g, cap, cur, rfl, h1, h2, h3, h4, h5, h6⟩
  · exact (Tryz.slices_Sort_int_none none 0 w).mono fun r w' ⟨hr, hw⟩ => ⟨hr, [], .refl _, by rw [hw]; exact k⟩
  · refine (Tryz.slices_Sort_int g 0 cap zs w (holds_of_blockI h2 h6) (Array.getElem?_eq_some_iff.1 h2).1 (by omega)).mono fun r w' ⟨hr, q, os, hw⟩ => ⟨hr, zs.mergeSort fun x y => decide (x ≤ y), List.mergeSort_perm _ _, ?_⟩
    have hl : (zs.mergeSort fun x y => decide (x ≤ y)).length = zs.length := List.length_mergeSort _
    have pt : Part (fun b => b = g) w w' := by
      rw [hw]
      exact (Part.refl _ w).grown (grownBy_sortedI _) (fun k hk _ => (Option.some.inj hk).symm)
    refine ⟨k.pz.turn pt (fun b hb => ⟨by have hb : b = g := hb; have := k.lo; omega, by have hb : b = g := hb; exact ⟨cur, _, by rw [hb]; exact h2⟩⟩) (fun b cs hb => ?_), ?_, k.lo, k.ne⟩
    · have := k.pz.pl.2 b cs hb
      exact (pt.block b (Array.getElem?_eq_some_iff.1 this).1 (fun e => by have e : b = g := e; have := k.ne b cs hb; omega)).trans this
    · unfold OwnI
      rw [hw, hl]
      exact ownsRow_sortedI hl h1 h2 h3 h4 h5
theorem i_clone [E : Ext] {wb w : World} {S D L bf n : Nat} {X : Nat → Bf} {B : Nat} {v : Value} {zs : List Int} (k : Hs wb w S D L bf n X B v zs) (hz : zs.length ≤ 5) : Calls Tryz.prog 24 #[v] w fun r w' => ∃ v', r = .returned v' ∧ Hid (Hs wb w' S D L bf n X B v zs ∧ OwnI w' w.heap.size v' zs ∧ ∀ q, v.ownBlock = some q → q < w.heap.size) := by
  rcases k.ow.open with ⟨rfl, rfl⟩ | ⟨g, cap, cur, rfl, h1, h2, h3, h4, h5, h6⟩
  · exact (Tryz.slices_Clone_int_nil 0 0 w).mono fun r w' ⟨hr, hw⟩ => ⟨_, hr, by rw [hw]; exact k, by rw [hw]; exact ⟨rfl, .inl ⟨rfl, rfl⟩⟩, fun q hq => by cases hq⟩
  · refine (Tryz.slices_Clone_int g 0 zs.length cap zs w (Nat.le_refl _) (by omega) k.ow.cellz).mono fun r w' ⟨v', hr, ho, _, hb⟩ => ⟨v', hr, ⟨k.pz.below hb, ?_, k.lo, k.ne⟩, ?_, fun q hq => ?_⟩
    · exact (Part.ofBelow (F := fun _ => False) hb).row k.ow (fun _ _ h => h)
    · rw [List.take_length] at ho
      exact ho
    · have hq : some g = some q := hq
      injection hq with hq
      have := (Array.getElem?_eq_some_iff.1 h2).1
      omega
theorem part_setCells {g : Nat} {a : World} : ∀ (vs : List Value) (o : Nat) (w : World), Part (fun b => b = g) a w → Part (fun b => b = g) a (w.setCells g o vs)
  | [], _, _, h => h
  | v :: vs, o, w, h => part_setCells vs (o + 1) _ (h.setCell (p := ⟨g, o, none⟩) (fun _ => rfl) v)
theorem compact_nodup {zs : List Int} (h : zs.Nodup) : Lib.compact zs = zs := by
  refine Lib.compact_all zs (fun j hj => ?_)
  simp only [Lib.keeps, decide_eq_true_eq]
  by_cases h0 : j = 0
  · exact .inl h0
  · refine .inr (fun e => ?_)
    have h1 : zs.toArray[j]! = zs[j] := by simp [hj]
    have h2 : zs.toArray[j - 1]! = zs[j - 1]'(by omega) := by simp [show j - 1 < zs.length by omega]
    rw [h1, h2] at e
    exact List.pairwise_iff_getElem.1 h (j - 1) j (by omega) hj (by omega) e.symm
theorem i_compact [E : Ext] {wb w : World} {S D L bf n : Nat} {X : Nat → Bf} {B B' : Nat} {v v' : Value} {zs : List Int} (k : Hs wb w S D L bf n X B v zs) (hB : wb.heap.size ≤ B') (hE : ∀ k cs, E.default k cs → k < B') (ho : OwnI w B' v' zs) (hn : ∀ q, v.ownBlock = some q → q < B') (hd : zs.Nodup) (hz : zs.length ≤ 5) : Calls Tryz.prog 23 #[v'] w fun r w' => (∃ a c, r = .returned (.slice a zs.length c)) ∧ Hid (Hs wb w' S D L bf n X B v zs) := by
  rcases ho.open with ⟨rfl, rfl⟩ | ⟨g, cap, cur, rfl, h1, h2, h3, h4, h5, h6⟩
  · exact (Tryz.slices_Compact_int_empty none 0 w).mono fun r w' ⟨hr, hw⟩ => ⟨⟨_, _, hr⟩, by rw [hw]; exact k⟩
  · refine (Tryz.slices_Compact_int_cells g 0 zs.length cap zs w (Nat.le_refl _) (by omega) h3 ho.cellz (fun j hj => cells_free h2 _)).mono fun r w' ⟨hr, q, hw⟩ => ⟨⟨some ⟨g, 0, none⟩, cap, by rw [hr, List.take_length, compact_nodup hd]⟩, ?_⟩
    have pt : Part (fun b => b = g) w w' := by
      rw [hw]
      exact part_setCells _ _ _ ((Part.refl _ w).drewN q)
    refine ⟨k.pz.turn pt (fun b hb => ⟨by have hb : b = g := hb; omega, by have hb : b = g := hb; exact ⟨cur, _, by rw [hb]; exact h2⟩⟩) (fun b cs hb => ?_), pt.row k.ow (fun q hq e => by have e : q = g := e; have := hn q hq; omega), k.lo, k.ne⟩
    have := k.pz.pl.2 b cs hb
    exact (pt.block b (Array.getElem?_eq_some_iff.1 this).1 (fun e => by have e : b = g := e; have := hE b cs hb; omega)).trans this
theorem i_contains [E : Ext] {wb w : World} {S D L bf n : Nat} {X : Nat → Bf} {B : Nat} {v : Value} {zs : List Int} (k : Hs wb w S D L bf n X B v zs) (x : Int) (hx : x ∈ zs) (hz : zs.length ≤ 5) : Calls Tryz.prog 25 #[v, .int .i64 x] w fun r w' => r = .returned (.bool true) ∧ w' = w := by
  rcases k.ow.open with ⟨rfl, rfl⟩ | ⟨g, cap, cur, rfl, h1, h2, h3, h4, h5, h6⟩
  · cases hx
  · exact (Tryz.slices_Contains_int g 0 zs.length cap zs x w (Nat.le_refl _) (by omega) k.ow.cellz).mono fun r w' ⟨hr, hw⟩ => ⟨by rw [hr, List.take_length, List.contains_iff_mem.2 hx], hw⟩
