/-
  PoolBound: a round's calls; the law's walk.
-/
import Derived.Test.YtnaobkpncfbnaaaGreatDoorPoM
import Derived.Deep.DeepCutAuto
import Derived.Deep.CutBlock
namespace Go.Proofs.YtnaobkpncfbnaaaGreatDoor
open Go.RowKit
set_option linter.unusedVariables false

/-- What is handed in of the list: of each entry four cells. -/
def DosP (w : World) (a0 : Option Addr) (N : Nat) : Prop := ∀ r, r < N → ∃ b off, a0 = some ⟨b, off, none⟩ ∧ ∃ op z l v, w.cell? ⟨b, off + r * 4, none⟩ = some (.int .i64 op) ∧ w.cell? ⟨b, off + r * 4 + 1, none⟩ = some (.int .i64 z) ∧ w.cell? ⟨b, off + r * 4 + 2, none⟩ = some (.int .i64 l) ∧ w.cell? ⟨b, off + r * 4 + 3, none⟩ = some v ∧ ∃ a n c, v = .slice a n c
def pinsA (pf : Nat → Nat) : Array Value := ((List.range 10).map fun i => Value.int .i64 (pf i : Int)).toArray
/-- The law's own pins, beside the pool. -/
abbrev Ep (G : Nat) (pf : Nat → Nat) : Ext := ⟨fun k cs => k = G ∧ cs = pinsA pf⟩
abbrev Ez : Ext := ⟨fun _ _ => False⟩
structure Rd (wb w : World) (S D L bf G n : Nat) (X : Nat → Bf) (pf : Nat → Nat) : Prop where
  pz : @Pz (Ep G pf) wb w S 0 D L bf n X
  pin : ∀ q, q < 10 → PinAt X n q (pf q)
  lo : wb.heap.size ≤ G
theorem Rd.gt {wb w : World} {S D L bf G n : Nat} {X : Nat → Bf} {pf : Nat → Nat} (k : Rd wb w S D L bf G n X pf) : w.heap[G]? = some (.cells (pinsA pf) 3 (0, 0)) := (@Pz.pl (Ep G pf) _ _ _ _ _ _ _ _ _ k.pz).2 G _ ⟨rfl, rfl⟩
theorem pinsA_at (pf : Nat → Nat) (i : Nat) (hi : i < 10) : (pinsA pf)[i]? = some (.int .i64 (pf i : Int)) := by
  unfold pinsA
  rw [List.getElem?_toArray, List.getElem?_map, List.getElem?_range hi]
  rfl
theorem Rd.cell {wb w : World} {S D L bf G n : Nat} {X : Nat → Bf} {pf : Nat → Nat} (k : Rd wb w S D L bf G n X pf) (i : Nat) (hi : i < 10) : w.cell? ⟨G, i, none⟩ = some (.int .i64 (pf i : Int)) ∧ w.frozen? ⟨G, i, none⟩ = false := ⟨by rw [cells_at k.gt i, pinsA_at pf i hi], cells_free k.gt i⟩
def upd (pf : Nat → Nat) (z v : Nat) : Nat → Nat := fun q => if q = z then v else pf q
theorem pinsA_set (pf : Nat → Nat) (z v : Nat) (hz : z < 10) : (pinsA pf).setIfInBounds z (.int .i64 (v : Int)) = pinsA (upd pf z v) := by
  apply Array.ext_getElem?
  intro i
  rw [Array.getElem?_setIfInBounds]
  have hs : (pinsA pf).size = 10 := by unfold pinsA; simp
  by_cases hi : i < 10
  · rw [pinsA_at _ i hi]
    by_cases e : z = i
    · subst e
      rw [if_pos rfl, if_pos (by omega), pinsA_at _ z hi]
      unfold upd; rw [if_pos rfl]
    · rw [if_neg e, pinsA_at _ i hi]
      unfold upd; rw [if_neg (fun h => e h.symm)]
  · have hs' : (pinsA (upd pf z v)).size = 10 := by unfold pinsA; simp
    rw [if_neg (by omega), Array.getElem?_eq_none (by omega), Array.getElem?_eq_none (by omega)]
theorem Rd.set {wb w : World} {S D L bf G n : Nat} {X : Nat → Bf} {pf : Nat → Nat} (k : @Pz (Ep G pf) wb w S 0 D L bf n X) (lo : wb.heap.size ≤ G) (z v : Nat) (hz : z < 10) (hp : ∀ q, q < 10 → PinAt X n q (upd pf z v q)) : Rd wb (w.setCell ⟨G, z, none⟩ (.int .i64 (v : Int))) S D L bf G n X (upd pf z v) := by
  have hg : w.heap[G]? = some (.cells (pinsA pf) 3 (0, 0)) := (@Pz.pl (Ep G pf) _ _ _ _ _ _ _ _ _ k).2 G _ ⟨rfl, rfl⟩
  have pt : Part (fun q => q = G) w (w.setCell ⟨G, z, none⟩ (.int .i64 (v : Int))) := (Part.refl (fun q => q = G) w).setCell (p := ⟨G, z, none⟩) (fun _ => rfl) _
  refine ⟨@Pf.pz (Ep G (upd pf z v)) _ _ _ _ _ _ _ _ _ ((@Pz.pf (Ep G pf) _ _ _ _ _ _ _ _ _ k).turn pt (fun b hb => ?_)) (fun q cs hq => ?_), hp, lo⟩
  · have hb : b = G := hb
    subst hb
    exact ⟨lo, _, _, hg⟩
  · obtain ⟨rfl, rfl⟩ := hq
    rw [heap_set_at hg, pinsA_set pf z v hz]
/-- Get in a round. -/
theorem r_get {wb w : World} {S D L bf G n : Nat} {X : Nat → Bf} {pf : Nat → Nat} (k : Rd wb w S D L bf G n X pf) (z : Nat) (hz : z < 10) : Calls Tryz.prog 15 #[.pointer (some ⟨S + 1, 0, none⟩), .int .i64 (z : Int)] w fun r w' => (∃ v l e, r = .returned (.tuple #[v, l, e])) ∧ Hid (∃ n' X', Rd wb w' S D L bf G n' X' pf) :=
  (@z_get (Ep G pf) _ _ _ _ _ _ _ _ k.pz z hz).mono fun r w' ⟨hr, HG⟩ => ⟨hr, by
    obtain ⟨n', X', h1, h2⟩ := HG.out
    exact ⟨n', X', h1, fun q hq => h2 q _ (k.pin q hq), k.lo⟩⟩
/-- Pin in a round: what then must be done to the law's pins. -/
theorem r_pin {wb w : World} {S D L bf G n : Nat} {X : Nat → Bf} {pf : Nat → Nat} (k : Rd wb w S D L bf G n X pf) (z : Nat) (hz : z < 10) : Calls Tryz.prog 19 #[.pointer (some ⟨S + 1, 0, none⟩), .int .i64 (z : Int)] w fun r w' => (r = .returned (.int .i64 0) ∧ w'.cell? ⟨G, z, none⟩ = some (.int .i64 (pf z : Int)) ∧ w'.frozen? ⟨G, z, none⟩ = false ∧ Hid (∃ n' X', Rd wb (w'.setCell ⟨G, z, none⟩ (.int .i64 ((pf z : Int) + 1))) S D L bf G n' X' (upd pf z (pf z + 1)))) ∨ (∃ e, r = .returned (.int .i64 e) ∧ (e == 0) = false ∧ Hid (∃ n' X', Rd wb w' S D L bf G n' X' pf)) :=
  (@z_pin (Ep G pf) _ _ _ _ _ _ _ _ k.pz z hz).mono fun r w' ⟨e, hr, HG⟩ => by
    obtain ⟨n', X', h1, h2⟩ := HG.out
    have hg : w'.heap[G]? = some (.cells (pinsA pf) 3 (0, 0)) := (@Pz.pl (Ep G pf) _ _ _ _ _ _ _ _ _ h1).2 G _ ⟨rfl, rfl⟩
    rcases h2 with ⟨rfl, h2⟩ | ⟨he, h2⟩
    · refine .inl ⟨hr, by rw [cells_at hg z, pinsA_at pf z hz], cells_free hg z, n', X', ?_⟩
      refine Rd.set h1 k.lo z (pf z + 1) hz (fun q hq => ?_)
      have := h2 q _ (k.pin q hq)
      unfold upd
      by_cases e : q = z
      · rw [if_pos e] at this ⊢; rw [e] at this ⊢; exact this
      · rw [if_neg e] at this ⊢; exact this
    · exact .inr ⟨e, hr, by simpa using he, n', X', h1, fun q hq => h2 q _ (k.pin q hq), k.lo⟩
/-- Unpin in a round. -/
theorem r_unpin {wb w : World} {S D L bf G n : Nat} {X : Nat → Bf} {pf : Nat → Nat} (k : Rd wb w S D L bf G n X pf) (z : Nat) (hz : z < 10) : Calls Tryz.prog 20 #[.pointer (some ⟨S + 1, 0, none⟩), .int .i64 (z : Int)] w fun r w' => r = .returned (.int .i64 (if pf z = 0 then 3 else 0)) ∧ w'.cell? ⟨G, z, none⟩ = some (.int .i64 (pf z : Int)) ∧ w'.frozen? ⟨G, z, none⟩ = false ∧ Hid (∀ wq, Below w'.heap.size w' wq → ∃ n' X', Rd wb (wq.setCell ⟨G, z, none⟩ (.int .i64 ((pf z - 1 : Nat) : Int))) S D L bf G n' X' (upd pf z (pf z - 1))) :=
  (@z_unpin (Ep G pf) _ _ _ _ _ _ _ _ k.pz z (pf z) hz (k.pin z hz)).mono fun r w' ⟨hr, HG⟩ => by
    obtain ⟨X', h1, h2⟩ := HG.out
    have hg : w'.heap[G]? = some (.cells (pinsA pf) 3 (0, 0)) := (@Pz.pl (Ep G pf) _ _ _ _ _ _ _ _ _ h1).2 G _ ⟨rfl, rfl⟩
    refine ⟨hr, by rw [cells_at hg z, pinsA_at pf z hz], cells_free hg z, fun wq hq => ⟨n, X', Rd.set (@Pz.below (Ep G pf) _ _ _ _ _ _ _ _ _ _ h1 hq) k.lo z (pf z - 1) hz (fun q hq => ?_)⟩⟩
    have := h2 q _ (k.pin q hq)
    unfold upd
    by_cases e : q = z
    · rw [if_pos e] at this ⊢; rw [e] at this ⊢; exact this
    · rw [if_neg e] at this ⊢; exact this
theorem r_pins {X : Nat → Bf} {n q p : Nat} (h : PinAt X n q p) (hp : 0 < p) : ∃ j, j < n ∧ (X j).pg = q := by
  rcases h with ⟨j, hj, h1, _⟩ | ⟨rfl, _⟩
  · exact ⟨j, hj, h1⟩
  · omega
/-- What a round has of the pages that are held: they are as many as there may be, each once, and those that are pinned are among them. -/
structure Rh (wb w : World) (S D L bf G n : Nat) (X : Nat → Bf) (pf : Nat → Nat) (B : Nat) (v : Value) (zs : List Int) : Prop where
  hs : @Hs (Ep G pf) wb w S D L bf n X B v zs
  pin : ∀ q, q < 10 → PinAt X n q (pf q)
  lo : wb.heap.size ≤ G
  pm : zs.Perm (lst (fun j => ((X j).pg : Int)) n)
theorem Rh.len {wb w : World} {S D L bf G n : Nat} {X : Nat → Bf} {pf : Nat → Nat} {B : Nat} {v : Value} {zs : List Int} (k : Rh wb w S D L bf G n X pf B v zs) : zs.length = n ∧ n ≤ bf ∧ bf ≤ 5 := ⟨by rw [k.pm.length_eq, lst_length], (@Pz.pf (Ep G pf) _ _ _ _ _ _ _ _ _ (@Hs.pz (Ep G pf) _ _ _ _ _ _ _ _ _ _ _ k.hs)).nb⟩
theorem Rh.nodup {wb w : World} {S D L bf G n : Nat} {X : Nat → Bf} {pf : Nat → Nat} {B : Nat} {v : Value} {zs : List Int} (k : Rh wb w S D L bf G n X pf B v zs) : zs.Nodup := by
  refine k.pm.nodup_iff.2 ?_
  have pa := (@Pz.pf (Ep G pf) _ _ _ _ _ _ _ _ _ (@Hs.pz (Ep G pf) _ _ _ _ _ _ _ _ _ _ _ k.hs)).pa
  refine List.pairwise_iff_getElem.2 (fun i j hi hj hij e => ?_)
  rw [lst_length] at hi hj
  have e1 : ∀ i (h : i < (lst (fun j => ((X j).pg : Int)) n).length), (lst (fun j => ((X j).pg : Int)) n)[i] = ((X i).pg : Int) := fun i h => by
    have h' := h
    rw [lst_length] at h'
    exact Option.some.inj ((List.getElem?_eq_getElem h).symm.trans (lst_get _ n i h'))
  rw [e1, e1] at e
  have := pa i j hi hj (by omega)
  omega
theorem Rh.mem {wb w : World} {S D L bf G n : Nat} {X : Nat → Bf} {pf : Nat → Nat} {B : Nat} {v : Value} {zs : List Int} (k : Rh wb w S D L bf G n X pf B v zs) (q : Nat) (hq : q < 10) (hp : 0 < pf q) : (q : Int) ∈ zs := by
  obtain ⟨j, hj, rfl⟩ := r_pins (k.pin q hq) hp
  refine k.pm.mem_iff.2 ?_
  unfold lst
  exact List.mem_map.2 ⟨j, List.mem_range.2 hj, rfl⟩
theorem Rh.rd {wb w : World} {S D L bf G n : Nat} {X : Nat → Bf} {pf : Nat → Nat} {B : Nat} {v : Value} {zs : List Int} (k : Rh wb w S D L bf G n X pf B v zs) : Rd wb w S D L bf G n X pf := ⟨@Hs.pz (Ep G pf) _ _ _ _ _ _ _ _ _ _ _ k.hs, k.pin, k.lo⟩
theorem r_held {wb w : World} {S D L bf G n : Nat} {X : Nat → Bf} {pf : Nat → Nat} (k : Rd wb w S D L bf G n X pf) : Calls Tryz.prog 21 #[.pointer (some ⟨S + 1, 0, none⟩)] w fun r w' => ∃ a c, r = .returned (.slice a n c) ∧ Hid (∃ B zs, Rh wb w' S D L bf G n X pf B (.slice a n c) zs) :=
  (@z_held (Ep G pf) _ _ _ _ _ _ _ _ k.pz).mono fun r w' ⟨v, hr, HH⟩ => by
    obtain ⟨h1, h2⟩ := HH.out
    obtain ⟨a, c, rfl⟩ := OwnI.any h2
    exact ⟨a, c, hr, w.heap.size, _, ⟨@Hs.mk (Ep G pf) _ _ _ _ _ _ _ _ _ _ _ h1 h2 (@Pz.pf (Ep G pf) _ _ _ _ _ _ _ _ _ k.pz).bel.size (fun q cs hq => by
      obtain ⟨rfl, _⟩ := hq
      exact (Array.getElem?_eq_some_iff.1 k.gt).1), k.pin, k.lo, .refl _⟩⟩
theorem r_sort {wb w : World} {S D L bf G n : Nat} {X : Nat → Bf} {pf : Nat → Nat} {a : Option Addr} {c : Nat} (k : ∃ B zs, Rh wb w S D L bf G n X pf B (.slice a n c) zs) : Calls Tryz.prog 22 #[.slice a n c] w fun r w' => r = .returned (.tuple #[]) ∧ Hid (∃ B zs, Rh wb w' S D L bf G n X pf B (.slice a n c) zs) := by
  obtain ⟨B, zs, k⟩ := k
  have hl := k.len
  exact (@i_sort (Ep G pf) _ _ _ _ _ _ _ _ _ _ _ k.hs (by omega)).mono fun r w' ⟨hr, HH⟩ => ⟨hr, by
    obtain ⟨zs', hp, h⟩ := HH.out
    exact ⟨B, zs', h, k.pin, k.lo, hp.trans k.pm⟩⟩
theorem r_clone {wb w : World} {S D L bf G n : Nat} {X : Nat → Bf} {pf : Nat → Nat} {a : Option Addr} {c : Nat} (k : ∃ B zs, Rh wb w S D L bf G n X pf B (.slice a n c) zs) : Calls Tryz.prog 24 #[.slice a n c] w fun r w' => ∃ a' c', r = .returned (.slice a' n c') ∧ Hid (∃ B zs B', Rh wb w' S D L bf G n X pf B (.slice a n c) zs ∧ wb.heap.size ≤ B' ∧ G < B' ∧ OwnI w' B' (.slice a' n c') zs ∧ ∀ q, (Value.slice a n c).ownBlock = some q → q < B') := by
  obtain ⟨B, zs, k⟩ := k
  have hl := k.len
  refine (@i_clone (Ep G pf) _ _ _ _ _ _ _ _ _ _ _ k.hs (by omega)).mono fun r w' ⟨v', hr, HH⟩ => ?_
  obtain ⟨h1, h2, h3⟩ := HH.out
  have hlst : zs = lst (fun j => zs.getD j 0) n := by
    apply List.ext_getElem?
    intro j
    by_cases hj : j < n
    · rw [lst_get _ n j hj, List.getElem?_eq_getElem (by omega)]
      simp [List.getD, List.getElem?_eq_getElem (show j < zs.length by omega)]
    · rw [List.getElem?_eq_none (by omega), List.getElem?_eq_none (by rw [lst_length]; omega)]
  have h2' := h2
  rw [hlst] at h2'
  obtain ⟨a', c', rfl⟩ := OwnI.any h2'
  exact ⟨a', c', hr, B, zs, w.heap.size, ⟨h1, k.pin, k.lo, k.pm⟩, (@Pz.pf (Ep G pf) _ _ _ _ _ _ _ _ _ (@Hs.pz (Ep G pf) _ _ _ _ _ _ _ _ _ _ _ k.hs)).bel.size, (Array.getElem?_eq_some_iff.1 k.rd.gt).1, h2, h3⟩
theorem r_compact {wb w : World} {S D L bf G n : Nat} {X : Nat → Bf} {pf : Nat → Nat} {a a' : Option Addr} {c c' : Nat} (k : ∃ B zs B', Rh wb w S D L bf G n X pf B (.slice a n c) zs ∧ wb.heap.size ≤ B' ∧ G < B' ∧ OwnI w B' (.slice a' n c') zs ∧ ∀ q, (Value.slice a n c).ownBlock = some q → q < B') : Calls Tryz.prog 23 #[.slice a' n c'] w fun r w' => (∃ a c, r = .returned (.slice a n c)) ∧ Hid (∃ B zs, Rh wb w' S D L bf G n X pf B (.slice a n c) zs) := by
  obtain ⟨B, zs, B', k, h1, h2, h3, h4⟩ := k
  have hl := k.len
  refine (@i_compact (Ep G pf) _ _ _ _ _ _ _ _ _ _ _ _ _ k.hs h1 (fun q cs hq => by obtain ⟨rfl, _⟩ := hq; exact h2) h3 h4 k.nodup (by omega)).mono fun r w' ⟨⟨a, c, hr⟩, HH⟩ => ⟨⟨a, c, by rw [hr, hl.1]⟩, B, zs, HH.out, k.pin, k.lo, k.pm⟩
theorem r_contains {wb w : World} {S D L bf G n : Nat} {X : Nat → Bf} {pf : Nat → Nat} {a : Option Addr} {c : Nat} (k : ∃ B zs, Rh wb w S D L bf G n X pf B (.slice a n c) zs) (q : Nat) (hq : q < 10) (hp : 0 < pf q) : Calls Tryz.prog 25 #[.slice a n c, .int .i64 (q : Int)] w fun r w' => r = .returned (.bool true) ∧ w' = w := by
  obtain ⟨B, zs, k⟩ := k
  have hl := k.len
  exact @i_contains (Ep G pf) _ _ _ _ _ _ _ _ _ _ _ k.hs _ (k.mem q hq hp) (by omega)
theorem r_table {wb w : World} {S D L bf G n : Nat} {X : Nat → Bf} {pf : Nat → Nat} (k : Rd wb w S D L bf G n X pf) : Calls Tryz.prog 18 #[.pointer (some ⟨S + 1, 0, none⟩)] w fun r w' => r = .returned (.slice none 0 0) ∧ Below wb.heap.size wb w' :=
  (@z_table (Ep G pf) _ _ _ _ _ _ _ _ k.pz).mono fun r w' ⟨hr, HH⟩ => ⟨hr, (@Pz.pf (Ep G pf) _ _ _ _ _ _ _ _ _ HH.out).bel⟩
theorem Rd.below {wb w w' : World} {S D L bf G n : Nat} {X : Nat → Bf} {pf : Nat → Nat} (k : Rd wb w S D L bf G n X pf) (h : Below w.heap.size w w') : Rd wb w' S D L bf G n X pf := ⟨@Pz.below (Ep G pf) _ _ _ _ _ _ _ _ _ _ k.pz h, k.pin, k.lo⟩
