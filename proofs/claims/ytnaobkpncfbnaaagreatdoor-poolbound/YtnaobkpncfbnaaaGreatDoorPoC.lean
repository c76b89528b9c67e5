/-
  A pool's table: drop, use.
-/
import Derived.Test.YtnaobkpncfbnaaaGreatDoorPoB
namespace Go.Proofs.YtnaobkpncfbnaaaGreatDoor
open Go.RowKit
set_option linter.unusedVariables false
variable {B0 : Nat}

set_option maxRecDepth 100000 in
theorem c_delete_no {w : World} {v : Value} {n : Nat} {f : Nat → Nat} (h : Rw B0 w v n f) (hn : n ≤ 1000) (q B : Nat) (hno : ∀ j, j < n → f j ≠ q) (hB : w.cell? ⟨B, 0, none⟩ = some (ptr q)) (hf : ∀ j, j < n → IsB w (f j)) (hq : IsB w q) :
    Calls Tryz.prog 132 #[v, .func (.func 133) #[] #[.pointer (some ⟨B, 0, none⟩)]] w fun r w' => r = .returned v ∧ w' = w := by
  have HI : Hid (Calls Tryz.prog 145 #[v, .func (.func 133) #[] #[.pointer (some ⟨B, 0, none⟩)]] w fun r w' => r = .returned (.int .i64 (-1)) ∧ w' = w) := (c_index h hn q B hB hf hq).mono fun r w' ⟨z, hr, hx, hw⟩ => by
    rcases hx with ⟨k', hk', rfl, e, _⟩ | ⟨rfl, e⟩
    · exact absurd e (hno k' hk')
    · exact ⟨hr, hw⟩
  clear h hno hB hf hq
  go_enter Tryz.func132, Tryz.ntmps132
  go_wp2_with fail
  refine HI.out.mono ?_
  rintro r w1 ⟨rfl, hw⟩
  obtain rfl : w = w1 := hw.symm
  clear hw HI
  go_wp2
  go_ret
  exact ⟨rfl, rfl⟩
def dropX (X : Nat → Bf) (k : Nat) : Nat → Bf := fun i => if i < k then X i else X (i + 1)
def snocX (X : Nat → Bf) (n : Nat) (y : Bf) : Nat → Bf := fun i => if i = n then y else X i
theorem stO_held {w : World} {S D L fr pg bf : Nat} {m : Int} {held v : Value} (h : w.heap[S]? = some (stO m D L fr pg bf held)) : (w.setCell ⟨S, 7, none⟩ v).heap[S]? = some (stO m D L fr pg bf v) := heap_set_at h v
theorem Fr.at {w w' : World} {S b : Nat} (h : Below w.heap.size w w') (hb : b < w.heap.size) (k : Fr B0 S w' b) : Fr B0 S w b := by
  rcases k with ⟨h0, k | ⟨cs, fz, k⟩⟩
  · exact ⟨h0, .inl k⟩
  · exact ⟨h0, .inr ⟨cs, fz, by rw [← h.block b hb]; exact k⟩⟩
/-- What comes of a row that was written anew, and of its new slice in the state. -/
theorem Ps.renew {w w1 w2 : World} {S D L fr pg bf n n' : Nat} {m : Int} {X X' : Nat → Bf} {v : Value} (k : Ps B0 w S m D L fr pg bf n X) (b1 : Below w.heap.size w w1) (p2 : Part (Fr B0 S w1) w1 w2) (hS : w2.heap[S]? = w1.heap[S]?) (hr : Rw B0 w2 v n' (fun j => (X' j).b)) (hb : ∀ j, j < n' → w1.heap[(X' j).b]? = some (bufO (X' j))) (ha : ∀ i j, i < n' → j < n' → (X' i).b = (X' j).b → i = j) (hn : n' ≤ 100) :
    Ps B0 (w2.setCell ⟨S, 7, none⟩ v) S m D L fr pg bf n' X' ∧ Part (Fr B0 S w) w (w2.setCell ⟨S, 7, none⟩ v) := by
  obtain ⟨held, h1, h2⟩ := k.lay
  have hlt := k.lt
  have e1 : w1.heap[S]? = some (stO m D L fr pg bf held) := (b1.block S hlt).trans h1
  have e2 := hS.trans e1
  have hvS : v.ownBlock ≠ some S := fun e => by
    rcases hr.open with ⟨h, _⟩ | ⟨g, c, cur, h, hg, _⟩
    · rw [h] at e; cases e
    · rw [h] at e
      have e : some g = some S := e
      injection e with e
      rw [e, e2] at hg
      injection hg with hg
      injection hg with _ hg
      exact absurd hg (by decide)
  have hbS : ∀ j, j < n' → (X' j).b ≠ S := fun j hj e => by
    have := hb j hj
    rw [e, e1] at this
    injection this with this
    injection this with _ this
    exact absurd this (by decide)
  refine ⟨⟨⟨v, stO_held e2, ?_⟩, fun j hj => ?_, ha, hn, k.low⟩, ?_⟩
  · exact row_set hr hvS 7 v
  · rw [heap_set_other w2 (hbS j hj)]
    refine (p2.block _ (Array.getElem?_eq_some_iff.1 (hb j hj)).1 (fun hf => ?_)).trans (hb j hj)
    rcases hf with ⟨_, e | ⟨cs, fz, e⟩⟩
    · exact hbS j hj e
    · rw [hb j hj] at e
      injection e with e
      injection e with _ e
      exact absurd e (by decide)
  · have p1 : Part (Fr B0 S w) w w2 := (Part.ofBelow (F := Fr B0 S w) b1).trans p2 (fun i hi hf => hf.at b1 hi)
    exact p1.setCell (p := ⟨S, 7, none⟩) (fun _ => ⟨k.low, .inl rfl⟩) v

set_option maxRecDepth 100000 in
set_option maxHeartbeats 2000000 in
theorem t_drop {w : World} {S D L fr pg bf n : Nat} {m : Int} {X : Nat → Bf} (k : Ps B0 w S m D L fr pg bf n X) (i : Nat) (hi : i < n) : Calls Tryz.prog 110 #[.pointer (some ⟨S, 7, none⟩), ptr (X i).b] w fun r w' => r = .returned (.tuple #[]) ∧ Hid (Ps B0 w' S m D L fr pg bf (n - 1) (dropX X i) ∧ Part (Fr B0 S w) w w') := by
  obtain ⟨held, h1, h2⟩ := k.lay
  have nn := k.nn
  have hlt := k.lt
  obtain ⟨o, ho⟩ : ∃ o, Obj.cells #[ptr (X i).b] 97 = o := ⟨_, rfl⟩
  have bo : Below w.heap.size w (w.alloc o) := (Below.refl _ w).alloc (Nat.le_refl _) o
  have hbox : (w.alloc o).heap[w.heap.size]? = some (.cells #[ptr (X i).b] 97 (0, 0)) := by rw [← ho]; exact heap_alloc_at _ _ _ rfl
  have kq := k.below bo
  have e1 : (w.alloc o).heap[S]? = some (stO m D L fr pg bf held) := (bo.block S hlt).trans h1
  have c7 : (w.alloc o).cell? ⟨S, 7, none⟩ = some held := by rw [cells_at e1 7]; rfl
  rcases h2.open with ⟨rfl, rfl⟩ | ⟨g, c, cur, rfl, g2, g3, g4, g5, g6⟩
  · exact absurd hi (by omega)
  · have hgl : g < w.heap.size := (Array.getElem?_eq_some_iff.1 g2).1
    have hgS : g ≠ S := fun e => by
      rw [e, h1] at g2
      injection g2 with g2
      injection g2 with _ g2
      exact absurd g2 (by decide)
    have h2' : Rw B0 (w.alloc o) (.slice (some ⟨g, 0, none⟩) n c) n (fun j => (X j).b) := h2.part (Part.ofBelow (F := fun _ => False) bo) (fun _ _ h => h)
    have HD : Hid (Calls Tryz.prog 132 #[.slice (some ⟨g, 0, none⟩) n c, .func (.func 133) #[] #[.pointer (some ⟨w.heap.size, 0, none⟩)]] (w.alloc o) fun r w' => r = .returned (.slice (some ⟨g, 0, none⟩) (n - 1) c) ∧ w'.cell? ⟨S, 7, none⟩ = some (.slice (some ⟨g, 0, none⟩) n c) ∧ w'.frozen? ⟨S, 7, none⟩ = false ∧ Hid (Ps B0 (w'.setCell ⟨S, 7, none⟩ (.slice (some ⟨g, 0, none⟩) (n - 1) c)) S m D L fr pg bf (n - 1) (dropX X i) ∧ Part (Fr B0 S w) w (w'.setCell ⟨S, 7, none⟩ (.slice (some ⟨g, 0, none⟩) (n - 1) c)))) :=
      (c_delete h2' (by omega) (X i).b w.heap.size i hi rfl k.apart (by rw [cells_at hbox 0]; rfl) (by omega) (fun j hj => kq.isB j hj)).mono fun r w' ⟨hr, HE⟩ => by
        have hS : w'.heap[S]? = (w.alloc o).heap[S]? := HE.out.2.block S (by simp; omega) (Ne.symm hgS)
        have e2 := hS.trans e1
        refine ⟨hr, by rw [cells_at e2 7]; rfl, cells_free e2 7, ?_⟩
        refine k.renew bo (HE.out.2.mono (fun q hq e => ⟨by rw [e]; exact h2.low, .inr ⟨cur, (0, 0), by rw [e]; exact (bo.block g hgl).trans g2⟩⟩)) hS (HE.out.1.ext (fun j hj => ?_)) (fun j hj => ?_) (fun a b ha hb e => ?_) (by omega)
        · show dropAt (fun j => (X j).b) i j = (dropX X i j).b
          unfold dropAt dropX
          by_cases h : j < i
          · rw [if_pos h, if_pos h]
          · rw [if_neg h, if_neg h]
        · unfold dropX
          by_cases h : j < i
          · rw [if_pos h]; exact kq.buf j (by omega)
          · rw [if_neg h]; exact kq.buf (j + 1) (by omega)
        · unfold dropX at e
          by_cases h : a < i
          · rw [if_pos h] at e
            by_cases h' : b < i
            · rw [if_pos h'] at e; exact k.apart a b (by omega) (by omega) e
            · rw [if_neg h'] at e; have := k.apart a (b + 1) (by omega) (by omega) e; omega
          · rw [if_neg h] at e
            by_cases h' : b < i
            · rw [if_pos h'] at e; have := k.apart (a + 1) b (by omega) (by omega) e; omega
            · rw [if_neg h'] at e; have := k.apart (a + 1) (b + 1) (by omega) (by omega) e; omega
    clear k kq h1 h2 h2' g2 g3 g6 e1 hbox bo
    unfold ptr at ho ⊢
    go_enter Tryz.func110, Tryz.ntmps110
    go_wp2_with fail
    try rw [ho]
    refine HD.out.mono ?_
    rintro r w1 ⟨rfl, x1, x2, HE⟩
    go_wp2
    go_end0
    exact ⟨rfl, HE⟩
set_option maxRecDepth 100000 in
set_option maxHeartbeats 2000000 in
/-- drop of a buffer that is not held. -/
theorem t_drop_no {w : World} {S D L fr pg bf n : Nat} {m : Int} {X : Nat → Bf} (k : Ps B0 w S m D L fr pg bf n X) (q : Nat) (hq : IsB w q) (hno : ∀ j, j < n → (X j).b ≠ q) : Calls Tryz.prog 110 #[.pointer (some ⟨S, 7, none⟩), ptr q] w fun r w' => r = .returned (.tuple #[]) ∧ Hid (Ps B0 w' S m D L fr pg bf n X ∧ Part (Fr B0 S w) w w') := by
  obtain ⟨held, h1, h2⟩ := k.lay
  have nn := k.nn
  have hlt := k.lt
  obtain ⟨a7, l7, rfl⟩ : ∃ a c, held = .slice a n c := by
    rcases h2.open with ⟨rfl, rfl⟩ | ⟨g, c, cur, rfl, _⟩
    · exact ⟨none, 0, rfl⟩
    · exact ⟨_, c, rfl⟩
  obtain ⟨o, ho⟩ : ∃ o, Obj.cells #[ptr q] 97 = o := ⟨_, rfl⟩
  have bo : Below w.heap.size w (w.alloc o) := (Below.refl _ w).alloc (Nat.le_refl _) o
  have hbox : (w.alloc o).heap[w.heap.size]? = some (.cells #[ptr q] 97 (0, 0)) := by rw [← ho]; exact heap_alloc_at _ _ _ rfl
  have kq := k.below bo
  have e1 : (w.alloc o).heap[S]? = some (stO m D L fr pg bf (.slice a7 n l7)) := (bo.block S hlt).trans h1
  have c7 : (w.alloc o).cell? ⟨S, 7, none⟩ = some (.slice a7 n l7) := by rw [cells_at e1 7]; rfl
  have f7 := cells_free e1 7
  have h2' : Rw B0 (w.alloc o) (.slice a7 n l7) n (fun j => (X j).b) := h2.part (Part.ofBelow (F := fun _ => False) bo) (fun _ _ h => h)
  have hq' : IsB (w.alloc o) q := by
    obtain ⟨cs, hcs⟩ := hq
    exact ⟨cs, (bo.block q (Array.getElem?_eq_some_iff.1 hcs).1).trans hcs⟩
  have HD : Hid (Calls Tryz.prog 132 #[.slice a7 n l7, .func (.func 133) #[] #[.pointer (some ⟨w.heap.size, 0, none⟩)]] (w.alloc o) fun r w' => r = .returned (.slice a7 n l7) ∧ w' = w.alloc o) := c_delete_no h2' (by omega) q w.heap.size hno (by rw [cells_at hbox 0]; rfl) (fun j hj => kq.isB j hj) hq'
  have HE : Hid (Ps B0 ((w.alloc o).setCell ⟨S, 7, none⟩ (.slice a7 n l7)) S m D L fr pg bf n X ∧ Part (Fr B0 S w) w ((w.alloc o).setCell ⟨S, 7, none⟩ (.slice a7 n l7))) := k.renew bo (Part.refl _ _) rfl h2' (fun j hj => kq.buf j hj) k.apart nn
  clear k kq h1 h2 h2' e1 hbox bo hq hq' hno
  unfold ptr at ho ⊢
  go_enter Tryz.func110, Tryz.ntmps110
  go_wp2_with fail
  try rw [ho]
  refine HD.out.mono ?_
  rintro r w1 ⟨rfl, hw⟩
  rw [← hw] at HE c7 f7
  clear hw HD ho
  go_wp2
  go_end0
  exact ⟨rfl, HE⟩
theorem infoP : (Tryz.prog.info? 97).map (fun i => (i.zero, i.size, i.bytes)) = some (some (.pointer none), 1, 8) := by kernel_rfl
set_option maxRecDepth 100000 in
set_option maxHeartbeats 2000000 in
/-- use, told by what its drop leaves: the buffer goes behind those. -/
theorem t_use {w : World} {S D L fr pg bf n : Nat} {m : Int} {X : Nat → Bf} {y : Bf} (hn : n < 100) (hd : Calls Tryz.prog 110 #[.pointer (some ⟨S, 7, none⟩), ptr y.b] w fun r w' => r = .returned (.tuple #[]) ∧ Hid (Ps B0 w' S m D L fr pg bf n X ∧ Part (Fr B0 S w) w w')) (hy : w.heap[y.b]? = some (bufO y)) (hS : y.b ≠ S) (hno : ∀ j, j < n → (X j).b ≠ y.b) :
    Calls Tryz.prog 72 #[.pointer (some ⟨S, 7, none⟩), ptr y.b] w fun r w' => r = .returned (.tuple #[]) ∧ Hid (Ps B0 w' S m D L fr pg bf (n + 1) (snocX X n y) ∧ Part (Fr B0 S w) w w') := by
  obtain ⟨i0, hi0, hz0, hz1, hz2⟩ := info_parts infoP
  have HD : Hid (Calls Tryz.prog 110 #[.pointer (some ⟨S, 7, none⟩), ptr y.b] w fun r w' => r = .returned (.tuple #[]) ∧ ∃ (held : Value) (a7 : Option Addr) (l7 : Nat), Hid (∀ o, B0 ≤ (w'.alloc o).heap.size) ∧ Hid (w'.ownsRow B0 97 1 held n (rowL (fun j => (X j).b) n)) ∧ held = .slice a7 n l7 ∧ w'.cell? ⟨S, 7, none⟩ = some held ∧ Hid (∀ v' o w2, o = Obj.cells #[ptr y.b] 97 → w2.ownsRow B0 97 1 v' (n + 1) (rowL (fun j => (X j).b) n ++ [ptr y.b]) → (w'.alloc o).grownBy w2 held.ownBlock → (∃ u, w2.cell? ⟨S, 7, none⟩ = some u) ∧ w2.frozen? ⟨S, 7, none⟩ = false ∧ Hid (Ps B0 (w2.setCell ⟨S, 7, none⟩ v') S m D L fr pg bf (n + 1) (snocX X n y) ∧ Part (Fr B0 S w) w (w2.setCell ⟨S, 7, none⟩ v')))) := hd.mono fun r w' ⟨hr, HE⟩ => by
    obtain ⟨k, hp⟩ := HE.out
    obtain ⟨held, h1, h2⟩ := k.lay
    have hlt := k.lt
    have hyl : y.b < w.heap.size := (Array.getElem?_eq_some_iff.1 hy).1
    have hy' : w'.heap[y.b]? = some (bufO y) := (hp.block y.b hyl (fun hf => by
      rcases hf with ⟨_, e | ⟨cs, fz, e⟩⟩
      · exact hS e
      · rw [hy] at e
        injection e with e
        injection e with _ e
        exact absurd e (by decide))).trans hy
    obtain ⟨a7, l7, e7⟩ : ∃ a c, held = .slice a n c := by
      rcases h2.open with ⟨e, e'⟩ | ⟨g, c, cur, e, _⟩
      · exact ⟨none, 0, by rw [e, e']⟩
      · exact ⟨_, c, e⟩
    have hc7 : w'.cell? ⟨S, 7, none⟩ = some held := by rw [cells_at h1 7]; rfl
    refine ⟨hr, held, a7, l7, fun o => (by have := k.low; simp; omega), h2, e7, hc7, fun v' o w2 ho hw2 hg2 => ?_⟩
    have bo : Below w'.heap.size w' (w'.alloc o) := (Below.refl _ w').alloc (Nat.le_refl _) o
    have hb7 : held.ownBlock ≠ some S := fun e => by
      rcases h2.open with ⟨h, _⟩ | ⟨g, c, cur, h, hg, _⟩
      · rw [h] at e; cases e
      · rw [h] at e
        have e : some g = some S := e
        injection e with e
        rw [e, h1] at hg
        injection hg with hg
        injection hg with _ hg
        exact absurd hg (by decide)
    have e1 : (w'.alloc o).heap[S]? = some (stO m D L fr pg bf held) := (bo.block S hlt).trans h1
    have hSe : w2.heap[S]? = (w'.alloc o).heap[S]? := hg2.block S (by simp; omega) (fun e => hb7 e.symm)
    have e2 := hSe.trans e1
    have p2 : Part (Fr B0 S (w'.alloc o)) (w'.alloc o) w2 := (Part.refl _ _).grown hg2 (fun q hq _ => by
      rcases h2.open with ⟨h, _⟩ | ⟨g, c, cur, h, hg, _⟩
      · rw [h] at hq; cases hq
      · rw [h] at hq
        have hq : some g = some q := hq
        injection hq with hq
        subst hq
        refine ⟨Rw.low (h ▸ h2), .inr ?_⟩
        exact ⟨cur, (0, 0), (bo.block g (Array.getElem?_eq_some_iff.1 hg).1).trans hg⟩)
    have kq := k.below bo
    have hrow : Rw B0 w2 v' (n + 1) (fun j => (snocX X n y j).b) := by
      unfold Rw
      rw [← rowL_snoc]
      have e3 : ptr ((fun j => (snocX X n y j).b) n) = ptr y.b := by show ptr (snocX X n y n).b = _; unfold snocX; rw [if_pos rfl]
      have e4 : rowL (fun j => (snocX X n y j).b) n = rowL (fun j => (X j).b) n := rowL_ext (fun j hj => by show (snocX X n y j).b = _; unfold snocX; rw [if_neg (by omega)])
      rw [e3, e4]
      exact hw2
    obtain ⟨q1, q2⟩ := k.renew bo p2 hSe hrow (fun j hj => by
      unfold snocX
      by_cases e : j = n
      · rw [if_pos e]; exact (bo.block y.b (Array.getElem?_eq_some_iff.1 hy').1).trans hy'
      · rw [if_neg e]; exact kq.buf j (by omega)) (fun a b ha hb e => by
      unfold snocX at e
      by_cases h : a = n
      · rw [if_pos h] at e
        by_cases h' : b = n
        · omega
        · rw [if_neg h'] at e; exact absurd e.symm (hno b (by omega))
      · rw [if_neg h] at e
        by_cases h' : b = n
        · rw [if_pos h'] at e; exact absurd e (hno a (by omega))
        · rw [if_neg h'] at e; exact k.apart a b (by omega) (by omega) e) (by omega)
    exact ⟨⟨_, by rw [cells_at e2 7]; rfl⟩, cells_free e2 7, q1, hp.trans q2 (fun b hb hf => by
      rcases hf with ⟨h0, e | ⟨cs, fz, e⟩⟩
      · exact ⟨h0, .inl e⟩
      · by_cases hF : Fr B0 S w b
        · exact hF
        · exact ⟨h0, .inr ⟨cs, fz, by rw [← hp.block b hb hF]; exact e⟩⟩)⟩
  clear hd hy hS hno
  have hn' : (n : Int) ≤ 100 := by omega
  generalize hyb : y.b = q at *
  go_enter Tryz.func72, Tryz.ntmps72
  go_wp2_with fail
  refine HD.out.mono ?_
  rintro r w1 ⟨rfl, held, a7, l7, HZ, HR, rfl, hc7, HN⟩
  have HA : Hid (∀ o, (w1.alloc o).ownsRow B0 97 1 (.slice a7 n l7) n (rowL (fun j => (X j).b) n)) := fun o => (Part.ofBelow (F := fun _ => False) ((Below.refl _ w1).alloc (Nat.le_refl _) o)).row HR.out (fun _ _ h => h)
  obtain ⟨nw, hnw⟩ : ∃ nw, ([ptr q] : List Value) = nw := ⟨_, rfl⟩
  have hl1 : nw.length = 1 * 1 := by rw [← hnw]; rfl
  have HO1 : Hid (∀ u ∈ nw, u.oneCell' = true) := by rw [← hnw]; exact fun u hu => by simp at hu; rw [hu]; rfl
  have HN2 : Hid (∀ v' w2, w2.ownsRow B0 97 1 v' (n + 1) (rowL (fun j => (X j).b) n ++ nw) → (w1.alloc (Obj.cells #[.pointer (some ⟨q, 0, none⟩)] 97)).grownBy w2 (Value.slice a7 n l7).ownBlock → (∃ u, w2.cell? ⟨S, 7, none⟩ = some u) ∧ w2.frozen? ⟨S, 7, none⟩ = false ∧ Hid (Ps B0 (w2.setCell ⟨S, 7, none⟩ v') S m D L fr pg bf (n + 1) (snocX X n y) ∧ Part (Fr B0 S w) w (w2.setCell ⟨S, 7, none⟩ v'))) := fun v' w2 h g => HN.out v' _ w2 rfl (by rw [hnw]; exact h) g
  have HL : Hid (∀ j u, nw[j]? = some u → (w1.alloc (Obj.cells #[.pointer (some ⟨q, 0, none⟩)] 97)).cell? ((⟨w1.heap.size, 0, none⟩ : Addr).add j) = some u) := fun j u hu => by
    rw [← hnw] at hu
    rw [Addr.add_lit, Nat.zero_add, cells_at (heap_alloc_at _ _ _ rfl) j]
    simpa [ptr] using hu
  clear hnw HN
  unfold ptr
  go_wp2_with (at_builtin; refine wpList_append_own_at _ rfl _ _ 87 rfl B0 97 i0 (.pointer none) 1 8 Tryz.underlying87 hi0 hz0 hz1 hz2 rfl (by decide) (.slice a7 n l7) n (rowL (fun j => (X j).b) n) rfl (HA.out _) ⟨w1.heap.size, 0, none⟩ 1 1 nw rfl hl1 ?q1 ?q2 ?q3 ?q4 ?q5 ?_)
  case q1 => exact HL.out
  case q2 => exact HO1.out
  case q3 => unfold maxLen; omega
  case q4 => omega
  case q5 => exact HZ.out _
  intro v2 w2 ho2 hg2 _ hat
  obtain ⟨⟨u, x1⟩, x2, HE⟩ := HN2.out v2 w2 ho2 hg2
  obtain ⟨a2, c2, rfl⟩ : ∃ a c, v2 = .slice a (n + 1) c := by
    rcases ho2.2 with ⟨h, h'⟩ | ⟨g, cap, cur, h, _⟩
    · omega
    · exact ⟨_, cap, h⟩
  clear HN2 HA HL ho2 hg2 hat hc7 HR
  go_wp2
  go_end0
  exact ⟨rfl, HE⟩
end Go.Proofs.YtnaobkpncfbnaaaGreatDoor
