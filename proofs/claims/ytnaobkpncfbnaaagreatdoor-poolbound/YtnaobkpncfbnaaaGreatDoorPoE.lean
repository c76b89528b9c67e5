/-
  A page that is read into a pool: state.read.
-/
import Derived.Test.YtnaobkpncfbnaaaGreatDoorPoD
import Derived.StillTailTactics
namespace Go.Proofs.YtnaobkpncfbnaaaGreatDoor
open Go.RowKit
set_option linter.unusedVariables false

theorem Id0.uniq {X : Nat → Bf} {n : Nat} {u v : Value} (h : Id0 X n u) (h' : Id0 X n v) : u = v := by
  rcases h with ⟨k, hk, e, hn, rfl⟩ | ⟨hn, rfl⟩ <;> rcases h' with ⟨k', hk', e', hn', rfl⟩ | ⟨hn', rfl⟩
  · rcases Nat.lt_trichotomy k k' with h | h | h
    · exact absurd e (hn' k h)
    · rw [h]
    · exact absurd e' (hn k' h)
  · exact absurd e (hn' k hk)
  · exact absurd e' (hn k' hk')
  · rfl
/-- A buffer that was read just now. -/
structure Nw [E : Ext] (wb w : World) (S D L bf n : Nat) (m : Int) (X : Nat → Bf) (y : Bf) (z : Nat) : Prop where
  pz : Pz wb w S m D L bf n X
  at_ : w.heap[y.b]? = some (bufO y)
  ld : Own w wb.heap.size y.ld (lst (fun _ => 0) 112)
  lo : wb.heap.size ≤ y.b
  ne : ∀ j, j < n → (X j).b ≠ y.b
  nS : y.b ≠ S
  is : y.pg = z ∧ y.fi = 0 ∧ y.ls = 0 ∧ y.pn = 0
theorem Nw.of [E : Ext] {wb w : World} {S D L bf n : Nat} {m : Int} {X : Nat → Bf} {v : Value} {z : Nat} {o : Obj} (k : Pz wb w S m D L bf n X) (hv : Own w wb.heap.size v (lst (fun _ => 0) 112)) (ho : o = .cells #[.int .i64 (z : Int), .int .i64 0, v, .int .i64 0, .int .i64 0] 111) : Nw wb (w.alloc o) S D L bf n m X ⟨w.heap.size, z, 0, 0, 0, v⟩ z := by
  have bo : Below w.heap.size w (w.alloc o) := (Below.refl _ w).alloc (Nat.le_refl _) o
  have hlt := k.ps.lt
  refine ⟨k.below bo, by rw [heap_alloc_at _ _ _ rfl, ho]; rfl, hv.below bo (Nat.le_refl _), k.bel.size, fun j hj e => ?_, fun e => ?_, rfl, rfl, rfl, rfl⟩
  · have := (Array.getElem?_eq_some_iff.1 (k.ps.buf j hj)).1
    have e : (X j).b = w.heap.size := e
    omega
  · have e : w.heap.size = S := e
    omega
theorem Pz.drop [E : Ext] {wb w w' : World} {S D L bf n : Nat} {m : Int} {X : Nat → Bf} (k : Pz wb w S m D L bf n X) {i : Nat} (hi : i < n) (h : Ps wb.heap.size w' S m D L 4 10 bf (n - 1) (dropX X i)) (hp : Part (Fr wb.heap.size S w) w w') : Pz wb w' S m D L bf (n - 1) (dropX X i) := by
  have at_ : ∀ j, j < n - 1 → ∃ j', j' < n ∧ dropX X i j = X j' ∧ (j < i → j' = j) ∧ (¬ j < i → j' = j + 1) := fun j hj => by
    unfold dropX
    by_cases h : j < i
    · rw [if_pos h]; exact ⟨j, by omega, rfl, fun _ => rfl, fun h' => absurd h h'⟩
    · rw [if_neg h]; exact ⟨j + 1, by omega, rfl, fun h' => absurd h' h, fun _ => rfl⟩
  refine ⟨k.bel.trans (Fr.below hp k.bel.size), k.fr, h, fun j hj => ?_, fun j hj => ?_, fun a b ha hb e => ?_, fun j hj => ?_, by have := k.nb; omega, pl_fr k.st k.pl hp⟩
  · obtain ⟨j', hj', e, _⟩ := at_ j hj
    rw [e]; exact k.cl j' hj'
  · obtain ⟨j', hj', e, _⟩ := at_ j hj
    rw [e]; exact (k.ld j' hj').fr hp k.ps.state
  · obtain ⟨a', ha', ea, a1, a2⟩ := at_ a ha
    obtain ⟨b', hb', eb, b1, b2⟩ := at_ b hb
    rw [ea, eb] at e
    have := k.pa a' b' ha' hb' e
    by_cases h1 : a < i
    · by_cases h2 : b < i
      · rw [a1 h1, b1 h2] at this; exact this
      · rw [a1 h1, b2 h2] at this; omega
    · by_cases h2 : b < i
      · rw [a2 h1, b1 h2] at this; omega
      · rw [a2 h1, b2 h2] at this; omega
  · obtain ⟨j', hj', e, _⟩ := at_ j hj
    rw [e]; exact k.bl j' hj'
set_option maxRecDepth 100000 in
set_option maxHeartbeats 4000000 in
theorem s_read_room [E : Ext] {wb w : World} {S D L bf n : Nat} {m : Int} {X : Nat → Bf} (k : Pz wb w S m D L bf n X) (z : Nat) (hz : z < 10) (hn : n < bf) : Calls Tryz.prog 71 #[.pointer (some ⟨S, 0, none⟩), .int .i64 (z : Int)] w fun r w' => ∃ y : Bf, r = .returned (.tuple #[ptr y.b, .int .i64 0]) ∧ Hid (Nw wb w' S D L bf n m X y z) := by
  obtain ⟨held, h1, h2⟩ := k.ps.lay
  have nb := k.nb
  obtain ⟨a7, l7, rfl⟩ : ∃ a c, held = .slice a n c := by
    rcases h2.open with ⟨rfl, rfl⟩ | ⟨g, c, cur, rfl, _⟩
    · exact ⟨none, 0, rfl⟩
    · exact ⟨_, c, rfl⟩
  obtain ⟨v, hv⟩ : ∃ v, Id0 X n v := by
    by_cases h : ∃ j, j < n ∧ (X j).pn = 0
    · obtain ⟨j, hj, e⟩ := h
      induction j using Nat.strongRecOn with
      | _ j ih =>
        by_cases h2 : ∃ i, i < j ∧ (X i).pn = 0
        · obtain ⟨i, hi, ei⟩ := h2
          exact ih i hi (by omega) ei
        · exact ⟨_, .inl ⟨j, hj, e, fun i hi ei => h2 ⟨i, hi, ei⟩, rfl⟩⟩
    · exact ⟨_, .inr ⟨fun j hj e => h ⟨j, hj, e⟩, rfl⟩⟩
  obtain ⟨va, rfl⟩ : ∃ a, v = .pointer a := by
    rcases hv with ⟨j, _, _, _, rfl⟩ | ⟨_, rfl⟩
    · exact ⟨_, rfl⟩
    · exact ⟨_, rfl⟩
  have HI : Hid (∀ q, Calls Tryz.prog 108 #[.pointer (some ⟨S, 7, none⟩)] (w.drewN q) fun r w' => r = .returned (.pointer va) ∧ w' = w.drewN q) := fun q => (t_idle (k.ps.below (blw_drewN q (Below.refl _ w)))).mono fun r w' ⟨u, hr, hu, hw⟩ => ⟨by rw [hr, hu.uniq hv], hw⟩
  have c7 : w.cell? ⟨S, 7, none⟩ = some (.slice a7 n l7) := by rw [cells_at h1 7]; rfl
  have c6 : w.cell? ⟨S, 6, none⟩ = some (.int .i64 (bf : Int)) := by rw [cells_at h1 6]; rfl
  have c2 : w.cell? ⟨S, 2, none⟩ = some (.pointer (some ⟨D, 0, none⟩)) := by rw [cells_at h1 2]; rfl
  have c4 : w.cell? ⟨S, 4, none⟩ = some (.int .i64 4) := by rw [cells_at h1 4]; rfl
  have HR : Hid (∀ wq t, Dr0 w wq → t = 4 + (z : Int) → Calls Tryz.prog 13 #[.pointer (some ⟨D, 0, none⟩), .int .i64 t] wq fun r w' => ∃ b c, r = .returned (.tuple #[.slice (some ⟨b, 0, none⟩) 128 c, .int .i64 0]) ∧ Below w.heap.size w w' ∧ Hid ((∀ i, i < 128 → w'.cell? ⟨b, 0 + i, none⟩ = some (.int .u8 0)) ∧ Pz wb w' S m D L bf n X)) := fun wq t hq ht => by
    subst ht
    have kq := k.below hq.below
    have := readZ D 14 (4 + z) (by omega) (by decide) wq (k.fr.below kq.bel (Nat.le_refl _))
    rw [show ((4 + z : Nat) : Int) = 4 + (z : Int) by omega] at this
    refine this.mono fun r w' ⟨v', hr, ho, hb⟩ => ?_
    obtain ⟨g, c, e, _, _, _⟩ := ho.zero
    refine ⟨g, c, by rw [hr, e], (hq.below (B := w.heap.size)).trans (hb.mono (hq.below (B := 0)).size), fun i hi => ?_, kq.below hb⟩
    rw [e] at ho
    rw [Nat.zero_add]
    have h := World.ownsRow.cells (g := g) ho rfl i (.int .u8 0) (by rw [List.getElem?_map, lst_get _ 128 i hi]; rfl)
    rw [Addr.add_lit, Nat.zero_add] at h
    exact h
  have HS : Hid (∀ wq, Below w.heap.size w wq → wq.cell? ⟨S, 2, none⟩ = some (.pointer (some ⟨D, 0, none⟩)) ∧ wq.cell? ⟨S, 4, none⟩ = some (.int .i64 4)) := fun wq hq => by
    have e := (hq.block S k.ps.lt).trans h1
    exact ⟨by rw [cells_at e 2]; rfl, by rw [cells_at e 4]; rfl⟩
  have HDc : Hid (∀ wq b c, (∀ i, i < 128 → wq.cell? ⟨b, 0 + i, none⟩ = some (.int .u8 0)) ∧ Pz wb wq S m D L bf n X → Calls Tryz.prog 109 #[.slice (some ⟨b, 0, none⟩) 128 c] wq fun r w' => ∃ v', r = .returned (.tuple #[.int .i64 0, v', .int .i64 0]) ∧ Hid (Pz wb w' S m D L bf n X ∧ Own w' wb.heap.size v' (lst (fun _ => 0) 112))) := fun wq b c ⟨hc, kq⟩ => (wDec_nil b 0 c (fun _ => 0) wq hc (fun _ _ => rfl)).mono fun r w' ⟨v', hr, ho, hb⟩ => ⟨v', hr, kq.below hb, ho.mono kq.bel.size⟩
  have HN : Hid (∀ wq v' o, Pz wb wq S m D L bf n X ∧ Own wq wb.heap.size v' (lst (fun _ => 0) 112) → o = Obj.cells #[.int .i64 (z : Int), .int .i64 0, v', .int .i64 0, .int .i64 0] 111 → Nw wb (wq.alloc o) S D L bf n m X ⟨wq.heap.size, z, 0, 0, 0, v'⟩ z) := fun wq v' o ⟨h1, h2⟩ ho => Nw.of h1 h2 ho
  have hn' : (n : Int) ≤ 5 := by omega
  have hz' : (z : Int) < 10 := by omega
  have hz0 : (0 : Int) ≤ (z : Int) := by omega
  have d1 : ((n : Int) == (bf : Int)) = false := by
    have : (n : Int) ≠ (bf : Int) := by omega
    simpa using this
  have d2 : (n == bf) = false := by
    have : n ≠ bf := by omega
    simpa using this
  clear k h1 h2 hv
  go_enter Tryz.func71, Tryz.ntmps71
  go_wp2_with fail
  go_quiet (first
    | (go_at_call 108; exact Calls.quiet_of_same (HI.out _)))
  have q1 : Dr0 w (w.drewN nq) := ⟨nq, rfl⟩
  have k1 : Below w.heap.size w (w.drewN nq) := q1.below
  obtain ⟨c2', c4'⟩ := HS.out _ k1
  clear c2 c4 c6 c7 HI
  generalize w.drewN nq = w1 at *
  go_wp2_with fail
  go_region_held2 (fun wq => wq.cell? ⟨S, 2, none⟩ = some (.pointer (some ⟨D, 0, none⟩)) ∧ wq.cell? ⟨S, 4, none⟩ = some (.int .i64 4))
    (first | exact HS.out _ (by assumption) | exact HS.out _ (blw_drewN 1 (by assumption)) | go_keep)
    (first
      | (go_at_call 13; refine (HR.out _ _ (by first | exact q1 | exact q1.drew) (by first | rfl | (simp only [IntKind.wrap_i64]; omega))).mono ?_; rintro e' w2 ⟨b, c, rfl, k2, HE⟩))
  clear c2' c4' HS HR k2
  go_wp2_with fail
  refine (HDc.out _ _ _ HE.out).mono ?_
  rintro r w3 ⟨v', rfl, HF⟩
  have HG : Hid (∀ o, o = Obj.cells #[.int .i64 (z : Int), .int .i64 0, v', .int .i64 0, .int .i64 0] 111 → Nw wb (w3.alloc o) S D L bf n m X ⟨w3.heap.size, z, 0, 0, 0, v'⟩ z) := fun o ho => HN.out w3 v' o HF.out ho
  clear HN HDc HE
  obtain ⟨va', vn', vc', rfl⟩ : ∃ a n c, v' = .slice a n c := by
    rcases HF.out.2.2 with ⟨h, _⟩ | ⟨g, cap, cur, h, _⟩
    · exact ⟨_, _, _, h⟩
    · exact ⟨_, _, _, h⟩
  go_wp2
  go_ret2
  exact ⟨_, rfl, HG.out _ rfl⟩
set_option maxRecDepth 100000 in
set_option maxHeartbeats 4000000 in
theorem s_read_evict [E : Ext] {wb w : World} {S D L bf n : Nat} {m : Int} {X : Nat → Bf} (k : Pz wb w S m D L bf n X) (z : Nat) (hz : z < 10) (hn : n = bf) (i : Nat) (hi : i < n) (hp : (X i).pn = 0) (hq0 : ∀ j, j < i → (X j).pn ≠ 0) : Calls Tryz.prog 71 #[.pointer (some ⟨S, 0, none⟩), .int .i64 (z : Int)] w fun r w' => ∃ y : Bf, r = .returned (.tuple #[ptr y.b, .int .i64 0]) ∧ Hid (Nw wb w' S D L bf (n - 1) m (dropX X i) y z) := by
  obtain ⟨held, h1, h2⟩ := k.ps.lay
  have nb := k.nb
  obtain ⟨a7, l7, rfl⟩ : ∃ a c, held = .slice a n c := by
    rcases h2.open with ⟨rfl, rfl⟩ | ⟨g, c, cur, rfl, _⟩
    · exact ⟨none, 0, rfl⟩
    · exact ⟨_, c, rfl⟩
  have hv : Id0 X n (.pointer (some ⟨(X i).b, 0, none⟩)) := .inl ⟨i, hi, hp, hq0, rfl⟩
  have HI : Hid (∀ q, Calls Tryz.prog 108 #[.pointer (some ⟨S, 7, none⟩)] (w.drewN q) fun r w' => r = .returned (.pointer (some ⟨(X i).b, 0, none⟩)) ∧ w' = w.drewN q) := fun q => (t_idle (k.ps.below (blw_drewN q (Below.refl _ w)))).mono fun r w' ⟨u, hr, hu, hw⟩ => ⟨by rw [hr, hu.uniq hv], hw⟩
  have c7 : w.cell? ⟨S, 7, none⟩ = some (.slice a7 n l7) := by rw [cells_at h1 7]; rfl
  have c6 : w.cell? ⟨S, 6, none⟩ = some (.int .i64 (bf : Int)) := by rw [cells_at h1 6]; rfl
  have c2 : w.cell? ⟨S, 2, none⟩ = some (.pointer (some ⟨D, 0, none⟩)) := by rw [cells_at h1 2]; rfl
  have c4 : w.cell? ⟨S, 4, none⟩ = some (.int .i64 4) := by rw [cells_at h1 4]; rfl
  have HR : Hid (∀ wq t, Dr0 w wq → t = 4 + (z : Int) → Calls Tryz.prog 13 #[.pointer (some ⟨D, 0, none⟩), .int .i64 t] wq fun r w' => ∃ b c, r = .returned (.tuple #[.slice (some ⟨b, 0, none⟩) 128 c, .int .i64 0]) ∧ Below w.heap.size w w' ∧ Hid ((∀ i, i < 128 → w'.cell? ⟨b, 0 + i, none⟩ = some (.int .u8 0)) ∧ Pz wb w' S m D L bf n X)) := fun wq t hq ht => by
    subst ht
    have kq := k.below hq.below
    have := readZ D 14 (4 + z) (by omega) (by decide) wq (k.fr.below kq.bel (Nat.le_refl _))
    rw [show ((4 + z : Nat) : Int) = 4 + (z : Int) by omega] at this
    refine this.mono fun r w' ⟨v', hr, ho, hb⟩ => ?_
    obtain ⟨g, c, e, _, _, _⟩ := ho.zero
    refine ⟨g, c, by rw [hr, e], (hq.below (B := w.heap.size)).trans (hb.mono (hq.below (B := 0)).size), fun i hi => ?_, kq.below hb⟩
    rw [e] at ho
    rw [Nat.zero_add]
    have h := World.ownsRow.cells (g := g) ho rfl i (.int .u8 0) (by rw [List.getElem?_map, lst_get _ 128 i hi]; rfl)
    rw [Addr.add_lit, Nat.zero_add] at h
    exact h
  have HS : Hid (∀ wq, Below w.heap.size w wq → wq.cell? ⟨S, 2, none⟩ = some (.pointer (some ⟨D, 0, none⟩)) ∧ wq.cell? ⟨S, 4, none⟩ = some (.int .i64 4)) := fun wq hq => by
    have e := (hq.block S k.ps.lt).trans h1
    exact ⟨by rw [cells_at e 2]; rfl, by rw [cells_at e 4]; rfl⟩
  have HDc : Hid (∀ wq b c, (∀ i, i < 128 → wq.cell? ⟨b, 0 + i, none⟩ = some (.int .u8 0)) ∧ Pz wb wq S m D L bf n X → Calls Tryz.prog 109 #[.slice (some ⟨b, 0, none⟩) 128 c] wq fun r w' => ∃ v', r = .returned (.tuple #[.int .i64 0, v', .int .i64 0]) ∧ Hid (Pz wb w' S m D L bf n X ∧ Own w' wb.heap.size v' (lst (fun _ => 0) 112))) := fun wq b c ⟨hc, kq⟩ => (wDec_nil b 0 c (fun _ => 0) wq hc (fun _ _ => rfl)).mono fun r w' ⟨v', hr, ho, hb⟩ => ⟨v', hr, kq.below hb, ho.mono kq.bel.size⟩
  have HSv : Hid (∀ wq, Pz wb wq S m D L bf n X → Calls Tryz.prog 47 #[.pointer (some ⟨S, 0, none⟩), ptr (X i).b] wq fun r w' => r = .returned (.int .i64 0) ∧ w' = wq) := fun wq kq => s_save S (X i) wq (kq.ps.buf i hi) (kq.cl i hi).1
  have HDr : Hid (∀ wq v', Pz wb wq S m D L bf n X ∧ Own wq wb.heap.size v' (lst (fun _ => 0) 112) → Calls Tryz.prog 110 #[.pointer (some ⟨S, 7, none⟩), ptr (X i).b] wq fun r w' => r = .returned (.tuple #[]) ∧ Hid (Pz wb w' S m D L bf (n - 1) (dropX X i) ∧ Own w' wb.heap.size v' (lst (fun _ => 0) 112))) := fun wq v' ⟨kq, ho⟩ => (t_drop kq.ps i hi).mono fun r w' ⟨hr, HE⟩ => ⟨hr, kq.drop hi HE.out.1 HE.out.2, ho.fr HE.out.2 kq.ps.state⟩
  have HN : Hid (∀ wq v' o, Pz wb wq S m D L bf (n - 1) (dropX X i) ∧ Own wq wb.heap.size v' (lst (fun _ => 0) 112) → o = Obj.cells #[.int .i64 (z : Int), .int .i64 0, v', .int .i64 0, .int .i64 0] 111 → Nw wb (wq.alloc o) S D L bf (n - 1) m (dropX X i) ⟨wq.heap.size, z, 0, 0, 0, v'⟩ z) := fun wq v' o ⟨h1, h2⟩ ho => Nw.of h1 h2 ho
  have hn' : (n : Int) ≤ 5 := by omega
  have hz' : (z : Int) < 10 := by omega
  have hz0 : (0 : Int) ≤ (z : Int) := by omega
  have d1 : ((n : Int) == (bf : Int)) = true := by
    have : (n : Int) = (bf : Int) := by omega
    simpa using this
  have d2 : (n == bf) = true := by simpa using hn
  obtain ⟨q, hqb⟩ : ∃ q, (X i).b = q := ⟨_, rfl⟩
  rw [hqb] at HI HSv HDr
  unfold ptr at HSv HDr
  clear hn hp hq0 hqb
  clear k h1 h2 hv
  go_enter Tryz.func71, Tryz.ntmps71
  go_wp2_with fail
  go_quiet (first
    | (go_at_call 108; exact Calls.quiet_of_same (HI.out _)))
  have q1 : Dr0 w (w.drewN nq) := ⟨nq, rfl⟩
  have k1 : Below w.heap.size w (w.drewN nq) := q1.below
  obtain ⟨c2', c4'⟩ := HS.out _ k1
  clear c2 c4 c6 c7 HI
  generalize w.drewN nq = w1 at *
  go_wp2_with fail
  go_region_held2 (fun wq => wq.cell? ⟨S, 2, none⟩ = some (.pointer (some ⟨D, 0, none⟩)) ∧ wq.cell? ⟨S, 4, none⟩ = some (.int .i64 4))
    (first | exact HS.out _ (by assumption) | exact HS.out _ (blw_drewN 1 (by assumption)) | go_keep)
    (first
      | (go_at_call 13; refine (HR.out _ _ (by first | exact q1 | exact q1.drew) (by first | rfl | (simp only [IntKind.wrap_i64]; omega))).mono ?_; rintro e' w2 ⟨b, c, rfl, k2, HE⟩))
  clear c2' c4' HS HR k2
  go_wp2_with fail
  refine (HDc.out _ _ _ HE.out).mono ?_
  rintro r w3 ⟨v', rfl, HF⟩
  obtain ⟨va', vn', vc', rfl⟩ : ∃ a n c, v' = .slice a n c := by
    rcases HF.out.2.2 with ⟨h, _⟩ | ⟨g, cap, cur, h, _⟩
    · exact ⟨_, _, _, h⟩
    · exact ⟨_, _, _, h⟩
  go_wp2_with fail
  refine (HSv.out _ HF.out.1).mono ?_
  rintro r w4 ⟨rfl, hw⟩
  obtain rfl : w3 = w4 := hw.symm
  clear hw
  go_wp2_with fail
  refine (HDr.out _ _ HF.out).mono ?_
  rintro r w4 ⟨rfl, HF4⟩
  have HG : Hid (∀ o, o = Obj.cells #[.int .i64 (z : Int), .int .i64 0, .slice va' vn' vc', .int .i64 0, .int .i64 0] 111 → Nw wb (w4.alloc o) S D L bf (n - 1) m (dropX X i) ⟨w4.heap.size, z, 0, 0, 0, .slice va' vn' vc'⟩ z) := fun o ho => HN.out w4 _ o HF4.out ho
  clear HN HDc HE HSv HDr
  go_wp2
  go_ret2
  exact ⟨_, rfl, HG.out _ rfl⟩
set_option maxRecDepth 100000 in
set_option maxHeartbeats 4000000 in
theorem s_read_no [E : Ext] {wb w : World} {S D L bf n : Nat} {m : Int} {X : Nat → Bf} (k : Pz wb w S m D L bf n X) (z : Nat) (hn : n = bf) (hp : ∀ j, j < n → (X j).pn ≠ 0) : Calls Tryz.prog 71 #[.pointer (some ⟨S, 0, none⟩), .int .i64 (z : Int)] w fun r w' => r = .returned (.tuple #[.pointer none, .int .i64 50]) ∧ Dr0 w w' := by
  obtain ⟨held, h1, h2⟩ := k.ps.lay
  have nb := k.nb
  obtain ⟨a7, l7, rfl⟩ : ∃ a c, held = .slice a n c := by
    rcases h2.open with ⟨rfl, rfl⟩ | ⟨g, c, cur, rfl, _⟩
    · exact ⟨none, 0, rfl⟩
    · exact ⟨_, c, rfl⟩
  have hv : Id0 X n (.pointer none) := .inr ⟨hp, rfl⟩
  have HI : Hid (∀ q, Calls Tryz.prog 108 #[.pointer (some ⟨S, 7, none⟩)] (w.drewN q) fun r w' => r = .returned (.pointer none) ∧ w' = w.drewN q) := fun q => (t_idle (k.ps.below (blw_drewN q (Below.refl _ w)))).mono fun r w' ⟨u, hr, hu, hw⟩ => ⟨by rw [hr, hu.uniq hv], hw⟩
  have c7 : w.cell? ⟨S, 7, none⟩ = some (.slice a7 n l7) := by rw [cells_at h1 7]; rfl
  have c6 : w.cell? ⟨S, 6, none⟩ = some (.int .i64 (bf : Int)) := by rw [cells_at h1 6]; rfl
  have hn' : (n : Int) ≤ 5 := by omega
  have d1 : ((n : Int) == (bf : Int)) = true := by
    have : (n : Int) = (bf : Int) := by omega
    simpa using this
  have d2 : (n == bf) = true := by simpa using hn
  clear k h1 h2 hv hn hp
  go_enter Tryz.func71, Tryz.ntmps71
  go_wp2_with fail
  go_quiet (first
    | (go_at_call 108; exact Calls.quiet_of_same (HI.out _)))
  go_wp2
  go_ret2
  exact ⟨rfl, _, rfl⟩
end Go.Proofs.YtnaobkpncfbnaaaGreatDoor
