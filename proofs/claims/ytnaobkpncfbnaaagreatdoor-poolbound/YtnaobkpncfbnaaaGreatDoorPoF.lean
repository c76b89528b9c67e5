/-
  A page that is brought into a pool: state.bring.
-/
import Derived.Test.YtnaobkpncfbnaaaGreatDoorPoE
namespace Go.Proofs.YtnaobkpncfbnaaaGreatDoor
open Go.RowKit
set_option linter.unusedVariables false

/-- What is clean of buffers. -/
structure Fc (wb w : World) (n : Nat) (X : Nat → Bf) : Prop where
  cl : ∀ j, j < n → (X j).fi = 0 ∧ (X j).ls = 0 ∧ (X j).pg < 10 ∧ (X j).pn ≤ 100
  ld : ∀ j, j < n → Own w wb.heap.size (X j).ld (lst (fun _ => 0) 112)
  pa : ∀ i j, i < n → j < n → (X i).pg = (X j).pg → i = j
  bl : ∀ j, j < n → wb.heap.size ≤ (X j).b
theorem Pz.fc [E : Ext] {wb w : World} {S D L bf n : Nat} {m : Int} {X : Nat → Bf} (k : Pz wb w S m D L bf n X) : Fc wb w n X := ⟨k.cl, k.ld, k.pa, k.bl⟩
theorem dropX_at {X : Nat → Bf} {n i : Nat} (hi : i < n) : ∀ j, j < n - 1 → ∃ j', j' < n ∧ j' ≠ i ∧ dropX X i j = X j' ∧ (j < i → j' = j) ∧ (¬ j < i → j' = j + 1) := fun j hj => by
  unfold dropX
  by_cases h : j < i
  · rw [if_pos h]; exact ⟨j, by omega, by omega, rfl, fun _ => rfl, fun h' => absurd h h'⟩
  · rw [if_neg h]; exact ⟨j + 1, by omega, by omega, rfl, fun h' => absurd h' h, fun _ => rfl⟩
theorem dropX_of {X : Nat → Bf} {n i : Nat} (hi : i < n) (j : Nat) (hj : j < n) (hne : j ≠ i) : ∃ j', j' < n - 1 ∧ dropX X i j' = X j := by
  by_cases h : j < i
  · exact ⟨j, by omega, by unfold dropX; rw [if_pos h]⟩
  · exact ⟨j - 1, by omega, by unfold dropX; rw [if_neg (by omega), show j - 1 + 1 = j by omega]⟩
theorem Fc.drop {wb w : World} {n i : Nat} {X : Nat → Bf} (k : Fc wb w n X) (hi : i < n) : Fc wb w (n - 1) (dropX X i) := by
  refine ⟨fun j hj => ?_, fun j hj => ?_, fun a b ha hb e => ?_, fun j hj => ?_⟩
  · obtain ⟨j', hj', _, e, _⟩ := dropX_at (X := X) hi j hj
    rw [e]; exact k.cl j' hj'
  · obtain ⟨j', hj', _, e, _⟩ := dropX_at (X := X) hi j hj
    rw [e]; exact k.ld j' hj'
  · obtain ⟨a', ha', _, ea, a1, a2⟩ := dropX_at (X := X) hi a ha
    obtain ⟨b', hb', _, eb, b1, b2⟩ := dropX_at (X := X) hi b hb
    rw [ea, eb] at e
    have := k.pa a' b' ha' hb' e
    by_cases h1 : a < i
    · by_cases h2 : b < i
      · rw [a1 h1, b1 h2] at this; exact this
      · rw [a1 h1, b2 h2] at this; omega
    · by_cases h2 : b < i
      · rw [a2 h1, b1 h2] at this; omega
      · rw [a2 h1, b2 h2] at this; omega
  · obtain ⟨j', hj', _, e, _⟩ := dropX_at (X := X) hi j hj
    rw [e]; exact k.bl j' hj'
theorem Pz.use [E : Ext] {wb w w' : World} {S D L bf n : Nat} {m : Int} {X : Nat → Bf} {y : Bf} (bel : Below wb.heap.size wb w) (fr : Fresh wb D 14) (st : ∃ cs t fz, w.heap[S]? = some (.cells cs t fz) ∧ t ≠ 5) (k : Fc wb w n X) (hy : y.fi = 0 ∧ y.ls = 0 ∧ y.pg < 10 ∧ y.pn ≤ 100) (hl : Own w wb.heap.size y.ld (lst (fun _ => 0) 112)) (hb : wb.heap.size ≤ y.b) (hpg : ∀ j, j < n → (X j).pg ≠ y.pg) (hn : n < bf ∧ bf ≤ 5) (stt : ∃ cs fz, w.heap[S]? = some (.cells cs 91 fz)) (pl : Pl w S)
    (h : Ps wb.heap.size w' S m D L 4 10 bf (n + 1) (snocX X n y)) (hp : Part (Fr wb.heap.size S w) w w') : Pz wb w' S m D L bf (n + 1) (snocX X n y) := by
  have e1 : snocX X n y n = y := by unfold snocX; rw [if_pos rfl]
  have e2 : ∀ j, j ≠ n → snocX X n y j = X j := fun j hj => by unfold snocX; rw [if_neg hj]
  refine ⟨bel.trans (Fr.below hp bel.size), fr, h, fun j hj => ?_, fun j hj => ?_, fun a b ha hb' e => ?_, fun j hj => ?_, by omega, pl_fr stt pl hp⟩
  · by_cases h : j = n
    · subst h; rw [e1]; exact hy
    · rw [e2 j h]; exact k.cl j (by omega)
  · by_cases h : j = n
    · subst h; rw [e1]; exact hl.fr hp st
    · rw [e2 j h]; exact (k.ld j (by omega)).fr hp st
  · by_cases h1 : a = n
    · by_cases h2 : b = n
      · omega
      · rw [h1, e1, e2 b h2] at e; exact absurd e.symm (hpg b (by omega))
    · by_cases h2 : b = n
      · rw [h2, e1, e2 a h1] at e; exact absurd e (hpg a (by omega))
      · rw [e2 a h1, e2 b h2] at e; exact k.pa a b (by omega) (by omega) e
  · by_cases h : j = n
    · subst h; rw [e1]; exact hb
    · rw [e2 j h]; exact k.bl j (by omega)
/-- A page's pins: of one that is not held none. -/
def PinAt (X : Nat → Bf) (n q p : Nat) : Prop := (∃ j, j < n ∧ (X j).pg = q ∧ (X j).pn = p) ∨ (p = 0 ∧ ∀ j, j < n → (X j).pg ≠ q)
/-- What bring leaves, when it goes. -/
def Brt [E : Ext] (wb w : World) (S : Nat) (m : Int) (D L bf n : Nat) (X : Nat → Bf) (z n' : Nat) (X' : Nat → Bf) : Prop := Pz wb w S m D L bf (n' + 1) X' ∧ (X' n').pg = z ∧ ∀ q p, PinAt X n q p → PinAt X' (n' + 1) q p
theorem snoc_at (X : Nat → Bf) (n : Nat) (y : Bf) : snocX X n y n = y := by unfold snocX; rw [if_pos rfl]
theorem snoc_lt (X : Nat → Bf) (n : Nat) (y : Bf) {j : Nat} (h : j < n) : snocX X n y j = X j := by unfold snocX; rw [if_neg (by omega)]
theorem pin_found {X : Nat → Bf} {n k : Nat} (hk : k < n) (q p : Nat) (h : PinAt X n q p) : PinAt (snocX (dropX X k) (n - 1) (X k)) (n - 1 + 1) q p := by
  rcases h with ⟨j, hj, h1, h2⟩ | ⟨rfl, h⟩
  · by_cases e : j = k
    · subst e; exact .inl ⟨n - 1, by omega, by rw [snoc_at]; exact h1, by rw [snoc_at]; exact h2⟩
    · obtain ⟨j', hj', e'⟩ := dropX_of (X := X) hk j hj e
      exact .inl ⟨j', by omega, by rw [snoc_lt _ _ _ hj', e']; exact h1, by rw [snoc_lt _ _ _ hj', e']; exact h2⟩
  · refine .inr ⟨rfl, fun j hj => ?_⟩
    by_cases e : j = n - 1
    · subst e; rw [snoc_at]; exact h k hk
    · rw [snoc_lt _ _ _ (show j < n - 1 by omega)]
      obtain ⟨j', hj', _, e', _⟩ := dropX_at (X := X) hk j (by omega)
      rw [e']; exact h j' hj'
theorem pin_room {X : Nat → Bf} {n : Nat} {y : Bf} (hy : y.pn = 0) (hno : ∀ j, j < n → (X j).pg ≠ y.pg) (q p : Nat) (h : PinAt X n q p) : PinAt (snocX X n y) (n + 1) q p := by
  rcases h with ⟨j, hj, h1, h2⟩ | ⟨rfl, h⟩
  · exact .inl ⟨j, by omega, by rw [snoc_lt _ _ _ hj]; exact h1, by rw [snoc_lt _ _ _ hj]; exact h2⟩
  · by_cases e : y.pg = q
    · exact .inl ⟨n, by omega, by rw [snoc_at]; exact e, by rw [snoc_at]; exact hy⟩
    · refine .inr ⟨rfl, fun j hj => ?_⟩
      by_cases e' : j = n
      · subst e'; rw [snoc_at]; exact e
      · rw [snoc_lt _ _ _ (show j < n by omega)]; exact h j (by omega)
theorem pin_drop {X : Nat → Bf} {n i : Nat} (hi : i < n) (hp : (X i).pn = 0) (pa : ∀ a b, a < n → b < n → (X a).pg = (X b).pg → a = b) (q p : Nat) (h : PinAt X n q p) : PinAt (dropX X i) (n - 1) q p := by
  rcases h with ⟨j, hj, h1, h2⟩ | ⟨rfl, h⟩
  · by_cases e : j = i
    · subst e
      refine .inr ⟨by omega, fun a ha => ?_⟩
      obtain ⟨a', ha', hne, e', _⟩ := dropX_at (X := X) hi a ha
      rw [e', ← h1]
      exact fun e => hne (pa a' j ha' hj e)
    · obtain ⟨j', hj', e'⟩ := dropX_of (X := X) hi j hj e
      exact .inl ⟨j', hj', by rw [e']; exact h1, by rw [e']; exact h2⟩
  · refine .inr ⟨rfl, fun j hj => ?_⟩
    obtain ⟨j', hj', _, e', _⟩ := dropX_at (X := X) hi j hj
    rw [e']; exact h j' hj'

theorem Fd.uniq {X : Nat → Bf} {n : Nat} {z : Int} {u v : Value} (h : Fd X n z u) (h' : Fd X n z v) : u = v := by
  rcases h with ⟨k, hk, e, hn, rfl⟩ | ⟨hn, rfl⟩ <;> rcases h' with ⟨k', hk', e', hn', rfl⟩ | ⟨hn', rfl⟩
  · rcases Nat.lt_trichotomy k k' with h | h | h
    · exact absurd e (hn' k h)
    · rw [h]
    · exact absurd e' (hn k' h)
  · exact absurd e (hn' k hk)
  · exact absurd e' (hn k' hk')
  · rfl
set_option maxRecDepth 100000 in
set_option maxHeartbeats 2000000 in
/-- bring of a page that is held. -/
theorem s_bring_held [E : Ext] {wb w : World} {S D L bf n : Nat} {m : Int} {X : Nat → Bf} (k : Pz wb w S m D L bf n X) (i : Nat) (hi : i < n) : Calls Tryz.prog 44 #[.pointer (some ⟨S, 0, none⟩), .int .i64 ((X i).pg : Int)] w fun r w' => ∃ n' X', r = .returned (.tuple #[ptr (X' n').b, .int .i64 0]) ∧ Hid (Brt wb w' S m D L bf n X (X i).pg n' X') := by
  have nb := k.nb
  have hfd : Fd X n ((X i).pg : Int) (ptr (X i).b) := .inl ⟨i, hi, rfl, fun j hj e => by
    have := k.pa j i (by omega) hi (by omega)
    omega, rfl⟩
  have HF : Hid (Calls Tryz.prog 46 #[.pointer (some ⟨S, 7, none⟩), .int .i64 ((X i).pg : Int)] w fun r w' => r = .returned (ptr (X i).b) ∧ w' = w) := (t_find k.ps _).mono fun r w' ⟨v, hr, hv, hw⟩ => ⟨by rw [hr, hv.uniq hfd], hw⟩
  have HU : Hid (Calls Tryz.prog 72 #[.pointer (some ⟨S, 7, none⟩), ptr (X i).b] w fun r w' => r = .returned (.tuple #[]) ∧ Hid (Brt wb w' S m D L bf n X (X i).pg (n - 1) (snocX (dropX X i) (n - 1) (X i)))) :=
    (t_use (X := dropX X i) (y := X i) (by omega) (t_drop k.ps i hi) (k.ps.buf i hi) (fun e => by
      obtain ⟨held, h1, _⟩ := k.ps.lay
      have := k.ps.buf i hi
      rw [e, h1] at this
      injection this with this
      injection this with _ this
      exact absurd this (by decide)) (fun j hj e => by
      obtain ⟨j', hj', hne, e', _⟩ := dropX_at (X := X) hi j hj
      rw [e'] at e
      exact hne (k.ps.apart j' i hj' hi e))).mono fun r w' ⟨hr, HE⟩ => ⟨hr, Pz.use k.bel k.fr k.ps.state (k.fc.drop hi) (k.cl i hi) (k.ld i hi) (k.bl i hi) (fun j hj e => by
      obtain ⟨j', hj', hne, e', _⟩ := dropX_at (X := X) hi j hj
      rw [e'] at e
      exact hne (k.pa j' i hj' hi e)) (by omega) k.st k.pl HE.out.1 HE.out.2, by rw [snoc_at], fun q p h => pin_found hi q p h⟩
  have hb : (snocX (dropX X i) (n - 1) (X i) (n - 1)).b = (X i).b := by rw [snoc_at]
  obtain ⟨X', hX'⟩ : ∃ X', snocX (dropX X i) (n - 1) (X i) = X' := ⟨_, rfl⟩
  rw [hX'] at HU hb
  obtain ⟨b, hbb⟩ : ∃ b, (X i).b = b := ⟨_, rfl⟩
  have HX : Hid ((X' (n - 1)).b = b) := hb.trans hbb
  rw [hbb] at HF HU
  unfold ptr at HF HU
  clear k hfd hb hbb hX'
  go_enter Tryz.func44, Tryz.ntmps44
  go_wp2_with fail
  refine HF.out.mono ?_
  rintro r w1 ⟨rfl, hw⟩
  obtain rfl : w = w1 := hw.symm
  clear hw
  go_wp2_with fail
  refine HU.out.mono ?_
  rintro r w1 ⟨rfl, HE⟩
  go_wp2
  go_ret2
  exact ⟨n - 1, X', by rw [HX.out]; rfl, HE⟩
set_option maxRecDepth 100000 in
set_option maxHeartbeats 2000000 in
/-- bring of a page that is not held, told by what read leaves. -/
theorem s_bring_new [E : Ext] {wb w : World} {S D L bf n n1 : Nat} {m : Int} {X X1 : Nat → Bf} (k : Pz wb w S m D L bf n X) (z : Nat) (hz : z < 10) (hno : ∀ j, j < n → (X j).pg ≠ z) (hn1 : n1 < bf) (hno1 : ∀ j, j < n1 → (X1 j).pg ≠ z) (hpin : ∀ q p, PinAt X n q p → PinAt X1 n1 q p)
    (hr : Calls Tryz.prog 71 #[.pointer (some ⟨S, 0, none⟩), .int .i64 (z : Int)] w fun r w' => ∃ y : Bf, r = .returned (.tuple #[ptr y.b, .int .i64 0]) ∧ Hid (Nw wb w' S D L bf n1 m X1 y z)) : Calls Tryz.prog 44 #[.pointer (some ⟨S, 0, none⟩), .int .i64 (z : Int)] w fun r w' => ∃ n' X', r = .returned (.tuple #[ptr (X' n').b, .int .i64 0]) ∧ Hid (Brt wb w' S m D L bf n X z n' X') := by
  have nb := k.nb
  have hfd : Fd X n (z : Int) (.pointer none) := .inr ⟨fun j hj e => hno j hj (by omega), rfl⟩
  have HF : Hid (Calls Tryz.prog 46 #[.pointer (some ⟨S, 7, none⟩), .int .i64 (z : Int)] w fun r w' => r = .returned (.pointer none) ∧ w' = w) := (t_find k.ps _).mono fun r w' ⟨v, hr, hv, hw⟩ => ⟨by rw [hr, hv.uniq hfd], hw⟩
  have HR : Hid (Calls Tryz.prog 71 #[.pointer (some ⟨S, 0, none⟩), .int .i64 (z : Int)] w fun r w' => ∃ b, r = .returned (.tuple #[.pointer (some ⟨b, 0, none⟩), .int .i64 0]) ∧ Hid (Calls Tryz.prog 72 #[.pointer (some ⟨S, 7, none⟩), .pointer (some ⟨b, 0, none⟩)] w' fun r w2 => r = .returned (.tuple #[]) ∧ ∃ n' X', Hid ((X' n').b = b) ∧ Hid (Brt wb w2 S m D L bf n X z n' X'))) := hr.mono fun r w' ⟨y, hr, HE⟩ => by
    have e := HE.out
    refine ⟨y.b, hr, ?_⟩
    exact (t_use (X := X1) (y := y) (by omega) (t_drop_no e.pz.ps y.b ⟨_, e.at_⟩ e.ne) e.at_ e.nS e.ne).mono fun r w2 ⟨hr2, HE2⟩ => ⟨hr2, n1, snocX X1 n1 y, (by rw [snoc_at]; rfl), Pz.use e.pz.bel e.pz.fr e.pz.ps.state e.pz.fc (by have := e.is; omega) e.ld e.lo (fun j hj h => hno1 j hj (by rw [h]; exact e.is.1)) (by omega) e.pz.st e.pz.pl HE2.out.1 HE2.out.2, by rw [snoc_at]; exact e.is.1, fun q p h => pin_room e.is.2.2.2 (fun j hj h => hno1 j hj (by rw [h]; exact e.is.1)) q p (hpin q p h)⟩
  clear k hfd hr hno hno1 hpin
  go_enter Tryz.func44, Tryz.ntmps44
  go_wp2_with fail
  refine HF.out.mono ?_
  rintro r w1 ⟨rfl, hw⟩
  obtain rfl : w = w1 := hw.symm
  clear hw
  go_wp2_with fail
  refine HR.out.mono ?_
  rintro r w1 ⟨b, rfl, HU⟩
  go_wp2_with fail
  refine HU.out.mono ?_
  rintro r w2 ⟨rfl, n', X', HX, HE⟩
  go_wp2
  go_ret2
  exact ⟨n', X', by rw [HX.out]; rfl, HE⟩
set_option maxRecDepth 100000 in
set_option maxHeartbeats 2000000 in
/-- bring where all are pinned. -/
theorem s_bring_no [E : Ext] {wb w : World} {S D L bf n : Nat} {m : Int} {X : Nat → Bf} (k : Pz wb w S m D L bf n X) (z : Nat) (hno : ∀ j, j < n → (X j).pg ≠ z) (hn : n = bf) (hp : ∀ j, j < n → (X j).pn ≠ 0) : Calls Tryz.prog 44 #[.pointer (some ⟨S, 0, none⟩), .int .i64 (z : Int)] w fun r w' => r = .returned (.tuple #[.pointer none, .int .i64 50]) ∧ Hid (Pz wb w' S m D L bf n X) := by
  have hfd : Fd X n (z : Int) (.pointer none) := .inr ⟨fun j hj e => hno j hj (by omega), rfl⟩
  have HF : Hid (Calls Tryz.prog 46 #[.pointer (some ⟨S, 7, none⟩), .int .i64 (z : Int)] w fun r w' => r = .returned (.pointer none) ∧ w' = w) := (t_find k.ps _).mono fun r w' ⟨v, hr, hv, hw⟩ => ⟨by rw [hr, hv.uniq hfd], hw⟩
  have HR : Hid (Calls Tryz.prog 71 #[.pointer (some ⟨S, 0, none⟩), .int .i64 (z : Int)] w fun r w' => r = .returned (.tuple #[.pointer none, .int .i64 50]) ∧ Hid (Pz wb w' S m D L bf n X)) := (s_read_no k z hn hp).mono fun r w' ⟨hr, hd⟩ => ⟨hr, k.below hd.below⟩
  clear k hfd hno hn hp
  go_enter Tryz.func44, Tryz.ntmps44
  go_wp2_with fail
  refine HF.out.mono ?_
  rintro r w1 ⟨rfl, hw⟩
  obtain rfl : w = w1 := hw.symm
  clear hw
  go_wp2_with fail
  refine HR.out.mono ?_
  rintro r w1 ⟨rfl, HE⟩
  go_wp2
  go_ret2
  exact ⟨rfl, HE⟩
/-- bring: it goes, or all buffers are pinned. -/
theorem s_bring [E : Ext] {wb w : World} {S D L bf n : Nat} {m : Int} {X : Nat → Bf} (k : Pz wb w S m D L bf n X) (z : Nat) (hz : z < 10) : Calls Tryz.prog 44 #[.pointer (some ⟨S, 0, none⟩), .int .i64 (z : Int)] w fun r w' => (∃ n' X', r = .returned (.tuple #[ptr (X' n').b, .int .i64 0]) ∧ Hid (Brt wb w' S m D L bf n X z n' X')) ∨ (r = .returned (.tuple #[.pointer none, .int .i64 50]) ∧ Hid (Pz wb w' S m D L bf n X)) := by
  have nb := k.nb
  by_cases h : ∃ i, i < n ∧ (X i).pg = z
  · obtain ⟨i, hi, rfl⟩ := h
    exact (s_bring_held k i hi).mono fun r w' h => .inl h
  · have hno : ∀ j, j < n → (X j).pg ≠ z := fun j hj e => h ⟨j, hj, e⟩
    by_cases hn : n < bf
    · exact (s_bring_new k z hz hno hn hno (fun q p h => h) (s_read_room k z hz hn)).mono fun r w' h => .inl h
    · have hn : n = bf := by omega
      by_cases hp : ∃ i, i < n ∧ (X i).pn = 0
      · obtain ⟨i, hi, e⟩ := hp
        induction i using Nat.strongRecOn with
        | _ i ih =>
          by_cases h2 : ∃ j, j < i ∧ (X j).pn = 0
          · obtain ⟨j, hj, ej⟩ := h2
            exact ih j hj (by omega) ej
          · have hq0 : ∀ j, j < i → (X j).pn ≠ 0 := fun j hj ej => h2 ⟨j, hj, ej⟩
            exact (s_bring_new k z hz hno (show n - 1 < bf by omega) (fun j hj e' => by
              obtain ⟨j', hj', _, e2, _⟩ := dropX_at (X := X) hi j hj
              rw [e2] at e'
              exact hno j' hj' e') (fun q p h => pin_drop hi e k.pa q p h) (s_read_evict k z hz hn i hi e hq0)).mono fun r w' h => .inl h
      · exact (s_bring_no k z hno hn (fun j hj e => hp ⟨j, hj, e⟩)).mono fun r w' h => .inr h
end Go.Proofs.YtnaobkpncfbnaaaGreatDoor
