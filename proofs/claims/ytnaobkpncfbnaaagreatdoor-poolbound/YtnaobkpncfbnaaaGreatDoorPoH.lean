/-
  A pool's calls over clean pages: Pin, Get.
-/
import Derived.Test.YtnaobkpncfbnaaaGreatDoorPoG
namespace Go.Proofs.YtnaobkpncfbnaaaGreatDoor
open Go.RowKit
set_option linter.unusedVariables false

theorem PinAt.uniq {X : Nat → Bf} {n q p p' : Nat} (pa : ∀ i j, i < n → j < n → (X i).pg = (X j).pg → i = j) (h : PinAt X n q p) (h' : PinAt X n q p') : p = p' := by
  rcases h with ⟨j, hj, h1, h2⟩ | ⟨rfl, h⟩ <;> rcases h' with ⟨j', hj', h1', h2'⟩ | ⟨rfl, h'⟩
  · obtain rfl := pa j j' hj hj' (by rw [h1, h1'])
    rw [← h2, ← h2']
  · exact absurd h1 (h' j hj)
  · exact absurd h1' (h j' hj')
  · rfl
theorem pin_pinX {X : Nat → Bf} {n t p0 z : Nat} (ht : t < n) (hz : (X t).pg = z) (pa : ∀ i j, i < n → j < n → (X i).pg = (X j).pg → i = j) (q p : Nat) (h : PinAt X n q p) : PinAt (pinX X t p0) n q (if q = z then p0 else p) := by
  by_cases e : q = z
  · rw [if_pos e]
    refine .inl ⟨t, ht, by rw [(pinX_b X t p0 t).2.1, hz, e], ?_⟩
    unfold pinX; rw [if_pos rfl]
  · rw [if_neg e]
    rcases h with ⟨j, hj, h1, h2⟩ | ⟨rfl, h⟩
    · refine .inl ⟨j, hj, by rw [(pinX_b X t p0 j).2.1]; exact h1, ?_⟩
      unfold pinX
      rw [if_neg (fun ej => e (by rw [← h1, ej, hz]))]
      exact h2
    · exact .inr ⟨rfl, fun j hj => by rw [(pinX_b X t p0 j).2.1]; exact h j hj⟩
/-- What a call that pins leaves. -/
def Pnd [E : Ext] (wb w : World) (S D L bf n : Nat) (X : Nat → Bf) (z : Nat) (e : Int) : Prop := ∃ n' X', Pz wb w S 0 D L bf n' X' ∧ ((e = 0 ∧ ∀ q p, PinAt X n q p → PinAt X' n' q (if q = z then p + 1 else p)) ∨ (e ≠ 0 ∧ ∀ q p, PinAt X n q p → PinAt X' n' q p))
/-- bring, with the pins of the page that is brought. -/
theorem z_bring [E : Ext] {wb w : World} {S D L bf n : Nat} {m : Int} {X : Nat → Bf} (k : Pz wb w S m D L bf n X) (z p : Nat) (hz : z < 10) (hp : PinAt X n z p) : Calls Tryz.prog 44 #[.pointer (some ⟨S, 0, none⟩), .int .i64 (z : Int)] w fun r w' => (∃ b n' X', r = .returned (.tuple #[.pointer (some ⟨b, 0, none⟩), .int .i64 0]) ∧ Hid ((X' n').b = b ∧ (X' n').pn = p ∧ Brt wb w' S m D L bf n X z n' X')) ∨ (r = .returned (.tuple #[.pointer none, .int .i64 50]) ∧ Hid (Pz wb w' S m D L bf n X)) :=
  (s_bring k z hz).mono fun r w' h => by
    rcases h with ⟨n', X', hr, HE⟩ | h
    · refine .inl ⟨_, n', X', hr, rfl, ?_, HE.out⟩
      exact PinAt.uniq HE.out.1.pa (.inl ⟨n', by omega, HE.out.2.1, rfl⟩) (HE.out.2.2 z p hp)
    · exact .inr h
set_option maxRecDepth 100000 in
set_option maxHeartbeats 2000000 in
theorem z_pin_full [E : Ext] {wb w : World} {S D L bf n : Nat} {X : Nat → Bf} (k : Pz wb w S 0 D L bf n X) (i : Nat) (hi : i < n) (hp : (X i).pn = 100) : Calls Tryz.prog 19 #[.pointer (some ⟨S + 1, 0, none⟩), .int .i64 ((X i).pg : Int)] w fun r w' => r = .returned (.int .i64 3) ∧ Hid (Pz wb w' S 0 D L bf n X) := by
  have HM : Hid (Calls Tryz.prog 40 #[.pointer (some ⟨S + 1, 0, none⟩)] w fun r w' => r = .returned (.bool false) ∧ w' = w) := z_missing k
  have HL : Hid (Calls Tryz.prog 41 #[.pointer (some ⟨S, 0, none⟩)] w fun r w' => r = .returned (.tuple #[]) ∧ Hid (Pz wb w' S 1 D L bf n X)) := z_lock k
  have c0 := k.cells
  obtain ⟨b, hb⟩ : ∃ b, (X i).b = b := ⟨_, rfl⟩
  obtain ⟨z, hz⟩ : ∃ z, (X i).pg = z := ⟨_, rfl⟩
  have HC : Hid (∀ wq, Pz wb wq S 1 D L bf n X → wq.cell? ⟨S + 1, 0, none⟩ = some (.pointer (some ⟨S, 0, none⟩)) ∧ Hid (Calls Tryz.prog 43 #[.pointer (some ⟨S, 0, none⟩), .int .i64 (z : Int)] wq fun r w' => r = .returned (.bool true) ∧ w' = wq) ∧ Hid (Calls Tryz.prog 46 #[.pointer (some ⟨S, 7, none⟩), .int .i64 (z : Int)] wq fun r w' => r = .returned (.pointer (some ⟨b, 0, none⟩)) ∧ w' = wq)) := fun wq kq => ⟨kq.cells, z_has kq z (by rw [← hz]; exact (kq.cl i hi).2.2.1), by rw [← hz, ← hb]; exact z_find_at kq i hi⟩
  have HP : Hid (∀ wq, Pz wb wq S 1 D L bf n X → wq.cell? ⟨b, 4, none⟩ = some (.int .i64 100)) := fun wq kq => by rw [← hb, (kq.pin_cell i hi).1, hp]; rfl
  rw [hz]
  clear k hb hz hp
  go_enter_defers Tryz.func19, Tryz.ntmps19
  go_wp2_with fail
  refine HM.out.mono ?_
  rintro r w1 ⟨rfl, hw⟩
  obtain rfl : w = w1 := hw.symm
  clear hw
  go_wp2_with fail
  refine HL.out.mono ?_
  rintro r w1 ⟨rfl, k1⟩
  obtain ⟨c1, HH, HF⟩ := HC.out _ k1.out
  clear c0 HM HL
  go_wp2_with fail
  refine HH.out.mono ?_
  rintro r w2 ⟨rfl, hw⟩
  obtain rfl : w1 = w2 := hw.symm
  clear hw
  go_wp2_with fail
  refine HF.out.mono ?_
  rintro r w2 ⟨rfl, hw⟩
  obtain rfl : w1 = w2 := hw.symm
  clear hw
  have p4 := HP.out _ k1.out
  go_wp2
  refine leaves_cons (f := 42) (args := #[.pointer (some ⟨S, 0, none⟩)]) (by simp) (by simp [go_sem]) ?_
  refine (z_unlock k1.out .returning).mono ?_
  rintro e u' w9 ⟨rfl, rfl, HZ⟩
  exact ⟨_, results_tmp rfl _ _ _, rfl, HZ⟩
set_option maxRecDepth 100000 in
set_option maxHeartbeats 2000000 in
theorem z_pin_held [E : Ext] {wb w : World} {S D L bf n : Nat} {X : Nat → Bf} (k : Pz wb w S 0 D L bf n X) (i p : Nat) (hi : i < n) (hp : (X i).pn = p) (hp100 : p < 100) : Calls Tryz.prog 19 #[.pointer (some ⟨S + 1, 0, none⟩), .int .i64 ((X i).pg : Int)] w fun r w' => ∃ e, r = .returned (.int .i64 e) ∧ Hid (Pnd wb w' S D L bf n X (X i).pg e) := by
  have HM : Hid (Calls Tryz.prog 40 #[.pointer (some ⟨S + 1, 0, none⟩)] w fun r w' => r = .returned (.bool false) ∧ w' = w) := z_missing k
  have HL : Hid (Calls Tryz.prog 41 #[.pointer (some ⟨S, 0, none⟩)] w fun r w' => r = .returned (.tuple #[]) ∧ Hid (Pz wb w' S 1 D L bf n X)) := z_lock k
  have c0 := k.cells
  obtain ⟨b, hb⟩ : ∃ b, (X i).b = b := ⟨_, rfl⟩
  obtain ⟨z, hz⟩ : ∃ z, (X i).pg = z := ⟨_, rfl⟩
  have hz10 : z < 10 := by rw [← hz]; exact (k.cl i hi).2.2.1
  have hpin : PinAt X n z p := .inl ⟨i, hi, hz, hp⟩
  have HC : Hid (∀ wq, Pz wb wq S 1 D L bf n X → wq.cell? ⟨S + 1, 0, none⟩ = some (.pointer (some ⟨S, 0, none⟩)) ∧ Hid (Calls Tryz.prog 43 #[.pointer (some ⟨S, 0, none⟩), .int .i64 (z : Int)] wq fun r w' => r = .returned (.bool true) ∧ w' = wq) ∧ Hid (Calls Tryz.prog 46 #[.pointer (some ⟨S, 7, none⟩), .int .i64 (z : Int)] wq fun r w' => r = .returned (.pointer (some ⟨b, 0, none⟩)) ∧ w' = wq)) := fun wq kq => ⟨kq.cells, z_has kq z hz10, by rw [← hz, ← hb]; exact z_find_at kq i hi⟩
  have HB : Hid (∀ wq, Pz wb wq S 1 D L bf n X → Calls Tryz.prog 44 #[.pointer (some ⟨S, 0, none⟩), .int .i64 (z : Int)] wq fun r w' => (∃ b n' X', r = .returned (.tuple #[.pointer (some ⟨b, 0, none⟩), .int .i64 0]) ∧ w'.cell? ⟨b, 4, none⟩ = some (.int .i64 (p : Int)) ∧ w'.frozen? ⟨b, 4, none⟩ = false ∧ Hid (Pz wb (w'.setCell ⟨b, 4, none⟩ (.int .i64 ((p : Int) + 1))) S 1 D L bf (n' + 1) (pinX X' n' (p + 1)) ∧ ∀ q r, PinAt X n q r → PinAt (pinX X' n' (p + 1)) (n' + 1) q (if q = z then r + 1 else r))) ∨ (r = .returned (.tuple #[.pointer none, .int .i64 50]) ∧ Hid (Pz wb w' S 1 D L bf n X))) := fun wq kq => (z_bring kq z p hz10 hpin).mono fun r w' h => by
    rcases h with ⟨b, n', X', hr, HE⟩ | h
    · obtain ⟨e1, e2, e3, e4, e5⟩ := HE.out
      refine .inl ⟨b, n', X', hr, ?_, ?_, ?_, fun q r h => ?_⟩
      · rw [← e1, (e3.pin_cell n' (by omega)).1, e2]
      · rw [← e1]; exact (e3.pin_cell n' (by omega)).2
      · have := e3.pin n' (p + 1) (by omega) (by omega)
        rw [e1] at this
        exact this
      · have h5 := pin_pinX (p0 := p + 1) (show n' < n' + 1 by omega) e4 e3.pa q r (e5 q r h)
        by_cases e : q = z
        · rw [if_pos e] at h5 ⊢
          subst e
          rw [PinAt.uniq kq.pa h hpin]
          exact h5
        · rw [if_neg e] at h5 ⊢
          exact h5
    · exact .inr h
  have HP : Hid (∀ wq, Pz wb wq S 1 D L bf n X → wq.cell? ⟨b, 4, none⟩ = some (.int .i64 (p : Int))) := fun wq kq => by rw [← hb, (kq.pin_cell i hi).1, hp]
  rw [hz]
  have hp' : (p : Int) < 100 := by omega
  have hp0 : (0 : Int) ≤ (p : Int) := by omega
  have d1 : ((p : Int) == 100) = false := by
    have : (p : Int) ≠ 100 := by omega
    simpa using this
  clear k hb hz hp hpin
  go_enter_defers Tryz.func19, Tryz.ntmps19
  go_wp2_with fail
  refine HM.out.mono ?_
  rintro r w1 ⟨rfl, hw⟩
  obtain rfl : w = w1 := hw.symm
  clear hw
  go_wp2_with fail
  refine HL.out.mono ?_
  rintro r w1 ⟨rfl, k1⟩
  obtain ⟨c1, HH, HF⟩ := HC.out _ k1.out
  clear c0 HM HL
  go_wp2_with fail
  refine HH.out.mono ?_
  rintro r w2 ⟨rfl, hw⟩
  obtain rfl : w1 = w2 := hw.symm
  clear hw
  go_wp2_with fail
  refine HF.out.mono ?_
  rintro r w2 ⟨rfl, hw⟩
  obtain rfl : w1 = w2 := hw.symm
  clear hw
  have p4 := HP.out _ k1.out
  go_wp2_with fail
  refine (HB.out _ k1.out).mono ?_
  rintro r w2 (⟨b', n', X', rfl, x1, x2, HE⟩ | ⟨rfl, HE⟩)
  · go_wp2
    refine leaves_cons (f := 42) (args := #[.pointer (some ⟨S, 0, none⟩)]) (by simp) (by simp [go_sem]) ?_
    refine (z_unlock HE.out.1 .returning).mono ?_
    rintro e u' w9 ⟨rfl, rfl, HZ⟩
    exact ⟨_, results_tmp rfl _ _ _, _, rfl, _, _, HZ.out, .inl ⟨rfl, HE.out.2⟩⟩
  · go_wp2
    refine leaves_cons (f := 42) (args := #[.pointer (some ⟨S, 0, none⟩)]) (by simp) (by simp [go_sem]) ?_
    refine (z_unlock HE.out .returning).mono ?_
    rintro e u' w9 ⟨rfl, rfl, HZ⟩
    exact ⟨_, results_tmp rfl _ _ _, _, rfl, _, _, HZ.out, .inr ⟨by decide, fun q p h => h⟩⟩
set_option maxRecDepth 100000 in
set_option maxHeartbeats 2000000 in
theorem z_pin_new [E : Ext] {wb w : World} {S D L bf n : Nat} {X : Nat → Bf} (k : Pz wb w S 0 D L bf n X) (z : Nat) (hz10 : z < 10) (hno : ∀ j, j < n → (X j).pg ≠ z) : Calls Tryz.prog 19 #[.pointer (some ⟨S + 1, 0, none⟩), .int .i64 (z : Int)] w fun r w' => ∃ e, r = .returned (.int .i64 e) ∧ Hid (Pnd wb w' S D L bf n X z e) := by
  have HM : Hid (Calls Tryz.prog 40 #[.pointer (some ⟨S + 1, 0, none⟩)] w fun r w' => r = .returned (.bool false) ∧ w' = w) := z_missing k
  have HL : Hid (Calls Tryz.prog 41 #[.pointer (some ⟨S, 0, none⟩)] w fun r w' => r = .returned (.tuple #[]) ∧ Hid (Pz wb w' S 1 D L bf n X)) := z_lock k
  have c0 := k.cells
  obtain ⟨p, hp0'⟩ : ∃ p : Nat, p = 0 := ⟨0, rfl⟩
  have hp100 : p < 100 := by omega
  have hpin : PinAt X n z p := .inr ⟨hp0', hno⟩
  have HC : Hid (∀ wq, Pz wb wq S 1 D L bf n X → wq.cell? ⟨S + 1, 0, none⟩ = some (.pointer (some ⟨S, 0, none⟩)) ∧ Hid (Calls Tryz.prog 43 #[.pointer (some ⟨S, 0, none⟩), .int .i64 (z : Int)] wq fun r w' => r = .returned (.bool true) ∧ w' = wq) ∧ Hid (Calls Tryz.prog 46 #[.pointer (some ⟨S, 7, none⟩), .int .i64 (z : Int)] wq fun r w' => r = .returned (.pointer none) ∧ w' = wq)) := fun wq kq => ⟨kq.cells, z_has kq z hz10, z_find_no kq z hno⟩
  have HB : Hid (∀ wq, Pz wb wq S 1 D L bf n X → Calls Tryz.prog 44 #[.pointer (some ⟨S, 0, none⟩), .int .i64 (z : Int)] wq fun r w' => (∃ b n' X', r = .returned (.tuple #[.pointer (some ⟨b, 0, none⟩), .int .i64 0]) ∧ w'.cell? ⟨b, 4, none⟩ = some (.int .i64 (p : Int)) ∧ w'.frozen? ⟨b, 4, none⟩ = false ∧ Hid (Pz wb (w'.setCell ⟨b, 4, none⟩ (.int .i64 ((p : Int) + 1))) S 1 D L bf (n' + 1) (pinX X' n' (p + 1)) ∧ ∀ q r, PinAt X n q r → PinAt (pinX X' n' (p + 1)) (n' + 1) q (if q = z then r + 1 else r))) ∨ (r = .returned (.tuple #[.pointer none, .int .i64 50]) ∧ Hid (Pz wb w' S 1 D L bf n X))) := fun wq kq => (z_bring kq z p hz10 hpin).mono fun r w' h => by
    rcases h with ⟨b, n', X', hr, HE⟩ | h
    · obtain ⟨e1, e2, e3, e4, e5⟩ := HE.out
      refine .inl ⟨b, n', X', hr, ?_, ?_, ?_, fun q r h => ?_⟩
      · rw [← e1, (e3.pin_cell n' (by omega)).1, e2]
      · rw [← e1]; exact (e3.pin_cell n' (by omega)).2
      · have := e3.pin n' (p + 1) (by omega) (by omega)
        rw [e1] at this
        exact this
      · have h5 := pin_pinX (p0 := p + 1) (show n' < n' + 1 by omega) e4 e3.pa q r (e5 q r h)
        by_cases e : q = z
        · rw [if_pos e] at h5 ⊢
          subst e
          rw [PinAt.uniq kq.pa h hpin]
          exact h5
        · rw [if_neg e] at h5 ⊢
          exact h5
    · exact .inr h
  have hp' : (p : Int) < 100 := by omega
  have hp0 : (0 : Int) ≤ (p : Int) := by omega
  clear k hno hpin hp0'
  go_enter_defers Tryz.func19, Tryz.ntmps19
  go_wp2_with fail
  refine HM.out.mono ?_
  rintro r w1 ⟨rfl, hw⟩
  obtain rfl : w = w1 := hw.symm
  clear hw
  go_wp2_with fail
  refine HL.out.mono ?_
  rintro r w1 ⟨rfl, k1⟩
  obtain ⟨c1, HH, HF⟩ := HC.out _ k1.out
  clear c0 HM HL
  go_wp2_with fail
  refine HH.out.mono ?_
  rintro r w2 ⟨rfl, hw⟩
  obtain rfl : w1 = w2 := hw.symm
  clear hw
  go_wp2_with fail
  refine HF.out.mono ?_
  rintro r w2 ⟨rfl, hw⟩
  obtain rfl : w1 = w2 := hw.symm
  clear hw
  go_wp2_with fail
  refine (HB.out _ k1.out).mono ?_
  rintro r w2 (⟨b', n', X', rfl, x1, x2, HE⟩ | ⟨rfl, HE⟩)
  · go_wp2
    refine leaves_cons (f := 42) (args := #[.pointer (some ⟨S, 0, none⟩)]) (by simp) (by simp [go_sem]) ?_
    refine (z_unlock HE.out.1 .returning).mono ?_
    rintro e u' w9 ⟨rfl, rfl, HZ⟩
    exact ⟨_, results_tmp rfl _ _ _, _, rfl, _, _, HZ.out, .inl ⟨rfl, HE.out.2⟩⟩
  · go_wp2
    refine leaves_cons (f := 42) (args := #[.pointer (some ⟨S, 0, none⟩)]) (by simp) (by simp [go_sem]) ?_
    refine (z_unlock HE.out .returning).mono ?_
    rintro e u' w9 ⟨rfl, rfl, HZ⟩
    exact ⟨_, results_tmp rfl _ _ _, _, rfl, _, _, HZ.out, .inr ⟨by decide, fun q p h => h⟩⟩
/-- Pin. -/
theorem z_pin [E : Ext] {wb w : World} {S D L bf n : Nat} {X : Nat → Bf} (k : Pz wb w S 0 D L bf n X) (z : Nat) (hz : z < 10) : Calls Tryz.prog 19 #[.pointer (some ⟨S + 1, 0, none⟩), .int .i64 (z : Int)] w fun r w' => ∃ e, r = .returned (.int .i64 e) ∧ Hid (Pnd wb w' S D L bf n X z e) := by
  by_cases h : ∃ i, i < n ∧ (X i).pg = z
  · obtain ⟨i, hi, rfl⟩ := h
    by_cases hp : (X i).pn = 100
    · exact (z_pin_full k i hi hp).mono fun r w' ⟨hr, HE⟩ => ⟨_, hr, _, _, HE.out, .inr ⟨by decide, fun q p h => h⟩⟩
    · exact z_pin_held k i _ hi rfl (by have := (k.cl i hi).2.2.2; omega)
  · exact z_pin_new k z hz (fun j hj e => h ⟨j, hj, e⟩)
/-- Unpin: it goes just where the page has pins. -/
theorem z_unpin [E : Ext] {wb w : World} {S D L bf n : Nat} {X : Nat → Bf} (k : Pz wb w S 0 D L bf n X) (z p : Nat) (hz : z < 10) (hp : PinAt X n z p) : Calls Tryz.prog 20 #[.pointer (some ⟨S + 1, 0, none⟩), .int .i64 (z : Int)] w fun r w' => r = .returned (.int .i64 (if p = 0 then 3 else 0)) ∧ Hid (∃ X', Pz wb w' S 0 D L bf n X' ∧ ∀ q r, PinAt X n q r → PinAt X' n q (if q = z then r - 1 else r)) := by
  rcases hp with ⟨i, hi, rfl, hp⟩ | ⟨rfl, hno⟩
  · cases p with
    | zero => exact (z_unpin_zero k i hi hp).mono fun r w' ⟨hr, HE⟩ => ⟨hr, X, HE.out, fun q r h => by
        by_cases e : q = (X i).pg
        · rw [if_pos e]
          subst e
          rw [PinAt.uniq k.pa h (.inl ⟨i, hi, rfl, hp⟩)]
          exact .inl ⟨i, hi, rfl, hp⟩
        · rw [if_neg e]; exact h⟩
    | succ p => exact (z_unpin_yes k i p hi hp).mono fun r w' ⟨hr, HE⟩ => ⟨hr, pinX X i p, HE.out, fun q r h => by
        have h5 := pin_pinX (p0 := p) hi rfl k.pa q r h
        by_cases e : q = (X i).pg
        · rw [if_pos e] at h5 ⊢
          subst e
          rw [PinAt.uniq k.pa h (.inl ⟨i, hi, rfl, hp⟩)]
          exact h5
        · rw [if_neg e] at h5 ⊢; exact h5⟩
  · exact (z_unpin_none k z hz hno).mono fun r w' ⟨hr, HE⟩ => ⟨hr, X, HE.out, fun q r h => by
      by_cases e : q = z
      · rw [if_pos e]
        subst e
        rw [PinAt.uniq k.pa h (.inr ⟨rfl, hno⟩)]
        exact .inr ⟨rfl, hno⟩
      · rw [if_neg e]; exact h⟩
end Go.Proofs.YtnaobkpncfbnaaaGreatDoor
