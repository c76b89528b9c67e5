/-
  A pool's calls over clean pages: Unpin, Pin.
-/
import Derived.Test.YtnaobkpncfbnaaaGreatDoorPoF
namespace Go.Proofs.YtnaobkpncfbnaaaGreatDoor
open Go.RowKit
set_option linter.unusedVariables false

theorem Pz.locked [E : Ext] {wb w : World} {S D L bf n : Nat} {m : Int} {X : Nat → Bf} (k : Pz wb w S m D L bf n X) (m' : Int) : Pz wb (w.setCell ⟨S, 0, none⟩ (.int .i32 m')) S m' D L bf n X := by
  obtain ⟨h1, h2⟩ := k.ps.locked m'
  exact ⟨k.bel.trans (Fr.below h2 k.bel.size), k.fr, h1, k.cl, fun j hj => (k.ld j hj).fr h2 k.ps.state, k.pa, k.bl, k.nb, pl_fr k.st k.pl h2⟩
theorem Pz.lock_cell [E : Ext] {wb w : World} {S D L bf n : Nat} {m : Int} {X : Nat → Bf} (k : Pz wb w S m D L bf n X) : w.cell? ⟨S, 0, none⟩ = some (.int .i32 m) ∧ w.frozen? ⟨S, 0, none⟩ = false := by
  obtain ⟨held, h1, _⟩ := k.ps.lay
  exact ⟨by rw [cells_at h1 0]; rfl, cells_free h1 0⟩
theorem z_lock [E : Ext] {wb w : World} {S D L bf n : Nat} {X : Nat → Bf} (k : Pz wb w S 0 D L bf n X) : Calls Tryz.prog 41 #[.pointer (some ⟨S, 0, none⟩)] w fun r w' => r = .returned (.tuple #[]) ∧ Hid (Pz wb w' S 1 D L bf n X) :=
  (p_lock S w k.lock_cell.1 k.lock_cell.2).mono fun r w' ⟨hr, hw⟩ => ⟨hr, by rw [hw]; exact k.locked 1⟩
theorem z_unlock [E : Ext] {wb w : World} {S D L bf n : Nat} {X : Nat → Bf} (k : Pz wb w S 1 D L bf n X) (u : FrameMode) : CallsD Tryz.prog 42 #[.pointer (some ⟨S, 0, none⟩)] u w fun e u' w' => u' = u ∧ (e = .returned (.tuple #[]) ∧ Hid (Pz wb w' S 0 D L bf n X)) :=
  (unlock_deferred ⟨S, 0, none⟩ u w k.lock_cell.1 k.lock_cell.2).mono fun e u' w' ⟨h1, h2, h3⟩ => ⟨h1, h2, by rw [h3]; exact k.locked 0⟩
theorem z_missing [E : Ext] {wb w : World} {S D L bf n : Nat} {m : Int} {X : Nat → Bf} (k : Pz wb w S m D L bf n X) : Calls Tryz.prog 40 #[.pointer (some ⟨S + 1, 0, none⟩)] w fun r w' => r = .returned (.bool false) ∧ w' = w := by
  have c0 : w.cell? ⟨S + 1, 0, none⟩ = some (.pointer (some ⟨S, 0, none⟩)) := by rw [cells_at k.pl.1 0]; rfl
  clear k
  go_enter Tryz.func40, Tryz.ntmps40
  go_wp2
  go_ret
  exact ⟨rfl, rfl⟩
theorem z_has [E : Ext] {wb w : World} {S D L bf n : Nat} {m : Int} {X : Nat → Bf} (k : Pz wb w S m D L bf n X) (z : Nat) (hz : z < 10) : Calls Tryz.prog 43 #[.pointer (some ⟨S, 0, none⟩), .int .i64 (z : Int)] w fun r w' => r = .returned (.bool true) ∧ w' = w := by
  obtain ⟨held, h1, _⟩ := k.ps.lay
  have c5 : w.cell? ⟨S, 5, none⟩ = some (.int .i64 10) := by rw [cells_at h1 5]; rfl
  have d1 : decide ((0 : Int) ≤ (z : Int)) = true := decide_eq_true (by omega)
  have d2 : decide ((z : Int) < 10) = true := decide_eq_true (by omega)
  clear k h1
  go_enter Tryz.func43, Tryz.ntmps43
  go_wp2
  go_ret
  exact ⟨rfl, rfl⟩
/-- The same buffers, one of them with other pins. -/
def pinX (X : Nat → Bf) (i p : Nat) : Nat → Bf := fun j => if j = i then { X i with pn := p } else X j
theorem pinX_b (X : Nat → Bf) (i p j : Nat) : (pinX X i p j).b = (X j).b ∧ (pinX X i p j).pg = (X j).pg ∧ (pinX X i p j).fi = (X j).fi ∧ (pinX X i p j).ls = (X j).ls ∧ (pinX X i p j).ld = (X j).ld := by
  unfold pinX
  by_cases h : j = i
  · subst h; rw [if_pos rfl]; exact ⟨rfl, rfl, rfl, rfl, rfl⟩
  · rw [if_neg h]; exact ⟨rfl, rfl, rfl, rfl, rfl⟩
theorem Pz.pin [E : Ext] {wb w : World} {S D L bf n : Nat} {m : Int} {X : Nat → Bf} (k : Pz wb w S m D L bf n X) (i p : Nat) (hi : i < n) (hp : p ≤ 100) : Pz wb (w.setCell ⟨(X i).b, 4, none⟩ (.int .i64 (p : Int))) S m D L bf n (pinX X i p) := by
  obtain ⟨held, h1, h2⟩ := k.ps.lay
  have hb := k.ps.buf i hi
  have hne : ∀ q cs t fz, w.heap[q]? = some (.cells cs t fz) → t ≠ 111 → q ≠ (X i).b := fun q cs t fz hq ht e => by
    rw [e, hb] at hq
    injection hq with hq
    injection hq with _ hq
    exact ht hq.symm
  have pt : Part (fun q => q = (X i).b) w (w.setCell ⟨(X i).b, 4, none⟩ (.int .i64 (p : Int))) := (Part.refl (fun q => q = (X i).b) w).setCell (p := ⟨(X i).b, 4, none⟩) (fun _ => rfl) _
  refine ⟨k.bel.trans (pt.below (fun q hq => by have := k.bl i hi; have hq : q = (X i).b := hq; omega) k.bel.size), k.fr, ⟨⟨held, ?_, ?_⟩, fun j hj => ?_, fun a b ha hb e => ?_, k.ps.nn, k.ps.low⟩, fun j hj => ?_, fun j hj => ?_, fun a b ha hb e => ?_, fun j hj => ?_, k.nb, ?_⟩
  · exact (pt.block S k.ps.lt (hne S _ _ _ h1 (by decide))).trans h1
  · have : Rw wb.heap.size (w.setCell ⟨(X i).b, 4, none⟩ (.int .i64 (p : Int))) held n (fun j => (X j).b) := h2.part pt (fun q hq e => by
      rcases h2.open with ⟨h, _⟩ | ⟨g, c, cur, h, hg, _⟩
      · rw [h] at hq; cases hq
      · rw [h] at hq
        have hq : some g = some q := hq
        injection hq with hq
        subst hq
        exact hne g _ _ _ hg (by decide) e)
    exact this.ext (fun j hj => (pinX_b X i p j).1.symm)
  · rw [(pinX_b X i p j).1]
    by_cases e : j = i
    · subst e
      rw [heap_set_at hb]
      unfold pinX
      rw [if_pos rfl]
      rfl
    · rw [heap_set_other w (fun h => e (k.ps.apart j i hj hi h))]
      rw [k.ps.buf j hj]
      unfold pinX
      rw [if_neg e]
  · rw [(pinX_b X i p a).1, (pinX_b X i p b).1] at e
    exact k.ps.apart a b ha hb e
  · obtain ⟨_, e2, e3, e4, _⟩ := pinX_b X i p j
    rw [e2, e3, e4]
    have := k.cl j hj
    refine ⟨this.1, this.2.1, this.2.2.1, ?_⟩
    unfold pinX
    by_cases e : j = i
    · rw [if_pos e]; exact hp
    · rw [if_neg e]; exact this.2.2.2
  · rw [(pinX_b X i p j).2.2.2.2]
    refine pt.row (k.ld j hj) (fun q hq e => ?_)
    rcases (k.ld j hj).2 with ⟨h, _⟩ | ⟨g, cap, cur, h, _, hg, _⟩
    · rw [h] at hq; cases hq
    · rw [h] at hq
      have hq : some g = some q := hq
      injection hq with hq
      subst hq
      exact hne g _ _ _ hg (by decide) e
  · rw [(pinX_b X i p a).2.1, (pinX_b X i p b).2.1] at e
    exact k.pa a b ha hb e
  · rw [(pinX_b X i p j).1]; exact k.bl j hj
  · refine pl_frame k.pl pt (fun b cs t hf e => ?_)
    have hf : b = (X i).b := hf
    rw [hf, hb] at e
    injection e with e
    injection e with _ e
    subst e
    exact ⟨fun _ => by decide, fun h => absurd h (by decide)⟩
theorem z_find_at [E : Ext] {wb w : World} {S D L bf n : Nat} {m : Int} {X : Nat → Bf} (k : Pz wb w S m D L bf n X) (i : Nat) (hi : i < n) : Calls Tryz.prog 46 #[.pointer (some ⟨S, 7, none⟩), .int .i64 ((X i).pg : Int)] w fun r w' => r = .returned (.pointer (some ⟨(X i).b, 0, none⟩)) ∧ w' = w := by
  have hfd : Fd X n ((X i).pg : Int) (ptr (X i).b) := .inl ⟨i, hi, rfl, fun j hj e => by
    have := k.pa j i (by omega) hi (by omega)
    omega, rfl⟩
  exact (t_find k.ps _).mono fun r w' ⟨v, hr, hv, hw⟩ => ⟨by rw [hr, hv.uniq hfd]; rfl, hw⟩
theorem z_find_no [E : Ext] {wb w : World} {S D L bf n : Nat} {m : Int} {X : Nat → Bf} (k : Pz wb w S m D L bf n X) (z : Nat) (hno : ∀ j, j < n → (X j).pg ≠ z) : Calls Tryz.prog 46 #[.pointer (some ⟨S, 7, none⟩), .int .i64 (z : Int)] w fun r w' => r = .returned (.pointer none) ∧ w' = w := by
  have hfd : Fd X n (z : Int) (.pointer none) := .inr ⟨fun j hj e => hno j hj (by omega), rfl⟩
  exact (t_find k.ps _).mono fun r w' ⟨v, hr, hv, hw⟩ => ⟨by rw [hr, hv.uniq hfd], hw⟩
theorem Pz.cells [E : Ext] {wb w : World} {S D L bf n : Nat} {m : Int} {X : Nat → Bf} (k : Pz wb w S m D L bf n X) : w.cell? ⟨S + 1, 0, none⟩ = some (.pointer (some ⟨S, 0, none⟩)) := by rw [cells_at k.pl.1 0]; rfl
theorem Pz.pin_cell [E : Ext] {wb w : World} {S D L bf n : Nat} {m : Int} {X : Nat → Bf} (k : Pz wb w S m D L bf n X) (i : Nat) (hi : i < n) : w.cell? ⟨(X i).b, 4, none⟩ = some (.int .i64 ((X i).pn : Int)) ∧ w.frozen? ⟨(X i).b, 4, none⟩ = false := ⟨by rw [cells_at (k.ps.buf i hi) 4]; rfl, cells_free (k.ps.buf i hi) 4⟩
set_option maxRecDepth 100000 in
set_option maxHeartbeats 2000000 in
theorem z_unpin_none [E : Ext] {wb w : World} {S D L bf n : Nat} {X : Nat → Bf} (k : Pz wb w S 0 D L bf n X) (z : Nat) (hz : z < 10) (hno : ∀ j, j < n → (X j).pg ≠ z) : Calls Tryz.prog 20 #[.pointer (some ⟨S + 1, 0, none⟩), .int .i64 (z : Int)] w fun r w' => r = .returned (.int .i64 3) ∧ Hid (Pz wb w' S 0 D L bf n X) := by
  have HM : Hid (Calls Tryz.prog 40 #[.pointer (some ⟨S + 1, 0, none⟩)] w fun r w' => r = .returned (.bool false) ∧ w' = w) := z_missing k
  have HL : Hid (Calls Tryz.prog 41 #[.pointer (some ⟨S, 0, none⟩)] w fun r w' => r = .returned (.tuple #[]) ∧ Hid (Pz wb w' S 1 D L bf n X)) := z_lock k
  have c0 := k.cells
  have HC : Hid (∀ wq, Pz wb wq S 1 D L bf n X → wq.cell? ⟨S + 1, 0, none⟩ = some (.pointer (some ⟨S, 0, none⟩)) ∧ Hid (Calls Tryz.prog 43 #[.pointer (some ⟨S, 0, none⟩), .int .i64 (z : Int)] wq fun r w' => r = .returned (.bool true) ∧ w' = wq) ∧ Hid (Calls Tryz.prog 46 #[.pointer (some ⟨S, 7, none⟩), .int .i64 (z : Int)] wq fun r w' => r = .returned (.pointer none) ∧ w' = wq)) := fun wq kq => ⟨kq.cells, z_has kq z hz, z_find_no kq z hno⟩
  clear k hno
  go_enter_defers Tryz.func20, Tryz.ntmps20
  go_wp2_with fail
  refine HM.out.mono ?_
  rintro r w1 ⟨rfl, hw⟩
  obtain rfl : w = w1 := hw.symm
  clear hw
  go_wp2_with fail
  refine HL.out.mono ?_
  rintro r w1 ⟨rfl, k1⟩
  obtain ⟨c1, HH, HF⟩ := HC.out _ k1.out
  clear c0 HM HL
  go_wp2_with fail
  refine HH.out.mono ?_
  rintro r w2 ⟨rfl, hw⟩
  obtain rfl : w1 = w2 := hw.symm
  clear hw
  go_wp2_with fail
  refine HF.out.mono ?_
  rintro r w2 ⟨rfl, hw⟩
  obtain rfl : w1 = w2 := hw.symm
  clear hw
  go_wp2
  refine leaves_cons (f := 42) (args := #[.pointer (some ⟨S, 0, none⟩)]) (by simp) (by simp [go_sem]) ?_
  refine (z_unlock k1.out .returning).mono ?_
  rintro e u' w9 ⟨rfl, rfl, HZ⟩
  exact ⟨_, results_tmp rfl _ _ _, rfl, HZ⟩
set_option maxRecDepth 100000 in
set_option maxHeartbeats 2000000 in
theorem z_unpin_zero [E : Ext] {wb w : World} {S D L bf n : Nat} {X : Nat → Bf} (k : Pz wb w S 0 D L bf n X) (i : Nat) (hi : i < n) (hp : (X i).pn = 0) : Calls Tryz.prog 20 #[.pointer (some ⟨S + 1, 0, none⟩), .int .i64 ((X i).pg : Int)] w fun r w' => r = .returned (.int .i64 3) ∧ Hid (Pz wb w' S 0 D L bf n X) := by
  have HM : Hid (Calls Tryz.prog 40 #[.pointer (some ⟨S + 1, 0, none⟩)] w fun r w' => r = .returned (.bool false) ∧ w' = w) := z_missing k
  have HL : Hid (Calls Tryz.prog 41 #[.pointer (some ⟨S, 0, none⟩)] w fun r w' => r = .returned (.tuple #[]) ∧ Hid (Pz wb w' S 1 D L bf n X)) := z_lock k
  have c0 := k.cells
  obtain ⟨b, hb⟩ : ∃ b, (X i).b = b := ⟨_, rfl⟩
  obtain ⟨z, hz⟩ : ∃ z, (X i).pg = z := ⟨_, rfl⟩
  have HC : Hid (∀ wq, Pz wb wq S 1 D L bf n X → wq.cell? ⟨S + 1, 0, none⟩ = some (.pointer (some ⟨S, 0, none⟩)) ∧ Hid (Calls Tryz.prog 43 #[.pointer (some ⟨S, 0, none⟩), .int .i64 (z : Int)] wq fun r w' => r = .returned (.bool true) ∧ w' = wq) ∧ Hid (Calls Tryz.prog 46 #[.pointer (some ⟨S, 7, none⟩), .int .i64 (z : Int)] wq fun r w' => r = .returned (.pointer (some ⟨b, 0, none⟩)) ∧ w' = wq)) := fun wq kq => ⟨kq.cells, z_has kq z (by rw [← hz]; exact (kq.cl i hi).2.2.1), by rw [← hz, ← hb]; exact z_find_at kq i hi⟩
  have HP : Hid (∀ wq, Pz wb wq S 1 D L bf n X → wq.cell? ⟨b, 4, none⟩ = some (.int .i64 0)) := fun wq kq => by rw [← hb, (kq.pin_cell i hi).1, hp]; rfl
  rw [hz]
  clear k hb hz hp
  go_enter_defers Tryz.func20, Tryz.ntmps20
  go_wp2_with fail
  refine HM.out.mono ?_
  rintro r w1 ⟨rfl, hw⟩
  obtain rfl : w = w1 := hw.symm
  clear hw
  go_wp2_with fail
  refine HL.out.mono ?_
  rintro r w1 ⟨rfl, k1⟩
  obtain ⟨c1, HH, HF⟩ := HC.out _ k1.out
  clear c0 HM HL
  go_wp2_with fail
  refine HH.out.mono ?_
  rintro r w2 ⟨rfl, hw⟩
  obtain rfl : w1 = w2 := hw.symm
  clear hw
  go_wp2_with fail
  refine HF.out.mono ?_
  rintro r w2 ⟨rfl, hw⟩
  obtain rfl : w1 = w2 := hw.symm
  clear hw
  have p4 := HP.out _ k1.out
  go_wp2
  refine leaves_cons (f := 42) (args := #[.pointer (some ⟨S, 0, none⟩)]) (by simp) (by simp [go_sem]) ?_
  refine (z_unlock k1.out .returning).mono ?_
  rintro e u' w9 ⟨rfl, rfl, HZ⟩
  exact ⟨_, results_tmp rfl _ _ _, rfl, HZ⟩
set_option maxRecDepth 100000 in
set_option maxHeartbeats 2000000 in
theorem z_unpin_yes [E : Ext] {wb w : World} {S D L bf n : Nat} {X : Nat → Bf} (k : Pz wb w S 0 D L bf n X) (i p : Nat) (hi : i < n) (hp : (X i).pn = p + 1) : Calls Tryz.prog 20 #[.pointer (some ⟨S + 1, 0, none⟩), .int .i64 ((X i).pg : Int)] w fun r w' => r = .returned (.int .i64 0) ∧ Hid (Pz wb w' S 0 D L bf n (pinX X i p)) := by
  have HM : Hid (Calls Tryz.prog 40 #[.pointer (some ⟨S + 1, 0, none⟩)] w fun r w' => r = .returned (.bool false) ∧ w' = w) := z_missing k
  have HL : Hid (Calls Tryz.prog 41 #[.pointer (some ⟨S, 0, none⟩)] w fun r w' => r = .returned (.tuple #[]) ∧ Hid (Pz wb w' S 1 D L bf n X)) := z_lock k
  have c0 := k.cells
  obtain ⟨b, hb⟩ : ∃ b, (X i).b = b := ⟨_, rfl⟩
  obtain ⟨z, hz⟩ : ∃ z, (X i).pg = z := ⟨_, rfl⟩
  have hp100 := (k.cl i hi).2.2.2
  have HC : Hid (∀ wq, Pz wb wq S 1 D L bf n X → wq.cell? ⟨S + 1, 0, none⟩ = some (.pointer (some ⟨S, 0, none⟩)) ∧ Hid (Calls Tryz.prog 43 #[.pointer (some ⟨S, 0, none⟩), .int .i64 (z : Int)] wq fun r w' => r = .returned (.bool true) ∧ w' = wq) ∧ Hid (Calls Tryz.prog 46 #[.pointer (some ⟨S, 7, none⟩), .int .i64 (z : Int)] wq fun r w' => r = .returned (.pointer (some ⟨b, 0, none⟩)) ∧ w' = wq)) := fun wq kq => ⟨kq.cells, z_has kq z (by rw [← hz]; exact (kq.cl i hi).2.2.1), by rw [← hz, ← hb]; exact z_find_at kq i hi⟩
  have HP : Hid (∀ wq, Pz wb wq S 1 D L bf n X → wq.cell? ⟨b, 4, none⟩ = some (.int .i64 ((p : Int) + 1)) ∧ wq.frozen? ⟨b, 4, none⟩ = false ∧ Hid (Pz wb (wq.setCell ⟨b, 4, none⟩ (.int .i64 (p : Int))) S 1 D L bf n (pinX X i p))) := fun wq kq => by
    rw [← hb]
    exact ⟨by rw [(kq.pin_cell i hi).1, hp]; rfl, (kq.pin_cell i hi).2, kq.pin i p hi (by omega)⟩
  rw [hz]
  have hp' : (p : Int) ≤ 100 := by omega
  have hp0 : (0 : Int) ≤ (p : Int) := by omega
  have d1 : (((p : Int) + 1) == 0) = false := by
    have : ((p : Int) + 1) ≠ 0 := by omega
    simpa using this
  clear k hb hz hp hp100
  go_enter_defers Tryz.func20, Tryz.ntmps20
  go_wp2_with fail
  refine HM.out.mono ?_
  rintro r w1 ⟨rfl, hw⟩
  obtain rfl : w = w1 := hw.symm
  clear hw
  go_wp2_with fail
  refine HL.out.mono ?_
  rintro r w1 ⟨rfl, k1⟩
  obtain ⟨c1, HH, HF⟩ := HC.out _ k1.out
  clear c0 HM HL
  go_wp2_with fail
  refine HH.out.mono ?_
  rintro r w2 ⟨rfl, hw⟩
  obtain rfl : w1 = w2 := hw.symm
  clear hw
  go_wp2_with fail
  refine HF.out.mono ?_
  rintro r w2 ⟨rfl, hw⟩
  obtain rfl : w1 = w2 := hw.symm
  clear hw
  obtain ⟨p4, p5, HQ⟩ := HP.out _ k1.out
  go_wp2
  refine leaves_cons (f := 42) (args := #[.pointer (some ⟨S, 0, none⟩)]) (by simp) (by simp [go_sem]) ?_
  refine (z_unlock HQ.out .returning).mono ?_
  rintro e u' w9 ⟨rfl, rfl, HZ⟩
  exact ⟨_, results_tmp rfl _ _ _, rfl, HZ⟩
end Go.Proofs.YtnaobkpncfbnaaaGreatDoor
