/-
  A pool's calls over clean pages: Get.
-/
import Derived.Test.YtnaobkpncfbnaaaGreatDoorPoH
import Derived.Deep.RegionHeld3
namespace Go.Proofs.YtnaobkpncfbnaaaGreatDoor
open Go.RowKit
set_option linter.unusedVariables false

/-- What a call leaves that pins nothing. -/
def Got [E : Ext] (wb w : World) (S D L bf n : Nat) (X : Nat → Bf) : Prop := ∃ n' X', Pz wb w S 0 D L bf n' X' ∧ ∀ q p, PinAt X n q p → PinAt X' n' q p
theorem own_slice {w : World} {B : Nat} {v : Value} {f : Nat → Int} {n : Nat} (h : Own w B v (lst f n)) : ∃ a c, v = .slice a n c ∧ From w a n f := by
  have h' := h
  unfold Own at h'
  rcases h'.2 with ⟨e, e0⟩ | ⟨g, cap, cur, e, h2, h3, h4, h5, _⟩
  · rw [lst_length] at e0
    subst e0
    exact ⟨none, 0, e, .inl ⟨rfl, rfl⟩⟩
  · rw [lst_length] at e h4
    subst e
    refine ⟨_, cap, rfl, .inr ⟨_, rfl, fun i hi => ?_⟩⟩
    rw [Addr.add_lit, Nat.zero_add]
    exact h.cellF i hi
set_option maxRecDepth 100000 in
set_option maxHeartbeats 2000000 in
/-- Get. -/
theorem z_get [E : Ext] {wb w : World} {S D L bf n : Nat} {X : Nat → Bf} (k : Pz wb w S 0 D L bf n X) (z : Nat) (hz : z < 10) : Calls Tryz.prog 15 #[.pointer (some ⟨S + 1, 0, none⟩), .int .i64 (z : Int)] w fun r w' => (∃ v l e, r = .returned (.tuple #[v, l, e])) ∧ Hid (Got wb w' S D L bf n X) := by
  have HM : Hid (Calls Tryz.prog 40 #[.pointer (some ⟨S + 1, 0, none⟩)] w fun r w' => r = .returned (.bool false) ∧ w' = w) := z_missing k
  have HL : Hid (Calls Tryz.prog 41 #[.pointer (some ⟨S, 0, none⟩)] w fun r w' => r = .returned (.tuple #[]) ∧ Hid (Pz wb w' S 1 D L bf n X)) := z_lock k
  have c0 := k.cells
  have HC : Hid (∀ wq, Pz wb wq S 1 D L bf n X → wq.cell? ⟨S + 1, 0, none⟩ = some (.pointer (some ⟨S, 0, none⟩)) ∧ Hid (Calls Tryz.prog 43 #[.pointer (some ⟨S, 0, none⟩), .int .i64 (z : Int)] wq fun r w' => r = .returned (.bool true) ∧ w' = wq)) := fun wq kq => ⟨kq.cells, z_has kq z hz⟩
  have HB : Hid (∀ wq, Pz wb wq S 1 D L bf n X → Calls Tryz.prog 44 #[.pointer (some ⟨S, 0, none⟩), .int .i64 (z : Int)] wq fun r w' => (∃ b a c n' X', r = .returned (.tuple #[.pointer (some ⟨b, 0, none⟩), .int .i64 0]) ∧ Hid (∀ wq, Below w'.heap.size w' wq → wq.cell? ⟨b, 2, none⟩ = some (.slice a 112 c) ∧ wq.cell? ⟨b, 1, none⟩ = some (.int .i64 0)) ∧ Hid (∀ wq, Below w'.heap.size w' wq → Calls Tryz.prog 10 #[.slice a 112 c] wq fun r w'' => ∃ a n c, r = .returned (.slice a n c) ∧ Below w'.heap.size w' w'') ∧ Hid (∀ wq, Below w'.heap.size w' wq → Pz wb wq S 1 D L bf n' X' ∧ ∀ q r, PinAt X n q r → PinAt X' n' q r)) ∨ (r = .returned (.tuple #[.pointer none, .int .i64 50]) ∧ Hid (Pz wb w' S 1 D L bf n X))) := fun wq kq => (s_bring kq z hz).mono fun r w' h => by
    rcases h with ⟨n', X', hr, HE⟩ | h
    · obtain ⟨e1, e2, e3⟩ := HE.out
      obtain ⟨a, c, hv, hf⟩ := own_slice (e1.ld n' (by omega))
      have hls := (e1.cl n' (by omega)).2.1
      refine .inl ⟨(X' n').b, a, c, n' + 1, X', hr, fun wq hq => ?_, fun wq hq => ?_, fun wq hq => ⟨e1.below hq, e3⟩⟩
      · have h := (hq.block _ (Array.getElem?_eq_some_iff.1 (e1.ps.buf n' (by omega))).1).trans (e1.ps.buf n' (by omega))
        exact ⟨by rw [cells_at h 2, ← hv]; rfl, by rw [cells_at h 1, hls]; rfl⟩
      · have kq := e1.below hq
        obtain ⟨a', c', hv', hf'⟩ := own_slice (kq.ld n' (by omega))
        rw [hv] at hv'
        injection hv' with g1 g2 g3
        subst g1
        refine (clone a 112 c (fun _ => 0) wq (by decide) hf').mono fun r w'' ⟨v', hr', ho, hb⟩ => ?_
        obtain ⟨a2, c2, e2, _⟩ := own_slice ho
        exact ⟨a2, _, c2, by rw [hr', e2], hq.trans (hb.mono hq.size)⟩
    · exact .inr h
  clear k
  go_enter_defers Tryz.func15, Tryz.ntmps15
  go_wp2_with fail
  refine HM.out.mono ?_
  rintro r w1 ⟨rfl, hw⟩
  obtain rfl : w = w1 := hw.symm
  clear hw
  go_wp2_with fail
  refine HL.out.mono ?_
  rintro r w1 ⟨rfl, k1⟩
  obtain ⟨c1, HH⟩ := HC.out _ k1.out
  clear c0 HM HL
  go_wp2_with fail
  refine HH.out.mono ?_
  rintro r w2 ⟨rfl, hw⟩
  obtain rfl : w1 = w2 := hw.symm
  clear hw
  go_wp2_with fail
  refine (HB.out _ k1.out).mono ?_
  rintro r w2 (⟨b, a, c, n', X', rfl, HS, HR, HE⟩ | ⟨rfl, HE⟩)
  · obtain ⟨x1, x2⟩ := HS.out _ (Below.refl _ _)
    have q1 : Below w2.heap.size w2 w2 := Below.refl _ _
    clear HB HC HH c1 k1
    go_wp2_with fail
    go_region_held3 (fun wq => wq.cell? ⟨b, 2, none⟩ = some (.slice a 112 c) ∧ wq.cell? ⟨b, 1, none⟩ = some (.int .i64 0))
      (first | exact HS.out _ (by assumption) | exact HS.out _ (blw_drewN 1 (by assumption)) | go_keep)
      (first
        | (go_at_call 10; refine (HR.out _ (by first | exact q1 | exact blw_drewN 1 q1)).mono ?_; rintro e' w3 ⟨a3, n3, c3, rfl, k3⟩))
    go_wp2
    refine leaves_cons (f := 42) (args := #[.pointer (some ⟨S, 0, none⟩)]) (by simp) (by simp [go_sem]) ?_
    refine (z_unlock (HE.out _ k3).1 .returning).mono ?_
    rintro e u' w9 ⟨rfl, rfl, HZ⟩
    exact ⟨_, results_tmp3 rfl _ _ _, ⟨_, _, _, rfl⟩, _, _, HZ.out, (HE.out _ k3).2⟩
  · go_wp2
    refine leaves_cons (f := 42) (args := #[.pointer (some ⟨S, 0, none⟩)]) (by simp) (by simp [go_sem]) ?_
    refine (z_unlock HE.out .returning).mono ?_
    rintro e u' w9 ⟨rfl, rfl, HZ⟩
    exact ⟨_, results_tmp3 rfl _ _ _, ⟨_, _, _, rfl⟩, _, _, HZ.out, fun q p h => h⟩
