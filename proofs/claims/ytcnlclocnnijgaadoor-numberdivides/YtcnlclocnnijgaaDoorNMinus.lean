/-
  Contract of a size's minus. Conditions: what is taken away is not greater; fewer than ten thousand limbs.
-/
import Derived.Test.YtcnlclocnnijgaaDoorNPlus
namespace Go.Proofs.YtcnlclocnnijgaaDoor
open Go.RowKit
set_option linter.unusedVariables false

set_option maxRecDepth 100000 in
set_option maxHeartbeats 1000000 in
theorem sMinus (vs vt : Value) (n m : Nat) (w : World) (hs : Sz w vs n) (ht : Sz w vt m) (hn : ln n ≤ 10000) (hm : ln m ≤ 10000) (hmn : m ≤ n) :
    Calls Tryd.prog 58 #[vs, vt] w fun e w' => ∃ v, e = .returned v ∧ OwS w' w.heap.size v (n - m) ∧ Below w.heap.size w w' := by
  have HT : Hid (∀ wq, Below w.heap.size w wq → ∀ i : Nat, i ≤ 9223372036854775807 → Calls Tryd.prog 76 #[vt, .int .i64 (i : Int)] wq fun e w' => e = .returned (.int .u64 (lb m i : Int)) ∧ w' = wq) := fun wq hq i hi => sLimb vt m i wq (ht.below hq (Nat.le_refl _)) hi
  have HS0 : ∀ wq, Below w.heap.size w wq → Sz wq vs n := fun wq hq => hs.below hq (Nat.le_refl _)
  obtain ⟨ao, c, rfl, h1, h2, h3, hcs⟩ := hs.open
  have HS : Hid (∀ wq, Below w.heap.size w wq → ∀ i, i < ln n → ∃ g, ao = some ⟨g, 0, none⟩ ∧ wq.cell? ⟨g, i, none⟩ = some (.int .u64 (lb n i : Int))) := fun wq hq i hi => by
    obtain ⟨ao', c', e, _, _, _, hr⟩ := (HS0 wq hq).open
    cases e
    rcases hr with h0 | ⟨g, e, hg⟩
    · omega
    · exact ⟨g, e, hg i hi⟩
  obtain ⟨bo, d, rfl, k1, k2, k3, _⟩ := ht.open
  have hmk := make_size (ln n) (by omega)
  obtain ⟨MB, hMB⟩ : ∃ MB, madeCells #[.int .u64 0] (ln n) = MB := ⟨_, rfl⟩
  rw [hMB] at hmk
  have HM : Hid (OwN .u64 69 (w.alloc (.cells MB 69)) w.heap.size (.slice (some ⟨w.heap.size, 0, none⟩) (ln n) (ln n)) (ln n) (fun _ => 0)) := by rw [← hMB]; exact own_makes .u64 69 (ln n) (by omega) w
  have HV : Hid (n - m < 1000000000 ^ ln n) := by
    have a1 := lt_pow_ln n
    show n - m < _
    omega
  clear hMB hs ht HS0 hcs
  generalize hL : ln n = L at *
  go_enter Tryd.func58, Tryd.ntmps58
  go_wp2
  go_loopw [6, 14] (fun x i wr => ∃ k c' : Nat, k ≤ L ∧ i = .int .i64 (k : Int) ∧ x = .int .u64 (c' : Int) ∧ c' ≤ 1 ∧ Hid (n / 1000000000 ^ k = m / 1000000000 ^ k + c' + (n - m) / 1000000000 ^ k) ∧ OwN .u64 69 wr w.heap.size (.slice (some ⟨w.heap.size, 0, none⟩) L L) L (fun j => if j < k then (lb (n - m) j : Int) else 0) ∧ Below w.heap.size w wr) (fun _ i _ => L - (intOf i).toNat)
  case atStart => exact ⟨0, 0, Nat.zero_le _, rfl, rfl, by omega, by show _ = _; simp; omega, HM.out.ext (fun j _ => by simp), (Below.refl _ w).alloc (Nat.le_refl _) _⟩
  case round =>
    obtain ⟨k, c', hk, rfl, rfl, hc1, hq, ho, hb⟩ := hrel
    by_cases hlt : k < L
    · have hlt' : (k : Int) < (L : Int) := by omega
      have hk0 : (0 : Int) ≤ (k : Int) := by omega
      have hk9 : k ≤ 9223372036854775807 := by omega
      have hx := lb_lt n k
      have hy := lb_lt m k
      obtain ⟨p1, p3, p2⟩ := minus_step hc1 hq.out
      obtain ⟨X, hX⟩ : ∃ X, lb n k = X := ⟨_, rfl⟩
      obtain ⟨Y, hY⟩ : ∃ Y, lb m k = Y := ⟨_, rfl⟩
      obtain ⟨g, rfl, A1⟩ := HS.out wr hb k hlt
      have A2 := HT.out wr hb k hk9
      rw [hX] at A1 hx p1 p2 p3
      rw [hY] at A2 hy p1 p2 p3
      have hcell := ho.cellF k hlt
      rw [if_neg (by omega)] at hcell
      have hfree := ho.freeF k
      obtain ⟨Z, hZ⟩ : ∃ Z, X + 1000000000 - Y - c' = Z := ⟨_, rfl⟩
      rw [hZ] at p1 p2 p3
      have HN : Hid (∀ wf : World, wf.heap = (wr.setCell ⟨w.heap.size, k, none⟩ (.int .u64 ((Z : Int) % 1000000000))).heap → wf.os = wr.os → wf.tape = wr.tape → wf.output = wr.output → OwN .u64 69 wf w.heap.size (.slice (some ⟨w.heap.size, 0, none⟩) L L) L (fun j => if j < k + 1 then (lb (n - m) j : Int) else 0) ∧ Below w.heap.size w wf) := fun wf e1 e2 e3 e4 => by
        have hB2 := hb.setCell (p := ⟨w.heap.size, k, none⟩) (Nat.le_refl _) (.int .u64 ((Z : Int) % 1000000000))
        refine ⟨OwN.ext (f := fun i => if i = k then (Z : Int) % 1000000000 else if i < k then (lb (n - m) i : Int) else 0) (row_heap (ho.set k hlt _) e1) fun j hj => ?_, ⟨e2.trans hb.os, e3.trans hb.tape, e4.trans hb.output, by rw [e1]; exact hB2.size, fun i hi => by rw [e1]; exact hB2.block i hi⟩⟩
        show (if j = k then (Z : Int) % 1000000000 else if j < k then (lb (n - m) j : Int) else 0) = _
        by_cases e1 : j = k
        · subst e1
          rw [if_pos rfl, if_pos (by omega), ← p1]
          omega
        · rw [if_neg e1]
          by_cases e2 : j < k
          · rw [if_pos e2, if_pos (by omega)]
          · rw [if_neg e2, if_neg (by omega)]
      have HQ : Hid (n / 1000000000 ^ (k + 1) = m / 1000000000 ^ (k + 1) + (1 - Z / 1000000000) + (n - m) / 1000000000 ^ (k + 1)) := p2
      have w3 : IntKind.u64.wrap (IntKind.u64.wrap (IntKind.u64.wrap ((X : Int) + 1000000000) - (Y : Int)) - (c' : Int)) = (Z : Int) := by rw [IntKind.wrap_u64, IntKind.wrap_u64, IntKind.wrap_u64]; omega
      have w5 : ((X : Int) + 1000000000 - (Y : Int) - (c' : Int)) = (Z : Int) := by omega
      have w4 : IntKind.u64.wrap (1 - (Z : Int) / 1000000000) = ((1 - Z / 1000000000 : Nat) : Int) := by rw [IntKind.wrap_u64]; omega
      have hZ2 : Z < 2000000000 := by omega
      have HD : Hid (∀ wq : World, wq = wr.drew → Calls Tryd.prog 76 #[.slice bo (ln m) d, .int .i64 (k : Int)] wq fun e w' => e = .returned (.int .u64 (Y : Int)) ∧ w' = wq) := fun wq e => by
        have := HT.out wq (by rw [e]; exact blw_drewN 1 hb) k hk9
        rw [hY] at this
        exact this
      clear ho hq p1 p2 hX hY hZ
      go_wp2_with fail
      go_region_with (go_at_call 76; refine (HD.out _ (by rfl)).mono ?_; rintro e wx ⟨rfl, hw⟩; subst hw)
      all_goals
        go_wp2
        go_roundw
        case rel => exact ⟨k + 1, 1 - Z / 1000000000, by omega, by go_num, by go_num, by omega, HQ, HN.out _ (by rfl) (by rfl) (by rfl) (by rfl)⟩
        case measure => simp [intOf]; omega
    · obtain rfl : k = L := by omega
      have A3 := trimmed (.slice (some ⟨w.heap.size, 0, none⟩) k k) k (n - m) w.heap.size wr (ho.ext (fun j hj => by rw [if_pos hj])) HV.out (by omega)
      clear ho hq
      go_wp2_with fail
      refine A3.mono ?_
      rintro e wx ⟨v', rfl, ho, hw⟩
      obtain rfl : wr = wx := hw.symm
      clear hw
      go_wp2
      go_ret
      exact ⟨v', rfl, ho, hb⟩
end Go.Proofs.YtcnlclocnnijgaaDoor
