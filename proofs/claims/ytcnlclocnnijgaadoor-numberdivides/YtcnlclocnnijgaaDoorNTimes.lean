/-
  Contract of a size's times. Condition: fewer than ten thousand limbs each.
-/
import Derived.Test.YtcnlclocnnijgaaDoorNPlus
import Derived.Test.YtcnlclocnnijgaaDoorNumTimes
namespace Go.Proofs.YtcnlclocnnijgaaDoor
open Go.RowKit
set_option linter.unusedVariables false

set_option maxRecDepth 100000 in
set_option maxHeartbeats 2000000 in
theorem sTimes (vs vt : Value) (n m : Nat) (w : World) (hs : Sz w vs n) (ht : Sz w vt m) (hn : ln n ≤ 10000) (hm : ln m ≤ 10000) :
    Calls Tryd.prog 61 #[vs, vt] w fun e w' => ∃ v, e = .returned v ∧ OwS w' w.heap.size v (n * m) ∧ Below w.heap.size w w' := by
  have HS0 : ∀ wq, Below w.heap.size w wq → Sz wq vs n := fun wq hq => hs.below hq (Nat.le_refl _)
  have HT0 : ∀ wq, Below w.heap.size w wq → Sz wq vt m := fun wq hq => ht.below hq (Nat.le_refl _)
  obtain ⟨ao, c, rfl, h1, h2, h3, _⟩ := hs.open
  obtain ⟨bo, d, rfl, k1, k2, k3, _⟩ := ht.open
  have HS : Hid (∀ wq, Below w.heap.size w wq → ∀ i, i < ln n → ∃ g, ao = some ⟨g, 0, none⟩ ∧ wq.cell? ⟨g, i, none⟩ = some (.int .u64 (lb n i : Int))) := fun wq hq i hi => by
    obtain ⟨ao', c', e, _, _, _, hr⟩ := (HS0 wq hq).open
    cases e
    rcases hr with h0 | ⟨g, e, hg⟩
    · omega
    · exact ⟨g, e, hg i hi⟩
  have HT : Hid (∀ wq, Below w.heap.size w wq → ∀ i, i < ln m → ∃ g, bo = some ⟨g, 0, none⟩ ∧ wq.cell? ⟨g, i, none⟩ = some (.int .u64 (lb m i : Int))) := fun wq hq i hi => by
    obtain ⟨ao', c', e, _, _, _, hr⟩ := (HT0 wq hq).open
    cases e
    rcases hr with h0 | ⟨g, e, hg⟩
    · omega
    · exact ⟨g, e, hg i hi⟩
  obtain ⟨b, hb0⟩ : ∃ b, ln m = b := ⟨_, rfl⟩
  obtain ⟨a, ha0⟩ : ∃ a, ln n = a := ⟨_, rfl⟩
  have hmk := make_size (a + b) (by omega)
  have hab : ((a : Int) + (b : Int)) = ((a + b : Nat) : Int) := by omega
  rw [← hab] at hmk
  obtain ⟨MB, hMB⟩ : ∃ MB, madeCells #[.int .u64 0] (a + b) = MB := ⟨_, rfl⟩
  rw [hMB] at hmk
  have HM : Hid (OwN .u64 69 (w.alloc (.cells MB 69)) w.heap.size (.slice (some ⟨w.heap.size, 0, none⟩) (a + b) (a + b)) (a + b) (fun j => (lb (Vt n m 0) j : Int))) := by
    rw [← hMB]
    refine (own_makes .u64 69 (a + b) (by omega) w).ext fun j _ => ?_
    rw [Vt_zero]
    simp [lb]
  have HF : Hid (Vt n m a = n * m) := Vt_full (by omega)
  have HL : Hid (Vt n m a < 1000000000 ^ (a + b)) := by rw [← hb0]; exact Vt_lt n m a
  have HE : Hid (∀ (k c : Nat), c + Vt n m k / 1000000000 ^ k / 1000000000 ^ b + lb n k * (m / 1000000000 ^ b) = (Vt n m (k + 1) / 1000000000 ^ k) / 1000000000 ^ b → c < 1000000000 → c = lb (Vt n m (k + 1)) (k + b)) := fun k c h1 h2 => by
    rw [← hb0] at h1 ⊢
    exact Vt_end h1 h2
  have HZ : Hid (∀ k x : Nat, k + b ≤ x → lb (Vt n m k) x = 0) := fun k x h => by rw [← hb0] at h; exact Vt_out h
  rw [ha0] at HS h1 h3 hn ⊢
  rw [hb0] at HT k1 k3 hm ⊢
  clear hMB hs ht HS0 HT0 ha0 hb0 hab
  go_enter Tryd.func61, Tryd.ntmps61
  go_wp2
  go_loopw [18] (fun i wr => ∃ k : Nat, k ≤ a ∧ i = .int .i64 (k : Int) ∧ OwN .u64 69 wr w.heap.size (.slice (some ⟨w.heap.size, 0, none⟩) (a + b) (a + b)) (a + b) (fun j => (lb (Vt n m k) j : Int)) ∧ Below w.heap.size w wr) (fun i _ => a - (intOf i).toNat)
  case atStart => exact ⟨0, Nat.zero_le _, rfl, HM.out, (Below.refl _ w).alloc (Nat.le_refl _) _⟩
  case round =>
    obtain ⟨k, hk, rfl, ho, hb⟩ := hrel
    by_cases hlt : k < a
    · have hlt' : (k : Int) < (a : Int) := by omega
      have hk0 : (0 : Int) ≤ (k : Int) := by omega
      obtain ⟨g, rfl, A1⟩ := HS.out wr hb k hlt
      have hA := lb_lt n k
      have HO : Hid (OwN .u64 69 wr w.heap.size (.slice (some ⟨w.heap.size, 0, none⟩) (a + b) (a + b)) (a + b) (fun j => (lb (Vt n m k) j : Int))) := ho
      obtain ⟨A, hAe⟩ : ∃ A, lb n k = A := ⟨_, rfl⟩
      have HA : Hid (lb n k = A) := hAe
      rw [hAe] at A1 hA
      clear ho hAe
      go_wp2
      go_loopw [8, 25] (fun x i wq => ∃ j c' : Nat, j ≤ b ∧ i = .int .i64 (j : Int) ∧ x = .int .u64 (c' : Int) ∧ c' < 1000000000 ∧ Hid (c' + Vt n m k / 1000000000 ^ k / 1000000000 ^ j + lb n k * (m / 1000000000 ^ j) = (Vt n m (k + 1) / 1000000000 ^ k) / 1000000000 ^ j) ∧ OwN .u64 69 wq w.heap.size (.slice (some ⟨w.heap.size, 0, none⟩) (a + b) (a + b)) (a + b) (fun x => if x < k + j then (lb (Vt n m (k + 1)) x : Int) else (lb (Vt n m k) x : Int)) ∧ Below w.heap.size w wq) (fun _ i _ => b - (intOf i).toNat)
      case atStart =>
        refine ⟨0, 0, Nat.zero_le _, rfl, rfl, by omega, ?_, HO.out.ext (fun x _ => ?_), hb⟩
        · show _ = _
          rw [Vt_div]
          simp
        · by_cases hx : x < k + 0
          · rw [if_pos hx, Vt_low (by omega)]
          · rw [if_neg hx]
      case round =>
        obtain ⟨j, c', hj, rfl, rfl, hc1, hq, ho, hb2⟩ := hrel
        by_cases hjl : j < b
        · have hjl' : (j : Int) < (b : Int) := by omega
          have hj0 : (0 : Int) ≤ (j : Int) := by omega
          have hkj : (k : Int) + (j : Int) < ((a + b : Nat) : Int) := by omega
          have hkj2 : (k : Int) + (j : Int) < (a : Int) + (b : Int) := by omega
          have hkj0 : (0 : Int) ≤ (k : Int) + (j : Int) := by omega
          obtain ⟨g2, rfl, A2⟩ := HT.out wr hb2 j hjl
          have hx := lb_lt (Vt n m k) (k + j)
          have hmul := limbs_mul n m k j
          obtain ⟨p1, p2⟩ := Vt_step hq.out
          have hcell := ho.cellF (k + j) (by omega)
          rw [if_neg (by omega)] at hcell
          have hfree := ho.freeF (k + j)
          obtain ⟨X, hX⟩ : ∃ X, lb (Vt n m k) (k + j) = X := ⟨_, rfl⟩
          obtain ⟨Y, hY⟩ : ∃ Y, lb m j = Y := ⟨_, rfl⟩
          rw [hX] at hcell hx p1 p2
          rw [hY, HA.out] at hmul p1
          rw [hY, HA.out] at p2
          rw [hY] at A2
          obtain ⟨P, hP⟩ : ∃ P, A * Y = P := ⟨_, rfl⟩
          rw [hP] at hmul p1 p2
          have hPi : (A : Int) * (Y : Int) = (P : Int) := by rw [← hP]; simp
          have HN : Hid (∀ wf : World, wf.heap = (wr.setCell ⟨w.heap.size, k + j, none⟩ (.int .u64 (((c' : Int) + ((X : Int) + (P : Int))) % 1000000000))).heap → wf.os = wr.os → wf.tape = wr.tape → wf.output = wr.output → OwN .u64 69 wf w.heap.size (.slice (some ⟨w.heap.size, 0, none⟩) (a + b) (a + b)) (a + b) (fun x => if x < k + (j + 1) then (lb (Vt n m (k + 1)) x : Int) else (lb (Vt n m k) x : Int)) ∧ Below w.heap.size w wf) := fun wf e1 e2 e3 e4 => by
            have hB2 := hb2.setCell (p := ⟨w.heap.size, k + j, none⟩) (Nat.le_refl _) (.int .u64 (((c' : Int) + ((X : Int) + (P : Int))) % 1000000000))
            refine ⟨OwN.ext (f := fun i => if i = k + j then (((c' : Int) + ((X : Int) + (P : Int))) % 1000000000) else if i < k + j then (lb (Vt n m (k + 1)) i : Int) else (lb (Vt n m k) i : Int)) (row_heap (ho.set (k + j) (by omega) _) e1) fun x hx => ?_, ⟨e2.trans hb2.os, e3.trans hb2.tape, e4.trans hb2.output, by rw [e1]; exact hB2.size, fun i hi => by rw [e1]; exact hB2.block i hi⟩⟩
            show (if x = k + j then (((c' : Int) + ((X : Int) + (P : Int))) % 1000000000) else if x < k + j then (lb (Vt n m (k + 1)) x : Int) else (lb (Vt n m k) x : Int)) = _
            by_cases e1 : x = k + j
            · subst e1
              rw [if_pos rfl, if_pos (by omega), ← p1]
              omega
            · rw [if_neg e1]
              by_cases e2 : x < k + j
              · rw [if_pos e2, if_pos (by omega)]
              · rw [if_neg e2, if_neg (by omega)]
          have HQ : Hid ((c' + (X + P)) / 1000000000 + Vt n m k / 1000000000 ^ k / 1000000000 ^ (j + 1) + lb n k * (m / 1000000000 ^ (j + 1)) = (Vt n m (k + 1) / 1000000000 ^ k) / 1000000000 ^ (j + 1)) := by rw [HA.out]; exact p2
          have h2c : (c' + (X + P)) / 1000000000 < 1000000000 := by omega
          clear ho hq p1 p2 hX hY hP
          go_wp2_with fail
          go_region
          all_goals
            go_wp2
            go_roundw
            case rel => exact ⟨j + 1, (c' + (X + P)) / 1000000000, by omega, by go_num, by go_num, h2c, HQ, HN.out _ (by rfl) (by rfl) (by rfl) (by rfl)⟩
            case measure => simp [intOf]; omega
        · obtain rfl : j = b := by omega
          have hend := HE.out k c' hq.out hc1
          have hcell := ho.cellF (k + j) (by omega)
          have hfree := ho.freeF (k + j)
          have hkj2 : (k : Int) + (j : Int) < (a : Int) + (j : Int) := by omega
          have hkj0 : (0 : Int) ≤ (k : Int) + (j : Int) := by omega
          rw [if_neg (by omega)] at hcell
          have HN : Hid (∀ wf : World, wf = wr.setCell ⟨w.heap.size, k + j, none⟩ (.int .u64 (c' : Int)) → OwN .u64 69 wf w.heap.size (.slice (some ⟨w.heap.size, 0, none⟩) (a + j) (a + j)) (a + j) (fun x => (lb (Vt n m (k + 1)) x : Int)) ∧ Below w.heap.size w wf) := fun wf e => by
            subst e
            refine ⟨(ho.set (k + j) (by omega) _).ext fun x hx => ?_, hb2.setCell (p := ⟨w.heap.size, k + j, none⟩) (Nat.le_refl _) _⟩
            by_cases e1 : x = k + j
            · subst e1
              rw [if_pos rfl, hend]
            · rw [if_neg e1]
              by_cases e2 : x < k + j
              · rw [if_pos e2]
              · rw [if_neg e2, HZ.out k x (by omega), HZ.out (k + 1) x (by omega)]
          clear ho hq hend
          go_wp2
          go_roundw
          case rel => exact ⟨k + 1, by omega, by go_num, (HN.out _ rfl).1, (HN.out _ rfl).2⟩
          case measure => simp [intOf]; omega
    · obtain rfl : k = a := by omega
      have A3 := trimmed (.slice (some ⟨w.heap.size, 0, none⟩) (k + b) (k + b)) (k + b) (Vt n m k) w.heap.size wr ho HL.out (by omega)
      rw [HF.out] at A3
      clear ho
      go_wp2_with fail
      refine A3.mono ?_
      rintro e wx ⟨v', rfl, ho, hw⟩
      obtain rfl : wr = wx := hw.symm
      clear hw
      go_wp2
      go_ret
      exact ⟨v', rfl, ho, hb⟩
end Go.Proofs.YtcnlclocnnijgaaDoor
