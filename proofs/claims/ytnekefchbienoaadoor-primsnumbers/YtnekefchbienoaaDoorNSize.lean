/-
  Contracts of the document's at and size: a digit, and how two sizes compare. Conditions: digits below ten, noughts behind the last one.
-/
import Derived.Test.YtnekefchbienoaaDoorNRef
namespace Go.Proofs.YtnekefchbienoaaDoor
open Go.RowKit
set_option linter.unusedVariables false

theorem dd_out {u i n : Nat} (h : u < 10 ^ n) (hi : n ≤ i) : dd u i = 0 := by
  unfold dd
  rw [Nat.div_eq_of_lt (Nat.lt_of_lt_of_le h (Nat.pow_le_pow_right (by decide) hi))]
theorem lt_of_top10 {a b i : Nat} (h : a / 10 ^ (i + 1) = b / 10 ^ (i + 1)) (h2 : dd a i < dd b i) : a < b := by
  unfold dd at h2
  rw [div_pow_succ, div_pow_succ] at h
  have h3 : a / 10 ^ i < b / 10 ^ i := by omega
  exact Nat.lt_of_not_le (fun k => by have := Nat.div_le_div_right (c := 10 ^ i) k; omega)
theorem top_step10 {a b i : Nat} (h : a / 10 ^ (i + 1) = b / 10 ^ (i + 1)) (h2 : dd a i = dd b i) : a / 10 ^ i = b / 10 ^ i := by
  unfold dd at h2
  rw [div_pow_succ, div_pow_succ] at h
  omega

/-- How two whole numbers compare. -/
def cmpI (a b : Int) : Int := if a < b then -1 else if b < a then 1 else 0
theorem cmpI_lt {a b : Int} (h : a < b) : cmpI a b = -1 := by unfold cmpI; rw [if_pos h]
theorem cmpI_gt {a b : Int} (h : b < a) : cmpI a b = 1 := by unfold cmpI; rw [if_neg (by omega), if_pos h]
theorem cmpI_eq {a b : Int} (h : a = b) : cmpI a b = 0 := by unfold cmpI; rw [if_neg (by omega), if_neg (by omega)]

/-- A slice of ints that holds a number's digits, the lowest first, perhaps noughts behind. -/
def Dig (w : World) (v : Value) (n u : Nat) : Prop := Rd .i64 w v n (fun i => (dd u i : Int)) ∧ u < 10 ^ n ∧ n ≤ 1000000
theorem Dig.below {w w' : World} {v : Value} {n u B : Nat} (h : Dig w v n u) (hb : Below B w w') (hB : w.heap.size ≤ B) : Dig w' v n u := ⟨h.1.below hb hB, h.2⟩

set_option maxRecDepth 100000 in
theorem rAt (v : Value) (n u i : Nat) (w : World) (h : Dig w v n u) (hi : i ≤ 9223372036854775807) :
    Calls Tryd.prog 65 #[v, .int .i64 (i : Int)] w fun e w' => e = .returned (.int .i64 (dd u i : Int)) ∧ w' = w := by
  obtain ⟨⟨ao, c, rfl, hc, hc2, hr⟩, hu, hn⟩ := h
  by_cases hlt : i < n
  · rcases hr with h0 | ⟨g, rfl, hg⟩
    · omega
    · have g1 := hg i hlt
      have g2 : ¬ (n : Int) ≤ (i : Int) := by omega
      clear hg
      go_enter Tryd.func65, Tryd.ntmps65
      go_wp2
      go_ret
      exact ⟨rfl, rfl⟩
  · have g2 : (n : Int) ≤ (i : Int) := by omega
    have g3 : (dd u i : Int) = 0 := by rw [dd_out hu (by omega)]; rfl
    rw [g3]
    clear hr g3
    go_enter Tryd.func65, Tryd.ntmps65
    go_wp2
    go_ret
    exact ⟨rfl, rfl⟩

set_option maxRecDepth 100000 in
set_option maxHeartbeats 1000000 in
theorem rSize (va vb : Value) (n m a b : Nat) (w : World) (ha : Dig w va n a) (hb : Dig w vb m b) :
    Calls Tryd.prog 55 #[va, vb] w fun e w' => e = .returned (.int .i64 (cmpI a b)) ∧ w' = w := by
  have HA : Hid (∀ i : Nat, i ≤ 9223372036854775807 → Calls Tryd.prog 65 #[va, .int .i64 (i : Int)] w fun e w' => e = .returned (.int .i64 (dd a i : Int)) ∧ w' = w) := fun i hi => rAt va n a i w ha hi
  have HB : Hid (∀ i : Nat, i ≤ 9223372036854775807 → Calls Tryd.prog 65 #[vb, .int .i64 (i : Int)] w fun e w' => e = .returned (.int .i64 (dd b i : Int)) ∧ w' = w) := fun i hi => rAt vb m b i w hb hi
  obtain ⟨⟨ao, c, rfl, hc, hc2, _⟩, hu, hn⟩ := ha
  obtain ⟨⟨bo, d, rfl, hd, hd2, _⟩, hv, hm⟩ := hb
  go_enter Tryd.func55, Tryd.ntmps55
  go_wp2
  go_loopw [5] (fun i wr => ∃ (k : Nat) (z : Int), k ≤ max n m ∧ i = .int .i64 z ∧ z = (k : Int) - 1 ∧ a / 10 ^ k = b / 10 ^ k ∧ wr = w) (fun i _ => (intOf i + 1).toNat)
  case atStart =>
    refine ⟨max n m, _, Nat.le_refl _, rfl, by omega, ?_, rfl⟩
    rw [Nat.div_eq_of_lt (Nat.lt_of_lt_of_le hu (Nat.pow_le_pow_right (by decide) (Nat.le_max_left _ _))), Nat.div_eq_of_lt (Nat.lt_of_lt_of_le hv (Nat.pow_le_pow_right (by decide) (Nat.le_max_right _ _)))]
  case round =>
    obtain ⟨k, z, hk, rfl, hz, hdiv, hw⟩ := hrel
    obtain rfl : w = wr := hw.symm
    cases k with
    | zero =>
      obtain rfl : z = -1 := by omega
      have hab : a = b := by simpa using hdiv
      have HE : Hid (cmpI a b = 0) := cmpI_eq (by omega)
      clear hdiv hz hab hw
      go_wp2
      go_ret
      exact ⟨by rw [HE.out]; rfl, rfl⟩
    | succ j =>
      obtain rfl : z = (j : Int) := by omega
      have hj0 : (0 : Int) ≤ (j : Int) := by omega
      have hjl : j ≤ 9223372036854775807 := by omega
      have hda := dd_lt a j
      have hdb := dd_lt b j
      have HD : Hid (a / 10 ^ (j + 1) = b / 10 ^ (j + 1)) := hdiv
      have Hk : Hid (j ≤ max n m) := (by omega : j ≤ max n m)
      clear hdiv hz hw hk
      by_cases e : dd a j = dd b j
      · have HD2 : Hid (a / 10 ^ j = b / 10 ^ j) := top_step10 HD.out e
        have e1 : ((dd a j : Int) == (dd b j : Int)) = true := by rw [e]; simp
        clear e
        go_wp2_with fail
        refine (HA.out j hjl).mono ?_
        rintro e w1 ⟨rfl, hw⟩
        obtain rfl : w = w1 := hw.symm
        clear hw
        go_wp2_with fail
        refine (HB.out j hjl).mono ?_
        rintro e w1 ⟨rfl, hw⟩
        obtain rfl : w = w1 := hw.symm
        clear hw
        go_wp2
        go_roundw
        case rel => exact ⟨j, (j : Int) - 1, Hk.out, by first | rfl | go_num, rfl, HD2.out, by first | trivial | rfl⟩
        case measure => simp [intOf]
      · have e1 : ((dd a j : Int) == (dd b j : Int)) = false := by rw [beq_eq_false_iff_ne]; omega
        by_cases hlt : dd a j < dd b j
        · have e2 : (dd a j : Int) < (dd b j : Int) := by omega
          have HE : Hid (cmpI a b = -1) := cmpI_lt (by have := lt_of_top10 HD.out hlt; omega)
          clear e hlt
          go_wp2_with fail
          refine (HA.out j hjl).mono ?_
          rintro e w1 ⟨rfl, hw⟩
          obtain rfl : w = w1 := hw.symm
          clear hw
          go_wp2_with fail
          refine (HB.out j hjl).mono ?_
          rintro e w1 ⟨rfl, hw⟩
          obtain rfl : w = w1 := hw.symm
          clear hw
          go_wp2_with fail
          refine (HA.out j hjl).mono ?_
          rintro e w1 ⟨rfl, hw⟩
          obtain rfl : w = w1 := hw.symm
          clear hw
          go_wp2_with fail
          refine (HB.out j hjl).mono ?_
          rintro e w1 ⟨rfl, hw⟩
          obtain rfl : w = w1 := hw.symm
          clear hw
          go_wp2
          go_ret
          exact ⟨by rw [HE.out]; rfl, rfl⟩
        · have e2 : ¬ (dd a j : Int) < (dd b j : Int) := by omega
          have HE : Hid (cmpI a b = 1) := cmpI_gt (by have := lt_of_top10 HD.out.symm (show dd b j < dd a j by omega); omega)
          clear e hlt
          go_wp2_with fail
          refine (HA.out j hjl).mono ?_
          rintro e w1 ⟨rfl, hw⟩
          obtain rfl : w = w1 := hw.symm
          clear hw
          go_wp2_with fail
          refine (HB.out j hjl).mono ?_
          rintro e w1 ⟨rfl, hw⟩
          obtain rfl : w = w1 := hw.symm
          clear hw
          go_wp2_with fail
          refine (HA.out j hjl).mono ?_
          rintro e w1 ⟨rfl, hw⟩
          obtain rfl : w = w1 := hw.symm
          clear hw
          go_wp2_with fail
          refine (HB.out j hjl).mono ?_
          rintro e w1 ⟨rfl, hw⟩
          obtain rfl : w = w1 := hw.symm
          clear hw
          go_wp2
          go_ret
          exact ⟨by rw [HE.out]; rfl, rfl⟩
end Go.Proofs.YtnekefchbienoaaDoor
