/-
  A quotient's limb from the first limbs: never too small. Contract of guess. Conditions: the divisor is not nought, the rest is less than base times it, fewer than ten thousand limbs.
-/
import Derived.Test.YtcnlclocnnijgaaDoorNTrim
namespace Go.Proofs.YtcnlclocnnijgaaDoor
open Go.RowKit
set_option linter.unusedVariables false

theorem pow1 (k : Nat) : 0 < 1000000000 ^ k := Nat.pow_pos (by decide)
theorem lb_head {v k : Nat} (h : v < 1000000000 ^ (k + 1)) : lb v k = v / 1000000000 ^ k := by
  unfold lb
  rw [Nat.mod_eq_of_lt]
  rw [Nat.div_lt_iff_lt_mul (pow1 k), Nat.mul_comm, ← Nat.pow_succ]
  exact h
theorem head_two {v k : Nat} (h : v < 1000000000 ^ (k + 2)) : lb v (k + 1) * 1000000000 + lb v k = v / 1000000000 ^ k := by
  have h1 : lb v (k + 1) = v / 1000000000 ^ (k + 1) := lb_head h
  rw [h1]
  unfold lb
  rw [div_pow_succ]
  omega
/-- What is guessed. -/
def gs (r d : Nat) : Nat := min ((lb r (ln d - 1 + 1) * 1000000000 + lb r (ln d - 1)) / lb d (ln d - 1)) 999999999
theorem gs_ge {r d : Nat} (hd : d ≠ 0) (hr : r < 1000000000 * d) : r / d ≤ gs r d := by
  obtain ⟨k, hk⟩ : ∃ k, ln d = k + 1 := ⟨ln d - 1, by have := ln_pos hd; omega⟩
  have hdl : d < 1000000000 ^ (k + 1) := by rw [← hk]; exact lt_pow_ln d
  have hrl : r < 1000000000 ^ (k + 2) := by
    rw [Nat.pow_succ, Nat.mul_comm]
    exact Nat.lt_trans hr (Nat.mul_lt_mul_of_pos_left hdl (by decide))
  have htop : lb d k ≠ 0 := by have := lb_top hd; rwa [hk] at this
  unfold gs
  rw [hk, show k + 1 - 1 = k by omega, head_two hrl]
  refine Nat.le_min.2 ⟨?_, ?_⟩
  · rw [Nat.le_div_iff_mul_le (Nat.pos_of_ne_zero htop), Nat.le_div_iff_mul_le (pow1 k), lb_head hdl, Nat.mul_assoc]
    have h1 := Nat.div_mul_le_self d (1000000000 ^ k)
    have h2 := Nat.div_mul_le_self r d
    exact Nat.le_trans (Nat.mul_le_mul_left _ h1) h2
  · have h3 : r / d < 1000000000 := by
      rw [Nat.div_lt_iff_lt_mul (Nat.pos_of_ne_zero hd)]; exact hr
    omega
theorem gs_lt (r d : Nat) : gs r d < 1000000000 := by unfold gs; omega

set_option maxRecDepth 100000 in
set_option maxHeartbeats 1000000 in
theorem guess (vr vt : Value) (r d : Nat) (w : World) (hr : Sz w vr r) (ht : Sz w vt d) (hd : d ≠ 0) (hn : ln d ≤ 10000) :
    Calls Tryd.prog 65 #[vr, vt] w fun e w' => e = .returned (.int .u64 (gs r d : Int)) ∧ w' = w := by
  have HR : Hid (∀ i : Nat, i ≤ 9223372036854775807 → Calls Tryd.prog 76 #[vr, .int .i64 (i : Int)] w fun e w' => e = .returned (.int .u64 (lb r i : Int)) ∧ w' = w) := fun i hi => sLimb vr r i w hr hi
  obtain ⟨ao, c, rfl, h1, h2, h3, hc⟩ := ht.open
  obtain ⟨bo, c2, rfl, _⟩ := hr.open
  obtain ⟨k, hk⟩ : ∃ k, ln d = k + 1 := ⟨ln d - 1, by have := ln_pos hd; omega⟩
  have htop : lb d k ≠ 0 := by have := lb_top hd; rwa [hk] at this
  have HG : Hid (gs r d = min ((lb r (k + 1) * 1000000000 + lb r k) / lb d k) 999999999) := by
    show _ = _
    unfold gs
    rw [hk, show k + 1 - 1 = k by omega]
  have A1 := HR.out (k + 1) (by omega)
  have A2 := HR.out k (by omega)
  have l1 := lb_lt r (k + 1)
  have l2 := lb_lt r k
  have l3 := lb_lt d k
  rcases hc with h0 | ⟨g, rfl, hg⟩
  · omega
  have gk := hg k (by omega)
  rw [hk] at h1 h3 hn ⊢
  generalize hX : lb r (k + 1) = X at *
  generalize hY : lb r k = Y at *
  generalize hT : lb d k = T at *
  have t1 : ¬ (T : Int) = 0 := by omega
  have t2 : (k : Int) < (k : Int) + 1 := by omega
  have w1 : IntKind.u64.wrap ((X : Int) * 1000000000) = ((X * 1000000000 : Nat) : Int) := by rw [IntKind.wrap_u64]; omega
  have w2 : IntKind.u64.wrap (((X * 1000000000 : Nat) : Int) + (Y : Int)) = ((X * 1000000000 + Y : Nat) : Int) := by rw [IntKind.wrap_u64]; omega
  have HE : Hid (((gs r d : Nat) : Int) = min (((X * 1000000000 + Y : Nat) : Int) / (T : Int)) 999999999) := by
    show _ = _
    rw [HG.out]
    generalize X * 1000000000 + Y = Z
    have : (Z : Int) / (T : Int) = ((Z / T : Nat) : Int) := by simp
    rw [this]
    omega
  clear hr ht hg hk hX hY hT HG HR
  go_enter Tryd.func65, Tryd.ntmps65
  go_wp2_with fail
  refine A1.mono ?_
  rintro e w1 ⟨rfl, hw⟩
  obtain rfl : w = w1 := hw.symm
  clear hw
  go_wp2_with fail
  refine A2.mono ?_
  rintro e w1 ⟨rfl, hw⟩
  obtain rfl : w = w1 := hw.symm
  clear hw
  go_wp2
  go_ret
  refine ⟨?_, rfl⟩
  rw [HE.out]
  rfl
end Go.Proofs.YtcnlclocnnijgaaDoor
