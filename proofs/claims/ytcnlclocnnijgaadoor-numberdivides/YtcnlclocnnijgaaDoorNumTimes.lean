/-
  A product by its limbs: what stands there when the first k limbs of one number have been multiplied. No program, no condition.
-/
import Derived.Test.YtcnlclocnnijgaaDoorNumPad
namespace Go.Proofs.YtcnlclocnnijgaaDoor
open Go

/-- The product of a number's first k limbs. -/
def Vt (n m k : Nat) : Nat := n % 1000000000 ^ k * m
theorem Vt_zero (n m : Nat) : Vt n m 0 = 0 := by simp [Vt, Nat.mod_one]
theorem Vt_succ (n m k : Nat) : Vt n m (k + 1) = Vt n m k + lb n k * m * 1000000000 ^ k := by
  unfold Vt lb
  rw [Nat.mod_pow_succ, Nat.add_mul]
  congr 1
  rw [Nat.mul_comm (1000000000 ^ k), Nat.mul_assoc, Nat.mul_assoc, Nat.mul_comm (1000000000 ^ k)]
theorem Vt_lt (n m k : Nat) : Vt n m k < 1000000000 ^ (k + ln m) := by
  unfold Vt
  rw [Nat.pow_add]
  have h1 := Nat.mod_lt n (pow_pos' 1000000000 k (by decide))
  have h2 := lt_pow_ln m
  exact Nat.mul_lt_mul'' h1 h2
theorem Vt_full {n m k : Nat} (h : ln n ≤ k) : Vt n m k = n * m := by
  unfold Vt
  rw [Nat.mod_eq_of_lt (Nat.lt_of_lt_of_le (lt_pow_ln n) (Nat.pow_le_pow_right (by decide) h))]
theorem lb_shift (V k j : Nat) : lb (V / 1000000000 ^ k) j = lb V (k + j) := by
  unfold lb
  rw [Nat.div_div_eq_div_mul, ← Nat.pow_add]
theorem lb_low {V c k x : Nat} (h : x < k) : lb (V + c * 1000000000 ^ k) x = lb V x := by
  unfold lb
  obtain ⟨d, rfl⟩ : ∃ d, k = x + (d + 1) := ⟨k - x - 1, by omega⟩
  have e : V + c * 1000000000 ^ (x + (d + 1)) = V + (c * 1000000000 ^ d * 1000000000) * 1000000000 ^ x := by
    rw [Nat.pow_add, Nat.pow_succ, Nat.mul_comm (1000000000 ^ x), Nat.mul_assoc, Nat.mul_assoc, Nat.mul_assoc]
  rw [e, Nat.add_mul_div_right _ _ (pow_pos' _ _ (by decide)), Nat.add_mul_mod_self_right]
theorem Vt_div (n m k : Nat) : Vt n m (k + 1) / 1000000000 ^ k = Vt n m k / 1000000000 ^ k + lb n k * m := by
  rw [Vt_succ, Nat.add_mul_div_right _ _ (pow_pos' _ _ (by decide))]
theorem Vt_low {n m k x : Nat} (h : x < k) : lb (Vt n m (k + 1)) x = lb (Vt n m k) x := by
  rw [Vt_succ]; exact lb_low h
/-- One step of the inner loop. -/
theorem Vt_step {n m k j c : Nat} (h : c + Vt n m k / 1000000000 ^ k / 1000000000 ^ j + lb n k * (m / 1000000000 ^ j) = (Vt n m (k + 1) / 1000000000 ^ k) / 1000000000 ^ j) :
    (c + (lb (Vt n m k) (k + j) + lb n k * lb m j)) % 1000000000 = lb (Vt n m (k + 1)) (k + j) ∧
    (c + (lb (Vt n m k) (k + j) + lb n k * lb m j)) / 1000000000 + Vt n m k / 1000000000 ^ k / 1000000000 ^ (j + 1) + lb n k * (m / 1000000000 ^ (j + 1)) = (Vt n m (k + 1) / 1000000000 ^ k) / 1000000000 ^ (j + 1) := by
  rw [Vt_div] at h ⊢
  have := times_step h
  rw [lb_shift] at this
  have e : lb (Vt n m k / 1000000000 ^ k + lb n k * m) j = lb (Vt n m (k + 1)) (k + j) := by rw [← Vt_div, lb_shift]
  rw [e] at this
  exact this
/-- What is carried at the inner loop's end. -/
theorem Vt_end {n m k c : Nat} (h : c + Vt n m k / 1000000000 ^ k / 1000000000 ^ ln m + lb n k * (m / 1000000000 ^ ln m) = (Vt n m (k + 1) / 1000000000 ^ k) / 1000000000 ^ ln m) (hc : c < 1000000000) : c = lb (Vt n m (k + 1)) (k + ln m) := by
  have h1 : Vt n m k / 1000000000 ^ k / 1000000000 ^ ln m = 0 := by
    rw [Nat.div_div_eq_div_mul, ← Nat.pow_add]
    exact Nat.div_eq_of_lt (Vt_lt n m k)
  have h2 : m / 1000000000 ^ ln m = 0 := Nat.div_eq_of_lt (lt_pow_ln m)
  rw [h1, h2, Nat.mul_zero, Nat.add_zero, Nat.add_zero] at h
  rw [← lb_shift]
  unfold lb
  rw [← h]
  exact (Nat.mod_eq_of_lt hc).symm
theorem Vt_out {n m k x : Nat} (h : k + ln m ≤ x) : lb (Vt n m k) x = 0 := by
  unfold lb
  rw [Nat.div_eq_of_lt (Nat.lt_of_lt_of_le (Vt_lt n m k) (Nat.pow_le_pow_right (by decide) h))]
theorem limbs_mul (n m k j : Nat) : lb n k * lb m j ≤ 999999998000000001 := by
  have h1 := lb_lt n k
  have h2 := lb_lt m j
  exact Nat.le_trans (Nat.mul_le_mul (show lb n k ≤ 999999999 by omega) (show lb m j ≤ 999999999 by omega)) (by decide)
end Go.Proofs.YtcnlclocnnijgaaDoor
