/-
  A product by its digits: what stands there when the first i digits of one number have been multiplied. No program, no condition.
-/
import Derived.Test.YtcnlclocnnijgaaDoorNRPlus
namespace Go.Proofs.YtcnlclocnnijgaaDoor
open Go

def Vd (x y i : Nat) : Nat := x % 10 ^ i * y
theorem Vd_zero (x y : Nat) : Vd x y 0 = 0 := by simp [Vd, Nat.mod_one]
theorem Vd_succ (x y i : Nat) : Vd x y (i + 1) = Vd x y i + dd x i * (y * 10 ^ i) := by
  unfold Vd dd
  rw [Nat.mod_pow_succ, Nat.add_mul]
  congr 1
  rw [Nat.mul_comm (10 ^ i), Nat.mul_assoc, Nat.mul_comm (10 ^ i)]
theorem Vd_full {x y n : Nat} (h : x < 10 ^ n) : Vd x y n = x * y := by
  unfold Vd
  rw [Nat.mod_eq_of_lt h]
theorem Vd_lt {x y n m i : Nat} (hy : y < 10 ^ m) (hi : i ≤ n) : Vd x y i < 10 ^ (n + m) := by
  unfold Vd
  rw [Nat.pow_add]
  have h1 : x % 10 ^ i < 10 ^ n := Nat.lt_of_lt_of_le (Nat.mod_lt x (pow_pos' 10 i (by decide))) (Nat.pow_le_pow_right (by decide) hi)
  exact Nat.mul_lt_mul'' h1 hy
theorem dd_shift_low {y i t : Nat} (h : t < i) : dd (y * 10 ^ i) t = 0 := by
  unfold dd
  obtain ⟨d, rfl⟩ : ∃ d, i = t + (d + 1) := ⟨i - t - 1, by omega⟩
  have e : y * 10 ^ (t + (d + 1)) = (y * 10 ^ d * 10) * 10 ^ t := by
    rw [Nat.pow_add, Nat.pow_succ, Nat.mul_comm (10 ^ t), Nat.mul_assoc, Nat.mul_assoc, Nat.mul_assoc]
  rw [e, Nat.mul_div_cancel _ (pow_pos' _ _ (by decide)), Nat.mul_mod_left]
theorem dd_shift {y i t : Nat} (h : i ≤ t) : dd (y * 10 ^ i) t = dd y (t - i) := by
  unfold dd
  obtain ⟨d, rfl⟩ : ∃ d, t = i + d := ⟨t - i, by omega⟩
  rw [Nat.pow_add, ← Nat.div_div_eq_div_mul, Nat.mul_div_cancel _ (pow_pos' _ _ (by decide)), show i + d - i = d by omega]
/-- What stands at a place before the carries: the digit so far and the product's. -/
def Br (V p Y t : Nat) : Nat := dd V t + p * dd Y t
theorem Br_le {V p Y t : Nat} (hp : p < 10) : Br V p Y t ≤ 90 := by
  unfold Br
  have h1 := dd_lt V t
  have h2 := dd_lt Y t
  have := Nat.mul_le_mul (show p ≤ 9 by omega) (show dd Y t ≤ 9 by omega)
  omega
theorem carry_step {V p Y c k : Nat} (h : c + V / 10 ^ k + p * (Y / 10 ^ k) = (V + p * Y) / 10 ^ k) :
    (c + Br V p Y k) % 10 = dd (V + p * Y) k ∧ (c + Br V p Y k) / 10 + V / 10 ^ (k + 1) + p * (Y / 10 ^ (k + 1)) = (V + p * Y) / 10 ^ (k + 1) := by
  unfold Br dd
  rw [div_pow_succ, div_pow_succ, div_pow_succ]
  generalize V / 10 ^ k = A at *
  generalize Y / 10 ^ k = B at *
  generalize (V + p * Y) / 10 ^ k = D at *
  have e : p * B = 10 * (p * (B / 10)) + p * (B % 10) := by
    have e1 : B = 10 * (B / 10) + B % 10 := by omega
    have e2 : p * (10 * (B / 10) + B % 10) = 10 * (p * (B / 10)) + p * (B % 10) := by rw [Nat.mul_add, Nat.mul_left_comm]
    rw [← e1] at e2
    exact e2
  generalize p * (B % 10) = q at *
  generalize p * (B / 10) = r at *
  generalize p * B = s at *
  omega
theorem carry_end {V p Y c k : Nat} (h : c + V / 10 ^ k + p * (Y / 10 ^ k) = (V + p * Y) / 10 ^ k) (hk : V + p * Y < 10 ^ k) : c + Br V p Y k = dd (V + p * Y) k := by
  rw [dd_out hk (Nat.le_refl _)]
  rw [Nat.div_eq_of_lt hk] at h
  unfold Br dd
  obtain ⟨h1, h2, h3⟩ : c = 0 ∧ V / 10 ^ k = 0 ∧ p * (Y / 10 ^ k) = 0 := by
    revert h
    generalize V / 10 ^ k = A
    generalize p * (Y / 10 ^ k) = B
    intro h
    omega
  rw [h1, h2]
  rcases Nat.mul_eq_zero.1 h3 with e | e
  · rw [e]; simp
  · rw [e]; simp
/-- The raw places after the inner loop's first k rounds. -/
def Ak (V p y i k t : Nat) : Nat := dd V t + (if i ≤ t ∧ t < i + k then p * dd y (t - i) else 0)
theorem Ak_zero (V p y i t : Nat) : Ak V p y i 0 t = dd V t := by
  unfold Ak
  rw [if_neg (by omega)]; rfl
theorem Ak_all {V p y i m t : Nat} (hy : y < 10 ^ m) : Ak V p y i m t = Br V p (y * 10 ^ i) t := by
  unfold Ak Br
  by_cases h1 : i ≤ t
  · rw [dd_shift h1]
    by_cases h2 : t < i + m
    · rw [if_pos ⟨h1, h2⟩]
    · rw [if_neg (fun h => h2 h.2), dd_out hy (show m ≤ t - i by omega)]; rfl
  · rw [if_neg (fun h => h1 h.1), dd_shift_low (by omega)]; rfl
theorem Ak_at (V p y i k : Nat) : Ak V p y i k (i + k) = dd V (i + k) := by
  unfold Ak
  rw [if_neg (by omega)]; rfl
theorem Ak_next (V p y i k t : Nat) : (if t = i + k then dd V (i + k) + p * dd y k else Ak V p y i k t) = Ak V p y i (k + 1) t := by
  unfold Ak
  by_cases h : t = i + k
  · subst h
    rw [if_pos rfl, if_pos (by omega), show i + k - i = k by omega]
  · rw [if_neg h]
    by_cases h1 : i ≤ t ∧ t < i + k
    · rw [if_pos h1, if_pos (by omega)]
    · rw [if_neg h1, if_neg (by omega)]
/-- The places during the carries. -/
def Ck (V p Y c k t : Nat) : Nat := if t < k then dd (V + p * Y) t else if t = k then c + Br V p Y t else Br V p Y t
theorem Ck_zero (V p Y t : Nat) : Ck V p Y 0 0 t = Br V p Y t := by
  unfold Ck
  rw [if_neg (by omega)]
  split
  · omega
  · rfl
theorem Ck_end {V p Y c k t : Nat} (h : c + V / 10 ^ k + p * (Y / 10 ^ k) = (V + p * Y) / 10 ^ k) (hk : V + p * Y < 10 ^ k) (ht : t < k + 1) : Ck V p Y c k t = dd (V + p * Y) t := by
  unfold Ck
  by_cases e : t < k
  · rw [if_pos e]
  · obtain rfl : t = k := by omega
    rw [if_neg e, if_pos rfl, carry_end h hk]
theorem Ck_here (V p Y c k : Nat) : Ck V p Y c k k = c + Br V p Y k := by unfold Ck; rw [if_neg (by omega), if_pos rfl]
theorem Ck_there (V p Y c k : Nat) : Ck V p Y c k (k + 1) = Br V p Y (k + 1) := by unfold Ck; rw [if_neg (by omega), if_neg (by omega)]
theorem Ck_next {V p Y c k : Nat} (h : (c + Br V p Y k) % 10 = dd (V + p * Y) k) (t : Nat) :
    (if t = k then (c + Br V p Y k) % 10 else if t = k + 1 then Br V p Y (k + 1) + (c + Br V p Y k) / 10 else Ck V p Y c k t) = Ck V p Y ((c + Br V p Y k) / 10) (k + 1) t := by
  unfold Ck
  by_cases e1 : t = k
  · subst e1
    rw [if_pos rfl, if_pos (by omega), h]
  · rw [if_neg e1]
    by_cases e2 : t = k + 1
    · subst e2
      rw [if_pos rfl, if_neg (by omega), if_pos rfl]; omega
    · rw [if_neg e2]
      by_cases e3 : t < k
      · rw [if_pos e3, if_pos (by omega)]
      · rw [if_neg e3, if_neg e1, if_neg (by omega), if_neg e2]
end Go.Proofs.YtcnlclocnnijgaaDoor
