/-
  Whole numbers by their digits in a base: which digit stands where, how many there are, how a number that is cut off at a place goes on. No program, no condition.
-/
import Derived.Lib.ItoaNum
import Derived.Lib.Hide
namespace Go.Proofs.Ytfobiknbjijphaa
open Go

theorem div_pow_succ (v b i : Nat) : v / b ^ (i + 1) = v / b ^ i / b := by rw [Nat.pow_succ, Nat.div_div_eq_div_mul]
theorem pow_pos' (b i : Nat) (h : 0 < b) : 0 < b ^ i := Nat.pos_of_ne_zero (fun e => by have := Nat.pow_eq_zero.1 e; omega)

/-- The limb of nine digits at a place. -/
def lb (v i : Nat) : Nat := v / 1000000000 ^ i % 1000000000
/-- How many limbs a number has (nought has none). -/
def ln (v : Nat) : Nat := if h : v = 0 then 0 else ln (v / 1000000000) + 1
decreasing_by omega

theorem ln_zero : ln 0 = 0 := by rw [ln]; simp
theorem ln_pos {v : Nat} (h : v ≠ 0) : ln v = ln (v / 1000000000) + 1 := by rw [ln, dif_neg h]
theorem lb_lt (v i : Nat) : lb v i < 1000000000 := Nat.mod_lt _ (by decide)
theorem lb_zero (v : Nat) : lb v 0 = v % 1000000000 := by simp [lb]
theorem lb_succ (v i : Nat) : lb v (i + 1) = lb (v / 1000000000) i := by
  unfold lb
  rw [Nat.pow_succ, Nat.mul_comm, Nat.div_div_eq_div_mul]
theorem lt_pow_ln : ∀ (v : Nat), v < 1000000000 ^ ln v := by
  intro v
  induction v using Nat.strongRecOn with
  | _ v ih =>
    by_cases h : v = 0
    · subst h; rw [ln_zero]; decide
    · rw [ln_pos h, Nat.pow_succ]
      have := ih (v / 1000000000) (by omega)
      omega
theorem pow_ln_le : ∀ (v : Nat), v ≠ 0 → 1000000000 ^ (ln v - 1) ≤ v := by
  intro v
  induction v using Nat.strongRecOn with
  | _ v ih =>
    intro h
    rw [ln_pos h]
    by_cases h2 : v / 1000000000 = 0
    · rw [h2, ln_zero]; simp; omega
    · have := ih (v / 1000000000) (by omega) h2
      have e : ln (v / 1000000000) + 1 - 1 = ln (v / 1000000000) - 1 + 1 := by
        have := ln_pos h2
        omega
      rw [e, Nat.pow_succ]
      omega
theorem ln_le {v k : Nat} (h : v < 1000000000 ^ k) : ln v ≤ k := by
  by_cases h0 : v = 0
  · subst h0; rw [ln_zero]; omega
  · have h1 := pow_ln_le v h0
    by_cases h2 : ln v ≤ k
    · exact h2
    · exfalso
      have := Nat.pow_le_pow_right (n := 1000000000) (by decide) (show k ≤ ln v - 1 by omega)
      omega
theorem ln_mono {a b : Nat} (h : a ≤ b) : ln a ≤ ln b := ln_le (Nat.lt_of_le_of_lt h (lt_pow_ln b))
theorem lt_of_ln {a b : Nat} (h : ln a < ln b) : a < b := Nat.lt_of_not_le (fun k => by have := ln_mono k; omega)
theorem div_ln {v i : Nat} (h : ln v ≤ i) : v / 1000000000 ^ i = 0 :=
  Nat.div_eq_of_lt (Nat.lt_of_lt_of_le (lt_pow_ln v) (Nat.pow_le_pow_right (by decide) h))
theorem lb_out {v i : Nat} (h : ln v ≤ i) : lb v i = 0 := by unfold lb; rw [div_ln h]
theorem lb_top {v : Nat} (h : v ≠ 0) : lb v (ln v - 1) ≠ 0 := by
  have h1 := pow_ln_le v h
  have h2 := lt_pow_ln v
  have h3 := ln_pos h
  unfold lb
  have h4 : v / 1000000000 ^ (ln v - 1) < 1000000000 := Nat.div_lt_of_lt_mul (by rw [← Nat.pow_succ, show (ln v - 1).succ = ln v by omega]; exact h2)
  have h5 : 0 < v / 1000000000 ^ (ln v - 1) := Nat.div_pos h1 (pow_pos' _ _ (by decide))
  rw [Nat.mod_eq_of_lt h4]
  omega
theorem ln_eq_zero {v : Nat} : ln v = 0 ↔ v = 0 := by
  constructor
  · intro h
    by_cases h0 : v = 0
    · exact h0
    · rw [ln_pos h0] at h; omega
  · rintro rfl; exact ln_zero
/-- Where k places hold v, and the last one is not 0, v has k limbs. -/
theorem ln_unique {v k : Nat} (h : v < 1000000000 ^ k) (h0 : k = 0 ∨ lb v (k - 1) ≠ 0) : ln v = k := by
  rcases h0 with rfl | h0
  · rw [ln_eq_zero]; simpa using h
  · have h1 := ln_le h
    by_cases h2 : ln v ≤ k - 1
    · exact absurd (lb_out h2) h0
    · omega

/-- One number is cut at each place of another one. -/
theorem lt_of_top {a b i : Nat} (h : a / 1000000000 ^ (i + 1) = b / 1000000000 ^ (i + 1)) (h2 : lb a i < lb b i) : a < b := by
  unfold lb at h2
  rw [div_pow_succ, div_pow_succ] at h
  have h3 : a / 1000000000 ^ i < b / 1000000000 ^ i := by omega
  exact Nat.lt_of_not_le (fun k => by have := Nat.div_le_div_right (c := 1000000000 ^ i) k; omega)
theorem top_step {a b i : Nat} (h : a / 1000000000 ^ (i + 1) = b / 1000000000 ^ (i + 1)) (h2 : lb a i = lb b i) : a / 1000000000 ^ i = b / 1000000000 ^ i := by
  unfold lb at h2
  rw [div_pow_succ, div_pow_succ] at h
  omega

/-- A sum's carry at a place. -/
theorem plus_step {n m c i : Nat} (h : c + n / 1000000000 ^ i + m / 1000000000 ^ i = (n + m) / 1000000000 ^ i) :
    (c + (lb n i + lb m i)) % 1000000000 = lb (n + m) i ∧ (c + (lb n i + lb m i)) / 1000000000 + n / 1000000000 ^ (i + 1) + m / 1000000000 ^ (i + 1) = (n + m) / 1000000000 ^ (i + 1) := by
  unfold lb
  rw [div_pow_succ, div_pow_succ, div_pow_succ]
  omega
/-- What is borrowed at a place. -/
theorem minus_step {n m c i : Nat} (hc : c ≤ 1) (h : n / 1000000000 ^ i = m / 1000000000 ^ i + c + (n - m) / 1000000000 ^ i) :
    (lb n i + 1000000000 - lb m i - c) % 1000000000 = lb (n - m) i ∧ (lb n i + 1000000000 - lb m i - c) / 1000000000 ≤ 1 ∧ n / 1000000000 ^ (i + 1) = m / 1000000000 ^ (i + 1) + (1 - (lb n i + 1000000000 - lb m i - c) / 1000000000) + (n - m) / 1000000000 ^ (i + 1) := by
  unfold lb
  rw [div_pow_succ, div_pow_succ, div_pow_succ]
  omega
/-- A product's carry at a place: x and a times m. -/
theorem times_step {x a m c j : Nat} (h : c + x / 1000000000 ^ j + a * (m / 1000000000 ^ j) = (x + a * m) / 1000000000 ^ j) :
    (c + (lb x j + a * lb m j)) % 1000000000 = lb (x + a * m) j ∧ (c + (lb x j + a * lb m j)) / 1000000000 + x / 1000000000 ^ (j + 1) + a * (m / 1000000000 ^ (j + 1)) = (x + a * m) / 1000000000 ^ (j + 1) := by
  unfold lb
  rw [div_pow_succ, div_pow_succ, div_pow_succ]
  have e : a * (m / 1000000000 ^ j) = 1000000000 * (a * (m / 1000000000 ^ j / 1000000000)) + a * (m / 1000000000 ^ j % 1000000000) := by
    rw [← Nat.mul_assoc, Nat.mul_comm 1000000000 a, Nat.mul_assoc, ← Nat.mul_add, Nat.div_add_mod]
  omega
end Go.Proofs.Ytfobiknbjijphaa
