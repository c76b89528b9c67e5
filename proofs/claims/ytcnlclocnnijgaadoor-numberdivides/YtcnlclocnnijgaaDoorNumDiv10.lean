/-
  A quotient by its digits, from the highest: what stands there at each place. No program, no condition.
-/
import Derived.Test.YtcnlclocnnijgaaDoorNumMul10
namespace Go.Proofs.YtcnlclocnnijgaaDoor
open Go
set_option linter.unusedVariables false

theorem dd_cons_zero (r d : Nat) (hd : d < 10) : dd (10 * r + d) 0 = d := by unfold dd; simp; omega
theorem dd_cons_succ (r d i : Nat) (hd : d < 10) : dd (10 * r + d) (i + 1) = dd r i := by
  unfold dd
  rw [show 10 ^ (i + 1) = 10 * 10 ^ i by rw [Nat.pow_succ, Nat.mul_comm], ← Nat.div_div_eq_div_mul, show (10 * r + d) / 10 = r by omega]
theorem dd_cons (r d i : Nat) (hd : d < 10) : dd (10 * r + d) i = if i = 0 then d else dd r (i - 1) := by
  cases i with
  | zero => rw [if_pos rfl, dd_cons_zero r d hd]
  | succ i => rw [if_neg (by omega), dd_cons_succ r d i hd]; rfl
theorem top_cons (X i : Nat) : X / 10 ^ i = 10 * (X / 10 ^ (i + 1)) + dd X i := by
  unfold dd
  rw [div_pow_succ]
  omega
/-- One more digit taken down: the rest and the quotient's digit. -/
theorem div_down (X Y i : Nat) (hY : 0 < Y) :
    (10 * (X / 10 ^ (i + 1) % Y) + dd X i) % Y = X / 10 ^ i % Y ∧ (10 * (X / 10 ^ (i + 1) % Y) + dd X i) / Y = dd (X / Y) i ∧ 10 * (X / 10 ^ (i + 1) % Y) + dd X i < 10 * Y := by
  have hd := dd_lt X i
  have e0 := top_cons X i
  generalize X / 10 ^ (i + 1) = A at *
  generalize dd X i = d at *
  have hr := Nat.mod_lt A hY
  have e1 : 10 * A + d = 10 * (A % Y) + d + Y * (10 * (A / Y)) := by
    have := Nat.div_add_mod A Y
    have e : Y * (10 * (A / Y)) = 10 * (Y * (A / Y)) := Nat.mul_left_comm _ _ _
    rw [e]
    omega
  have h3 : 10 * (A % Y) + d < 10 * Y := by omega
  have e2 : X / Y / 10 ^ i = (10 * (A % Y) + d) / Y + 10 * (A / Y) := by
    rw [Nat.div_div_eq_div_mul, Nat.mul_comm Y, ← Nat.div_div_eq_div_mul, e0, e1, Nat.add_mul_div_left _ _ hY]
  have h4 : (10 * (A % Y) + d) / Y < 10 := by rw [Nat.div_lt_iff_lt_mul hY]; exact h3
  refine ⟨?_, ?_, h3⟩
  · rw [e0, e1, Nat.add_mul_mod_self_left]
  · rw [show dd (X / Y) i = X / Y / 10 ^ i % 10 from rfl, e2]
    clear e2 e1 e0 h3
    generalize (10 * (A % Y) + d) / Y = q at *
    generalize A / Y = z
    omega
theorem sub_down {R Y t : Nat} (hY : 0 < Y) (h : t * Y ≤ R) (h2 : R - t * Y < Y) : R / Y = t ∧ R % Y = R - t * Y := by
  have e : R = (R - t * Y) + Y * t := by rw [Nat.mul_comm Y t]; omega
  constructor
  · rw [e, Nat.add_mul_div_left _ _ hY, Nat.div_eq_of_lt h2]; omega
  · have h3 : ((R - t * Y) + Y * t) % Y = R - t * Y := by rw [Nat.add_mul_mod_self_left]; exact Nat.mod_eq_of_lt h2
    rw [← e] at h3
    exact h3
theorem sub_more {R Y t : Nat} (h : t * Y ≤ R) (h2 : Y ≤ R - t * Y) : (t + 1) * Y ≤ R ∧ R - t * Y - Y = R - (t + 1) * Y := by
  rw [Nat.add_mul, Nat.one_mul]
  omega
theorem sub_few {R Y t : Nat} (hY : 0 < Y) (hR : R < 10 * Y) (h : t * Y ≤ R) : t < 10 := by
  rcases Nat.lt_or_ge t 10 with k | k
  · exact k
  · have := Nat.mul_le_mul_right Y k
    omega
end Go.Proofs.YtcnlclocnnijgaaDoor
