/-
  A quotient by its limbs, from the highest: what stands there at each place, and what a scale leaves. No program, no condition.
-/
import Derived.Test.YtcnlclocnnijgaaDoorNGuess
namespace Go.Proofs.YtcnlclocnnijgaaDoor
open Go
set_option linter.unusedVariables false

theorem topB (X i : Nat) : X / 1000000000 ^ i = 1000000000 * (X / 1000000000 ^ (i + 1)) + lb X i := by
  unfold lb
  rw [div_pow_succ]
  omega
/-- One more limb taken down: the rest and the quotient's limb. -/
theorem div_downB (X Y i : Nat) (hY : 0 < Y) :
    (1000000000 * (X / 1000000000 ^ (i + 1) % Y) + lb X i) % Y = X / 1000000000 ^ i % Y ∧ (1000000000 * (X / 1000000000 ^ (i + 1) % Y) + lb X i) / Y = lb (X / Y) i ∧ 1000000000 * (X / 1000000000 ^ (i + 1) % Y) + lb X i < 1000000000 * Y := by
  have hd := lb_lt X i
  have e0 := topB X i
  generalize X / 1000000000 ^ (i + 1) = A at *
  generalize lb X i = d at *
  have hr := Nat.mod_lt A hY
  have e1 : 1000000000 * A + d = 1000000000 * (A % Y) + d + Y * (1000000000 * (A / Y)) := by
    have := Nat.div_add_mod A Y
    have e : Y * (1000000000 * (A / Y)) = 1000000000 * (Y * (A / Y)) := Nat.mul_left_comm _ _ _
    rw [e]
    omega
  have h3 : 1000000000 * (A % Y) + d < 1000000000 * Y := by omega
  have e2 : X / Y / 1000000000 ^ i = (1000000000 * (A % Y) + d) / Y + 1000000000 * (A / Y) := by
    rw [Nat.div_div_eq_div_mul, Nat.mul_comm Y, ← Nat.div_div_eq_div_mul, e0, e1, Nat.add_mul_div_left _ _ hY]
  have h4 : (1000000000 * (A % Y) + d) / Y < 1000000000 := by rw [Nat.div_lt_iff_lt_mul hY]; exact h3
  refine ⟨?_, ?_, h3⟩
  · rw [e0, e1, Nat.add_mul_mod_self_left]
  · rw [show lb (X / Y) i = X / Y / 1000000000 ^ i % 1000000000 from rfl, e2]
    clear e2 e1 e0 h3
    generalize (1000000000 * (A % Y) + d) / Y = q at *
    generalize A / Y = z
    omega
/-- The limbs of a number with one more limb behind. -/
theorem lb_cons (r d i : Nat) (hd : d < 1000000000) : lb (1000000000 * r + d) i = if i = 0 then d else lb r (i - 1) := by
  cases i with
  | zero => rw [if_pos rfl]; unfold lb; simp; omega
  | succ i =>
    rw [if_neg (by omega)]
    unfold lb
    rw [show 1000000000 ^ (i + 1) = 1000000000 * 1000000000 ^ i by rw [Nat.pow_succ, Nat.mul_comm], ← Nat.div_div_eq_div_mul, show (1000000000 * r + d) / 1000000000 = r by omega]
    rfl
theorem cons_lt {r d n : Nat} (hd : d < 1000000000) (hr : r < 1000000000 ^ n) : 1000000000 * r + d < 1000000000 ^ (n + 1) := by
  rw [Nat.pow_succ]
  omega
/-- The part is taken down until it fits. -/
theorem part_down {R Y q : Nat} (hY : 0 < Y) (h : R / Y ≤ q) : (R < q * Y → 0 < q ∧ R / Y ≤ q - 1 ∧ q * Y - Y = (q - 1) * Y ∧ Y ≤ q * Y) ∧ (¬ R < q * Y → R / Y = q ∧ R % Y = R - q * Y) := by
  constructor
  · intro hlt
    have h0 : 0 < q := by
      rcases Nat.eq_zero_or_pos q with e | e
      · rw [e, Nat.zero_mul] at hlt; omega
      · exact e
    obtain ⟨p, rfl⟩ : ∃ p, q = p + 1 := ⟨q - 1, by omega⟩
    have h1 : R / Y < p + 1 := by rw [Nat.div_lt_iff_lt_mul hY]; exact hlt
    refine ⟨h0, by omega, ?_, ?_⟩
    · rw [Nat.add_mul, Nat.one_mul, show p + 1 - 1 = p by omega]; omega
    · rw [Nat.add_mul, Nat.one_mul]; omega
  · intro hge
    have h1 : q ≤ R / Y := by rw [Nat.le_div_iff_mul_le hY]; omega
    have h2 : R / Y = q := by omega
    refine ⟨h2, ?_⟩
    have := Nat.div_add_mod R Y
    rw [h2, Nat.mul_comm] at this
    omega
/-- What a scale leaves of quotient and rest. -/
theorem scaled (s t k : Nat) (hk : 0 < k) : s * k / (t * k) = s / t ∧ s * k % (t * k) = s % t * k ∧ s % t * k / k = s % t :=
  ⟨Nat.mul_div_mul_right s t hk, Nat.mul_mod_mul_right k s t, Nat.mul_div_cancel _ hk⟩
/-- The scale lies within a limb. -/
theorem scale_fits {T : Nat} (h0 : 0 < T) (h : T < 1000000000) : 0 < 1000000000 / (T + 1) ∧ 1000000000 / (T + 1) < 1000000000 := by
  constructor
  · exact Nat.div_pos (by omega) (by omega)
  · rw [Nat.div_lt_iff_lt_mul (by omega)]
    omega
end Go.Proofs.YtcnlclocnnijgaaDoor
