/-
  Numerals that are put together of parts with noughts ahead. No program, no condition.
-/
import Derived.Test.YtfobiknbjijphaaNumText
namespace Go.Proofs.Ytfobiknbjijphaa
open Go

/-- The last k digits of r, with noughts ahead. -/
def padk : Nat → Nat → List UInt8
  | 0, _ => []
  | k + 1, r => padk k (r / 10) ++ [Lib.dg r 0]
theorem padk_length (k : Nat) : ∀ r, (padk k r).length = k := by
  induction k with
  | zero => intro r; rfl
  | succ k ih => intro r; simp [padk, ih]
theorem dg0 (r : Nat) : Lib.dg r 0 = UInt8.ofNat (48 + r % 10) := by simp [Lib.dg]
theorem dec_pad : ∀ (k q r : Nat), q ≠ 0 → r < 10 ^ k → Lib.decDigits (q * 10 ^ k + r) = Lib.decDigits q ++ padk k r := by
  intro k
  induction k with
  | zero => intro q r _ h; simp at h; subst h; simp [padk]
  | succ k ih =>
    intro q r hq h
    have hp := pow_pos' 10 k (by decide)
    rw [Nat.pow_succ] at h
    have e1 : q * 10 ^ (k + 1) = q * 10 ^ k * 10 := by rw [Nat.pow_succ, Nat.mul_assoc]
    have h1 : 1 ≤ q * 10 ^ k := Nat.mul_pos (Nat.pos_of_ne_zero hq) hp
    rw [e1, Lib.decDigits, dif_neg (by omega), show (q * 10 ^ k * 10 + r) / 10 = q * 10 ^ k + r / 10 by omega, show (q * 10 ^ k * 10 + r) % 10 = r % 10 by omega, ih q (r / 10) hq (by omega), padk, dg0, List.append_assoc]
theorem pad_noughts : ∀ (k r : Nat), r < 10 ^ k → 0 < k → List.replicate (k - Lib.nDigits r) 48 ++ Lib.decDigits r = padk k r ∧ Lib.nDigits r ≤ k := by
  intro k
  induction k with
  | zero => intro r _ h; omega
  | succ k ih =>
    intro r h _
    rw [padk, dg0]
    by_cases hr : r < 10
    · rw [Lib.nDigits_small hr, Lib.decDigits_one hr, show r / 10 = 0 by omega, show r % 10 = r by omega, show k + 1 - 1 = k by omega]
      refine ⟨?_, by omega⟩
      congr 1
      clear ih h
      induction k with
      | zero => rfl
      | succ k ih =>
        rw [padk, List.replicate_succ', ih (by omega), dg0]
        rfl
    · have hk : 0 < k := by
        by_cases hk : k = 0
        · subst hk; simp at h; omega
        · omega
      obtain ⟨i1, i2⟩ := ih (r / 10) (by rw [Nat.pow_succ] at h; omega) hk
      rw [Lib.nDigits_big hr, Lib.decDigits, dif_neg hr, ← i1, show k + 1 - (Lib.nDigits (r / 10) + 1) = k - Lib.nDigits (r / 10) by omega, List.append_assoc]
      exact ⟨rfl, by omega⟩
/-- How a number's text goes on by a limb. -/
theorem dec_limb {n i : Nat} (h : n / 1000000000 ^ (i + 1) ≠ 0) :
    Lib.decDigits (n / 1000000000 ^ i) = Lib.decDigits (n / 1000000000 ^ (i + 1)) ++ (List.replicate (9 - Lib.nDigits (lb n i)) 48 ++ Lib.decDigits (lb n i)) := by
  have hl := lb_lt n i
  have e := dec_pad 9 (n / 1000000000 ^ (i + 1)) (lb n i) h (by simpa using hl)
  rw [(pad_noughts 9 (lb n i) (by simpa using hl) (by decide)).1, ← e]
  congr 1
  unfold lb
  rw [div_pow_succ]
  omega
theorem limb_digits (n i : Nat) : Lib.nDigits (lb n i) ≤ 9 := (pad_noughts 9 (lb n i) (by simpa using lb_lt n i) (by decide)).2
end Go.Proofs.Ytfobiknbjijphaa
