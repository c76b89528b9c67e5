/-
  Contracts of little.Get, sector.Blank and the document's noughts, sector.Number, sector.Load, sector.Sealed. Conditions: a sector has 128 bytes; the table is laid.
-/
import Derived.Test.YtdcclfnbpckioaaGreatDoorSec
namespace Go.Proofs.YtdcclfnbpckioaaGreatDoor
open Go.RowKit
set_option linter.unusedVariables false

/-- The number of k bytes, the lowest first. -/
def rd (f : Nat → Int) : Nat → Nat
  | 0 => 0
  | k + 1 => rd f k + (f k).toNat * 256 ^ k
theorem rd_lt {f : Nat → Int} (h : ∀ i, 0 ≤ f i ∧ f i ≤ 255) : ∀ k, rd f k < 256 ^ k
  | 0 => by simp [rd]
  | k + 1 => by
    have ih := rd_lt h k
    have hk := h k
    have h1 : (f k).toNat ≤ 255 := by omega
    have h2 : (f k).toNat * 256 ^ k ≤ 255 * 256 ^ k := Nat.mul_le_mul_right _ h1
    rw [rd, Nat.pow_succ]
    omega
theorem wrap64_mod (a : Int) : (wrap64 a) % 18446744073709551616 = a % 18446744073709551616 := by unfold wrap64; omega
theorem or_i64 (a b : Nat) (ha : a < 2 ^ 64) (hb : b < 2 ^ 64) : bits .or .i64 (wrap64 (a : Int)) (wrap64 (b : Int)) = wrap64 ((a ||| b : Nat) : Int) := by
  show IntKind.i64.wrap ((BitVec.ofInt 64 (wrap64 (a : Int)) ||| BitVec.ofInt 64 (wrap64 (b : Int))).toNat : Int) = _
  have e : ∀ x : Nat, x < 2 ^ 64 → (BitVec.ofInt 64 (wrap64 (x : Int))).toNat = x := fun x hx => by
    rw [BitVec.toNat_ofInt]
    have := wrap64_mod (x : Int)
    have e2 : ((2 ^ 64 : Nat) : Int) = 18446744073709551616 := by decide
    rw [e2, this]
    omega
  rw [BitVec.toNat_or, e a ha, e b hb]
  generalize a ||| b = c
  simp only [IntKind.wrap, IntKind.bits, IntKind.signed, wrap64]
  simp
  omega
theorem get_step {f : Nat → Int} (h : ∀ i, 0 ≤ f i ∧ f i ≤ 255) (k : Nat) (hk : k < 8) : bits .or .i64 (wrap64 (rd f k : Nat)) (wrap64 (f k * 2 ^ (8 * k))) = wrap64 ((rd f (k + 1) : Nat) : Int) := by
  have ih := rd_lt h k
  have hb := h k
  obtain ⟨y, hy⟩ := Int.eq_ofNat_of_zero_le hb.1
  have hy2 : y ≤ 255 := by omega
  have e8 : (256 : Nat) ^ k = 2 ^ (8 * k) := by rw [Nat.pow_mul]
  have hp : (2 : Nat) ^ (8 * k) ≤ 2 ^ 56 := Nat.pow_le_pow_right (by decide) (by omega)
  have l1 : rd f k < 2 ^ 64 := by rw [e8] at ih; omega
  have l2 : y * 2 ^ (8 * k) < 2 ^ 64 := by
    have : y * 2 ^ (8 * k) ≤ 255 * 2 ^ 56 := Nat.mul_le_mul hy2 hp
    omega
  have e : f k * 2 ^ (8 * k) = ((y * 2 ^ (8 * k) : Nat) : Int) := by rw [hy]; simp
  rw [e, or_i64 _ _ l1 l2, rd, hy, Int.toNat_natCast, Nat.or_comm, e8]
  rw [e8] at ih
  rw [nat_join (8 * k) (y * 2 ^ (8 * k)) (rd f k) (Nat.mul_mod_left _ _) ih, Nat.add_comm]

/-- Noughts alone. -/
def Nil (f : Nat → Int) (n : Nat) : Prop := ∀ i, i < n → f i = 0
instance (f : Nat → Int) (n : Nat) : Decidable (Nil f n) := by unfold Nil; exact inferInstance
theorem nil_not {f : Nat → Int} {n k : Nat} (hk : k < n) (h : f k ≠ 0) : decide (Nil f n) = false := by
  simp only [decide_eq_false_iff_not]
  intro hn
  exact h (hn k hk)

/-- A sector's number. -/
def numS (f : Nat → Int) : Int := wrap64 ((rd (sh f 4) 8 : Nat) : Int)
/-- A sector's sum, as it stands and as it is. -/
def sumS (f : Nat → Int) : Nat := Crc.sum (lstN f 124)
end Go.Proofs.YtdcclfnbpckioaaGreatDoor
