/-
  The check sum, as plain numbers: one bit at a time (bit), four at a time by the table (half); both are one; a byte that is turned turns the sum. No program, no condition.
-/
import Derived.Laws.BitsAllLaws
import Derived.WalkKit
namespace Go.Proofs.YtcifjpgimekcjaaGreatDoor
namespace Crc
open Go.RowKit

def poly : Nat := 3988292384
/-- One bit of the division. -/
def bit (c : Nat) : Nat := if c % 2 = 1 then (c / 2) ^^^ poly else c / 2
def bits4 (c : Nat) : Nat := bit (bit (bit (bit c)))
def bits8 (c : Nat) : Nat := bits4 (bits4 c)
def tab : List Nat := [0, 498536548, 997073096, 651767980, 1994146192, 1802195444, 1303535960, 1342533948, 3988292384, 4027552580, 3604390888, 3412177804, 2607071920, 2262029012, 2685067896, 3183342108]
/-- Half a byte by the table. -/
def half (c : Nat) : Nat := (c / 16) ^^^ tab.getD (c % 16) 0
/-- A byte more. -/
def byte (c x : Nat) : Nat := bits8 (c ^^^ x)
def run (c : Nat) (l : List Nat) : Nat := l.foldl byte c
def sum (l : List Nat) : Nat := run 4294967295 l ^^^ 4294967295

theorem xor_half (a b : Nat) : (a ^^^ b) / 2 = (a / 2) ^^^ (b / 2) := by
  have := Nat.shiftRight_xor_distrib (a := a) (b := b) (i := 1)
  simpa [Nat.shiftRight_eq_div_pow] using this
theorem xor_mod (a b : Nat) : (a ^^^ b) % 2 = (a + b) % 2 := by
  have h := @Nat.xor_mod_two_pow a b 1
  have h' : (a ^^^ b) % 2 = (a % 2) ^^^ (b % 2) := by simpa using h
  rw [h']
  rcases Nat.mod_two_eq_zero_or_one a with ha | ha <;> rcases Nat.mod_two_eq_zero_or_one b with hb | hb <;> rw [ha, hb] <;> simp <;> omega
theorem xor_cancel {a b : Nat} (h : a ^^^ b = 0) : a = b := by
  have := congrArg (· ^^^ b) h
  simpa [Nat.xor_assoc] using this
theorem bit_xor (a b : Nat) : bit (a ^^^ b) = bit a ^^^ bit b := by
  unfold bit
  rw [xor_half, xor_mod]
  rcases Nat.mod_two_eq_zero_or_one a with ha | ha <;> rcases Nat.mod_two_eq_zero_or_one b with hb | hb
  · rw [if_neg (by omega), if_neg (by omega), if_neg (by omega)]
  · rw [if_pos (by omega), if_neg (by omega), if_pos hb, Nat.xor_assoc]
  · rw [if_pos (by omega), if_pos ha, if_neg (by omega), Nat.xor_assoc, Nat.xor_assoc, Nat.xor_comm poly]
  · rw [if_neg (by omega), if_pos ha, if_pos hb]
    rw [Nat.xor_assoc, ← Nat.xor_assoc poly, Nat.xor_comm poly (b / 2), Nat.xor_assoc (b / 2), Nat.xor_self, Nat.xor_zero]
theorem bits4_xor (a b : Nat) : bits4 (a ^^^ b) = bits4 a ^^^ bits4 b := by unfold bits4; rw [bit_xor, bit_xor, bit_xor, bit_xor]
theorem bits8_xor (a b : Nat) : bits8 (a ^^^ b) = bits8 a ^^^ bits8 b := by unfold bits8; rw [bits4_xor, bits4_xor]
theorem bit_double (q : Nat) : bit (2 * q) = q := by
  unfold bit
  rw [if_neg (by omega)]
  omega
theorem bits4_16 (q : Nat) : bits4 (16 * q) = q := by
  unfold bits4
  rw [show 16 * q = 2 * (2 * (2 * (2 * q))) by omega, bit_double, bit_double, bit_double, bit_double]
theorem split16 (c : Nat) : c = (16 * (c / 16)) ^^^ (c % 16) := by
  have h := Nat.two_pow_add_eq_or_of_lt (i := 4) (b := c % 16) (Nat.mod_lt _ (by decide)) (c / 16)
  have h2 : (16 * (c / 16)) ^^^ (c % 16) = 2 ^ 4 * (c / 16) + c % 16 := by
    apply Nat.eq_of_testBit_eq
    intro j
    rw [h, Nat.testBit_or, Nat.testBit_xor]
    have e16 : (16 : Nat) = 2 ^ 4 := rfl
    rw [e16, Nat.testBit_mod_two_pow, Nat.mul_comm, Nat.testBit_mul_two_pow]
    by_cases hj : 4 ≤ j
    · have : ¬ j < 4 := by omega
      simp [hj, this]
    · simp [hj]
  rw [h2]
  omega
theorem bits4_low (r : Nat) (h : r < 16) : bits4 r = tab.getD r 0 := by
  have hr : r = 0 ∨ r = 1 ∨ r = 2 ∨ r = 3 ∨ r = 4 ∨ r = 5 ∨ r = 6 ∨ r = 7 ∨ r = 8 ∨ r = 9 ∨ r = 10 ∨ r = 11 ∨ r = 12 ∨ r = 13 ∨ r = 14 ∨ r = 15 := by omega
  rcases hr with h | h | h | h | h | h | h | h | h | h | h | h | h | h | h | h <;> subst h <;> decide +kernel
/-- The table is right. -/
theorem half_eq (c : Nat) : half c = bits4 c := by
  have h := split16 c
  have e : bits4 c = bits4 (16 * (c / 16)) ^^^ bits4 (c % 16) := by
    rw [← bits4_xor, ← h]
  rw [e, bits4_16, bits4_low _ (Nat.mod_lt _ (by decide))]
  rfl

theorem poly_lt : poly < 2 ^ 32 := by decide
theorem bit_lt (c : Nat) (h : c < 2 ^ 32) : bit c < 2 ^ 32 := by
  unfold bit
  split
  · exact Nat.xor_lt_two_pow (by omega) poly_lt
  · omega
theorem bits4_lt (c : Nat) (h : c < 2 ^ 32) : bits4 c < 2 ^ 32 := bit_lt _ (bit_lt _ (bit_lt _ (bit_lt _ h)))
theorem bits8_lt (c : Nat) (h : c < 2 ^ 32) : bits8 c < 2 ^ 32 := bits4_lt _ (bits4_lt _ h)
theorem byte_lt (c x : Nat) (h : c < 2 ^ 32) (hx : x < 256) : byte c x < 2 ^ 32 := bits8_lt _ (Nat.xor_lt_two_pow h (by omega))
theorem run_lt : ∀ (l : List Nat) (c : Nat), c < 2 ^ 32 → (∀ x ∈ l, x < 256) → run c l < 2 ^ 32
  | [], c, h, _ => h
  | x :: l, c, h, hl => run_lt l (byte c x) (byte_lt c x h (hl x (by simp))) (fun y hy => hl y (by simp [hy]))
theorem sum_lt (l : List Nat) (hl : ∀ x ∈ l, x < 256) : sum l < 2 ^ 32 := Nat.xor_lt_two_pow (run_lt l _ (by decide) hl) (by decide)

/-- Nothing but nought comes to nought. -/
theorem bit_zero (d : Nat) (h : d < 2 ^ 32) (e : bit d = 0) : d = 0 := by
  unfold bit at e
  split at e
  · have hp := xor_cancel e
    unfold poly at hp
    omega
  · omega
theorem bit_inj (a b : Nat) (ha : a < 2 ^ 32) (hb : b < 2 ^ 32) (h : bit a = bit b) : a = b := by
  apply xor_cancel
  apply bit_zero _ (Nat.xor_lt_two_pow ha hb)
  rw [bit_xor, h, Nat.xor_self]
theorem bits4_inj (a b : Nat) (ha : a < 2 ^ 32) (hb : b < 2 ^ 32) (h : bits4 a = bits4 b) : a = b :=
  bit_inj _ _ ha hb (bit_inj _ _ (bit_lt _ ha) (bit_lt _ hb) (bit_inj _ _ (bit_lt _ (bit_lt _ ha)) (bit_lt _ (bit_lt _ hb)) (bit_inj _ _ (bit_lt _ (bit_lt _ (bit_lt _ ha))) (bit_lt _ (bit_lt _ (bit_lt _ hb))) h)))
theorem bits8_inj (a b : Nat) (ha : a < 2 ^ 32) (hb : b < 2 ^ 32) (h : bits8 a = bits8 b) : a = b :=
  bits4_inj _ _ ha hb (bits4_inj _ _ (bits4_lt _ ha) (bits4_lt _ hb) h)
theorem xor_right_inj {a b x : Nat} (h : a ^^^ x = b ^^^ x) : a = b := by
  have := congrArg (· ^^^ x) h
  simpa [Nat.xor_assoc] using this
theorem xor_left_inj {x a b : Nat} (h : x ^^^ a = x ^^^ b) : a = b := by
  rw [Nat.xor_comm x a, Nat.xor_comm x b] at h
  exact xor_right_inj h
theorem byte_inj_state (a b x : Nat) (ha : a < 2 ^ 32) (hb : b < 2 ^ 32) (hx : x < 256) (h : byte a x = byte b x) : a = b :=
  xor_right_inj (bits8_inj _ _ (Nat.xor_lt_two_pow ha (by omega)) (Nat.xor_lt_two_pow hb (by omega)) h)
theorem byte_inj_byte (c x y : Nat) (hc : c < 2 ^ 32) (hx : x < 256) (hy : y < 256) (h : byte c x = byte c y) : x = y :=
  xor_left_inj (bits8_inj _ _ (Nat.xor_lt_two_pow hc (by omega)) (Nat.xor_lt_two_pow hc (by omega)) h)
theorem run_inj : ∀ (l : List Nat) (a b : Nat), a < 2 ^ 32 → b < 2 ^ 32 → (∀ x ∈ l, x < 256) → run a l = run b l → a = b
  | [], a, b, _, _, _, h => h
  | x :: l, a, b, ha, hb, hl, h => byte_inj_state a b x ha hb (hl x (by simp)) (run_inj l (byte a x) (byte b x) (byte_lt a x ha (hl x (by simp))) (byte_lt b x hb (hl x (by simp))) (fun y hy => hl y (by simp [hy])) h)
/-- One byte turned, the sum is another one (P1.7). -/
theorem sum_turned (u v : List Nat) (x y : Nat) (hu : ∀ z ∈ u, z < 256) (hv : ∀ z ∈ v, z < 256) (hx : x < 256) (hy : y < 256) (h : sum (u ++ x :: v) = sum (u ++ y :: v)) : x = y := by
  unfold sum at h
  have h1 := xor_right_inj h
  unfold run at h1
  rw [List.foldl_append, List.foldl_append, List.foldl_cons, List.foldl_cons] at h1
  have hs : run 4294967295 u < 2 ^ 32 := run_lt u _ (by decide) hu
  exact byte_inj_byte _ x y hs hx hy (run_inj v _ _ (byte_lt _ x hs hx) (byte_lt _ y hs hy) hv h1)

end Crc
end Go.Proofs.YtcifjpgimekcjaaGreatDoor
