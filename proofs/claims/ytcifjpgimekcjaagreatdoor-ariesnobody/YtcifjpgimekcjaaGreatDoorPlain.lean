/-
  Plain facts for the wire layer: what a number's bytes say (num), and how the bit operations of the text come to it. No program, no condition but those that each theorem names.
-/
import Derived.Laws.BitsAllLaws
import Derived.WalkKit
namespace Go.Proofs.YtcifjpgimekcjaaGreatDoor
namespace Wm
open Go.RowKit

/-- The first k bytes' low seven bits, the lowest first. -/
def accum (f : Nat → Int) : Nat → Int
  | 0 => 0
  | k + 1 => accum f k + (f k % 128) * 2 ^ (7 * k)
/-- What is read from place k on, with so many places left: the number, how many bytes it takes, the error. -/
def numAt (f : Nat → Int) (n : Nat) : Nat → Nat → Int × Int × Int
  | 0, _ => (0, 0, 11)
  | r + 1, k => if n ≤ k then (0, 0, 10) else if 128 ≤ f k then numAt f n r (k + 1) else if f k = 0 ∧ 0 < k then (0, 0, 5) else (accum f (k + 1), (k : Int) + 1, 0)
def num (f : Nat → Int) (n : Nat) : Int × Int × Int := numAt f n 9 0

theorem w64 (n : Int) (h : -9223372036854775808 ≤ n ∧ n ≤ 9223372036854775807) : wrap64 n = n := by unfold wrap64; omega

theorem pow7 (k : Nat) : (2 : Int) ^ (7 * (k + 1)) = 2 ^ (7 * k) * 128 := by
  rw [Nat.mul_succ, Int.pow_add]; rfl
theorem pow7_pos (k : Nat) : (0 : Int) < 2 ^ (7 * k) := Int.pow_pos (by decide)

theorem accum_bd (f : Nat → Int) (k : Nat) : 0 ≤ accum f k ∧ accum f k < 2 ^ (7 * k) := by
  induction k with
  | zero => simp [accum]
  | succ k ih =>
    have hp := pow7_pos k
    have h1 : 0 ≤ f k % 128 := Int.emod_nonneg _ (by decide)
    have h2 : f k % 128 ≤ 127 := by have := Int.emod_lt_of_pos (f k) (show (0 : Int) < 128 by decide); omega
    have h3 : 0 ≤ (f k % 128) * 2 ^ (7 * k) := Int.mul_nonneg h1 (by omega)
    have h4 : (f k % 128) * 2 ^ (7 * k) ≤ 127 * 2 ^ (7 * k) := Int.mul_le_mul_of_nonneg_right h2 (by omega)
    rw [pow7, accum]
    omega

theorem pow7_le (k : Nat) (h : k ≤ 8) : (2 : Int) ^ (7 * k) ≤ 72057594037927936 := by
  have hk : k = 0 ∨ k = 1 ∨ k = 2 ∨ k = 3 ∨ k = 4 ∨ k = 5 ∨ k = 6 ∨ k = 7 ∨ k = 8 := by omega
  rcases hk with h | h | h | h | h | h | h | h | h <;> subst h <;> decide

theorem accum_le (f : Nat → Int) (k : Nat) (h : k ≤ 9) : 0 ≤ accum f k ∧ accum f k ≤ 9223372036854775807 := by
  have h0 := accum_bd f k
  by_cases h9 : k = 9
  · subst h9
    have : (2 : Int) ^ (7 * 9) = 9223372036854775808 := by decide
    omega
  · have := pow7_le k (by omega)
    omega

theorem i64_or_nat (a b : Nat) (ha : a < 9223372036854775808) (hb : b < 9223372036854775808) : bits .or .i64 (a : Int) (b : Int) = ((a ||| b : Nat) : Int) := by
  have hx : a ||| b < 2 ^ 63 := Nat.or_lt_two_pow (by omega) (by omega)
  show IntKind.i64.wrap ((BitVec.ofInt 64 (a : Int) ||| BitVec.ofInt 64 (b : Int)).toNat : Int) = _
  rw [BitVec.toNat_or, ofInt_u64 a (by omega), ofInt_u64 b (by omega)]
  simp only [IntKind.wrap, IntKind.bits, IntKind.signed]
  simp only [show (2 : Nat) ^ 63 = 9223372036854775808 from rfl] at hx
  generalize a ||| b = c at *
  simp
  omega

theorem andNot128 (x : Int) (h0 : 0 ≤ x) (h1 : x ≤ 255) : bits .andNot .u8 x 128 = x % 128 := by
  rw [u8_andNot x 128 h0 (by omega) (by decide) (by decide)]
  show ((x.toNat &&& 127 : Nat) : Int) = _
  rw [nat_mask7]
  omega
theorem and127 (x : Int) (h0 : 0 ≤ x) (h1 : x ≤ 255) : bits .and .u8 x 127 = x % 128 := by
  rw [u8_and x 127 h0 (by omega) (by decide) (by decide)]
  show ((x.toNat &&& 127 : Nat) : Int) = _
  rw [nat_mask7]
  omega

theorem part_bd (x : Int) (k : Nat) (hk : k < 9) : 0 ≤ (x % 128) * 2 ^ (7 * k) ∧ (x % 128) * 2 ^ (7 * k) ≤ 9151314442816847872 := by
  have h1 : 0 ≤ x % 128 := Int.emod_nonneg _ (by decide)
  have h2 : x % 128 ≤ 127 := by have := Int.emod_lt_of_pos x (show (0 : Int) < 128 by decide); omega
  have hp := pow7_pos k
  have hq := pow7_le k (by omega)
  have h3 : 0 ≤ (x % 128) * 2 ^ (7 * k) := Int.mul_nonneg h1 (by omega)
  have h4 : (x % 128) * 2 ^ (7 * k) ≤ 127 * 2 ^ (7 * k) := Int.mul_le_mul_of_nonneg_right h2 (by omega)
  omega

theorem or_join (A x : Int) (k : Nat) (hk : k < 9) (h0 : 0 ≤ A) (h1 : A < 2 ^ (7 * k)) : bits .or .i64 A ((x % 128) * 2 ^ (7 * k)) = A + (x % 128) * 2 ^ (7 * k) := by
  obtain ⟨p1, p2⟩ := part_bd x k hk
  have h2 : 0 ≤ x % 128 := Int.emod_nonneg _ (by decide)
  have hq := pow7_le k (by omega)
  obtain ⟨a, rfl⟩ := Int.eq_ofNat_of_zero_le h0
  obtain ⟨y, hy⟩ := Int.eq_ofNat_of_zero_le h2
  rw [hy] at p1 p2 ⊢
  have e : ((y : Int) * 2 ^ (7 * k)) = ((y * 2 ^ (7 * k) : Nat) : Int) := by simp
  rw [e] at p1 p2 ⊢
  have ha : a < 2 ^ (7 * k) := by
    have e2 : (2 : Int) ^ (7 * k) = ((2 ^ (7 * k) : Nat) : Int) := by simp
    rw [e2] at h1
    omega
  rw [i64_or_nat a (y * 2 ^ (7 * k)) (by omega) (by omega), Nat.or_comm, nat_join (7 * k) (y * 2 ^ (7 * k)) a (Nat.mul_mod_left _ _) ha]
  omega

/-- One byte more, as the text's own operations have it. -/
theorem or_step (f : Nat → Int) (x : Int) (k : Nat) (hk : k < 9) (hx : f k = x) (h0 : 0 ≤ x) (h1 : x ≤ 255) :
    bits .or .i64 (accum f k) (wrap64 (wrap64 (bits .andNot .u8 x 128) * 2 ^ (7 * k))) = accum f (k + 1) := by
  obtain ⟨p1, p2⟩ := part_bd x k hk
  have hb := accum_bd f k
  rw [andNot128 x h0 h1, w64 (x % 128) (by omega), w64 _ (by omega), or_join _ x k hk hb.1 hb.2, accum, hx]

theorem add_step (f : Nat → Int) (x : Int) (k : Nat) (hk : k < 9) (hx : f k = x) (h0 : 0 ≤ x) (h1 : x ≤ 255) :
    wrap64 (accum f k + wrap64 (wrap64 (bits .and .u8 x 127) * 2 ^ (7 * k))) = accum f (k + 1) := by
  obtain ⟨p1, p2⟩ := part_bd x k hk
  have hb := accum_le f (k + 1) (by omega)
  have e : accum f (k + 1) = accum f k + (x % 128) * 2 ^ (7 * k) := by rw [accum, hx]
  rw [and127 x h0 h1, w64 (x % 128) (by omega), w64 ((x % 128) * 2 ^ (7 * k)) (by omega), ← e, w64 _ (by omega)]

theorem numAt_end (f : Nat → Int) (n k : Nat) (h : 9 ≤ k) : numAt f n (9 - k) k = (0, 0, 11) := by
  rw [show 9 - k = 0 by omega]; rfl
theorem numAt_open (f : Nat → Int) (n k : Nat) (h : k < 9) : numAt f n (9 - k) k = if n ≤ k then (0, 0, 10) else if 128 ≤ f k then numAt f n (9 - (k + 1)) (k + 1) else if f k = 0 ∧ 0 < k then (0, 0, 5) else (accum f (k + 1), (k : Int) + 1, 0) := by
  rw [show 9 - k = (9 - (k + 1)) + 1 by omega]; rfl
theorem num_short (f : Nat → Int) (n k : Nat) (h : k < 9) (hn : n ≤ k) : numAt f n (9 - k) k = (0, 0, 10) := by rw [numAt_open f n k h, if_pos hn]
theorem num_more (f : Nat → Int) (n k : Nat) (h : k < 9) (hn : k < n) (hx : 128 ≤ f k) : numAt f n (9 - k) k = numAt f n (9 - (k + 1)) (k + 1) := by rw [numAt_open f n k h, if_neg (by omega), if_pos hx]
theorem num_form (f : Nat → Int) (n k : Nat) (h : k < 9) (hn : k < n) (hx : f k = 0) (hk : 0 < k) : numAt f n (9 - k) k = (0, 0, 5) := by
  rw [numAt_open f n k h, if_neg (by omega), if_neg (by omega), if_pos ⟨hx, hk⟩]
theorem num_last (f : Nat → Int) (n k : Nat) (h : k < 9) (hn : k < n) (hx : f k < 128) (hk : ¬ (f k = 0 ∧ 0 < k)) : numAt f n (9 - k) k = (accum f (k + 1), (k : Int) + 1, 0) := by
  rw [numAt_open f n k h, if_neg (by omega), if_neg (by omega), if_neg hk]

/-- What every answer keeps to. -/
theorem numAt_bd (f : Nat → Int) (n : Nat) : ∀ r k, r + k ≤ 9 → 0 ≤ (numAt f n r k).1 ∧ (numAt f n r k).1 ≤ 9223372036854775807 ∧ 0 ≤ (numAt f n r k).2.1 ∧ (numAt f n r k).2.1 ≤ n ∧ ((numAt f n r k).2.2 ≠ 0 → (numAt f n r k).1 = 0 ∧ (numAt f n r k).2.1 = 0) := by
  intro r
  induction r with
  | zero => intro k h; simp [numAt]
  | succ r ih =>
    intro k h
    have hb := accum_le f (k + 1) (by omega)
    unfold numAt
    split
    · simp
    · split
      · exact ih (k + 1) (by omega)
      · split
        · simp
        · refine ⟨hb.1, hb.2, ?_, ?_, ?_⟩
          · show (0 : Int) ≤ (k : Int) + 1; omega
          · show (k : Int) + 1 ≤ (n : Int); omega
          · intro h; exact absurd rfl h
theorem num_bd (f : Nat → Int) (n : Nat) : 0 ≤ (num f n).1 ∧ (num f n).1 ≤ 9223372036854775807 ∧ 0 ≤ (num f n).2.1 ∧ (num f n).2.1 ≤ n ∧ ((num f n).2.2 ≠ 0 → (num f n).1 = 0 ∧ (num f n).2.1 = 0) := numAt_bd f n 9 0 (by omega)
theorem numAt_pos (f : Nat → Int) (n : Nat) : ∀ r k, (numAt f n r k).2.2 = 0 → 0 < (numAt f n r k).2.1 := by
  intro r
  induction r with
  | zero => intro k h; simp [numAt] at h
  | succ r ih =>
    intro k
    unfold numAt
    split
    · intro h; simp at h
    · split
      · exact ih (k + 1)
      · split
        · intro h; simp at h
        · intro _; show (0 : Int) < (k : Int) + 1; omega
theorem num_pos (f : Nat → Int) (n : Nat) : (num f n).2.2 = 0 → 0 < (num f n).2.1 := numAt_pos f n 9 0
theorem num_zero (f : Nat → Int) : num f 0 = (0, 0, 10) := rfl

end Wm
end Go.Proofs.YtcifjpgimekcjaaGreatDoor
