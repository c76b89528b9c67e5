/-
  The check sum, as plain numbers: one bit at a time (bit), four at a time by the table (half); both are one; a byte that is turned turns the sum. No program, no condition.
  Contracts of wire.Sum (by the table, which is laid) and of the document's own Sum: both answer Crc.sum of the bytes, and change nothing.
  Numbers in so many bytes (little.Put, little.Get), noughts (sector.Blank, the document's noughts): their contracts. Conditions: Put's number is none below 0; Get has at most eight bytes.
-/
import Derived.Laws.BitsAllLaws
import Derived.WalkKit
import Derived.Test.YthfokciijcmhbaaGreatDoorGaa
import Derived.Laws.Rows
import Derived.Deep.QuietTactic
import Derived.Deep.RegionWith
import Derived.BigQuiet
namespace Go.Proofs.YthfokciijcmhbaaGreatDoor
namespace Crc
open Go.RowKit

def poly : Nat := 3988292384
/-- One bit of the division. -/
def bit (c : Nat) : Nat := if c % 2 = 1 then (c / 2) ^^^ poly else c / 2
def bits4 (c : Nat) : Nat := bit (bit (bit (bit c)))
def bits8 (c : Nat) : Nat := bits4 (bits4 c)
def tab : List Nat := [0, 498536548, 997073096, 651767980, 1994146192, 1802195444, 1303535960, 1342533948, 3988292384, 4027552580, 3604390888, 3412177804, 2607071920, 2262029012, 2685067896, 3183342108]
/-- Half a byte by the table. -/
def half (c : Nat) : Nat := (c / 16) ^^^ tab.getD (c % 16) 0
/-- A byte more. -/
def byte (c x : Nat) : Nat := bits8 (c ^^^ x)
def run (c : Nat) (l : List Nat) : Nat := l.foldl byte c
def sum (l : List Nat) : Nat := run 4294967295 l ^^^ 4294967295

theorem xor_half (a b : Nat) : (a ^^^ b) / 2 = (a / 2) ^^^ (b / 2) := by
  have := Nat.shiftRight_xor_distrib (a := a) (b := b) (i := 1)
  simpa [Nat.shiftRight_eq_div_pow] using this
theorem xor_mod (a b : Nat) : (a ^^^ b) % 2 = (a + b) % 2 := by
  have h := @Nat.xor_mod_two_pow a b 1
  have h' : (a ^^^ b) % 2 = (a % 2) ^^^ (b % 2) := by simpa using h
  rw [h']
  rcases Nat.mod_two_eq_zero_or_one a with ha | ha <;> rcases Nat.mod_two_eq_zero_or_one b with hb | hb <;> rw [ha, hb] <;> simp <;> omega
theorem xor_cancel {a b : Nat} (h : a ^^^ b = 0) : a = b := by
  have := congrArg (· ^^^ b) h
  simpa [Nat.xor_assoc] using this
theorem bit_xor (a b : Nat) : bit (a ^^^ b) = bit a ^^^ bit b := by
  unfold bit
  rw [xor_half, xor_mod]
  rcases Nat.mod_two_eq_zero_or_one a with ha | ha <;> rcases Nat.mod_two_eq_zero_or_one b with hb | hb
  · rw [if_neg (by omega), if_neg (by omega), if_neg (by omega)]
  · rw [if_pos (by omega), if_neg (by omega), if_pos hb, Nat.xor_assoc]
  · rw [if_pos (by omega), if_pos ha, if_neg (by omega), Nat.xor_assoc, Nat.xor_assoc, Nat.xor_comm poly]
  · rw [if_neg (by omega), if_pos ha, if_pos hb]
    rw [Nat.xor_assoc, ← Nat.xor_assoc poly, Nat.xor_comm poly (b / 2), Nat.xor_assoc (b / 2), Nat.xor_self, Nat.xor_zero]
theorem bits4_xor (a b : Nat) : bits4 (a ^^^ b) = bits4 a ^^^ bits4 b := by unfold bits4; rw [bit_xor, bit_xor, bit_xor, bit_xor]
theorem bits8_xor (a b : Nat) : bits8 (a ^^^ b) = bits8 a ^^^ bits8 b := by unfold bits8; rw [bits4_xor, bits4_xor]
theorem bit_double (q : Nat) : bit (2 * q) = q := by
  unfold bit
  rw [if_neg (by omega)]
  omega
theorem bits4_16 (q : Nat) : bits4 (16 * q) = q := by
  unfold bits4
  rw [show 16 * q = 2 * (2 * (2 * (2 * q))) by omega, bit_double, bit_double, bit_double, bit_double]
theorem split16 (c : Nat) : c = (16 * (c / 16)) ^^^ (c % 16) := by
  have h := Nat.two_pow_add_eq_or_of_lt (i := 4) (b := c % 16) (Nat.mod_lt _ (by decide)) (c / 16)
  have h2 : (16 * (c / 16)) ^^^ (c % 16) = 2 ^ 4 * (c / 16) + c % 16 := by
    apply Nat.eq_of_testBit_eq
    intro j
    rw [h, Nat.testBit_or, Nat.testBit_xor]
    have e16 : (16 : Nat) = 2 ^ 4 := rfl
    rw [e16, Nat.testBit_mod_two_pow, Nat.mul_comm, Nat.testBit_mul_two_pow]
    by_cases hj : 4 ≤ j
    · have : ¬ j < 4 := by omega
      simp [hj, this]
    · simp [hj]
  rw [h2]
  omega
theorem bits4_low (r : Nat) (h : r < 16) : bits4 r = tab.getD r 0 := by
  have hr : r = 0 ∨ r = 1 ∨ r = 2 ∨ r = 3 ∨ r = 4 ∨ r = 5 ∨ r = 6 ∨ r = 7 ∨ r = 8 ∨ r = 9 ∨ r = 10 ∨ r = 11 ∨ r = 12 ∨ r = 13 ∨ r = 14 ∨ r = 15 := by omega
  rcases hr with h | h | h | h | h | h | h | h | h | h | h | h | h | h | h | h <;> subst h <;> decide +kernel
/-- The table is right. -/
theorem half_eq (c : Nat) : half c = bits4 c := by
  have h := split16 c
  have e : bits4 c = bits4 (16 * (c / 16)) ^^^ bits4 (c % 16) := by
    rw [← bits4_xor, ← h]
  rw [e, bits4_16, bits4_low _ (Nat.mod_lt _ (by decide))]
  rfl

theorem poly_lt : poly < 2 ^ 32 := by decide
theorem bit_lt (c : Nat) (h : c < 2 ^ 32) : bit c < 2 ^ 32 := by
  unfold bit
  split
  · exact Nat.xor_lt_two_pow (by omega) poly_lt
  · omega
theorem bits4_lt (c : Nat) (h : c < 2 ^ 32) : bits4 c < 2 ^ 32 := bit_lt _ (bit_lt _ (bit_lt _ (bit_lt _ h)))
theorem bits8_lt (c : Nat) (h : c < 2 ^ 32) : bits8 c < 2 ^ 32 := bits4_lt _ (bits4_lt _ h)
theorem byte_lt (c x : Nat) (h : c < 2 ^ 32) (hx : x < 256) : byte c x < 2 ^ 32 := bits8_lt _ (Nat.xor_lt_two_pow h (by omega))
theorem run_lt : ∀ (l : List Nat) (c : Nat), c < 2 ^ 32 → (∀ x ∈ l, x < 256) → run c l < 2 ^ 32
  | [], c, h, _ => h
  | x :: l, c, h, hl => run_lt l (byte c x) (byte_lt c x h (hl x (by simp))) (fun y hy => hl y (by simp [hy]))
theorem sum_lt (l : List Nat) (hl : ∀ x ∈ l, x < 256) : sum l < 2 ^ 32 := Nat.xor_lt_two_pow (run_lt l _ (by decide) hl) (by decide)

/-- Nothing but nought comes to nought. -/
theorem bit_zero (d : Nat) (h : d < 2 ^ 32) (e : bit d = 0) : d = 0 := by
  unfold bit at e
  split at e
  · have hp := xor_cancel e
    unfold poly at hp
    omega
  · omega
theorem bit_inj (a b : Nat) (ha : a < 2 ^ 32) (hb : b < 2 ^ 32) (h : bit a = bit b) : a = b := by
  apply xor_cancel
  apply bit_zero _ (Nat.xor_lt_two_pow ha hb)
  rw [bit_xor, h, Nat.xor_self]
theorem bits4_inj (a b : Nat) (ha : a < 2 ^ 32) (hb : b < 2 ^ 32) (h : bits4 a = bits4 b) : a = b :=
  bit_inj _ _ ha hb (bit_inj _ _ (bit_lt _ ha) (bit_lt _ hb) (bit_inj _ _ (bit_lt _ (bit_lt _ ha)) (bit_lt _ (bit_lt _ hb)) (bit_inj _ _ (bit_lt _ (bit_lt _ (bit_lt _ ha))) (bit_lt _ (bit_lt _ (bit_lt _ hb))) h)))
theorem bits8_inj (a b : Nat) (ha : a < 2 ^ 32) (hb : b < 2 ^ 32) (h : bits8 a = bits8 b) : a = b :=
  bits4_inj _ _ ha hb (bits4_inj _ _ (bits4_lt _ ha) (bits4_lt _ hb) h)
theorem xor_right_inj {a b x : Nat} (h : a ^^^ x = b ^^^ x) : a = b := by
  have := congrArg (· ^^^ x) h
  simpa [Nat.xor_assoc] using this
theorem xor_left_inj {x a b : Nat} (h : x ^^^ a = x ^^^ b) : a = b := by
  rw [Nat.xor_comm x a, Nat.xor_comm x b] at h
  exact xor_right_inj h
theorem byte_inj_state (a b x : Nat) (ha : a < 2 ^ 32) (hb : b < 2 ^ 32) (hx : x < 256) (h : byte a x = byte b x) : a = b :=
  xor_right_inj (bits8_inj _ _ (Nat.xor_lt_two_pow ha (by omega)) (Nat.xor_lt_two_pow hb (by omega)) h)
theorem byte_inj_byte (c x y : Nat) (hc : c < 2 ^ 32) (hx : x < 256) (hy : y < 256) (h : byte c x = byte c y) : x = y :=
  xor_left_inj (bits8_inj _ _ (Nat.xor_lt_two_pow hc (by omega)) (Nat.xor_lt_two_pow hc (by omega)) h)
theorem run_inj : ∀ (l : List Nat) (a b : Nat), a < 2 ^ 32 → b < 2 ^ 32 → (∀ x ∈ l, x < 256) → run a l = run b l → a = b
  | [], a, b, _, _, _, h => h
  | x :: l, a, b, ha, hb, hl, h => byte_inj_state a b x ha hb (hl x (by simp)) (run_inj l (byte a x) (byte b x) (byte_lt a x ha (hl x (by simp))) (byte_lt b x hb (hl x (by simp))) (fun y hy => hl y (by simp [hy])) h)
/-- One byte turned, the sum is another one (P1.7). -/
theorem sum_turned (u v : List Nat) (x y : Nat) (hu : ∀ z ∈ u, z < 256) (hv : ∀ z ∈ v, z < 256) (hx : x < 256) (hy : y < 256) (h : sum (u ++ x :: v) = sum (u ++ y :: v)) : x = y := by
  unfold sum at h
  have h1 := xor_right_inj h
  unfold run at h1
  rw [List.foldl_append, List.foldl_append, List.foldl_cons, List.foldl_cons] at h1
  have hs : run 4294967295 u < 2 ^ 32 := run_lt u _ (by decide) hu
  exact byte_inj_byte _ x y hs hx hy (run_inj v _ _ (byte_lt _ x hs hx) (byte_lt _ y hs hy) hv h1)

end Crc
end Go.Proofs.YthfokciijcmhbaaGreatDoor

namespace Go.Proofs.YthfokciijcmhbaaGreatDoor
open Go.RowKit
set_option linter.unusedVariables false

def lstN (f : Nat → Int) (n : Nat) : List Nat := (List.range n).map fun i => (f i).toNat
theorem lstN_succ (f : Nat → Int) (k : Nat) : lstN f (k + 1) = lstN f k ++ [(f k).toNat] := by simp [lstN, List.range_succ]
theorem run_succ (f : Nat → Int) (k : Nat) (c : Nat) : Crc.run c (lstN f (k + 1)) = Crc.byte (Crc.run c (lstN f k)) (f k).toNat := by rw [lstN_succ, Crc.run, List.foldl_append]; rfl
theorem lstN_by {f : Nat → Int} (h : ∀ i, 0 ≤ f i ∧ f i ≤ 255) (n : Nat) : ∀ x ∈ lstN f n, x < 256 := by
  intro x hx
  obtain ⟨i, _, rfl⟩ := List.mem_map.1 hx
  have := h i
  omega

/-- The table as it is laid. -/
def Tab (w : World) : Prop := ∀ i, i < 16 → w.cell? ⟨0, i, none⟩ = some (.int .u32 ((Crc.tab.getD i 0 : Nat) : Int))

theorem xor_u32 (a b : Nat) (ha : a < 2 ^ 32) (hb : b < 2 ^ 32) : bits .xor .u32 (a : Int) (b : Int) = ((a ^^^ b : Nat) : Int) := u32_xor_nat a b (by omega) (by omega)
theorem and15_u32 (a : Nat) (ha : a < 2 ^ 32) : bits .and .u32 (a : Int) 15 = ((a % 16 : Nat) : Int) := by
  have := u32_and_nat a 15 (by omega) (by decide)
  rw [nat_mask4] at this
  exact this
theorem tab_lt (i : Nat) : Crc.tab.getD i 0 < 2 ^ 32 := by
  by_cases h : i < 16
  · have hr : i = 0 ∨ i = 1 ∨ i = 2 ∨ i = 3 ∨ i = 4 ∨ i = 5 ∨ i = 6 ∨ i = 7 ∨ i = 8 ∨ i = 9 ∨ i = 10 ∨ i = 11 ∨ i = 12 ∨ i = 13 ∨ i = 14 ∨ i = 15 := by omega
    rcases hr with h | h | h | h | h | h | h | h | h | h | h | h | h | h | h | h <;> subst h <;> decide
  · rw [List.getD, List.getElem?_eq_none (by simp [Crc.tab]; omega)]; decide

/-- What one byte does, in the text's own operations, step by step. -/
theorem byte_steps {w : World} (ht : Tab w) (s : Nat) (x : Int) (hs : s < 2 ^ 32) (h0 : 0 ≤ x) (h1 : x ≤ 255) :
    ∃ t i1 v1 t2 i2 v2 t3 : Nat, bits .xor .u32 (s : Int) x = (t : Int) ∧ bits .and .u32 (t : Int) 15 = (i1 : Int) ∧ i1 < 16 ∧ w.cell? ⟨0, i1, none⟩ = some (.int .u32 (v1 : Int)) ∧ bits .xor .u32 ((t : Int) / 16) (v1 : Int) = (t2 : Int)
      ∧ bits .and .u32 (t2 : Int) 15 = (i2 : Int) ∧ i2 < 16 ∧ w.cell? ⟨0, i2, none⟩ = some (.int .u32 (v2 : Int)) ∧ bits .xor .u32 ((t2 : Int) / 16) (v2 : Int) = (t3 : Int) ∧ t3 = Crc.byte s x.toNat ∧ t3 < 2 ^ 32 := by
  obtain ⟨y, rfl⟩ := Int.eq_ofNat_of_zero_le h0
  have ht1 : s ^^^ y < 2 ^ 32 := Nat.xor_lt_two_pow hs (by omega)
  have e1 := Crc.half_eq (s ^^^ y)
  have e2 := Crc.half_eq (Crc.bits4 (s ^^^ y))
  have l2 := Crc.bits4_lt _ ht1
  have l3 := Crc.bits4_lt _ l2
  refine ⟨s ^^^ y, (s ^^^ y) % 16, Crc.tab.getD ((s ^^^ y) % 16) 0, Crc.bits4 (s ^^^ y), Crc.bits4 (s ^^^ y) % 16, Crc.tab.getD (Crc.bits4 (s ^^^ y) % 16) 0, Crc.bits4 (Crc.bits4 (s ^^^ y)), ?_, and15_u32 _ ht1, Nat.mod_lt _ (by decide), ht _ (Nat.mod_lt _ (by decide)), ?_, and15_u32 _ l2, Nat.mod_lt _ (by decide), ht _ (Nat.mod_lt _ (by decide)), ?_, ?_, l3⟩
  · exact xor_u32 s y hs (by omega)
  · have := xor_u32 ((s ^^^ y) / 16) (Crc.tab.getD ((s ^^^ y) % 16) 0) (by omega) (tab_lt _)
    rw [← e1]
    exact this
  · have := xor_u32 (Crc.bits4 (s ^^^ y) / 16) (Crc.tab.getD (Crc.bits4 (s ^^^ y) % 16) 0) (by omega) (tab_lt _)
    rw [← e2]
    exact this
  · rw [Int.toNat_natCast]; rfl

theorem not_u32 (s : Nat) (h : s < 2 ^ 32) : bits .xor .u32 (s : Int) 4294967295 = ((s ^^^ 4294967295 : Nat) : Int) := xor_u32 s 4294967295 h (by decide)
theorem not_u32' (s : Nat) (h : s < 2 ^ 32) : bits .xor .u32 IntKind.u32.max (s : Int) = ((s ^^^ 4294967295 : Nat) : Int) := by
  have := xor_u32 4294967295 s (by decide) h
  rw [Nat.xor_comm] at this
  exact this
theorem run_le {f : Nat → Int} (h : ∀ i, 0 ≤ f i ∧ f i ≤ 255) (k : Nat) : Crc.run 4294967295 (lstN f k) < 2 ^ 32 := Crc.run_lt _ _ (by decide) (lstN_by h k)
theorem retN {a b : Nat} (h : a = b) : Ending.returned (.int .u32 (a : Int)) = .returned (.int .u32 (b : Int)) := by rw [h]

set_option maxHeartbeats 1000000 in
theorem wSum_at (b off n c : Nat) (f : Nat → Int) (w : World) (hbig : n ≤ 140737488355328) (hby : ∀ i, 0 ≤ f i ∧ f i ≤ 255) (hc : Hid (∀ i, i < n → w.cell? ⟨b, off + i, none⟩ = some (.int .u8 (f i)))) (ht : Hid (Tab w)) :
    Calls Tryz.prog 163 #[.slice (some ⟨b, off, none⟩) n c] w fun e w' => e = .returned (.int .u32 (Crc.sum (lstN f n) : Nat)) ∧ w' = w := by
  go_enter Tryz.func163, Tryz.ntmps163
  go_wp2
  go_loop [3, 8] (fun s i => ∃ k : Nat, k ≤ n ∧ i = .int .i64 k ∧ s = .int .u32 ((Crc.run 4294967295 (lstN f k) : Nat) : Int)) (fun _ i => n - (intOf i).toNat)
  case atStart => exact ⟨0, Nat.zero_le _, rfl, rfl⟩
  case round =>
    obtain ⟨k, hk, rfl, rfl⟩ := hrel
    have hcell : k < n → w.cell? ⟨b, off + k, none⟩ = some (.int .u8 (f k)) := fun h => hc.out k h
    have hb1 := (hby k).1
    have hb2 := (hby k).2
    have hlt32 := run_le hby k
    have hrs := run_succ f k 4294967295
    by_cases hlt : k < n
    · have hcell := hcell hlt
      have hlt' : (k : Int) < (n : Int) := by omega
      obtain ⟨t, i1, v1, t2, i2, v2, t3, e1, e2, e3, e4, e5, e6, e7, e8, e9, e10, e11⟩ := byte_steps ht.out _ (f k) hlt32 hb1 hb2
      have HS : Hid (t3 = Crc.run 4294967295 (lstN f (k + 1))) := e10.trans hrs.symm
      have e3' : (i1 : Int) < 16 := by omega
      have e7' : (i2 : Int) < 16 := by omega
      clear e10 hrs hby hlt32
      generalize Crc.run 4294967295 (lstN f k) = s at *
      go_wp2
      go_round
      case rel => exact ⟨k + 1, by omega, by go_num, by rw [← HS.out]⟩
      case measure => simp [intOf]; omega
    · have hkn : k = n := by omega
      subst hkn
      have hnot := not_u32' _ hlt32
      have HS : Hid (Crc.run 4294967295 (lstN f k) ^^^ 4294967295 = Crc.sum (lstN f k)) := rfl
      clear hrs hby
      generalize Crc.run 4294967295 (lstN f k) = s at *
      go_wp2
      go_ret
      exact ⟨retN HS.out, rfl⟩

theorem sum_nil (f : Nat → Int) : Crc.sum (lstN f 0) = 0 := by simp [lstN, Crc.sum, Crc.run]
set_option maxHeartbeats 400000 in
theorem wSum_none (a : Option Addr) (c : Nat) (f : Nat → Int) (w : World) :
    Calls Tryz.prog 163 #[.slice a 0 c] w fun e w' => e = .returned (.int .u32 (Crc.sum (lstN f 0) : Nat)) ∧ w' = w := by
  have hz : bits .xor .u32 IntKind.u32.max 4294967295 = 0 := by decide +kernel
  have HZ : Hid _ := sum_nil f
  go_enter Tryz.func163, Tryz.ntmps163
  go_wp2
  refine wp_loop_rounds 1 ?_
  rw [rounds_succ]
  go_wp2
  go_ret
  exact ⟨by rw [HZ.out]; rfl, rfl⟩

theorem wSum {w : World} (ao : Option Addr) (n c : Nat) (f : Nat → Int) (hbig : n ≤ 140737488355328) (hby : ∀ i, 0 ≤ f i ∧ f i ≤ 255) (hl : Lay w ao n f) (ht : Tab w) :
    Calls Tryz.prog 163 #[.slice ao n c] w fun e w' => e = .returned (.int .u32 (Crc.sum (lstN f n) : Nat)) ∧ w' = w := by
  rcases hl with rfl | ⟨b, off, rfl, hc⟩
  · exact wSum_none ao c f w
  · exact wSum_at b off n c f w hbig hby hc ht

def bitN : Nat → Nat → Nat
  | 0, c => c
  | j + 1, c => Crc.bit (bitN j c)
theorem bitN_lt (c : Nat) (h : c < 2 ^ 32) : ∀ j, bitN j c < 2 ^ 32
  | 0 => h
  | j + 1 => Crc.bit_lt _ (bitN_lt c h j)
theorem and1_u32 (a : Nat) (ha : a < 2 ^ 32) : bits .and .u32 (a : Int) 1 = ((a % 2 : Nat) : Int) := by
  have := u32_and_nat a 1 (by omega) (by decide)
  rw [nat_mask1] at this
  exact this
theorem bit_odd (c : Nat) (h : c % 2 = 1) (hc : c < 2 ^ 32) : bits .xor .u32 ((c : Int) / 2) 3988292384 = ((Crc.bit c : Nat) : Int) := by
  have := xor_u32 (c / 2) 3988292384 (by omega) (by decide)
  rw [Crc.bit, if_pos h]
  exact this
theorem bit_even (c : Nat) (h : c % 2 = 0) : ((c : Int) / 2) = ((Crc.bit c : Nat) : Int) := by
  rw [Crc.bit, if_neg (by omega)]
  omega

end Go.Proofs.YthfokciijcmhbaaGreatDoor

namespace Go.Proofs.YthfokciijcmhbaaGreatDoor
open Go.RowKit
set_option linter.unusedVariables false

/-- F with f's m bytes from off on. -/
def ov (F : Nat → Int) (off m : Nat) (f : Nat → Int) : Nat → Int := fun i => if off ≤ i ∧ i < off + m then f (i - off) else F i
theorem lst_ext {f g : Nat → Int} {n : Nat} (h : ∀ i, i < n → f i = g i) : lst f n = lst g n := by
  apply List.ext_getElem?
  intro i
  by_cases hi : i < n
  · rw [lst_get f n i hi, lst_get g n i hi, h i hi]
  · rw [List.getElem?_eq_none (by rw [lst_length]; omega), List.getElem?_eq_none (by rw [lst_length]; omega)]
theorem lst_inj {f g : Nat → Int} {n : Nat} (h : lst f n = lst g n) (i : Nat) (hi : i < n) : f i = g i := by
  have := congrArg (fun l : List Int => l[i]?) h
  simpa only [lst_get f n i hi, lst_get g n i hi, Option.some.injEq] using this
theorem lst_ov (F : Nat → Int) (N off m : Nat) (f : Nat → Int) (h : off + m ≤ N) : splice (lst F N) off (lst f m) = lst (ov F off m f) N := by
  apply List.ext_getElem?
  intro i
  unfold splice
  simp only [List.getElem?_append, List.length_take, lst_length, List.getElem?_take, List.getElem?_drop]
  have e1 : min off N = off := by omega
  rw [e1]
  by_cases i1 : i < N
  · rw [lst_get (ov F off m f) N i i1]
    by_cases i2 : i < off
    · rw [if_pos i2, if_pos i2, lst_get F N i i1]
      show _ = some (if off ≤ i ∧ i < off + m then f (i - off) else F i)
      rw [if_neg (by omega)]
    · rw [if_neg i2]
      show _ = some (if off ≤ i ∧ i < off + m then f (i - off) else F i)
      by_cases i3 : i - off < m
      · rw [if_pos i3, lst_get _ _ _ i3, if_pos (by omega)]
      · rw [if_neg i3, show off + m + (i - off - m) = i by omega, lst_get F N i i1, if_neg (by omega)]
  · rw [if_neg (by omega), if_neg (by omega), List.getElem?_eq_none (by rw [lst_length]; omega), List.getElem?_eq_none (by rw [lst_length]; omega)]

theorem Own.set {w : World} {B g n cap : Nat} {F : Nat → Int} (h : Own w B (.slice (some ⟨g, 0, none⟩) n cap) (lst F n)) (j : Nat) (hj : j < n) (x : Int) :
    Own (w.setCell ⟨g, j, none⟩ (.int .u8 x)) B (.slice (some ⟨g, 0, none⟩) n cap) (lst (fun i => if i = j then x else F i) n) := by
  unfold Own at h ⊢
  rw [lst_length] at h ⊢
  refine ⟨by simp [lst_length], .inr ?_⟩
  rcases h.2 with ⟨h1, _⟩ | ⟨g', cap', cur, h1, h2, h3, h4, h5, h6, h7⟩
  · cases h1
  · cases h1
    refine ⟨g, cap, _, rfl, h2, heap_setCell_same w g j cur 5 _ h3, h4, h5, by simpa using h6, ?_⟩
    apply List.ext_getElem?
    intro i
    have h8 := congrArg (fun l : List Value => l[i]?) h7
    simp only [Nat.mul_one, List.getElem?_take, List.getElem?_map] at h8 ⊢
    by_cases hi : i < n
    · rw [if_pos hi] at h8 ⊢
      rw [lst_get _ n i hi] at h8 ⊢
      by_cases e : i = j
      · subst e
        have hc : i < cur.size := by rw [h6]; omega
        simp [hc]
      · simp [Ne.symm e, e] at h8 ⊢
        exact h8
    · rw [if_neg hi, List.getElem?_eq_none (by rw [lst_length]; omega)]
      rfl
theorem Own.cellF {w : World} {B g n cap : Nat} {F : Nat → Int} (h : Own w B (.slice (some ⟨g, 0, none⟩) n cap) (lst F n)) (j : Nat) (hj : j < n) : w.cell? ⟨g, j, none⟩ = some (.int .u8 (F j)) := by
  unfold Own at h
  rw [lst_length] at h
  rw [h.cellAt j (by omega), List.getElem?_map, lst_get F n j hj]; rfl
theorem Own.freeF {w : World} {B g n cap : Nat} {F : Nat → Int} (h : Own w B (.slice (some ⟨g, 0, none⟩) n cap) (lst F n)) (j : Nat) : w.frozen? ⟨g, j, none⟩ = false := by
  unfold Own at h
  rw [lst_length] at h
  exact h.frozenAt j
theorem Own.ext {w : World} {B : Nat} {v : Value} {n : Nat} {F G : Nat → Int} (h : Own w B v (lst F n)) (e : ∀ i, i < n → F i = G i) : Own w B v (lst G n) := lst_ext e ▸ h

/-- A number's byte at place k. -/
def leAt (s k : Nat) : Int := ((s / 256 ^ k % 256 : Nat) : Int)
theorem leAt_by (s k : Nat) : 0 ≤ leAt s k ∧ leAt s k ≤ 255 := by unfold leAt; omega

set_option maxHeartbeats 1000000 in
theorem put (g off m c N cap B s : Nat) (F : Nat → Int) (w : World) (hB : B ≤ g) (hs : s ≤ 9223372036854775807) (hN : off + m ≤ N) (hm : m ≤ 140737488355328) (ho : Own w B (.slice (some ⟨g, 0, none⟩) N cap) (lst F N)) :
    Calls Tryz.prog 162 #[.slice (some ⟨g, off, none⟩) m c, .int .i64 (s : Int)] w fun e w' => e = .returned (.tuple #[]) ∧ Own w' B (.slice (some ⟨g, 0, none⟩) N cap) (lst (ov F off m (leAt s)) N) ∧ Below B w w' := by
  go_enter Tryz.func162, Tryz.ntmps162
  go_wp2
  go_loopw [1, 7] (fun x i wr => ∃ k : Nat, k ≤ m ∧ i = .int .i64 (k : Int) ∧ x = .int .i64 ((s / 256 ^ k : Nat) : Int) ∧ Own wr B (.slice (some ⟨g, 0, none⟩) N cap) (lst (ov F off k (leAt s)) N) ∧ Below B w wr) (fun _ i _ => m - (intOf i).toNat)
  case atStart => exact ⟨0, Nat.zero_le _, rfl, by simp, ho.ext (fun i _ => by unfold ov; rw [if_neg (by omega)]), Below.refl _ _⟩
  case round =>
    obtain ⟨k, hk, rfl, rfl, ho1, hb⟩ := hrel
    by_cases hlt : k < m
    · have hlt' : (k : Int) < (m : Int) := by omega
      have hcell := ho1.cellF (off + k) (by omega)
      have hfz := ho1.freeF (off + k)
      have HO : Hid (∀ x, x = leAt s k → Own (wr.setCell ⟨g, off + k, none⟩ (.int .u8 x)) B (.slice (some ⟨g, 0, none⟩) N cap) (lst (ov F off (k + 1) (leAt s)) N)) := fun x hx => by
        refine (ho1.set (off + k) (by omega) x).ext fun i hi => ?_
        show (if i = off + k then x else ov F off k (leAt s) i) = ov F off (k + 1) (leAt s) i
        unfold ov
        by_cases e : i = off + k
        · rw [if_pos e, if_pos (by omega), hx, e, show off + k - off = k by omega]
        · rw [if_neg e]
          by_cases e2 : off ≤ i ∧ i < off + k
          · rw [if_pos e2, if_pos (by omega)]
          · rw [if_neg e2, if_neg (by omega)]
      have HB : Hid (∀ x : Int, Below B w (wr.setCell ⟨g, off + k, none⟩ (.int .u8 x))) := fun x => hb.setCell (p := ⟨g, off + k, none⟩) hB _
      have hdiv : Hid (s / 256 ^ (k + 1) = s / 256 ^ k / 256) := (by rw [Nat.pow_succ, Nat.div_div_eq_div_mul] : s / 256 ^ (k + 1) = s / 256 ^ k / 256)
      have hat : Hid (((s / 256 ^ k : Nat) : Int) % 256 = leAt s k) := (by unfold leAt; omega : ((s / 256 ^ k : Nat) : Int) % 256 = leAt s k)
      have htl : s / 256 ^ k ≤ s := Nat.div_le_self _ _
      clear ho1 hb
      generalize s / 256 ^ k = t at *
      go_wp2
      go_roundw
      case rel => exact ⟨k + 1, by omega, by go_num, by rw [hdiv.out]; go_num, HO.out _ hat.out, HB.out _⟩
      case measure => simp [intOf]; omega
    · obtain rfl : k = m := by omega
      go_wp2
      go_end0
      exact ⟨rfl, ho1, hb⟩
end Go.Proofs.YthfokciijcmhbaaGreatDoor
