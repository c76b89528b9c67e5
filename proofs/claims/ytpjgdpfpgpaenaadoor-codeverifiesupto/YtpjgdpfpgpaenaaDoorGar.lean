/-
  The check sum, as plain numbers: one bit at a time (bit), four at a time by the table (half); both are one; a byte that is turned turns the sum. No program, no condition.
  Contracts of wire.Sum (by the table, which is laid) and of the document's own Sum: both answer Crc.sum of the bytes, and change nothing.
-/
import Derived.Laws.BitsAllLaws
import Derived.WalkKit
import Derived.Test.YtpjgdpfpgpaenaaDoorGaq
import Derived.Test.YtpjgdpfpgpaenaaDoorGab
namespace Go.Proofs.YtpjgdpfpgpaenaaDoor
namespace Crc
open Go.RowKit

def poly : Nat := 3988292384
/-- One bit of the division. -/
def bit (c : Nat) : Nat := if c % 2 = 1 then (c / 2) ^^^ poly else c / 2
def bits4 (c : Nat) : Nat := bit (bit (bit (bit c)))
def bits8 (c : Nat) : Nat := bits4 (bits4 c)
def tab : List Nat := [0, 498536548, 997073096, 651767980, 1994146192, 1802195444, 1303535960, 1342533948, 3988292384, 4027552580, 3604390888, 3412177804, 2607071920, 2262029012, 2685067896, 3183342108]
/-- Half a byte by the table. -/
def half (c : Nat) : Nat := (c / 16) ^^^ tab.getD (c % 16) 0
/-- A byte more. -/
def byte (c x : Nat) : Nat := bits8 (c ^^^ x)
def run (c : Nat) (l : List Nat) : Nat := l.foldl byte c
def sum (l : List Nat) : Nat := run 4294967295 l ^^^ 4294967295

theorem xor_half (a b : Nat) : (a ^^^ b) / 2 = (a / 2) ^^^ (b / 2) := by
  have := Nat.shiftRight_xor_distrib (a := a) (b := b) (i := 1)
  simpa [Nat.shiftRight_eq_div_pow] using this
theorem xor_mod (a b : Nat) : (a ^^^ b) % 2 = (a + b) % 2 := by
  have h := @Nat.xor_mod_two_pow a b 1
  have h' : (a ^^^ b) % 2 = (a % 2) ^^^ (b % 2) := by simpa using h
  rw [h']
  rcases Nat.mod_two_eq_zero_or_one a with ha | ha <;> rcases Nat.mod_two_eq_zero_or_one b with hb | hb <;> rw [ha, hb] <;> simp <;> omega
theorem xor_cancel {a b : Nat} (h : a ^^^ b = 0) : a = b := by
  have := congrArg (· ^^^ b) h
  simpa [Nat.xor_assoc] using this
theorem bit_xor (a b : Nat) : bit (a ^^^ b) = bit a ^^^ bit b := by
  unfold bit
  rw [xor_half, xor_mod]
  rcases Nat.mod_two_eq_zero_or_one a with ha | ha <;> rcases Nat.mod_two_eq_zero_or_one b with hb | hb
  · rw [if_neg (by omega), if_neg (by omega), if_neg (by omega)]
  · rw [if_pos (by omega), if_neg (by omega), if_pos hb, Nat.xor_assoc]
  · rw [if_pos (by omega), if_pos ha, if_neg (by omega), Nat.xor_assoc, Nat.xor_assoc, Nat.xor_comm poly]
  · rw [if_neg (by omega), if_pos ha, if_pos hb]
    rw [Nat.xor_assoc, ← Nat.xor_assoc poly, Nat.xor_comm poly (b / 2), Nat.xor_assoc (b / 2), Nat.xor_self, Nat.xor_zero]
theorem bits4_xor (a b : Nat) : bits4 (a ^^^ b) = bits4 a ^^^ bits4 b := by unfold bits4; rw [bit_xor, bit_xor, bit_xor, bit_xor]
theorem bits8_xor (a b : Nat) : bits8 (a ^^^ b) = bits8 a ^^^ bits8 b := by unfold bits8; rw [bits4_xor, bits4_xor]
theorem bit_double (q : Nat) : bit (2 * q) = q := by
  unfold bit
  rw [if_neg (by omega)]
  omega
theorem bits4_16 (q : Nat) : bits4 (16 * q) = q := by
  unfold bits4
  rw [show 16 * q = 2 * (2 * (2 * (2 * q))) by omega, bit_double, bit_double, bit_double, bit_double]
theorem split16 (c : Nat) : c = (16 * (c / 16)) ^^^ (c % 16) := by
  have h := Nat.two_pow_add_eq_or_of_lt (i := 4) (b := c % 16) (Nat.mod_lt _ (by decide)) (c / 16)
  have h2 : (16 * (c / 16)) ^^^ (c % 16) = 2 ^ 4 * (c / 16) + c % 16 := by
    apply Nat.eq_of_testBit_eq
    intro j
    rw [h, Nat.testBit_or, Nat.testBit_xor]
    have e16 : (16 : Nat) = 2 ^ 4 := rfl
    rw [e16, Nat.testBit_mod_two_pow, Nat.mul_comm, Nat.testBit_mul_two_pow]
    by_cases hj : 4 ≤ j
    · have : ¬ j < 4 := by omega
      simp [hj, this]
    · simp [hj]
  rw [h2]
  omega
theorem bits4_low (r : Nat) (h : r < 16) : bits4 r = tab.getD r 0 := by
  have hr : r = 0 ∨ r = 1 ∨ r = 2 ∨ r = 3 ∨ r = 4 ∨ r = 5 ∨ r = 6 ∨ r = 7 ∨ r = 8 ∨ r = 9 ∨ r = 10 ∨ r = 11 ∨ r = 12 ∨ r = 13 ∨ r = 14 ∨ r = 15 := by omega
  rcases hr with h | h | h | h | h | h | h | h | h | h | h | h | h | h | h | h <;> subst h <;> decide +kernel
/-- The table is right. -/
theorem half_eq (c : Nat) : half c = bits4 c := by
  have h := split16 c
  have e : bits4 c = bits4 (16 * (c / 16)) ^^^ bits4 (c % 16) := by
    rw [← bits4_xor, ← h]
  rw [e, bits4_16, bits4_low _ (Nat.mod_lt _ (by decide))]
  rfl

theorem poly_lt : poly < 2 ^ 32 := by decide
theorem bit_lt (c : Nat) (h : c < 2 ^ 32) : bit c < 2 ^ 32 := by
  unfold bit
  split
  · exact Nat.xor_lt_two_pow (by omega) poly_lt
  · omega
theorem bits4_lt (c : Nat) (h : c < 2 ^ 32) : bits4 c < 2 ^ 32 := bit_lt _ (bit_lt _ (bit_lt _ (bit_lt _ h)))
theorem bits8_lt (c : Nat) (h : c < 2 ^ 32) : bits8 c < 2 ^ 32 := bits4_lt _ (bits4_lt _ h)
theorem byte_lt (c x : Nat) (h : c < 2 ^ 32) (hx : x < 256) : byte c x < 2 ^ 32 := bits8_lt _ (Nat.xor_lt_two_pow h (by omega))
theorem run_lt : ∀ (l : List Nat) (c : Nat), c < 2 ^ 32 → (∀ x ∈ l, x < 256) → run c l < 2 ^ 32
  | [], c, h, _ => h
  | x :: l, c, h, hl => run_lt l (byte c x) (byte_lt c x h (hl x (by simp))) (fun y hy => hl y (by simp [hy]))
theorem sum_lt (l : List Nat) (hl : ∀ x ∈ l, x < 256) : sum l < 2 ^ 32 := Nat.xor_lt_two_pow (run_lt l _ (by decide) hl) (by decide)

/-- Nothing but nought comes to nought. -/
theorem bit_zero (d : Nat) (h : d < 2 ^ 32) (e : bit d = 0) : d = 0 := by
  unfold bit at e
  split at e
  · have hp := xor_cancel e
    unfold poly at hp
    omega
  · omega
theorem bit_inj (a b : Nat) (ha : a < 2 ^ 32) (hb : b < 2 ^ 32) (h : bit a = bit b) : a = b := by
  apply xor_cancel
  apply bit_zero _ (Nat.xor_lt_two_pow ha hb)
  rw [bit_xor, h, Nat.xor_self]
theorem bits4_inj (a b : Nat) (ha : a < 2 ^ 32) (hb : b < 2 ^ 32) (h : bits4 a = bits4 b) : a = b :=
  bit_inj _ _ ha hb (bit_inj _ _ (bit_lt _ ha) (bit_lt _ hb) (bit_inj _ _ (bit_lt _ (bit_lt _ ha)) (bit_lt _ (bit_lt _ hb)) (bit_inj _ _ (bit_lt _ (bit_lt _ (bit_lt _ ha))) (bit_lt _ (bit_lt _ (bit_lt _ hb))) h)))
theorem bits8_inj (a b : Nat) (ha : a < 2 ^ 32) (hb : b < 2 ^ 32) (h : bits8 a = bits8 b) : a = b :=
  bits4_inj _ _ ha hb (bits4_inj _ _ (bits4_lt _ ha) (bits4_lt _ hb) h)
theorem xor_right_inj {a b x : Nat} (h : a ^^^ x = b ^^^ x) : a = b := by
  have := congrArg (· ^^^ x) h
  simpa [Nat.xor_assoc] using this
theorem xor_left_inj {x a b : Nat} (h : x ^^^ a = x ^^^ b) : a = b := by
  rw [Nat.xor_comm x a, Nat.xor_comm x b] at h
  exact xor_right_inj h
theorem byte_inj_state (a b x : Nat) (ha : a < 2 ^ 32) (hb : b < 2 ^ 32) (hx : x < 256) (h : byte a x = byte b x) : a = b :=
  xor_right_inj (bits8_inj _ _ (Nat.xor_lt_two_pow ha (by omega)) (Nat.xor_lt_two_pow hb (by omega)) h)
theorem byte_inj_byte (c x y : Nat) (hc : c < 2 ^ 32) (hx : x < 256) (hy : y < 256) (h : byte c x = byte c y) : x = y :=
  xor_left_inj (bits8_inj _ _ (Nat.xor_lt_two_pow hc (by omega)) (Nat.xor_lt_two_pow hc (by omega)) h)
theorem run_inj : ∀ (l : List Nat) (a b : Nat), a < 2 ^ 32 → b < 2 ^ 32 → (∀ x ∈ l, x < 256) → run a l = run b l → a = b
  | [], a, b, _, _, _, h => h
  | x :: l, a, b, ha, hb, hl, h => byte_inj_state a b x ha hb (hl x (by simp)) (run_inj l (byte a x) (byte b x) (byte_lt a x ha (hl x (by simp))) (byte_lt b x hb (hl x (by simp))) (fun y hy => hl y (by simp [hy])) h)
/-- One byte turned, the sum is another one (P1.7). -/
theorem sum_turned (u v : List Nat) (x y : Nat) (hu : ∀ z ∈ u, z < 256) (hv : ∀ z ∈ v, z < 256) (hx : x < 256) (hy : y < 256) (h : sum (u ++ x :: v) = sum (u ++ y :: v)) : x = y := by
  unfold sum at h
  have h1 := xor_right_inj h
  unfold run at h1
  rw [List.foldl_append, List.foldl_append, List.foldl_cons, List.foldl_cons] at h1
  have hs : run 4294967295 u < 2 ^ 32 := run_lt u _ (by decide) hu
  exact byte_inj_byte _ x y hs hx hy (run_inj v _ _ (byte_lt _ x hs hx) (byte_lt _ y hs hy) hv h1)

end Crc
end Go.Proofs.YtpjgdpfpgpaenaaDoor

namespace Go.Proofs.YtpjgdpfpgpaenaaDoor
open Go.RowKit
set_option linter.unusedVariables false

def lstN (f : Nat → Int) (n : Nat) : List Nat := (List.range n).map fun i => (f i).toNat
theorem lstN_succ (f : Nat → Int) (k : Nat) : lstN f (k + 1) = lstN f k ++ [(f k).toNat] := by simp [lstN, List.range_succ]
theorem run_succ (f : Nat → Int) (k : Nat) (c : Nat) : Crc.run c (lstN f (k + 1)) = Crc.byte (Crc.run c (lstN f k)) (f k).toNat := by rw [lstN_succ, Crc.run, List.foldl_append]; rfl
theorem lstN_by {f : Nat → Int} (h : ∀ i, 0 ≤ f i ∧ f i ≤ 255) (n : Nat) : ∀ x ∈ lstN f n, x < 256 := by
  intro x hx
  obtain ⟨i, _, rfl⟩ := List.mem_map.1 hx
  have := h i
  omega

/-- The table as it is laid. -/
def Tab (w : World) : Prop := ∀ i, i < 16 → w.cell? ⟨1, i, none⟩ = some (.int .u32 ((Crc.tab.getD i 0 : Nat) : Int))

theorem xor_u32 (a b : Nat) (ha : a < 2 ^ 32) (hb : b < 2 ^ 32) : bits .xor .u32 (a : Int) (b : Int) = ((a ^^^ b : Nat) : Int) := u32_xor_nat a b (by omega) (by omega)
theorem and15_u32 (a : Nat) (ha : a < 2 ^ 32) : bits .and .u32 (a : Int) 15 = ((a % 16 : Nat) : Int) := by
  have := u32_and_nat a 15 (by omega) (by decide)
  rw [nat_mask4] at this
  exact this
theorem tab_lt (i : Nat) : Crc.tab.getD i 0 < 2 ^ 32 := by
  by_cases h : i < 16
  · have hr : i = 0 ∨ i = 1 ∨ i = 2 ∨ i = 3 ∨ i = 4 ∨ i = 5 ∨ i = 6 ∨ i = 7 ∨ i = 8 ∨ i = 9 ∨ i = 10 ∨ i = 11 ∨ i = 12 ∨ i = 13 ∨ i = 14 ∨ i = 15 := by omega
    rcases hr with h | h | h | h | h | h | h | h | h | h | h | h | h | h | h | h <;> subst h <;> decide
  · rw [List.getD, List.getElem?_eq_none (by simp [Crc.tab]; omega)]; decide

/-- What one byte does, in the text's own operations, step by step. -/
theorem byte_steps {w : World} (ht : Tab w) (s : Nat) (x : Int) (hs : s < 2 ^ 32) (h0 : 0 ≤ x) (h1 : x ≤ 255) :
    ∃ t i1 v1 t2 i2 v2 t3 : Nat, bits .xor .u32 (s : Int) x = (t : Int) ∧ bits .and .u32 (t : Int) 15 = (i1 : Int) ∧ i1 < 16 ∧ w.cell? ⟨1, i1, none⟩ = some (.int .u32 (v1 : Int)) ∧ bits .xor .u32 ((t : Int) / 16) (v1 : Int) = (t2 : Int)
      ∧ bits .and .u32 (t2 : Int) 15 = (i2 : Int) ∧ i2 < 16 ∧ w.cell? ⟨1, i2, none⟩ = some (.int .u32 (v2 : Int)) ∧ bits .xor .u32 ((t2 : Int) / 16) (v2 : Int) = (t3 : Int) ∧ t3 = Crc.byte s x.toNat ∧ t3 < 2 ^ 32 := by
  obtain ⟨y, rfl⟩ := Int.eq_ofNat_of_zero_le h0
  have ht1 : s ^^^ y < 2 ^ 32 := Nat.xor_lt_two_pow hs (by omega)
  have e1 := Crc.half_eq (s ^^^ y)
  have e2 := Crc.half_eq (Crc.bits4 (s ^^^ y))
  have l2 := Crc.bits4_lt _ ht1
  have l3 := Crc.bits4_lt _ l2
  refine ⟨s ^^^ y, (s ^^^ y) % 16, Crc.tab.getD ((s ^^^ y) % 16) 0, Crc.bits4 (s ^^^ y), Crc.bits4 (s ^^^ y) % 16, Crc.tab.getD (Crc.bits4 (s ^^^ y) % 16) 0, Crc.bits4 (Crc.bits4 (s ^^^ y)), ?_, and15_u32 _ ht1, Nat.mod_lt _ (by decide), ht _ (Nat.mod_lt _ (by decide)), ?_, and15_u32 _ l2, Nat.mod_lt _ (by decide), ht _ (Nat.mod_lt _ (by decide)), ?_, ?_, l3⟩
  · exact xor_u32 s y hs (by omega)
  · have := xor_u32 ((s ^^^ y) / 16) (Crc.tab.getD ((s ^^^ y) % 16) 0) (by omega) (tab_lt _)
    rw [← e1]
    exact this
  · have := xor_u32 (Crc.bits4 (s ^^^ y) / 16) (Crc.tab.getD (Crc.bits4 (s ^^^ y) % 16) 0) (by omega) (tab_lt _)
    rw [← e2]
    exact this
  · rw [Int.toNat_natCast]; rfl

theorem not_u32 (s : Nat) (h : s < 2 ^ 32) : bits .xor .u32 (s : Int) 4294967295 = ((s ^^^ 4294967295 : Nat) : Int) := xor_u32 s 4294967295 h (by decide)
theorem not_u32' (s : Nat) (h : s < 2 ^ 32) : bits .xor .u32 IntKind.u32.max (s : Int) = ((s ^^^ 4294967295 : Nat) : Int) := by
  have := xor_u32 4294967295 s (by decide) h
  rw [Nat.xor_comm] at this
  exact this
theorem run_le {f : Nat → Int} (h : ∀ i, 0 ≤ f i ∧ f i ≤ 255) (k : Nat) : Crc.run 4294967295 (lstN f k) < 2 ^ 32 := Crc.run_lt _ _ (by decide) (lstN_by h k)
theorem retN {a b : Nat} (h : a = b) : Ending.returned (.int .u32 (a : Int)) = .returned (.int .u32 (b : Int)) := by rw [h]

set_option maxHeartbeats 1000000 in
theorem wSum_at (b off n c : Nat) (f : Nat → Int) (w : World) (hbig : n ≤ 140737488355328) (hby : ∀ i, 0 ≤ f i ∧ f i ≤ 255) (hc : Hid (∀ i, i < n → w.cell? ⟨b, off + i, none⟩ = some (.int .u8 (f i)))) (ht : Hid (Tab w)) :
    Calls Tryd.prog 26 #[.slice (some ⟨b, off, none⟩) n c] w fun e w' => e = .returned (.int .u32 (Crc.sum (lstN f n) : Nat)) ∧ w' = w := by
  go_enter Tryd.func26, Tryd.ntmps26
  go_wp2
  go_loop [3, 8] (fun s i => ∃ k : Nat, k ≤ n ∧ i = .int .i64 k ∧ s = .int .u32 ((Crc.run 4294967295 (lstN f k) : Nat) : Int)) (fun _ i => n - (intOf i).toNat)
  case atStart => exact ⟨0, Nat.zero_le _, rfl, rfl⟩
  case round =>
    obtain ⟨k, hk, rfl, rfl⟩ := hrel
    have hcell : k < n → w.cell? ⟨b, off + k, none⟩ = some (.int .u8 (f k)) := fun h => hc.out k h
    have hb1 := (hby k).1
    have hb2 := (hby k).2
    have hlt32 := run_le hby k
    have hrs := run_succ f k 4294967295
    by_cases hlt : k < n
    · have hcell := hcell hlt
      have hlt' : (k : Int) < (n : Int) := by omega
      obtain ⟨t, i1, v1, t2, i2, v2, t3, e1, e2, e3, e4, e5, e6, e7, e8, e9, e10, e11⟩ := byte_steps ht.out _ (f k) hlt32 hb1 hb2
      have HS : Hid (t3 = Crc.run 4294967295 (lstN f (k + 1))) := e10.trans hrs.symm
      have e3' : (i1 : Int) < 16 := by omega
      have e7' : (i2 : Int) < 16 := by omega
      clear e10 hrs hby hlt32
      generalize Crc.run 4294967295 (lstN f k) = s at *
      go_wp2
      go_round
      case rel => exact ⟨k + 1, by omega, by go_num, by rw [← HS.out]⟩
      case measure => simp [intOf]; omega
    · have hkn : k = n := by omega
      subst hkn
      have hnot := not_u32' _ hlt32
      have HS : Hid (Crc.run 4294967295 (lstN f k) ^^^ 4294967295 = Crc.sum (lstN f k)) := rfl
      clear hrs hby
      generalize Crc.run 4294967295 (lstN f k) = s at *
      go_wp2
      go_ret
      exact ⟨retN HS.out, rfl⟩

theorem sum_nil (f : Nat → Int) : Crc.sum (lstN f 0) = 0 := by simp [lstN, Crc.sum, Crc.run]
set_option maxHeartbeats 400000 in
theorem wSum_none (a : Option Addr) (c : Nat) (f : Nat → Int) (w : World) :
    Calls Tryd.prog 26 #[.slice a 0 c] w fun e w' => e = .returned (.int .u32 (Crc.sum (lstN f 0) : Nat)) ∧ w' = w := by
  have hz : bits .xor .u32 IntKind.u32.max 4294967295 = 0 := by decide +kernel
  have HZ : Hid _ := sum_nil f
  go_enter Tryd.func26, Tryd.ntmps26
  go_wp2
  refine wp_loop_rounds 1 ?_
  rw [rounds_succ]
  go_wp2
  go_ret
  exact ⟨by rw [HZ.out]; rfl, rfl⟩

theorem wSum {w : World} (ao : Option Addr) (n c : Nat) (f : Nat → Int) (hbig : n ≤ 140737488355328) (hby : ∀ i, 0 ≤ f i ∧ f i ≤ 255) (hl : Lay w ao n f) (ht : Tab w) :
    Calls Tryd.prog 26 #[.slice ao n c] w fun e w' => e = .returned (.int .u32 (Crc.sum (lstN f n) : Nat)) ∧ w' = w := by
  rcases hl with rfl | ⟨b, off, rfl, hc⟩
  · exact wSum_none ao c f w
  · exact wSum_at b off n c f w hbig hby hc ht

def bitN : Nat → Nat → Nat
  | 0, c => c
  | j + 1, c => Crc.bit (bitN j c)
theorem bitN_lt (c : Nat) (h : c < 2 ^ 32) : ∀ j, bitN j c < 2 ^ 32
  | 0 => h
  | j + 1 => Crc.bit_lt _ (bitN_lt c h j)
theorem and1_u32 (a : Nat) (ha : a < 2 ^ 32) : bits .and .u32 (a : Int) 1 = ((a % 2 : Nat) : Int) := by
  have := u32_and_nat a 1 (by omega) (by decide)
  rw [nat_mask1] at this
  exact this
theorem bit_odd (c : Nat) (h : c % 2 = 1) (hc : c < 2 ^ 32) : bits .xor .u32 ((c : Int) / 2) 3988292384 = ((Crc.bit c : Nat) : Int) := by
  have := xor_u32 (c / 2) 3988292384 (by omega) (by decide)
  rw [Crc.bit, if_pos h]
  exact this
theorem bit_even (c : Nat) (h : c % 2 = 0) : ((c : Int) / 2) = ((Crc.bit c : Nat) : Int) := by
  rw [Crc.bit, if_neg (by omega)]
  omega

set_option maxHeartbeats 1000000 in
theorem xSum_at (b off n c : Nat) (f : Nat → Int) (w : World) (hbig : n ≤ 140737488355328) (hby : ∀ i, 0 ≤ f i ∧ f i ≤ 255) (hc : Hid (∀ i, i < n → w.cell? ⟨b, off + i, none⟩ = some (.int .u8 (f i)))) :
    Calls Tryd.prog 27 #[.slice (some ⟨b, off, none⟩) n c] w fun e w' => e = .returned (.int .u32 (Crc.sum (lstN f n) : Nat)) ∧ w' = w := by
  go_enter Tryd.func27, Tryd.ntmps27
  go_wp2
  go_loop [3, 9] (fun s i => ∃ k : Nat, k ≤ n ∧ i = .int .i64 k ∧ s = .int .u32 ((Crc.run 4294967295 (lstN f k) : Nat) : Int)) (fun _ i => n - (intOf i).toNat)
  case atStart => exact ⟨0, Nat.zero_le _, rfl, rfl⟩
  case round =>
    obtain ⟨k, hk, rfl, rfl⟩ := hrel
    have hcell : k < n → w.cell? ⟨b, off + k, none⟩ = some (.int .u8 (f k)) := fun h => hc.out k h
    have hb1 := (hby k).1
    have hb2 := (hby k).2
    have hlt32 := run_le hby k
    have hrs := run_succ f k 4294967295
    by_cases hlt : k < n
    · have hcell := hcell hlt
      have hlt' : (k : Int) < (n : Int) := by omega
      have hx : bits .xor .u32 ((Crc.run 4294967295 (lstN f k) : Nat) : Int) (f k) = ((Crc.run 4294967295 (lstN f k) ^^^ (f k).toNat : Nat) : Int) := by
        have := xor_u32 (Crc.run 4294967295 (lstN f k)) (f k).toNat hlt32 (by omega)
        rw [Int.toNat_of_nonneg hb1] at this
        exact this
      have hxl : Crc.run 4294967295 (lstN f k) ^^^ (f k).toNat < 2 ^ 32 := Nat.xor_lt_two_pow hlt32 (by omega)
      have HS : Hid (bitN 8 (Crc.run 4294967295 (lstN f k) ^^^ (f k).toNat) = Crc.run 4294967295 (lstN f (k + 1))) := hrs.symm
      clear hrs hby hlt32
      generalize Crc.run 4294967295 (lstN f k) ^^^ (f k).toNat = t at *
      generalize Crc.run 4294967295 (lstN f k) = s at *
      go_wp2
      go_loop [3, 17] (fun s i => ∃ j : Nat, j ≤ 8 ∧ i = .int .i64 j ∧ s = .int .u32 ((bitN j t : Nat) : Int)) (fun _ i => 8 - (intOf i).toNat)
      case atStart => exact ⟨0, by omega, rfl, rfl⟩
      case round =>
        obtain ⟨j, hj, rfl, rfl⟩ := hrel
        have hl := bitN_lt t hxl j
        have hand := and1_u32 _ hl
        have HB : Hid (Crc.bit (bitN j t) = bitN (j + 1) t) := rfl
        by_cases hj8 : j < 8
        · by_cases hodd : bitN j t % 2 = 1
          · have hbit := bit_odd _ hodd hl
            rw [hodd] at hand
            have hand : bits .and .u32 ((bitN j t : Nat) : Int) 1 = 1 := hand
            clear hodd
            generalize Crc.bit (bitN j t) = cc at *
            generalize bitN j t = c0 at *
            go_wp2
            go_round
            case rel => exact ⟨j + 1, by omega, by go_num, by rw [← HB.out]⟩
            case measure => simp [intOf]; omega
          · have hev : bitN j t % 2 = 0 := by omega
            have hbit : Hid _ := bit_even _ hev
            rw [hev] at hand
            have hand : bits .and .u32 ((bitN j t : Nat) : Int) 1 = 0 := hand
            clear hodd hev
            generalize Crc.bit (bitN j t) = cc at *
            generalize bitN j t = c0 at *
            go_wp2
            go_round
            case rel => exact ⟨j + 1, by omega, by go_num, by rw [← HB.out, ← hbit.out]⟩
            case measure => simp [intOf]; omega
        · obtain rfl : j = 8 := by omega
          clear hand HB hl
          go_wp2
          go_round
          case rel => exact ⟨k + 1, by omega, by go_num, by rw [← HS.out]⟩
          case measure => simp [intOf]; omega
    · have hkn : k = n := by omega
      subst hkn
      have hnot := not_u32 _ hlt32
      have HS : Hid (Crc.run 4294967295 (lstN f k) ^^^ 4294967295 = Crc.sum (lstN f k)) := rfl
      clear hrs hby
      generalize Crc.run 4294967295 (lstN f k) = s at *
      go_wp2
      go_ret
      exact ⟨retN HS.out, rfl⟩

set_option maxHeartbeats 400000 in
theorem xSum_none (a : Option Addr) (c : Nat) (f : Nat → Int) (w : World) :
    Calls Tryd.prog 27 #[.slice a 0 c] w fun e w' => e = .returned (.int .u32 (Crc.sum (lstN f 0) : Nat)) ∧ w' = w := by
  have hz : bits .xor .u32 4294967295 4294967295 = 0 := by decide +kernel
  have HZ : Hid _ := sum_nil f
  go_enter Tryd.func27, Tryd.ntmps27
  go_wp2
  refine wp_loop_rounds 1 ?_
  rw [rounds_succ]
  go_wp2
  go_ret
  exact ⟨by rw [HZ.out]; rfl, rfl⟩

theorem xSum {w : World} (ao : Option Addr) (n c : Nat) (f : Nat → Int) (hbig : n ≤ 140737488355328) (hby : ∀ i, 0 ≤ f i ∧ f i ≤ 255) (hl : Lay w ao n f) :
    Calls Tryd.prog 27 #[.slice ao n c] w fun e w' => e = .returned (.int .u32 (Crc.sum (lstN f n) : Nat)) ∧ w' = w := by
  rcases hl with rfl | ⟨b, off, rfl, hc⟩
  · exact xSum_none ao c f w
  · exact xSum_at b off n c f w hbig hby hc
end Go.Proofs.YtpjgdpfpgpaenaaDoor
