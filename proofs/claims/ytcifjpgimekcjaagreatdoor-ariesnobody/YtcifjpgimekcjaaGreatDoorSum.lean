/-
  Contracts of wire.Sum (by the table, which is laid) and of the document's own Sum: both answer Crc.sum of the bytes, and change nothing.
-/
import Derived.Test.YtcifjpgimekcjaaGreatDoorSl
import Derived.Test.YtcifjpgimekcjaaGreatDoorPlain
import Derived.Test.YtcifjpgimekcjaaGreatDoorMem
import Derived.Test.YtcifjpgimekcjaaGreatDoorCrc
namespace Go.Proofs.YtcifjpgimekcjaaGreatDoor
open Go.RowKit
set_option linter.unusedVariables false

def lstN (f : Nat → Int) (n : Nat) : List Nat := (List.range n).map fun i => (f i).toNat
theorem lstN_succ (f : Nat → Int) (k : Nat) : lstN f (k + 1) = lstN f k ++ [(f k).toNat] := by simp [lstN, List.range_succ]
theorem run_succ (f : Nat → Int) (k : Nat) (c : Nat) : Crc.run c (lstN f (k + 1)) = Crc.byte (Crc.run c (lstN f k)) (f k).toNat := by rw [lstN_succ, Crc.run, List.foldl_append]; rfl
theorem lstN_by {f : Nat → Int} (h : ∀ i, 0 ≤ f i ∧ f i ≤ 255) (n : Nat) : ∀ x ∈ lstN f n, x < 256 := by
  intro x hx
  obtain ⟨i, _, rfl⟩ := List.mem_map.1 hx
  have := h i
  omega

/-- The table as it is laid. -/
def Tab (w : World) : Prop := ∀ i, i < 16 → w.cell? ⟨0, i, none⟩ = some (.int .u32 ((Crc.tab.getD i 0 : Nat) : Int))

theorem xor_u32 (a b : Nat) (ha : a < 2 ^ 32) (hb : b < 2 ^ 32) : bits .xor .u32 (a : Int) (b : Int) = ((a ^^^ b : Nat) : Int) := u32_xor_nat a b (by omega) (by omega)
theorem and15_u32 (a : Nat) (ha : a < 2 ^ 32) : bits .and .u32 (a : Int) 15 = ((a % 16 : Nat) : Int) := by
  have := u32_and_nat a 15 (by omega) (by decide)
  rw [nat_mask4] at this
  exact this
theorem tab_lt (i : Nat) : Crc.tab.getD i 0 < 2 ^ 32 := by
  by_cases h : i < 16
  · have hr : i = 0 ∨ i = 1 ∨ i = 2 ∨ i = 3 ∨ i = 4 ∨ i = 5 ∨ i = 6 ∨ i = 7 ∨ i = 8 ∨ i = 9 ∨ i = 10 ∨ i = 11 ∨ i = 12 ∨ i = 13 ∨ i = 14 ∨ i = 15 := by omega
    rcases hr with h | h | h | h | h | h | h | h | h | h | h | h | h | h | h | h <;> subst h <;> decide
  · rw [List.getD, List.getElem?_eq_none (by simp [Crc.tab]; omega)]; decide

/-- What one byte does, in the text's own operations, step by step. -/
theorem byte_steps {w : World} (ht : Tab w) (s : Nat) (x : Int) (hs : s < 2 ^ 32) (h0 : 0 ≤ x) (h1 : x ≤ 255) :
    ∃ t i1 v1 t2 i2 v2 t3 : Nat, bits .xor .u32 (s : Int) x = (t : Int) ∧ bits .and .u32 (t : Int) 15 = (i1 : Int) ∧ i1 < 16 ∧ w.cell? ⟨0, i1, none⟩ = some (.int .u32 (v1 : Int)) ∧ bits .xor .u32 ((t : Int) / 16) (v1 : Int) = (t2 : Int)
      ∧ bits .and .u32 (t2 : Int) 15 = (i2 : Int) ∧ i2 < 16 ∧ w.cell? ⟨0, i2, none⟩ = some (.int .u32 (v2 : Int)) ∧ bits .xor .u32 ((t2 : Int) / 16) (v2 : Int) = (t3 : Int) ∧ t3 = Crc.byte s x.toNat ∧ t3 < 2 ^ 32 := by
  obtain ⟨y, rfl⟩ := Int.eq_ofNat_of_zero_le h0
  have ht1 : s ^^^ y < 2 ^ 32 := Nat.xor_lt_two_pow hs (by omega)
  have e1 := Crc.half_eq (s ^^^ y)
  have e2 := Crc.half_eq (Crc.bits4 (s ^^^ y))
  have l2 := Crc.bits4_lt _ ht1
  have l3 := Crc.bits4_lt _ l2
  refine ⟨s ^^^ y, (s ^^^ y) % 16, Crc.tab.getD ((s ^^^ y) % 16) 0, Crc.bits4 (s ^^^ y), Crc.bits4 (s ^^^ y) % 16, Crc.tab.getD (Crc.bits4 (s ^^^ y) % 16) 0, Crc.bits4 (Crc.bits4 (s ^^^ y)), ?_, and15_u32 _ ht1, Nat.mod_lt _ (by decide), ht _ (Nat.mod_lt _ (by decide)), ?_, and15_u32 _ l2, Nat.mod_lt _ (by decide), ht _ (Nat.mod_lt _ (by decide)), ?_, ?_, l3⟩
  · exact xor_u32 s y hs (by omega)
  · have := xor_u32 ((s ^^^ y) / 16) (Crc.tab.getD ((s ^^^ y) % 16) 0) (by omega) (tab_lt _)
    rw [← e1]
    exact this
  · have := xor_u32 (Crc.bits4 (s ^^^ y) / 16) (Crc.tab.getD (Crc.bits4 (s ^^^ y) % 16) 0) (by omega) (tab_lt _)
    rw [← e2]
    exact this
  · rw [Int.toNat_natCast]; rfl

theorem not_u32 (s : Nat) (h : s < 2 ^ 32) : bits .xor .u32 (s : Int) 4294967295 = ((s ^^^ 4294967295 : Nat) : Int) := xor_u32 s 4294967295 h (by decide)
theorem not_u32' (s : Nat) (h : s < 2 ^ 32) : bits .xor .u32 IntKind.u32.max (s : Int) = ((s ^^^ 4294967295 : Nat) : Int) := by
  have := xor_u32 4294967295 s (by decide) h
  rw [Nat.xor_comm] at this
  exact this
theorem run_le {f : Nat → Int} (h : ∀ i, 0 ≤ f i ∧ f i ≤ 255) (k : Nat) : Crc.run 4294967295 (lstN f k) < 2 ^ 32 := Crc.run_lt _ _ (by decide) (lstN_by h k)
theorem retN {a b : Nat} (h : a = b) : Ending.returned (.int .u32 (a : Int)) = .returned (.int .u32 (b : Int)) := by rw [h]

set_option maxHeartbeats 1000000 in
theorem wSum_at (b off n c : Nat) (f : Nat → Int) (w : World) (hbig : n ≤ 140737488355328) (hby : ∀ i, 0 ≤ f i ∧ f i ≤ 255) (hc : Hid (∀ i, i < n → w.cell? ⟨b, off + i, none⟩ = some (.int .u8 (f i)))) (ht : Hid (Tab w)) :
    Calls Tryz.prog 157 #[.slice (some ⟨b, off, none⟩) n c] w fun e w' => e = .returned (.int .u32 (Crc.sum (lstN f n) : Nat)) ∧ w' = w := by
  go_enter Tryz.func157, Tryz.ntmps157
  go_wp2
  go_loop [3, 8] (fun s i => ∃ k : Nat, k ≤ n ∧ i = .int .i64 k ∧ s = .int .u32 ((Crc.run 4294967295 (lstN f k) : Nat) : Int)) (fun _ i => n - (intOf i).toNat)
  case atStart => exact ⟨0, Nat.zero_le _, rfl, rfl⟩
  case round =>
    obtain ⟨k, hk, rfl, rfl⟩ := hrel
    have hcell : k < n → w.cell? ⟨b, off + k, none⟩ = some (.int .u8 (f k)) := fun h => hc.out k h
    have hb1 := (hby k).1
    have hb2 := (hby k).2
    have hlt32 := run_le hby k
    have hrs := run_succ f k 4294967295
    by_cases hlt : k < n
    · have hcell := hcell hlt
      have hlt' : (k : Int) < (n : Int) := by omega
      obtain ⟨t, i1, v1, t2, i2, v2, t3, e1, e2, e3, e4, e5, e6, e7, e8, e9, e10, e11⟩ := byte_steps ht.out _ (f k) hlt32 hb1 hb2
      have HS : Hid (t3 = Crc.run 4294967295 (lstN f (k + 1))) := e10.trans hrs.symm
      have e3' : (i1 : Int) < 16 := by omega
      have e7' : (i2 : Int) < 16 := by omega
      clear e10 hrs hby hlt32
      generalize Crc.run 4294967295 (lstN f k) = s at *
      go_wp2
      go_round
      case rel => exact ⟨k + 1, by omega, by go_num, by rw [← HS.out]⟩
      case measure => simp [intOf]; omega
    · have hkn : k = n := by omega
      subst hkn
      have hnot := not_u32' _ hlt32
      have HS : Hid (Crc.run 4294967295 (lstN f k) ^^^ 4294967295 = Crc.sum (lstN f k)) := rfl
      clear hrs hby
      generalize Crc.run 4294967295 (lstN f k) = s at *
      go_wp2
      go_ret
      exact ⟨retN HS.out, rfl⟩

theorem sum_nil (f : Nat → Int) : Crc.sum (lstN f 0) = 0 := by simp [lstN, Crc.sum, Crc.run]
set_option maxHeartbeats 400000 in
theorem wSum_none (a : Option Addr) (c : Nat) (f : Nat → Int) (w : World) :
    Calls Tryz.prog 157 #[.slice a 0 c] w fun e w' => e = .returned (.int .u32 (Crc.sum (lstN f 0) : Nat)) ∧ w' = w := by
  have hz : bits .xor .u32 IntKind.u32.max 4294967295 = 0 := by decide +kernel
  have HZ : Hid _ := sum_nil f
  go_enter Tryz.func157, Tryz.ntmps157
  go_wp2
  refine wp_loop_rounds 1 ?_
  rw [rounds_succ]
  go_wp2
  go_ret
  exact ⟨by rw [HZ.out]; rfl, rfl⟩

theorem wSum {w : World} (ao : Option Addr) (n c : Nat) (f : Nat → Int) (hbig : n ≤ 140737488355328) (hby : ∀ i, 0 ≤ f i ∧ f i ≤ 255) (hl : Lay w ao n f) (ht : Tab w) :
    Calls Tryz.prog 157 #[.slice ao n c] w fun e w' => e = .returned (.int .u32 (Crc.sum (lstN f n) : Nat)) ∧ w' = w := by
  rcases hl with rfl | ⟨b, off, rfl, hc⟩
  · exact wSum_none ao c f w
  · exact wSum_at b off n c f w hbig hby hc ht

def bitN : Nat → Nat → Nat
  | 0, c => c
  | j + 1, c => Crc.bit (bitN j c)
theorem bitN_lt (c : Nat) (h : c < 2 ^ 32) : ∀ j, bitN j c < 2 ^ 32
  | 0 => h
  | j + 1 => Crc.bit_lt _ (bitN_lt c h j)
theorem and1_u32 (a : Nat) (ha : a < 2 ^ 32) : bits .and .u32 (a : Int) 1 = ((a % 2 : Nat) : Int) := by
  have := u32_and_nat a 1 (by omega) (by decide)
  rw [nat_mask1] at this
  exact this
theorem bit_odd (c : Nat) (h : c % 2 = 1) (hc : c < 2 ^ 32) : bits .xor .u32 ((c : Int) / 2) 3988292384 = ((Crc.bit c : Nat) : Int) := by
  have := xor_u32 (c / 2) 3988292384 (by omega) (by decide)
  rw [Crc.bit, if_pos h]
  exact this
theorem bit_even (c : Nat) (h : c % 2 = 0) : ((c : Int) / 2) = ((Crc.bit c : Nat) : Int) := by
  rw [Crc.bit, if_neg (by omega)]
  omega

end Go.Proofs.YtcifjpgimekcjaaGreatDoor
