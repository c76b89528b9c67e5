/-
  NumberTexts, walked. Conditions: the text has at most 2^48 bytes; the library's table of powers of ten and its variable ErrRange are as they start.
-/
import Derived.Test.YtcnlclocnnijgaaDoorNTexts
namespace Go.Proofs.YtcnlclocnnijgaaDoor
open Go.RowKit
set_option linter.unusedVariables false

theorem small_both (s : ByteArray) (hs : s.size ≤ 281474976710656) : ∃ (x : Int) (b : Bool), (∀ w, Std w → Calls Tryd.prog 9 #[.string s] w fun e w' => e = .returned (.tuple #[.int .i64 x, .bool b]) ∧ Below w.heap.size w w') ∧ (∀ w, Calls Tryd.prog 10 #[.string s] w fun e w' => e = .returned (.tuple #[.int .i64 x, .bool b]) ∧ Below w.heap.size w w') := by
  by_cases h : ∃ v, IsNum s v
  · obtain ⟨v, h⟩ := h
    by_cases hr : -9223372036854775808 ≤ v ∧ v ≤ 9223372036854775807
    · exact ⟨v, true, fun w _ => nSmall_in h hr.1 hr.2 w, fun w => rSmall_in h hr.1 hr.2 w⟩
    · exact ⟨0, false, fun w hw => nSmall_out h (by omega) w hw, fun w => rSmall_out h (by omega) w⟩
  · exact ⟨0, false, fun w _ => nSmall_no h w, fun w => rSmall_no h hs w⟩
theorem can_both (s : ByteArray) (hs : s.size ≤ 281474976710656) : ∃ b : Bool, (∀ w, Calls Tryd.prog 12 #[.string s] w fun e w' => e = .returned (.bool b) ∧ w' = w) ∧ (∀ w, Calls Tryd.prog 13 #[.string s] w fun e w' => e = .returned (.bool b) ∧ w' = w) := by
  by_cases h : ∃ v, IsNum s v
  · obtain ⟨v, h⟩ := h
    exact ⟨true, fun w => nCan_yes h w, fun w => rCan_yes h w⟩
  · exact ⟨false, fun w => nCan_false h w, fun w => rCan_no h w hs⟩
theorem isNum_int (n : Int) (h1 : -9223372036854775808 ≤ n) (h2 : n ≤ 9223372036854775807) : IsNum (txt n) n :=
  ⟨rfl, by have := Lib.nDigits_le20 n.natAbs (by omega); omega⟩

set_option maxRecDepth 100000 in
set_option maxHeartbeats 1000000 in
theorem texts_walk (s : ByteArray) (n : Int) (w : World) (hs : s.size ≤ 281474976710656) (h1 : -9223372036854775808 ≤ n) (h2 : n ≤ 9223372036854775807) (hw : Std w) :
    Calls Tryd.prog 3 #[.string s, .int .i64 n] w fun e w' => e = .returned (.bool true) ∧ Below w.heap.size w w' := by
  obtain ⟨x, b, ha, hb⟩ := small_both s hs
  obtain ⟨c, hc, hd⟩ := can_both s hs
  have HA : Hid (∀ w, Std w → Calls Tryd.prog 9 #[.string s] w fun e w' => e = .returned (.tuple #[.int .i64 x, .bool b]) ∧ Below w.heap.size w w') := ha
  have HB : Hid (∀ w, Calls Tryd.prog 10 #[.string s] w fun e w' => e = .returned (.tuple #[.int .i64 x, .bool b]) ∧ Below w.heap.size w w') := hb
  have HC : Hid (∀ w, Calls Tryd.prog 12 #[.string s] w fun e w' => e = .returned (.bool c) ∧ w' = w) := hc
  have HD : Hid (∀ w, Calls Tryd.prog 13 #[.string s] w fun e w' => e = .returned (.bool c) ∧ w' = w) := hd
  have HE : Hid (∀ w, Std w → Calls Tryd.prog 11 #[.int .i64 n] w fun e w' => e = .returned (.string (txt n)) ∧ Below w.heap.size w w') := fun w h => nOf n h1 h2 w h.tab
  have HF : Hid (∀ w, Calls Tryd.prog 14 #[.int .i64 n] w fun e w' => e = .returned (.string (txt n)) ∧ Below w.heap.size w w') := fun w => rOfN n h1 h2 w
  have HG : Hid (∀ w, Calls Tryd.prog 9 #[.string (txt n)] w fun e w' => e = .returned (.tuple #[.int .i64 n, .bool true]) ∧ Below w.heap.size w w') := fun w => nSmall_in (isNum_int n h1 h2) h1 h2 w
  generalize txt n = T at *
  have HW : Hid (Std w) := hw
  clear ha hb hc hd hw
  go_enter Tryd.func3, Tryd.ntmps3
  go_wp2_with fail
  refine (HA.out w HW.out).mono ?_
  rintro e w1 ⟨rfl, b1⟩
  go_wp2_with fail
  refine (HB.out w1).mono ?_
  rintro e w2 ⟨rfl, b2⟩
  have B2 : Below w.heap.size w w2 := b1.trans (b2.mono b1.size)
  have HW2 : Hid (Std w2) := HW.out.below B2 (Nat.le_refl _)
  clear b1 b2
  go_wp2_with fail
  refine (HE.out w2 HW2.out).mono ?_
  rintro e w3 ⟨rfl, b3⟩
  go_wp2_with fail
  refine (HG.out w3).mono ?_
  rintro e w4 ⟨rfl, b4⟩
  have B4 : Below w.heap.size w w4 := (B2.trans (b3.mono B2.size)).trans (b4.mono (by have := B2.size; have := b3.size; omega))
  have HW4 : Hid (Std w4) := HW.out.below B4 (Nat.le_refl _)
  clear b3 b4 B2
  go_wp2_with fail
  refine (HC.out w4).mono ?_
  rintro e w5 ⟨rfl, hw⟩
  obtain rfl : w4 = w5 := hw.symm
  clear hw
  go_wp2_with fail
  refine (HD.out w4).mono ?_
  rintro e w5 ⟨rfl, hw⟩
  obtain rfl : w4 = w5 := hw.symm
  clear hw
  have e1 : (c == c) = true := by simp
  have e2 : (b == b) = true := by simp
  have e3 : (x == x) = true := by simp
  go_wp2_with fail
  refine (HE.out w4 HW4.out).mono ?_
  rintro e w5 ⟨rfl, b5⟩
  go_wp2_with fail
  refine (HF.out w5).mono ?_
  rintro e w6 ⟨rfl, b6⟩
  have B6 : Below w.heap.size w w6 := (B4.trans (b5.mono B4.size)).trans (b6.mono (by have := B4.size; have := b5.size; omega))
  clear b5 b6 B4
  go_wp2
  go_ret
  exact ⟨rfl, B6⟩
end Go.Proofs.YtcnlclocnnijgaaDoor
