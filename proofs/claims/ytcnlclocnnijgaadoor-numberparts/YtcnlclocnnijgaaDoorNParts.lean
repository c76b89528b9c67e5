/-
  NumberParts, walked. Conditions: texts of at most 2^48 bytes; the library's table of powers of ten is as it starts.
-/
import Derived.Test.YtcnlclocnnijgaaDoorNDivide
import Derived.Test.YtcnlclocnnijgaaDoorNOrder
namespace Go.Proofs.YtcnlclocnnijgaaDoor
open Go.RowKit
set_option linter.unusedVariables false

set_option maxRecDepth 100000 in
theorem rCompare_no {a b : ByteArray} (h : ¬ ((∃ x, IsNum a x) ∧ ∃ y, IsNum b y)) (hsa : a.size ≤ 281474976710656) (hsb : b.size ≤ 281474976710656) (w : World) :
    Calls Tryd.prog 26 #[.string a, .string b] w fun e w' => e = .returned (.tuple #[.int .i64 0, .int .i64 90]) ∧ Below w.heap.size w w' := by
  by_cases ha : ∃ x, IsNum a x
  · have hb : ¬ ∃ y, IsNum b y := fun hb => h ⟨ha, hb⟩
    obtain ⟨x, ha⟩ := ha
    have HA : Hid (IsNum a x) := ha
    have HB : Hid (¬ ∃ y, IsNum b y) := hb
    clear h ha hb
    go_enter Tryd.func26, Tryd.ntmps26
    go_wp2_with fail
    refine (rCan_yes HA.out _).mono ?_
    rintro e w1 ⟨rfl, hw⟩
    subst hw
    go_wp2_with fail
    refine (rCan_no HB.out _ hsb).mono ?_
    rintro e w1 ⟨rfl, hw⟩
    subst hw
    go_wp2
    go_ret2
    exact ⟨rfl, Below.refl _ _⟩
  · have HA : Hid (¬ ∃ y, IsNum a y) := ha
    clear h ha
    go_enter Tryd.func26, Tryd.ntmps26
    go_wp2_with fail
    refine (rCan_no HA.out _ hsa).mono ?_
    rintro e w1 ⟨rfl, hw⟩
    subst hw
    go_wp2
    go_ret2
    exact ⟨rfl, Below.refl _ _⟩

theorem quo_both (a b : ByteArray) (hsa : a.size ≤ 281474976710656) (hsb : b.size ≤ 281474976710656) : ∃ (T : ByteArray) (E : Int),
    Hid (∀ wq, Tb wq → Calls Tryd.prog 21 #[.string a, .string b] wq fun e w' => e = .returned (.tuple #[.string T, .int .i64 E]) ∧ Below wq.heap.size wq w') ∧
    Hid (∀ wq, Calls Tryd.prog 22 #[.string a, .string b] wq fun e w' => e = .returned (.tuple #[.string T, .int .i64 E]) ∧ Below wq.heap.size wq w') := by
  by_cases h : (∃ x, IsNum a x) ∧ ∃ y, IsNum b y
  · obtain ⟨⟨x, ha⟩, y, hb⟩ := h
    by_cases hy : y = 0
    · subst hy
      exact ⟨_, _, fun wq hq => nQuo_zero ha hb wq, fun wq => rQuo_err wq (by decide) (rDivide_zero ha hb wq)⟩
    · exact ⟨_, _, fun wq hq => nQuo_ok ha hb hy wq hq, fun wq => rQuo_ok ha hb hy wq⟩
  · exact ⟨_, _, fun wq hq => nQuo_no h wq, fun wq => rQuo_err wq (by decide) (rDivide_no h hsa hsb wq)⟩
theorem rem_both (a b : ByteArray) (hsa : a.size ≤ 281474976710656) (hsb : b.size ≤ 281474976710656) : ∃ (T : ByteArray) (E : Int),
    Hid (∀ wq, Tb wq → Calls Tryd.prog 23 #[.string a, .string b] wq fun e w' => e = .returned (.tuple #[.string T, .int .i64 E]) ∧ Below wq.heap.size wq w') ∧
    Hid (∀ wq, Calls Tryd.prog 24 #[.string a, .string b] wq fun e w' => e = .returned (.tuple #[.string T, .int .i64 E]) ∧ Below wq.heap.size wq w') := by
  by_cases h : (∃ x, IsNum a x) ∧ ∃ y, IsNum b y
  · obtain ⟨⟨x, ha⟩, y, hb⟩ := h
    by_cases hy : y = 0
    · subst hy
      exact ⟨_, _, fun wq hq => nRem_zero ha hb wq, fun wq => rRem_err wq (by decide) (rDivide_zero ha hb wq)⟩
    · exact ⟨_, _, fun wq hq => nRem_ok ha hb hy wq hq, fun wq => rRem_ok ha hb hy wq⟩
  · exact ⟨_, _, fun wq hq => nRem_no h wq, fun wq => rRem_err wq (by decide) (rDivide_no h hsa hsb wq)⟩
theorem cmp_both (a b : ByteArray) (hsa : a.size ≤ 281474976710656) (hsb : b.size ≤ 281474976710656) : ∃ (T E : Int),
    Hid (∀ wq, Calls Tryd.prog 25 #[.string a, .string b] wq fun e w' => e = .returned (.tuple #[.int .i64 T, .int .i64 E]) ∧ Below wq.heap.size wq w') ∧
    Hid (∀ wq, Calls Tryd.prog 26 #[.string a, .string b] wq fun e w' => e = .returned (.tuple #[.int .i64 T, .int .i64 E]) ∧ Below wq.heap.size wq w') := by
  by_cases h : (∃ x, IsNum a x) ∧ ∃ y, IsNum b y
  · obtain ⟨⟨x, ha⟩, y, hb⟩ := h
    exact ⟨_, _, fun wq => nCompare_ok ha hb wq, fun wq => rCompare ha hb wq⟩
  · exact ⟨_, _, fun wq => nCompare_no h wq, fun wq => rCompare_no h hsa hsb wq⟩

set_option maxRecDepth 100000 in
set_option maxHeartbeats 2000000 in
theorem parts_walk (a b : ByteArray) (w : World) (hsa : a.size ≤ 281474976710656) (hsb : b.size ≤ 281474976710656) (ht : Tb w) :
    Calls Tryd.prog 5 #[.string a, .string b] w fun e w' => e = .returned (.bool true) ∧ Below w.heap.size w w' := by
  obtain ⟨S, E, H1, H1r⟩ := quo_both a b hsa hsb
  obtain ⟨P, F, H2, H2r⟩ := rem_both a b hsa hsb
  obtain ⟨R, G, H3, H3r⟩ := cmp_both a b hsa hsb
  have HT : Hid (∀ wq, Below w.heap.size w wq → Tb wq) := fun wq hq => ht.below hq
  have q1 : (S.toList == S.toList) = true := by simp
  have q2 : (E == E) = true := by simp
  have q3 : (P.toList == P.toList) = true := by simp
  have q4 : (F == F) = true := by simp
  have q5 : (R == R) = true := by simp
  have q6 : (G == G) = true := by simp
  clear ht hsa hsb
  go_enter Tryd.func5, Tryd.ntmps5
  go_wp2_with fail
  refine (H1.out w (HT.out w (Below.refl _ _))).mono ?_
  rintro e w1 ⟨rfl, B1⟩
  go_wp2_with fail
  refine (H1r.out w1).mono ?_
  rintro e w2 ⟨rfl, b2⟩
  have B2 := B1.trans (b2.mono B1.size)
  go_wp2_with fail
  refine (H2.out w2 (HT.out w2 B2)).mono ?_
  rintro e w3 ⟨rfl, b3⟩
  have B3 := B2.trans (b3.mono B2.size)
  go_wp2_with fail
  refine (H2r.out w3).mono ?_
  rintro e w4 ⟨rfl, b4⟩
  have B4 := B3.trans (b4.mono B3.size)
  go_wp2_with fail
  refine (H3.out w4).mono ?_
  rintro e w5 ⟨rfl, b5⟩
  have B5 := B4.trans (b5.mono B4.size)
  go_wp2_with fail
  refine (H3r.out w5).mono ?_
  rintro e w6 ⟨rfl, b6⟩
  have B6 := B5.trans (b6.mono B5.size)
  clear B1 b2 b3 b4 b5 b6 B2 B3 B4 B5 H1 H2 H3 H1r H2r H3r
  go_wp2
  go_ret
  exact ⟨rfl, B6⟩
end Go.Proofs.YtcnlclocnnijgaaDoor
