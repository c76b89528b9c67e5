/-
  What a heap that no call made answers, and the primitives of it.
-/
import Derived.Test.YtkjnigbnbfjdhaaGreatDoorHpA
namespace Go.Proofs.YtkjnigbnbfjdhaaGreatDoor
open Go.RowKit
set_option linter.unusedVariables false

/-- A heap that no call made. -/
def Ms (p : Value) (w : World) : Prop := Calls Tryz.prog 95 #[p] w fun r w' => r = .returned (.bool true) ∧ w' = w
theorem m_pop {p : Value} {w : World} (HM : Hid (Ms p w)) (v : Int) : Calls Tryz.prog 32 #[p, .int .i64 v] w fun r w' => r = .returned (.int .i64 2) ∧ w' = w := by
  go_enter Tryz.func32, Tryz.ntmps32
  go_wp2_with fail
  refine HM.out.mono ?_
  rintro r w1 ⟨rfl, hw⟩
  obtain rfl : w = w1 := hw.symm
  clear hw
  go_wp2
  go_ret
  exact ⟨rfl, rfl⟩
theorem m_find {p : Value} {w : World} (HM : Hid (Ms p w)) (v : Int) : Calls Tryz.prog 110 #[p, .int .i64 v] w fun r w' => r = .returned (.pointer none) ∧ w' = w := by
  go_enter Tryz.func110, Tryz.ntmps110
  go_wp2_with fail
  refine HM.out.mono ?_
  rintro r w1 ⟨rfl, hw⟩
  obtain rfl : w = w1 := hw.symm
  clear hw
  go_wp2
  go_ret
  exact ⟨rfl, rfl⟩
theorem m_kind {p : Value} {w : World} (HM : Hid (Ms p w)) (v : Int) : Calls Tryz.prog 39 #[p, .int .i64 v] w fun r w' => r = .returned (.int .i64 0) ∧ w' = w := by
  have HC : Hid (Calls Tryz.prog 110 #[p, .int .i64 v] w fun r w' => r = .returned (.pointer none) ∧ w' = w) := m_find HM v
  clear HM
  go_enter Tryz.func39, Tryz.ntmps39
  go_wp2_with fail
  refine HC.out.mono ?_
  rintro r w1 ⟨rfl, hw⟩
  obtain rfl : w = w1 := hw.symm
  clear hw
  go_wp2
  go_ret
  exact ⟨rfl, rfl⟩
theorem m_string {p : Value} {w : World} (HM : Hid (Ms p w)) (v : Int) : Calls Tryz.prog 40 #[p, .int .i64 v] w fun r w' => r = .returned (.string ⟨#[]⟩) ∧ w' = w := by
  have HC : Hid (Calls Tryz.prog 110 #[p, .int .i64 v] w fun r w' => r = .returned (.pointer none) ∧ w' = w) := m_find HM v
  clear HM
  go_enter Tryz.func40, Tryz.ntmps40
  go_wp2_with fail
  refine HC.out.mono ?_
  rintro r w1 ⟨rfl, hw⟩
  obtain rfl : w = w1 := hw.symm
  clear hw
  go_wp2
  go_ret
  exact ⟨rfl, rfl⟩

theorem m_missing {p : Value} {w : World} (HM : Hid (Ms p w)) : Calls Tryz.prog 25 #[p] w fun r w' => r = .returned (.bool true) ∧ w' = w := by
  have HC : Hid (Calls Tryz.prog 32 #[p, .int .i64 0] w fun r w' => r = .returned (.int .i64 2) ∧ w' = w) := m_pop HM 0
  clear HM
  go_enter Tryz.func25, Tryz.ntmps25
  go_wp2_with fail
  refine HC.out.mono ?_
  rintro r w1 ⟨rfl, hw⟩
  obtain rfl : w = w1 := hw.symm
  clear hw
  go_wp2
  go_ret
  exact ⟨rfl, rfl⟩
theorem m_apply {p : Value} {w : World} (HM : Hid (Ms p w)) (n a : Int) : Calls Tryz.prog 10 #[p, .int .i64 n, .int .i64 a] w fun r w' => r = .returned (.tuple #[.int .i64 0, .int .i64 2]) ∧ w' = w := by
  have HC : Hid (Calls Tryz.prog 25 #[p] w fun r w' => r = .returned (.bool true) ∧ w' = w) := m_missing HM
  clear HM
  go_enter Tryz.func10, Tryz.ntmps10
  go_wp2_with fail
  refine HC.out.mono ?_
  rintro r w1 ⟨rfl, hw⟩
  obtain rfl : w = w1 := hw.symm
  clear hw
  go_wp2
  go_ret2
  exact ⟨rfl, rfl⟩
theorem m_number {p : Value} {w : World} (HM : Hid (Ms p w)) (s : ByteArray) : Calls Tryz.prog 12 #[p, .string s] w fun r w' => r = .returned (.tuple #[.int .i64 0, .int .i64 2]) ∧ w' = w := by
  have HC : Hid (Calls Tryz.prog 25 #[p] w fun r w' => r = .returned (.bool true) ∧ w' = w) := m_missing HM
  clear HM
  go_enter Tryz.func12, Tryz.ntmps12
  go_wp2_with fail
  refine HC.out.mono ?_
  rintro r w1 ⟨rfl, hw⟩
  obtain rfl : w = w1 := hw.symm
  clear hw
  go_wp2
  go_ret2
  exact ⟨rfl, rfl⟩
theorem m_digits {p : Value} {w : World} (HM : Hid (Ms p w)) (v : Int) : Calls Tryz.prog 13 #[p, .int .i64 v] w fun r w' => r = .returned (.tuple #[.string ⟨#[]⟩, .bool false]) ∧ w' = w := by
  have HC : Hid (Calls Tryz.prog 25 #[p] w fun r w' => r = .returned (.bool true) ∧ w' = w) := m_missing HM
  clear HM
  go_enter Tryz.func13, Tryz.ntmps13
  go_wp2_with fail
  refine HC.out.mono ?_
  rintro r w1 ⟨rfl, hw⟩
  obtain rfl : w = w1 := hw.symm
  clear hw
  go_wp2
  go_ret2
  exact ⟨rfl, rfl⟩
theorem m_show {p : Value} {w : World} (HM : Hid (Ms p w)) (v : Int) : Calls Tryz.prog 14 #[p, .int .i64 v] w fun r w' => r = .returned (.string ⟨#[]⟩) ∧ w' = w := by
  have HC : Hid (Calls Tryz.prog 25 #[p] w fun r w' => r = .returned (.bool true) ∧ w' = w) := m_missing HM
  clear HM
  go_enter Tryz.func14, Tryz.ntmps14
  go_wp2_with fail
  refine HC.out.mono ?_
  rintro r w1 ⟨rfl, hw⟩
  obtain rfl : w = w1 := hw.symm
  clear hw
  go_wp2
  go_ret
  exact ⟨rfl, rfl⟩
theorem m_equal {p : Value} {w : World} (HM : Hid (Ms p w)) (v u : Int) : Calls Tryz.prog 15 #[p, .int .i64 v, .int .i64 u] w fun r w' => r = .returned (.bool false) ∧ w' = w := by
  have HC : Hid (Calls Tryz.prog 25 #[p] w fun r w' => r = .returned (.bool true) ∧ w' = w) := m_missing HM
  clear HM
  go_enter Tryz.func15, Tryz.ntmps15
  go_wp2_with fail
  refine HC.out.mono ?_
  rintro r w1 ⟨rfl, hw⟩
  obtain rfl : w = w1 := hw.symm
  clear hw
  go_wp2
  go_ret
  exact ⟨rfl, rfl⟩
theorem m_encode {p : Value} {w : World} (HM : Hid (Ms p w)) (v : Int) : Calls Tryz.prog 16 #[p, .int .i64 v] w fun r w' => r = .returned (.tuple #[.slice none 0 0, .int .i64 2]) ∧ w' = w := by
  have HC : Hid (Calls Tryz.prog 25 #[p] w fun r w' => r = .returned (.bool true) ∧ w' = w) := m_missing HM
  clear HM
  go_enter Tryz.func16, Tryz.ntmps16
  go_wp2_with fail
  refine HC.out.mono ?_
  rintro r w1 ⟨rfl, hw⟩
  obtain rfl : w = w1 := hw.symm
  clear hw
  go_wp2
  go_ret2
  exact ⟨rfl, rfl⟩
theorem m_decode {p : Value} {w : World} (HM : Hid (Ms p w)) (a : Option Addr) (n c : Nat) : Calls Tryz.prog 17 #[p, .slice a n c] w fun r w' => r = .returned (.tuple #[.int .i64 0, .int .i64 2]) ∧ w' = w := by
  have HC : Hid (Calls Tryz.prog 25 #[p] w fun r w' => r = .returned (.bool true) ∧ w' = w) := m_missing HM
  clear HM
  go_enter Tryz.func17, Tryz.ntmps17
  go_wp2_with fail
  refine HC.out.mono ?_
  rintro r w1 ⟨rfl, hw⟩
  obtain rfl : w = w1 := hw.symm
  clear hw
  go_wp2
  go_ret2
  exact ⟨rfl, rfl⟩
theorem m_load {p : Value} {w : World} (HM : Hid (∀ wq, Below w.heap.size w wq → Ms p wq)) (x0 x1 x2 x3 : Value) : Calls Tryz.prog 11 #[p, .agg #[x0, x1, x2, x3]] w fun r w' => r = .returned (.tuple #[.int .i64 0, .int .i64 2]) ∧ Below w.heap.size w w' := by
  obtain ⟨o, ho⟩ : ∃ o, Obj.cells #[x0, x1, x2, x3] 28 = o := ⟨_, rfl⟩
  have bo : Below w.heap.size w (w.alloc o) := (Below.refl _ w).alloc (Nat.le_refl _) o
  have HC : Hid (Calls Tryz.prog 25 #[p] (w.alloc o) fun r w' => r = .returned (.bool true) ∧ w' = w.alloc o) := m_missing (HM.out _ bo)
  clear HM
  go_enter Tryz.func11, Tryz.ntmps11
  go_wp2_with fail
  try rw [ho]
  refine HC.out.mono ?_
  rintro r w1 ⟨rfl, hw⟩
  obtain rfl : w.alloc o = w1 := hw.symm
  clear hw
  go_wp2
  go_ret2
  exact ⟨rfl, bo⟩
theorem m_same {p : Value} {w : World} (HM : Hid (Ms p w)) (v u : Int) : Calls Tryz.prog 19 #[p, .int .i64 v, p, .int .i64 u] w fun r w' => r = .returned (.bool false) ∧ w' = w := by
  have HC : Hid (Calls Tryz.prog 25 #[p] w fun r w' => r = .returned (.bool true) ∧ w' = w) := m_missing HM
  clear HM
  go_enter Tryz.func19, Tryz.ntmps19
  go_wp2_with fail
  refine HC.out.mono ?_
  rintro r w1 ⟨rfl, hw⟩
  obtain rfl : w = w1 := hw.symm
  clear hw
  go_wp2
  go_ret
  exact ⟨rfl, rfl⟩
end Go.Proofs.YtkjnigbnbfjdhaaGreatDoor
