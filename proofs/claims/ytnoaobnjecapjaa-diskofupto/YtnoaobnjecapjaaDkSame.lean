/-
  Contracts of slices.EqualFunc over rows of bytes, and of SameImage, where the rows are the same.
-/
import Derived.Test.YtnoaobnjecapjaaDkSees
namespace Go.Proofs.Ytnoaobnjecapjaa
open Go.RowKit
set_option linter.unusedVariables false

set_option maxRecDepth 100000 in
set_option maxHeartbeats 1000000 in
theorem equalRows (gA gB n cA cB : Nat) (b1 o1 c1 b2 o2 c2 : Nat → Nat) (f1 f2 : Nat → Nat → Int) (w : World) (hn : n ≤ 1000000) (h1 : Rws w gA n b1 o1 c1 f1) (h2 : Rws w gB n b2 o2 c2 f2) (he : ∀ i, i < n → lst (f1 i) 128 = lst (f2 i) 128) :
    Calls Try.prog 44 #[.slice (some ⟨gA, 0, none⟩) n cA, .slice (some ⟨gB, 0, none⟩) n cB, .func (.func 19) #[] #[]] w fun e w' => e = .returned (.bool true) ∧ w' = w := by
  have H1 : Hid (Rws w gA n b1 o1 c1 f1) := h1
  have H2 : Hid (Rws w gB n b2 o2 c2 f2) := h2
  have HE : Hid (∀ i, i < n → lst (f1 i) 128 = lst (f2 i) 128) := he
  clear h1 h2 he
  go_enter Try.func44, Try.ntmps44
  go_wp2
  go_loopw [17] (fun i wr => ∃ k : Nat, k ≤ n ∧ i = .int .i64 (k : Int) ∧ wr = w) (fun i _ => n - (intOf i).toNat)
  case atStart => exact ⟨0, Nat.zero_le _, rfl, rfl⟩
  case round =>
    obtain ⟨k, hk, rfl, rfl⟩ := hrel
    by_cases hlt : k < n
    · have hlt' : (k : Int) < (n : Int) := by omega
      have hk0 : (0 : Int) ≤ (k : Int) := by omega
      have p1 := H1.out.cell k hlt
      have p2 := H2.out.cell k hlt
      go_wp2_with fail
      refine (equal_yes (some ⟨b1 k, o1 k, none⟩) (some ⟨b2 k, o2 k, none⟩) 128 (c1 k) 128 (c2 k) (f1 k) (f2 k) wr (H1.out.from_ k hlt) (H2.out.from_ k hlt) (HE.out k hlt)).mono ?_
      rintro e w2 ⟨rfl, hw⟩
      obtain rfl : wr = w2 := hw.symm
      clear hw
      go_wp2
      go_roundw
      case rel => exact ⟨k + 1, by omega, by go_num, by trivial⟩
      case measure => simp [intOf]; omega
    · obtain rfl : k = n := by omega
      go_wp2
      go_ret
      exact ⟨rfl, rfl⟩
set_option maxRecDepth 100000 in
set_option maxHeartbeats 1000000 in
theorem sameImg (gA gB n cA cB : Nat) (b1 o1 c1 b2 o2 c2 : Nat → Nat) (f1 f2 : Nat → Nat → Int) (w : World) (hn : n ≤ 1000000) (h1 : Rws w gA n b1 o1 c1 f1) (h2 : Rws w gB n b2 o2 c2 f2) (he : ∀ i, i < n → lst (f1 i) 128 = lst (f2 i) 128) :
    Calls Try.prog 27 #[.slice (some ⟨gA, 0, none⟩) n cA, .slice (some ⟨gB, 0, none⟩) n cB] w fun e w' => e = .returned (.bool true) ∧ w' = w := by
  go_enter Try.func27, Try.ntmps27
  go_wp2_with fail
  refine (equalRows gA gB n cA cB b1 o1 c1 b2 o2 c2 f1 f2 w hn h1 h2 he).mono ?_
  rintro e w2 ⟨rfl, hw⟩
  obtain rfl : w = w2 := hw.symm
  clear hw
  go_wp2
  go_ret
  exact ⟨rfl, rfl⟩
end Go.Proofs.Ytnoaobnjecapjaa
