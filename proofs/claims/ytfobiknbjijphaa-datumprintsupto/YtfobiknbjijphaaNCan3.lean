/-
  Contract of the program's Can: which texts are numbers, at every text.
-/
import Derived.Test.YtfobiknbjijphaaNCan2
namespace Go.Proofs.Ytfobiknbjijphaa
open Go.RowKit
set_option linter.unusedVariables false

theorem cut_yes (s : ByteArray) (w : World) (h : 0 < s.size) (h45 : s[0] = 45) :
    Calls Try.prog 36 #[.string s, .string ⟨#[45]⟩] w fun e w' => e = .returned (.tuple #[.string (s.extract 1 s.size), .bool true]) ∧ w' = w := by
  refine (Try.strings_CutPrefix s ⟨#[45]⟩ w).mono ?_
  rintro e w' ⟨rfl, rfl⟩
  refine ⟨?_, rfl⟩
  have e1 : Lib.hasPrefix s.data.toList [45] = true := by rw [bytes_tail s h, h45]; simp [Lib.hasPrefix, List.isPrefixOf]
  have e2 : Lib.trimPrefix s.data.toList [45] = (s.extract 1 s.size).data.toList := by
    unfold Lib.trimPrefix
    rw [if_pos e1, Lib.extract_to_end]; rfl
  have e3 : (⟨(Lib.trimPrefix s.data.toList [45]).toArray⟩ : ByteArray) = s.extract 1 s.size := by rw [e2]
  show Ending.returned (.tuple #[.string ⟨(Lib.trimPrefix s.data.toList [45]).toArray⟩, .bool (Lib.hasPrefix s.data.toList [45])]) = _
  rw [e1, e3]
theorem cut_no (s : ByteArray) (w : World) (h45 : ∀ h : 0 < s.size, s[0] ≠ 45) :
    Calls Try.prog 36 #[.string s, .string ⟨#[45]⟩] w fun e w' => e = .returned (.tuple #[.string s, .bool false]) ∧ w' = w := by
  refine (Try.strings_CutPrefix s ⟨#[45]⟩ w).mono ?_
  rintro e w' ⟨rfl, rfl⟩
  refine ⟨?_, rfl⟩
  have e1 : Lib.hasPrefix s.data.toList [45] = false := by
    by_cases h : 0 < s.size
    · rw [bytes_tail s h]; simp [Lib.hasPrefix, List.isPrefixOf]; exact fun e => h45 h e.symm
    · have e : s.data.toList = [] := List.length_eq_zero_iff.1 (by rw [bytes_len]; omega)
      rw [e]; rfl
  have e2 : Lib.trimPrefix s.data.toList [45] = s.data.toList := by
    unfold Lib.trimPrefix
    rw [if_neg (by rw [e1]; decide)]
  have e3 : (⟨(Lib.trimPrefix s.data.toList [45]).toArray⟩ : ByteArray) = s := by rw [e2]
  show Ending.returned (.tuple #[.string ⟨(Lib.trimPrefix s.data.toList [45]).toArray⟩, .bool (Lib.hasPrefix s.data.toList [45])]) = _
  rw [e1, e3]

/-- What CutPrefix of a - answers. -/
def Cut (s E : ByteArray) (b : Bool) : Prop := ∀ w, Calls Try.prog 36 #[.string s, .string ⟨#[45]⟩] w fun e w' => e = .returned (.tuple #[.string E, .bool b]) ∧ w' = w

set_option maxRecDepth 100000 in
theorem nCan_loop (s E : ByteArray) (b : Bool) (w : World) (hc : Cut s E b) (h1 : 0 < E.size) (hl : E.size ≤ 200) (hz : ((E[0].toNat : Int) == 48) = false ∨ (b = false ∧ E.size = 1)) :
    Calls Try.prog 33 #[.string s] w fun e w' => Ans e (∀ i (h : i < E.size), isDg E[i]) ∧ w' = w := by
  have hl1 : E.toList.isEmpty = false := by
    rw [Lib.toList_data, List.isEmpty_eq_false_iff]
    intro e
    have := bytes_len E
    rw [e] at this
    simp at this
    omega
  have hl2 : ¬ (200 : Int) < (E.size : Int) := by omega
  have HC : Hid (Cut s E b) := hc
  clear hc
  by_cases hz0 : ((E[0].toNat : Int) == 48) = true
  · obtain ⟨rfl, hz1⟩ : b = false ∧ E.size = 1 := by
      rcases hz with hz | hz
      · rw [hz] at hz0; cases hz0
      · exact hz
    have hz2 : ¬ (1 : Int) < (E.size : Int) := by omega
    clear hz hz1
    go_enter Try.func33, Try.ntmps33
    go_wp2_with (go_at_call 36; refine (HC.out _).mono ?_; rintro e w1 ⟨rfl, hw⟩; obtain rfl : w = w1 := hw.symm)
    go_wp2
    go_loopw [31] (fun i wr => ∃ k : Nat, k ≤ E.size ∧ i = .int .i64 (k : Int) ∧ Hid (∀ i (h : i < E.size), i < k → isDg E[i]) ∧ wr = w) (fun i _ => E.size - (intOf i).toNat)
    case atStart => exact ⟨0, Nat.zero_le _, rfl, fun i _ h => by omega, rfl⟩
    case round =>
      obtain ⟨k, hk, rfl, hd, rfl⟩ := hrel
      by_cases hlt : k < E.size
      · have hlt' : (k : Int) < (E.size : Int) := by omega
        have hk0 : (0 : Int) ≤ (k : Int) := by omega
        by_cases d1 : (E[k].toNat : Int) < 48
        · go_wp2
          go_ret
          exact ⟨Ans.no (fun h => by have := (h k hlt).1; omega), rfl⟩
        · by_cases d2 : (57 : Int) < (E[k].toNat : Int)
          · go_wp2
            go_ret
            exact ⟨Ans.no (fun h => by have := (h k hlt).2; omega), rfl⟩
          · have hd' : Hid (∀ i (h : i < E.size), i < k + 1 → isDg E[i]) := fun i h hi => by
              by_cases e : i = k
              · subst e; exact ⟨by omega, by omega⟩
              · exact hd.out i h (by omega)
            go_wp2
            go_roundw
            case rel => exact ⟨k + 1, by omega, by go_num, hd', by first | trivial | rfl⟩
            case measure => simp [intOf]; omega
      · obtain rfl : k = E.size := by omega
        go_wp2
        go_ret
        exact ⟨Ans.yes (fun i h => hd.out i h h), rfl⟩
  · have hz0 : ((E[0].toNat : Int) == 48) = false := Bool.eq_false_iff.2 hz0
    clear hz
    go_enter Try.func33, Try.ntmps33
    go_wp2_with (go_at_call 36; refine (HC.out _).mono ?_; rintro e w1 ⟨rfl, hw⟩; obtain rfl : w = w1 := hw.symm)
    go_wp2
    go_loopw [31] (fun i wr => ∃ k : Nat, k ≤ E.size ∧ i = .int .i64 (k : Int) ∧ Hid (∀ i (h : i < E.size), i < k → isDg E[i]) ∧ wr = w) (fun i _ => E.size - (intOf i).toNat)
    case atStart => exact ⟨0, Nat.zero_le _, rfl, fun i _ h => by omega, rfl⟩
    case round =>
      obtain ⟨k, hk, rfl, hd, rfl⟩ := hrel
      by_cases hlt : k < E.size
      · have hlt' : (k : Int) < (E.size : Int) := by omega
        have hk0 : (0 : Int) ≤ (k : Int) := by omega
        by_cases d1 : (E[k].toNat : Int) < 48
        · go_wp2
          go_ret
          exact ⟨Ans.no (fun h => by have := (h k hlt).1; omega), rfl⟩
        · by_cases d2 : (57 : Int) < (E[k].toNat : Int)
          · go_wp2
            go_ret
            exact ⟨Ans.no (fun h => by have := (h k hlt).2; omega), rfl⟩
          · have hd' : Hid (∀ i (h : i < E.size), i < k + 1 → isDg E[i]) := fun i h hi => by
              by_cases e : i = k
              · subst e; exact ⟨by omega, by omega⟩
              · exact hd.out i h (by omega)
            go_wp2
            go_roundw
            case rel => exact ⟨k + 1, by omega, by go_num, hd', by first | trivial | rfl⟩
            case measure => simp [intOf]; omega
      · obtain rfl : k = E.size := by omega
        go_wp2
        go_ret
        exact ⟨Ans.yes (fun i h => hd.out i h h), rfl⟩

end Go.Proofs.Ytfobiknbjijphaa
