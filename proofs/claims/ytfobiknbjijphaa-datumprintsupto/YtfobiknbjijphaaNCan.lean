/-
  Contracts of the document's Can and of the program's: which texts are numbers. Condition: none but that a text has at most 2^48 bytes.
-/
import Derived.Test.YtfobiknbjijphaaProg
import Derived.Test.YtfobiknbjijphaaNumPad
import Derived.Test.YtfobiknbjijphaaMem
import Derived.WalkLawsBesides
import Derived.WalkSpells
import Derived.Lib.IndexBytes
namespace Go.Proofs.Ytfobiknbjijphaa
open Go.RowKit
set_option linter.unusedVariables false
/-- A call answers whether something holds. -/
def Ans (e : Ending) (p : Prop) : Prop := ∃ b : Bool, e = .returned (.bool b) ∧ (b = true ↔ p)
theorem Ans.yes {p : Prop} (h : p) : Ans (.returned (.bool true)) p := ⟨_, rfl, fun _ => h, fun _ => rfl⟩
theorem Ans.no {p : Prop} (h : ¬ p) : Ans (.returned (.bool false)) p := ⟨_, rfl, fun e => by simp at e, fun k => absurd k h⟩
set_option maxRecDepth 100000 in
theorem rCan_pos (s : ByteArray) (w : World) (h0 : 0 < s.size) (hl : s.size ≤ 200) (hm : ((s[0].toNat : Int) == 45) = false) (hz : ((s[0].toNat : Int) == 48) = false ∨ s.size = 1) :
    Calls Try.prog 24 #[.string s] w fun e w' => Ans e (∀ i (h : i < s.size), isDg s[i]) ∧ w' = w := by
  have hl1 : ¬ (s.size : Int) < 1 := by omega
  have hl2 : ¬ (200 : Int) < (s.size : Int) := by omega
  have hl3 : (0 : Int) < (s.size : Int) := by omega
  by_cases hz0 : ((s[0].toNat : Int) == 48) = true
  · have hz2 : ¬ (1 : Int) < (s.size : Int) := by
      rcases hz with hz | hz
      · rw [hz] at hz0; cases hz0
      · omega
    clear hz
    go_enter Try.func24, Try.ntmps24
    go_wp2
    go_loopw [3] (fun i wr => ∃ k : Nat, k ≤ s.size ∧ i = .int .i64 (k : Int) ∧ Hid (∀ i (h : i < s.size), i < k → isDg s[i]) ∧ wr = w) (fun i _ => s.size - (intOf i).toNat)
    case atStart => exact ⟨0, Nat.zero_le _, rfl, fun i _ h => by omega, rfl⟩
    case round =>
      obtain ⟨k, hk, rfl, hd, rfl⟩ := hrel
      by_cases hlt : k < s.size
      · have hlt' : (k : Int) < (s.size : Int) := by omega
        have hk0 : (0 : Int) ≤ (k : Int) := by omega
        by_cases d1 : (s[k].toNat : Int) < 48
        · go_wp2
          go_ret
          exact ⟨Ans.no (fun h => by have := (h k hlt).1; omega), rfl⟩
        · by_cases d2 : (57 : Int) < (s[k].toNat : Int)
          · go_wp2
            go_ret
            exact ⟨Ans.no (fun h => by have := (h k hlt).2; omega), rfl⟩
          · have hd' : Hid (∀ i (h : i < s.size), i < k + 1 → isDg s[i]) := fun i h hi => by
              by_cases e : i = k
              · subst e; exact ⟨by omega, by omega⟩
              · exact hd.out i h (by omega)
            go_wp2
            go_roundw
            case rel => exact ⟨k + 1, by omega, by go_num, hd', by first | trivial | rfl⟩
            case measure => simp [intOf]; omega
      · obtain rfl : k = s.size := by omega
        go_wp2
        go_ret
        exact ⟨Ans.yes (fun i h => hd.out i h h), rfl⟩
  · have hz0 : ((s[0].toNat : Int) == 48) = false := Bool.eq_false_iff.2 hz0
    clear hz
    go_enter Try.func24, Try.ntmps24
    go_wp2
    go_loopw [3] (fun i wr => ∃ k : Nat, k ≤ s.size ∧ i = .int .i64 (k : Int) ∧ Hid (∀ i (h : i < s.size), i < k → isDg s[i]) ∧ wr = w) (fun i _ => s.size - (intOf i).toNat)
    case atStart => exact ⟨0, Nat.zero_le _, rfl, fun i _ h => by omega, rfl⟩
    case round =>
      obtain ⟨k, hk, rfl, hd, rfl⟩ := hrel
      by_cases hlt : k < s.size
      · have hlt' : (k : Int) < (s.size : Int) := by omega
        have hk0 : (0 : Int) ≤ (k : Int) := by omega
        by_cases d1 : (s[k].toNat : Int) < 48
        · go_wp2
          go_ret
          exact ⟨Ans.no (fun h => by have := (h k hlt).1; omega), rfl⟩
        · by_cases d2 : (57 : Int) < (s[k].toNat : Int)
          · go_wp2
            go_ret
            exact ⟨Ans.no (fun h => by have := (h k hlt).2; omega), rfl⟩
          · have hd' : Hid (∀ i (h : i < s.size), i < k + 1 → isDg s[i]) := fun i h hi => by
              by_cases e : i = k
              · subst e; exact ⟨by omega, by omega⟩
              · exact hd.out i h (by omega)
            go_wp2
            go_roundw
            case rel => exact ⟨k + 1, by omega, by go_num, hd', by first | trivial | rfl⟩
            case measure => simp [intOf]; omega
      · obtain rfl : k = s.size := by omega
        go_wp2
        go_ret
        exact ⟨Ans.yes (fun i h => hd.out i h h), rfl⟩

set_option maxRecDepth 100000 in
theorem rCan_neg (s : ByteArray) (w : World) (h0 : 0 < s.size) (hm : ((s[0].toNat : Int) == 45) = true) (E : ByteArray) (hE : s.extract 1 s.size = E) (h1 : 0 < E.size) (hl : E.size ≤ 200) (hz : ((E[0].toNat : Int) == 48) = false) :
    Calls Try.prog 24 #[.string s] w fun e w' => Ans e (∀ i (h : i < E.size), isDg E[i]) ∧ w' = w := by
  have hl1 : ¬ (E.size : Int) < 1 := by omega
  have hl2 : ¬ (200 : Int) < (E.size : Int) := by omega
  have hl3 : (0 : Int) < (s.size : Int) := by omega
  have hl4 : (E.toList == [48]) = false := by
    rw [beq_eq_false_iff_ne]
    intro e
    rw [Lib.toList_data] at e
    have e0 : E.data.toList[0]? = some E[0] := by rw [List.getElem?_eq_getElem (by simpa using h1)]; rfl
    rw [e] at e0
    have e1 : E[0] = 48 := by simpa using e0.symm
    rw [e1] at hz
    simp at hz
  go_enter Try.func24, Try.ntmps24
  go_wp2
  go_loopw [3] (fun i wr => ∃ k : Nat, k ≤ E.size ∧ i = .int .i64 (k : Int) ∧ Hid (∀ i (h : i < E.size), i < k → isDg E[i]) ∧ wr = w) (fun i _ => E.size - (intOf i).toNat)
  case atStart => exact ⟨0, Nat.zero_le _, rfl, fun i _ h => by omega, rfl⟩
  case round =>
    obtain ⟨k, hk, rfl, hd, rfl⟩ := hrel
    by_cases hlt : k < E.size
    · have hlt' : (k : Int) < (E.size : Int) := by omega
      have hk0 : (0 : Int) ≤ (k : Int) := by omega
      by_cases d1 : (E[k].toNat : Int) < 48
      · go_wp2
        go_ret
        exact ⟨Ans.no (fun h => by have := (h k hlt).1; omega), rfl⟩
      · by_cases d2 : (57 : Int) < (E[k].toNat : Int)
        · go_wp2
          go_ret
          exact ⟨Ans.no (fun h => by have := (h k hlt).2; omega), rfl⟩
        · have hd' : Hid (∀ i (h : i < E.size), i < k + 1 → isDg E[i]) := fun i h hi => by
            by_cases e : i = k
            · subst e; exact ⟨by omega, by omega⟩
            · exact hd.out i h (by omega)
          go_wp2
          go_roundw
          case rel => exact ⟨k + 1, by omega, by go_num, hd', by first | trivial | rfl⟩
          case measure => simp [intOf]; omega
    · obtain rfl : k = E.size := by omega
      go_wp2
      go_ret
      exact ⟨Ans.yes (fun i h => hd.out i h h), rfl⟩
end Go.Proofs.Ytfobiknbjijphaa
