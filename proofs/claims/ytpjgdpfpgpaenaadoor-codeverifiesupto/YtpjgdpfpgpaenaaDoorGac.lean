/-
  Contracts of the document's Can and of the program's: which texts are numbers. Condition: none but that a text has at most 2^48 bytes.
  The library's contracts that these texts lean on, laid at this dump: Builder_String_any_k, strings_CutPrefix, strings_IndexByte.
-/
import Derived.Test.YtpjgdpfpgpaenaaDoorProg
import Derived.Test.YtpjgdpfpgpaenaaDoorGab
import Derived.WalkLawsBesides
import Derived.WalkSpells
import Derived.Lib.IndexBytes
import Derived.Shelf.Strings.Builder1
import Derived.Shelf.Small.Strs
import Derived.Shelf.Small.Wraps
import Derived.Shelf.Strings.BuilderF
import Derived.Shelf.Strings.BuilderK
import Derived.Shelf.Strings.Search1
import Derived.Shelf.Strings.Prefix
namespace Go.Proofs.YtpjgdpfpgpaenaaDoor
open Go.RowKit
set_option linter.unusedVariables false
/-- A call answers whether something holds. -/
def Ans (e : Ending) (p : Prop) : Prop := ∃ b : Bool, e = .returned (.bool b) ∧ (b = true ↔ p)
theorem Ans.yes {p : Prop} (h : p) : Ans (.returned (.bool true)) p := ⟨_, rfl, fun _ => h, fun _ => rfl⟩
theorem Ans.no {p : Prop} (h : ¬ p) : Ans (.returned (.bool false)) p := ⟨_, rfl, fun e => by simp at e, fun k => absurd k h⟩
set_option maxRecDepth 100000 in
theorem rCan_pos (s : ByteArray) (w : World) (h0 : 0 < s.size) (hl : s.size ≤ 200) (hm : ((s[0].toNat : Int) == 45) = false) (hz : ((s[0].toNat : Int) == 48) = false ∨ s.size = 1) :
    Calls Tryd.prog 46 #[.string s] w fun e w' => Ans e (∀ i (h : i < s.size), isDg s[i]) ∧ w' = w := by
  have hl1 : ¬ (s.size : Int) < 1 := by omega
  have hl2 : ¬ (200 : Int) < (s.size : Int) := by omega
  have hl3 : (0 : Int) < (s.size : Int) := by omega
  by_cases hz0 : ((s[0].toNat : Int) == 48) = true
  · have hz2 : ¬ (1 : Int) < (s.size : Int) := by
      rcases hz with hz | hz
      · rw [hz] at hz0; cases hz0
      · omega
    clear hz
    go_enter Tryd.func46, Tryd.ntmps46
    go_wp2
    go_loopw [3] (fun i wr => ∃ k : Nat, k ≤ s.size ∧ i = .int .i64 (k : Int) ∧ Hid (∀ i (h : i < s.size), i < k → isDg s[i]) ∧ wr = w) (fun i _ => s.size - (intOf i).toNat)
    case atStart => exact ⟨0, Nat.zero_le _, rfl, fun i _ h => by omega, rfl⟩
    case round =>
      obtain ⟨k, hk, rfl, hd, rfl⟩ := hrel
      by_cases hlt : k < s.size
      · have hlt' : (k : Int) < (s.size : Int) := by omega
        have hk0 : (0 : Int) ≤ (k : Int) := by omega
        by_cases d1 : (s[k].toNat : Int) < 48
        · go_wp2
          go_ret
          exact ⟨Ans.no (fun h => by have := (h k hlt).1; omega), rfl⟩
        · by_cases d2 : (57 : Int) < (s[k].toNat : Int)
          · go_wp2
            go_ret
            exact ⟨Ans.no (fun h => by have := (h k hlt).2; omega), rfl⟩
          · have hd' : Hid (∀ i (h : i < s.size), i < k + 1 → isDg s[i]) := fun i h hi => by
              by_cases e : i = k
              · subst e; exact ⟨by omega, by omega⟩
              · exact hd.out i h (by omega)
            go_wp2
            go_roundw
            case rel => exact ⟨k + 1, by omega, by go_num, hd', by first | trivial | rfl⟩
            case measure => simp [intOf]; omega
      · obtain rfl : k = s.size := by omega
        go_wp2
        go_ret
        exact ⟨Ans.yes (fun i h => hd.out i h h), rfl⟩
  · have hz0 : ((s[0].toNat : Int) == 48) = false := Bool.eq_false_iff.2 hz0
    clear hz
    go_enter Tryd.func46, Tryd.ntmps46
    go_wp2
    go_loopw [3] (fun i wr => ∃ k : Nat, k ≤ s.size ∧ i = .int .i64 (k : Int) ∧ Hid (∀ i (h : i < s.size), i < k → isDg s[i]) ∧ wr = w) (fun i _ => s.size - (intOf i).toNat)
    case atStart => exact ⟨0, Nat.zero_le _, rfl, fun i _ h => by omega, rfl⟩
    case round =>
      obtain ⟨k, hk, rfl, hd, rfl⟩ := hrel
      by_cases hlt : k < s.size
      · have hlt' : (k : Int) < (s.size : Int) := by omega
        have hk0 : (0 : Int) ≤ (k : Int) := by omega
        by_cases d1 : (s[k].toNat : Int) < 48
        · go_wp2
          go_ret
          exact ⟨Ans.no (fun h => by have := (h k hlt).1; omega), rfl⟩
        · by_cases d2 : (57 : Int) < (s[k].toNat : Int)
          · go_wp2
            go_ret
            exact ⟨Ans.no (fun h => by have := (h k hlt).2; omega), rfl⟩
          · have hd' : Hid (∀ i (h : i < s.size), i < k + 1 → isDg s[i]) := fun i h hi => by
              by_cases e : i = k
              · subst e; exact ⟨by omega, by omega⟩
              · exact hd.out i h (by omega)
            go_wp2
            go_roundw
            case rel => exact ⟨k + 1, by omega, by go_num, hd', by first | trivial | rfl⟩
            case measure => simp [intOf]; omega
      · obtain rfl : k = s.size := by omega
        go_wp2
        go_ret
        exact ⟨Ans.yes (fun i h => hd.out i h h), rfl⟩

set_option maxRecDepth 100000 in
theorem rCan_neg (s : ByteArray) (w : World) (h0 : 0 < s.size) (hm : ((s[0].toNat : Int) == 45) = true) (E : ByteArray) (hE : s.extract 1 s.size = E) (h1 : 0 < E.size) (hl : E.size ≤ 200) (hz : ((E[0].toNat : Int) == 48) = false) :
    Calls Tryd.prog 46 #[.string s] w fun e w' => Ans e (∀ i (h : i < E.size), isDg E[i]) ∧ w' = w := by
  have hl1 : ¬ (E.size : Int) < 1 := by omega
  have hl2 : ¬ (200 : Int) < (E.size : Int) := by omega
  have hl3 : (0 : Int) < (s.size : Int) := by omega
  have hl4 : (E.toList == [48]) = false := by
    rw [beq_eq_false_iff_ne]
    intro e
    rw [Lib.toList_data] at e
    have e0 : E.data.toList[0]? = some E[0] := by rw [List.getElem?_eq_getElem (by simpa using h1)]; rfl
    rw [e] at e0
    have e1 : E[0] = 48 := by simpa using e0.symm
    rw [e1] at hz
    simp at hz
  go_enter Tryd.func46, Tryd.ntmps46
  go_wp2
  go_loopw [3] (fun i wr => ∃ k : Nat, k ≤ E.size ∧ i = .int .i64 (k : Int) ∧ Hid (∀ i (h : i < E.size), i < k → isDg E[i]) ∧ wr = w) (fun i _ => E.size - (intOf i).toNat)
  case atStart => exact ⟨0, Nat.zero_le _, rfl, fun i _ h => by omega, rfl⟩
  case round =>
    obtain ⟨k, hk, rfl, hd, rfl⟩ := hrel
    by_cases hlt : k < E.size
    · have hlt' : (k : Int) < (E.size : Int) := by omega
      have hk0 : (0 : Int) ≤ (k : Int) := by omega
      by_cases d1 : (E[k].toNat : Int) < 48
      · go_wp2
        go_ret
        exact ⟨Ans.no (fun h => by have := (h k hlt).1; omega), rfl⟩
      · by_cases d2 : (57 : Int) < (E[k].toNat : Int)
        · go_wp2
          go_ret
          exact ⟨Ans.no (fun h => by have := (h k hlt).2; omega), rfl⟩
        · have hd' : Hid (∀ i (h : i < E.size), i < k + 1 → isDg E[i]) := fun i h hi => by
            by_cases e : i = k
            · subst e; exact ⟨by omega, by omega⟩
            · exact hd.out i h (by omega)
          go_wp2
          go_roundw
          case rel => exact ⟨k + 1, by omega, by go_num, hd', by first | trivial | rfl⟩
          case measure => simp [intOf]; omega
    · obtain rfl : k = E.size := by omega
      go_wp2
      go_ret
      exact ⟨Ans.yes (fun i h => hd.out i h h), rfl⟩
end Go.Proofs.YtpjgdpfpgpaenaaDoor

namespace Go.Proofs
open Go.Shelf
def Tryd.lays169_ren : Go.Shelf.Ren := ⟨fun | 169 => 31 | n => n, fun | 70 => 56 | 9 => 9 | 0 => 0 | 72 => 58 | 37 => 27 | 127 => 79 | 3 => 3 | 5 => 5 | n => n, fun | n => n⟩
theorem Tryd.lays169 : Go.Proofs.Lays.n169 Tryd.prog Tryd.lays169_ren := {
  mixed := by kernel_rfl
  f169 := Tryd.func31.trans (congrArg some (by kernel_rfl))
  t0 := Tryd.underlying0
  a0 := Tryd.isAgg0
  z0 := Tryd.sizeOf0
  v0 := Tryd.zeroValue0
  t3 := Tryd.underlying3
  a3 := Tryd.isAgg3
  z3 := Tryd.sizeOf3
  v3 := Tryd.zeroValue3
  t9 := Tryd.underlying9
  a9 := Tryd.isAgg9
  z9 := Tryd.sizeOf9
  v9 := Tryd.zeroValue9
  t37 := Tryd.underlying27
  a37 := Tryd.isAgg27
  z37 := Tryd.sizeOf27
  v37 := Tryd.zeroValue27
  t70 := Tryd.underlying56
  a70 := Tryd.isAgg56
  z70 := Tryd.sizeOf56
  v70 := Tryd.zeroValue56
  t72 := Tryd.underlying58
  a72 := Tryd.isAgg58
  z72 := Tryd.sizeOf58
  v72 := Tryd.zeroValue58
  t127 := Tryd.underlying79
  a127 := Tryd.isAgg79
  z127 := Tryd.sizeOf79
  v127 := Tryd.zeroValue79 }
theorem Tryd.Builder_Extra_169 : Builder.Extra Tryd.prog Tryd.lays169_ren := {
  sizeBuilder := by kernel_rfl
  liesBuilder := by kernel_rfl
  t5 := Tryd.underlying5
  a5 := Tryd.isAgg5
  z5 := Tryd.sizeOf5
  v5 := Tryd.zeroValue5
  infoByte := by kernel_rfl
  cellsByte := by kernel_rfl
  sizeByte := by kernel_rfl
  neB5 := by decide }
def Tryd.lays137_ren : Go.Shelf.Ren := ⟨fun | 137 => 61 | 217 => 63 | 266 => 64 | n => n, fun | 9 => 9 | 5 => 5 | 3 => 3 | n => n, fun | n => n⟩
theorem Tryd.lays137 : Go.Proofs.Lays.n137 Tryd.prog Tryd.lays137_ren := {
  mixed := by kernel_rfl
  f137 := Tryd.func61.trans (congrArg some (by kernel_rfl))
  f217 := Tryd.func63.trans (congrArg some (by kernel_rfl))
  f266 := Tryd.func64.trans (congrArg some (by kernel_rfl))
  t3 := Tryd.underlying3
  a3 := Tryd.isAgg3
  z3 := Tryd.sizeOf3
  v3 := Tryd.zeroValue3
  t5 := Tryd.underlying5
  a5 := Tryd.isAgg5
  z5 := Tryd.sizeOf5
  v5 := Tryd.zeroValue5
  t9 := Tryd.underlying9
  a9 := Tryd.isAgg9
  z9 := Tryd.sizeOf9
  v9 := Tryd.zeroValue9 }
open Go.RowKit in
theorem Tryd.strings_IndexByte (s : ByteArray) (c : Int) (w : World) :
    Calls Tryd.prog 61 #[.string s, .int .u8 c] w fun e w' => e = .returned (.int .i64 (Lib.indexByte s.data.toList c.toNat.toUInt8)) ∧ w' = w := Any.strings_IndexByte Tryd.lays137 s c w
def Tryd.lays103_ren : Go.Shelf.Ren := ⟨fun | 103 => 55 | 210 => 58 | 206 => 62 | n => n, fun | 9 => 9 | 4 => 4 | 24 => 85 | 3 => 3 | n => n, fun | n => n⟩
theorem Tryd.lays103 : Go.Proofs.Lays.n103 Tryd.prog Tryd.lays103_ren := {
  mixed := by kernel_rfl
  f103 := Tryd.func55.trans (congrArg some (by kernel_rfl))
  f206 := Tryd.func62.trans (congrArg some (by kernel_rfl))
  f210 := Tryd.func58.trans (congrArg some (by kernel_rfl))
  t3 := Tryd.underlying3
  a3 := Tryd.isAgg3
  z3 := Tryd.sizeOf3
  v3 := Tryd.zeroValue3
  t4 := Tryd.underlying4
  a4 := Tryd.isAgg4
  z4 := Tryd.sizeOf4
  v4 := Tryd.zeroValue4
  t9 := Tryd.underlying9
  a9 := Tryd.isAgg9
  z9 := Tryd.sizeOf9
  v9 := Tryd.zeroValue9
  t24 := Tryd.underlying85
  a24 := Tryd.isAgg85
  z24 := Tryd.sizeOf85
  v24 := Tryd.zeroValue85 }
open Go.RowKit in
theorem Tryd.strings_CutPrefix (s p : ByteArray) (w : World) :
    Calls Tryd.prog 55 #[.string s, .string p] w fun e w' => e = .returned (.tuple #[.string ⟨(Lib.trimPrefix s.data.toList p.data.toList).toArray⟩, .bool (Lib.hasPrefix s.data.toList p.data.toList)]) ∧ w' = w := Any.strings_CutPrefix Tryd.lays103 s p w
open Go.RowKit in
theorem Tryd.Builder_String_any_k (B b : Nat) (l : List UInt8) (w : World) (h : Lib.IsBuilderF 58 5 B b (Lib.byteCells l) w) (hBw : B ≤ w.heap.size) :
    Calls Tryd.prog 31 #[.pointer (some ⟨b, 0, none⟩)] w fun e w' => e = .returned (.string ⟨l.toArray⟩) ∧ (Lib.IsBuilderF 58 5 B b (Lib.byteCells l) w' ∧ Below B w w' ∧ Lib.OthersKept 5 (some b) w w') := Any.Builder_String_any_k Tryd.lays169 Tryd.Builder_Extra_169 B b l w h hBw
end Go.Proofs
