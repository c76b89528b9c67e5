/-
  Contract of the program's Can, at every text.
  Contracts of a strings.Builder's WriteString and WriteByte, laid at this dump by hand.
-/
import Derived.Test.YtpjgdpfpgpaenaaDoorGad
import Derived.Shelf.Strings.BuilderK
import Derived.Test.YtpjgdpfpgpaenaaDoorProg
namespace Go.Proofs.YtpjgdpfpgpaenaaDoor
open Go.RowKit
set_option linter.unusedVariables false

theorem isEmpty_of (E : ByteArray) (h : ¬ 0 < E.size) : E.toList.isEmpty = true := by
  have := bytes_len E
  rw [Lib.toList_data, List.isEmpty_iff]
  exact List.length_eq_zero_iff.1 (by omega)
theorem notEmpty_of (E : ByteArray) (h : 0 < E.size) : E.toList.isEmpty = false := by
  rw [Lib.toList_data, List.isEmpty_eq_false_iff]
  intro e
  have := bytes_len E
  rw [e] at this
  simp at this
  omega

set_option maxRecDepth 100000 in
theorem nCan_no (s E : ByteArray) (b : Bool) (w : World) (hc : Cut s E b) (h : ¬ 0 < E.size ∨ (0 < E.size ∧ 200 < E.size) ∨ (∃ h : 0 < E.size, E.size ≤ 200 ∧ E[0] = 48 ∧ (b = true ∨ (b = false ∧ 1 < E.size)))) :
    Calls Tryd.prog 52 #[.string s] w fun e w' => e = .returned (.bool false) ∧ w' = w := by
  have HC : Hid (Cut s E b) := hc
  clear hc
  rcases h with h | ⟨h0, h⟩ | ⟨h0, h1, h2, h3⟩
  · have g := isEmpty_of E h
    clear h
    go_enter Tryd.func52, Tryd.ntmps52
    go_wp2_with (go_at_call 55; refine (HC.out _).mono ?_; rintro e w1 ⟨rfl, hw⟩; obtain rfl : w = w1 := hw.symm)
    go_wp2
    go_ret
    exact ⟨rfl, rfl⟩
  · have g := notEmpty_of E h0
    have g2 : (200 : Int) < (E.size : Int) := by omega
    clear h
    go_enter Tryd.func52, Tryd.ntmps52
    go_wp2_with (go_at_call 55; refine (HC.out _).mono ?_; rintro e w1 ⟨rfl, hw⟩; obtain rfl : w = w1 := hw.symm)
    go_wp2
    go_ret
    exact ⟨rfl, rfl⟩
  · have g := notEmpty_of E h0
    have g2 : ¬ (200 : Int) < (E.size : Int) := by omega
    have g3 : ((E[0].toNat : Int) == 48) = true := (is48 _).2 h2
    clear h2
    rcases h3 with rfl | ⟨rfl, h4⟩
    · go_enter Tryd.func52, Tryd.ntmps52
      go_wp2_with (go_at_call 55; refine (HC.out _).mono ?_; rintro e w1 ⟨rfl, hw⟩; obtain rfl : w = w1 := hw.symm)
      go_wp2
      go_ret
      exact ⟨rfl, rfl⟩
    · have g4 : (1 : Int) < (E.size : Int) := by omega
      clear h4
      go_enter Tryd.func52, Tryd.ntmps52
      go_wp2_with (go_at_call 55; refine (HC.out _).mono ?_; rintro e w1 ⟨rfl, hw⟩; obtain rfl : w = w1 := hw.symm)
      go_wp2
      go_ret
      exact ⟨rfl, rfl⟩

theorem nCan (s : ByteArray) (w : World) : Calls Tryd.prog 52 #[.string s] w fun e w' => Ans e (canP s.data.toList) ∧ w' = w := by
  have no : ∀ {e : Ending} {w' : World}, ¬ canP s.data.toList → e = .returned (.bool false) ∧ w' = w → Ans e (canP s.data.toList) ∧ w' = w := by
    rintro e w' h ⟨rfl, rfl⟩
    exact ⟨Ans.no h, rfl⟩
  by_cases h0 : 0 < s.size
  · by_cases h45 : s[0] = 45
    · have hc : Cut s (s.extract 1 s.size) true := fun w => cut_yes s w h0 h45
      have hp := canP_neg s h0 h45
      generalize s.extract 1 s.size = E at *
      by_cases h1 : 0 < E.size
      · by_cases h2 : E.size ≤ 200
        · by_cases h3 : E[0] = 48
          · refine (nCan_no s E true w hc (.inr (.inr ⟨h1, h2, h3, .inl rfl⟩))).mono fun e w' => no ?_
            rw [hp]
            rintro ⟨_, h⟩
            rw [bytes_head E h1, h3] at h
            exact h rfl
          · refine (nCan_loop s E true w hc h1 h2 (.inl (Bool.eq_false_iff.2 (fun e => h3 ((is48 _).1 e))))).mono ?_
            rintro e w' ⟨⟨b, rfl, hb⟩, rfl⟩
            refine ⟨⟨b, rfl, ?_⟩, rfl⟩
            rw [hb, hp, ← digs_of E h1 h2 (.inl h3), bytes_head E h1]
            simp [h3]
        · refine (nCan_no s E true w hc (.inr (.inl ⟨h1, by omega⟩))).mono fun e w' => no ?_
          rw [hp]
          rintro ⟨h, _⟩
          have := h.2.1
          rw [bytes_len] at this
          exact h2 this
      · refine (nCan_no s E true w hc (.inl h1)).mono fun e w' => no ?_
        rw [hp]
        rintro ⟨h, _⟩
        exact h.1 (List.length_eq_zero_iff.1 (by rw [bytes_len]; omega))
    · have hc : Cut s s false := fun w => cut_no s w (fun _ => h45)
      have hp := canP_pos s h0 h45
      by_cases h2 : s.size ≤ 200
      · by_cases h3 : s[0] ≠ 48 ∨ s.size = 1
        · refine (nCan_loop s s false w hc h0 h2 (h3.imp (fun h => Bool.eq_false_iff.2 (fun e => h ((is48 _).1 e))) (fun h => ⟨rfl, h⟩))).mono ?_
          rintro e w' ⟨⟨b, rfl, hb⟩, rfl⟩
          exact ⟨⟨b, rfl, by rw [hb, hp, ← digs_of s h0 h2 h3]⟩, rfl⟩
        · have h4 : s[0] = 48 := by
            by_cases h : s[0] = 48
            · exact h
            · exact absurd (.inl h) h3
          have h5 : s.size ≠ 1 := fun e => h3 (.inr e)
          refine (nCan_no s s false w hc (.inr (.inr ⟨h0, h2, h4, .inr ⟨rfl, by omega⟩⟩))).mono fun e w' => no ?_
          rw [hp]
          exact fun h => h5 (by
            rw [← bytes_len]
            exact h.2.2.2 (by rw [bytes_head s h0, h4]))
      · refine (nCan_no s s false w hc (.inr (.inl ⟨h0, by omega⟩))).mono fun e w' => no ?_
        rw [hp]
        intro h
        have := h.2.1
        rw [bytes_len] at this
        exact h2 this
  · have hc : Cut s s false := fun w => cut_no s w (fun h => absurd h h0)
    refine (nCan_no s s false w hc (.inl h0)).mono fun e w' => no ?_
    have e : s.data.toList = [] := List.length_eq_zero_iff.1 (by rw [bytes_len]; omega)
    rw [e]
    rintro (h | ⟨r, e, _⟩)
    · exact h.1 rfl
    · cases e
end Go.Proofs.YtpjgdpfpgpaenaaDoor

namespace Go.Proofs
open Go.Shelf
def Tryd.laysW_ren : Go.Shelf.Ren := ⟨fun | 166 => 42 | 167 => 47 | 240 => 48 | 276 => 51 | n => n, fun | 0 => 0 | 3 => 3 | 4 => 4 | 5 => 5 | 9 => 9 | 20 => 20 | 37 => 27 | 72 => 58 | 75 => 76 | 80 => 60 | 164 => 83 | 70 => 56 | n => n, fun | n => n⟩
theorem Tryd.laysW166 : Go.Proofs.Lays.n166 Tryd.prog Tryd.laysW_ren := {
  mixed := by kernel_rfl
  f166 := Tryd.func42.trans (congrArg some (by kernel_rfl))
  f240 := Tryd.func48.trans (congrArg some (by kernel_rfl))
  f276 := Tryd.func51.trans (congrArg some (by kernel_rfl))
  t0 := Tryd.underlying0
  a0 := Tryd.isAgg0
  z0 := Tryd.sizeOf0
  v0 := Tryd.zeroValue0
  t3 := Tryd.underlying3
  a3 := Tryd.isAgg3
  z3 := Tryd.sizeOf3
  v3 := Tryd.zeroValue3
  t4 := Tryd.underlying4
  a4 := Tryd.isAgg4
  z4 := Tryd.sizeOf4
  v4 := Tryd.zeroValue4
  t9 := Tryd.underlying9
  a9 := Tryd.isAgg9
  z9 := Tryd.sizeOf9
  v9 := Tryd.zeroValue9
  t20 := Tryd.underlying20
  a20 := Tryd.isAgg20
  z20 := Tryd.sizeOf20
  v20 := Tryd.zeroValue20
  t37 := Tryd.underlying27
  a37 := Tryd.isAgg27
  z37 := Tryd.sizeOf27
  v37 := Tryd.zeroValue27
  t70 := Tryd.underlying56
  a70 := Tryd.isAgg56
  z70 := Tryd.sizeOf56
  v70 := Tryd.zeroValue56
  t72 := Tryd.underlying58
  a72 := Tryd.isAgg58
  z72 := Tryd.sizeOf58
  v72 := Tryd.zeroValue58
  t75 := Tryd.underlying76
  a75 := Tryd.isAgg76
  z75 := Tryd.sizeOf76
  v75 := Tryd.zeroValue76
  t164 := Tryd.underlying83
  a164 := Tryd.isAgg83
  z164 := Tryd.sizeOf83
  v164 := Tryd.zeroValue83 }
theorem Tryd.laysW167 : Go.Proofs.Lays.n167 Tryd.prog Tryd.laysW_ren := {
  mixed := by kernel_rfl
  f167 := Tryd.func47.trans (congrArg some (by kernel_rfl))
  f240 := Tryd.func48.trans (congrArg some (by kernel_rfl))
  f276 := Tryd.func51.trans (congrArg some (by kernel_rfl))
  t0 := Tryd.underlying0
  a0 := Tryd.isAgg0
  z0 := Tryd.sizeOf0
  v0 := Tryd.zeroValue0
  t4 := Tryd.underlying4
  a4 := Tryd.isAgg4
  z4 := Tryd.sizeOf4
  v4 := Tryd.zeroValue4
  t5 := Tryd.underlying5
  a5 := Tryd.isAgg5
  z5 := Tryd.sizeOf5
  v5 := Tryd.zeroValue5
  t9 := Tryd.underlying9
  a9 := Tryd.isAgg9
  z9 := Tryd.sizeOf9
  v9 := Tryd.zeroValue9
  t20 := Tryd.underlying20
  a20 := Tryd.isAgg20
  z20 := Tryd.sizeOf20
  v20 := Tryd.zeroValue20
  t37 := Tryd.underlying27
  a37 := Tryd.isAgg27
  z37 := Tryd.sizeOf27
  v37 := Tryd.zeroValue27
  t70 := Tryd.underlying56
  a70 := Tryd.isAgg56
  z70 := Tryd.sizeOf56
  v70 := Tryd.zeroValue56
  t72 := Tryd.underlying58
  a72 := Tryd.isAgg58
  z72 := Tryd.sizeOf58
  v72 := Tryd.zeroValue58
  t75 := Tryd.underlying76
  a75 := Tryd.isAgg76
  z75 := Tryd.sizeOf76
  v75 := Tryd.zeroValue76
  t164 := Tryd.underlying83
  a164 := Tryd.isAgg83
  z164 := Tryd.sizeOf83
  v164 := Tryd.zeroValue83 }
theorem Tryd.Builder_ExtraW : Builder.Extra Tryd.prog Tryd.laysW_ren := {
  sizeBuilder := by kernel_rfl
  liesBuilder := by kernel_rfl
  t5 := Tryd.underlying5
  a5 := Tryd.isAgg5
  z5 := Tryd.sizeOf5
  v5 := Tryd.zeroValue5
  infoByte := by kernel_rfl
  cellsByte := by kernel_rfl
  sizeByte := by kernel_rfl
  neB5 := by decide }
open Go.RowKit in
theorem Tryd.Builder_WriteString_k (B b : Nat) (bs : List Value) (s : ByteArray) (w : World) (h : Lib.IsBuilderF 58 5 B b bs w) (hlen : bs.length + s.size ≤ 140737488355328) (hBw : B ≤ w.heap.size) :
    Calls Tryd.prog 42 #[.pointer (some ⟨b, 0, none⟩), .string s] w fun e w' => e = .returned (.tuple #[.int .i64 s.size, .nilIface]) ∧ Lib.BuilderAtF 58 5 B b (.pointer (some ⟨b, 0, none⟩)) (bs ++ Lib.strCells s) w' ∧ Below B w w' ∧ Lib.OthersKept 5 (some b) w w' :=
  Any.Builder_WriteString_k (ρ := Tryd.laysW_ren) Tryd.laysW166 Tryd.Builder_ExtraW B b bs s w h hlen hBw
open Go.RowKit in
theorem Tryd.Builder_WriteByte_k (B b : Nat) (bs : List Value) (c : Int) (w : World) (h : Lib.IsBuilderF 58 5 B b bs w) (hlen : bs.length + 1 ≤ 140737488355328) (hBw : B ≤ w.heap.size) :
    Calls Tryd.prog 47 #[.pointer (some ⟨b, 0, none⟩), .int .u8 c] w fun e w' => e = .returned .nilIface ∧ Lib.BuilderAtF 58 5 B b (.pointer (some ⟨b, 0, none⟩)) (bs ++ [Value.int .u8 c]) w' ∧ Below B w w' ∧ Lib.OthersKept 5 (some b) w w' :=
  Any.Builder_WriteByte_k (ρ := Tryd.laysW_ren) Tryd.laysW167 Tryd.Builder_ExtraW B b bs c w h hlen hBw
end Go.Proofs
