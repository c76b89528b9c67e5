/-
  Contracts of the document's Can and of the program's: which texts are numbers, at every text.
  Contract of the program's Can: which texts are numbers, at every text.
-/
import Derived.Test.YtpjgdpfpgpaenaaDoorGac
namespace Go.Proofs.YtpjgdpfpgpaenaaDoor
open Go.RowKit
set_option linter.unusedVariables false

theorem bytes_len (s : ByteArray) : s.data.toList.length = s.size := by rw [Array.length_toList]; rfl
theorem bytes_get (s : ByteArray) (i : Nat) (h : i < s.size) : s.data.toList[i]? = some s[i] := by
  rw [List.getElem?_eq_getElem (by rw [bytes_len]; exact h)]; rfl
theorem bytes_all (s : ByteArray) : (∀ i (h : i < s.size), isDg s[i]) ↔ ∀ c ∈ s.data.toList, isDg c := by
  constructor
  · intro h c hc
    obtain ⟨i, hi, e⟩ := List.getElem_of_mem hc
    have := h i (by rw [← bytes_len]; exact hi)
    have e2 := bytes_get s i (by rw [← bytes_len]; exact hi)
    rw [List.getElem?_eq_getElem hi] at e2
    injection e2 with e2
    rw [← e, e2]; exact this
  · intro h i hi
    exact h _ (List.mem_of_getElem? (bytes_get s i hi))
theorem bytes_head (s : ByteArray) (h : 0 < s.size) : s.data.toList.head? = some s[0] := by
  rw [List.head?_eq_getElem?]; exact bytes_get s 0 h
theorem bytes_tail (s : ByteArray) (h : 0 < s.size) : s.data.toList = s[0] :: (s.extract 1 s.size).data.toList := by
  rw [Lib.extract_to_end]
  have := bytes_head s h
  generalize s.data.toList = l at *
  cases l with
  | nil => simp at this
  | cons a b => simp at this ⊢; exact this
theorem u8_beq (c : UInt8) (k : Nat) (hk : k < 256) : ((c.toNat : Int) == (k : Int)) = true ↔ c = UInt8.ofNat k := by
  rw [beq_iff_eq]
  constructor
  · intro h
    apply UInt8.toNat_inj.1
    rw [UInt8.toNat_ofNat']
    omega
  · intro h
    rw [h, UInt8.toNat_ofNat']
    omega
theorem is45 (c : UInt8) : ((c.toNat : Int) == 45) = true ↔ c = 45 := u8_beq c 45 (by decide)
theorem is48 (c : UInt8) : ((c.toNat : Int) == 48) = true ↔ c = 48 := u8_beq c 48 (by decide)

/-- A text with a - ahead. -/
theorem canP_neg (s : ByteArray) (h : 0 < s.size) (h45 : s[0] = 45) : canP s.data.toList ↔ digs (s.extract 1 s.size).data.toList ∧ (s.extract 1 s.size).data.toList.head? ≠ some 48 := by
  rw [bytes_tail s h, h45]
  constructor
  · rintro (h | ⟨r, e, h1, h2⟩)
    · exact absurd (h.2.2.1 45 (by simp)).1 (by decide)
    · injection e with _ e
      subst e
      exact ⟨h1, h2⟩
  · rintro ⟨h1, h2⟩
    exact .inr ⟨_, rfl, h1, h2⟩
theorem canP_pos (s : ByteArray) (h : 0 < s.size) (h45 : s[0] ≠ 45) : canP s.data.toList ↔ digs s.data.toList := by
  constructor
  · rintro (h1 | ⟨r, e, h1, h2⟩)
    · exact h1
    · rw [bytes_tail s h] at e
      injection e with e _
      exact absurd e h45
  · exact .inl
theorem digs_of (E : ByteArray) (h1 : 0 < E.size) (h2 : E.size ≤ 200) (h3 : E[0] ≠ 48 ∨ E.size = 1) : digs E.data.toList ↔ ∀ i (h : i < E.size), isDg E[i] := by
  rw [bytes_all]
  constructor
  · exact fun h => h.2.2.1
  · intro h
    refine ⟨fun e => ?_, by rw [bytes_len]; exact h2, h, fun e => ?_⟩
    · have := bytes_len E
      rw [e] at this
      simp at this
      omega
    · rw [bytes_head E h1] at e
      rw [bytes_len]
      rcases h3 with h3 | h3
      · injection e with e; exact absurd e h3
      · exact h3

set_option maxRecDepth 100000 in
theorem rCan (s : ByteArray) (w : World) (hs : s.size ≤ 281474976710656) : Calls Tryd.prog 46 #[.string s] w fun e w' => Ans e (canP s.data.toList) ∧ w' = w := by
  by_cases h0 : 0 < s.size
  · by_cases h45 : s[0] = 45
    · have hm : ((s[0].toNat : Int) == 45) = true := (is45 _).2 h45
      rw [canP_neg s h0 h45]
      have hl3 : (0 : Int) < (s.size : Int) := by omega
      have hEs : (s.extract 1 s.size).size ≤ s.size := by simp [ByteArray.size_extract]
      generalize hE : s.extract 1 s.size = E at *
      by_cases e48 : (E.toList == [48]) = true
      · have hn : ¬ (digs E.data.toList ∧ E.data.toList.head? ≠ some 48) := by
          rintro ⟨_, h⟩
          rw [← Lib.toList_data, beq_iff_eq.1 e48] at h
          exact h rfl
        have HN : Hid (¬ (digs E.data.toList ∧ E.data.toList.head? ≠ some 48)) := hn
        clear hn
        go_enter Tryd.func46, Tryd.ntmps46
        go_wp2
        go_ret
        exact ⟨Ans.no HN.out, rfl⟩
      · have e48 : (E.toList == [48]) = false := Bool.eq_false_iff.2 e48
        by_cases h1 : 0 < E.size
        · by_cases h2 : E.size ≤ 200
          · by_cases h3 : E[0] = 48
            · have hn : ¬ (digs E.data.toList ∧ E.data.toList.head? ≠ some 48) := by
                rintro ⟨_, h⟩
                rw [bytes_head E h1, h3] at h
                exact h rfl
              have h4 : 1 < E.size := by
                by_cases h5 : E.size = 1
                · exfalso
                  have e2 := bytes_get E 0 h1
                  have e3 := bytes_len E
                  rw [Lib.toList_data] at e48
                  generalize E.data.toList = l at *
                  match l, e3, e2 with
                  | [a], _, e2 => simp at e2; rw [e2, h3] at e48; simp at e48
                  | [], e3, _ => simp at e3; omega
                  | a :: b :: c, e3, _ => simp at e3; omega
                · omega
              have HN : Hid (¬ (digs E.data.toList ∧ E.data.toList.head? ≠ some 48)) := hn
              have g1 : ¬ (E.size : Int) < 1 := by omega
              have g2 : ¬ (200 : Int) < (E.size : Int) := by omega
              have g3 : ((E[0].toNat : Int) == 48) = true := (is48 _).2 h3
              have g4 : (1 : Int) < (E.size : Int) := by omega
              clear hn h3 h4 h45
              go_enter Tryd.func46, Tryd.ntmps46
              go_wp2
              go_ret
              exact ⟨Ans.no HN.out, rfl⟩
            · have hz : ((E[0].toNat : Int) == 48) = false := Bool.eq_false_iff.2 (fun e => h3 ((is48 _).1 e))
              refine (rCan_neg s w h0 hm E hE h1 h2 hz).mono ?_
              rintro e w' ⟨⟨b, rfl, hb⟩, rfl⟩
              refine ⟨⟨b, rfl, ?_⟩, rfl⟩
              rw [hb, ← digs_of E h1 h2 (.inl h3), bytes_head E h1]
              simp [h3]
          · have HN : Hid (¬ (digs E.data.toList ∧ E.data.toList.head? ≠ some 48)) := by
              rintro ⟨h, _⟩
              have := h.2.1
              rw [bytes_len] at this
              exact h2 this
            have g1 : ¬ (E.size : Int) < 1 := by omega
            have g2 : (200 : Int) < (E.size : Int) := by omega
            clear h2 h45
            go_enter Tryd.func46, Tryd.ntmps46
            go_wp2
            go_ret
            exact ⟨Ans.no HN.out, rfl⟩
        · have HN : Hid (¬ (digs E.data.toList ∧ E.data.toList.head? ≠ some 48)) := by
            rintro ⟨h, _⟩
            exact h.1 (List.length_eq_zero_iff.1 (by rw [bytes_len]; omega))
          have g1 : (E.size : Int) < 1 := by omega
          clear h1 h45
          go_enter Tryd.func46, Tryd.ntmps46
          go_wp2
          go_ret
          exact ⟨Ans.no HN.out, rfl⟩
    · have hm : ((s[0].toNat : Int) == 45) = false := Bool.eq_false_iff.2 (fun e => h45 ((is45 _).1 e))
      rw [canP_pos s h0 h45]
      have hl3 : (0 : Int) < (s.size : Int) := by omega
      by_cases h2 : s.size ≤ 200
      · by_cases h3 : s[0] ≠ 48 ∨ s.size = 1
        · refine (rCan_pos s w h0 h2 hm (h3.imp (fun h => Bool.eq_false_iff.2 (fun e => h ((is48 _).1 e))) id)).mono ?_
          rintro e w' ⟨⟨b, rfl, hb⟩, rfl⟩
          exact ⟨⟨b, rfl, by rw [hb, ← digs_of s h0 h2 h3]⟩, rfl⟩
        · have h4 : s[0] = 48 := by
            by_cases h : s[0] = 48
            · exact h
            · exact absurd (.inl h) h3
          have h5 : s.size ≠ 1 := fun e => h3 (.inr e)
          have HN : Hid (¬ digs s.data.toList) := fun h => h5 (by
            rw [← bytes_len]
            exact h.2.2.2 (by rw [bytes_head s h0, h4]))
          have g1 : ¬ (s.size : Int) < 1 := by omega
          have g2 : ¬ (200 : Int) < (s.size : Int) := by omega
          have g3 : ((s[0].toNat : Int) == 48) = true := (is48 _).2 h4
          have g4 : (1 : Int) < (s.size : Int) := by omega
          clear h3 h4 h5 h45
          go_enter Tryd.func46, Tryd.ntmps46
          go_wp2
          go_ret
          exact ⟨Ans.no HN.out, rfl⟩
      · have HN : Hid (¬ digs s.data.toList) := fun h => by
          have := h.2.1
          rw [bytes_len] at this
          exact h2 this
        have g1 : ¬ (s.size : Int) < 1 := by omega
        have g2 : (200 : Int) < (s.size : Int) := by omega
        clear h2 h45
        go_enter Tryd.func46, Tryd.ntmps46
        go_wp2
        go_ret
        exact ⟨Ans.no HN.out, rfl⟩
  · have HN : Hid (¬ canP s.data.toList) := by
      have e : s.data.toList = [] := List.length_eq_zero_iff.1 (by rw [bytes_len]; omega)
      rw [e]
      rintro (h | ⟨r, e, _⟩)
      · exact h.1 rfl
      · cases e
    have g0 : ¬ (0 : Int) < (s.size : Int) := by omega
    have g1 : (s.size : Int) < 1 := by omega
    clear h0
    go_enter Tryd.func46, Tryd.ntmps46
    go_wp2
    go_ret
    exact ⟨Ans.no HN.out, rfl⟩
end Go.Proofs.YtpjgdpfpgpaenaaDoor

namespace Go.Proofs.YtpjgdpfpgpaenaaDoor
open Go.RowKit
set_option linter.unusedVariables false

theorem cut_yes (s : ByteArray) (w : World) (h : 0 < s.size) (h45 : s[0] = 45) :
    Calls Tryd.prog 55 #[.string s, .string ⟨#[45]⟩] w fun e w' => e = .returned (.tuple #[.string (s.extract 1 s.size), .bool true]) ∧ w' = w := by
  refine (Tryd.strings_CutPrefix s ⟨#[45]⟩ w).mono ?_
  rintro e w' ⟨rfl, rfl⟩
  refine ⟨?_, rfl⟩
  have e1 : Lib.hasPrefix s.data.toList [45] = true := by rw [bytes_tail s h, h45]; simp [Lib.hasPrefix, List.isPrefixOf]
  have e2 : Lib.trimPrefix s.data.toList [45] = (s.extract 1 s.size).data.toList := by
    unfold Lib.trimPrefix
    rw [if_pos e1, Lib.extract_to_end]; rfl
  have e3 : (⟨(Lib.trimPrefix s.data.toList [45]).toArray⟩ : ByteArray) = s.extract 1 s.size := by rw [e2]
  show Ending.returned (.tuple #[.string ⟨(Lib.trimPrefix s.data.toList [45]).toArray⟩, .bool (Lib.hasPrefix s.data.toList [45])]) = _
  rw [e1, e3]
theorem cut_no (s : ByteArray) (w : World) (h45 : ∀ h : 0 < s.size, s[0] ≠ 45) :
    Calls Tryd.prog 55 #[.string s, .string ⟨#[45]⟩] w fun e w' => e = .returned (.tuple #[.string s, .bool false]) ∧ w' = w := by
  refine (Tryd.strings_CutPrefix s ⟨#[45]⟩ w).mono ?_
  rintro e w' ⟨rfl, rfl⟩
  refine ⟨?_, rfl⟩
  have e1 : Lib.hasPrefix s.data.toList [45] = false := by
    by_cases h : 0 < s.size
    · rw [bytes_tail s h]; simp [Lib.hasPrefix, List.isPrefixOf]; exact fun e => h45 h e.symm
    · have e : s.data.toList = [] := List.length_eq_zero_iff.1 (by rw [bytes_len]; omega)
      rw [e]; rfl
  have e2 : Lib.trimPrefix s.data.toList [45] = s.data.toList := by
    unfold Lib.trimPrefix
    rw [if_neg (by rw [e1]; decide)]
  have e3 : (⟨(Lib.trimPrefix s.data.toList [45]).toArray⟩ : ByteArray) = s := by rw [e2]
  show Ending.returned (.tuple #[.string ⟨(Lib.trimPrefix s.data.toList [45]).toArray⟩, .bool (Lib.hasPrefix s.data.toList [45])]) = _
  rw [e1, e3]

/-- What CutPrefix of a - answers. -/
def Cut (s E : ByteArray) (b : Bool) : Prop := ∀ w, Calls Tryd.prog 55 #[.string s, .string ⟨#[45]⟩] w fun e w' => e = .returned (.tuple #[.string E, .bool b]) ∧ w' = w

set_option maxRecDepth 100000 in
theorem nCan_loop (s E : ByteArray) (b : Bool) (w : World) (hc : Cut s E b) (h1 : 0 < E.size) (hl : E.size ≤ 200) (hz : ((E[0].toNat : Int) == 48) = false ∨ (b = false ∧ E.size = 1)) :
    Calls Tryd.prog 52 #[.string s] w fun e w' => Ans e (∀ i (h : i < E.size), isDg E[i]) ∧ w' = w := by
  have hl1 : E.toList.isEmpty = false := by
    rw [Lib.toList_data, List.isEmpty_eq_false_iff]
    intro e
    have := bytes_len E
    rw [e] at this
    simp at this
    omega
  have hl2 : ¬ (200 : Int) < (E.size : Int) := by omega
  have HC : Hid (Cut s E b) := hc
  clear hc
  by_cases hz0 : ((E[0].toNat : Int) == 48) = true
  · obtain ⟨rfl, hz1⟩ : b = false ∧ E.size = 1 := by
      rcases hz with hz | hz
      · rw [hz] at hz0; cases hz0
      · exact hz
    have hz2 : ¬ (1 : Int) < (E.size : Int) := by omega
    clear hz hz1
    go_enter Tryd.func52, Tryd.ntmps52
    go_wp2_with (go_at_call 55; refine (HC.out _).mono ?_; rintro e w1 ⟨rfl, hw⟩; obtain rfl : w = w1 := hw.symm)
    go_wp2
    go_loopw [31] (fun i wr => ∃ k : Nat, k ≤ E.size ∧ i = .int .i64 (k : Int) ∧ Hid (∀ i (h : i < E.size), i < k → isDg E[i]) ∧ wr = w) (fun i _ => E.size - (intOf i).toNat)
    case atStart => exact ⟨0, Nat.zero_le _, rfl, fun i _ h => by omega, rfl⟩
    case round =>
      obtain ⟨k, hk, rfl, hd, rfl⟩ := hrel
      by_cases hlt : k < E.size
      · have hlt' : (k : Int) < (E.size : Int) := by omega
        have hk0 : (0 : Int) ≤ (k : Int) := by omega
        by_cases d1 : (E[k].toNat : Int) < 48
        · go_wp2
          go_ret
          exact ⟨Ans.no (fun h => by have := (h k hlt).1; omega), rfl⟩
        · by_cases d2 : (57 : Int) < (E[k].toNat : Int)
          · go_wp2
            go_ret
            exact ⟨Ans.no (fun h => by have := (h k hlt).2; omega), rfl⟩
          · have hd' : Hid (∀ i (h : i < E.size), i < k + 1 → isDg E[i]) := fun i h hi => by
              by_cases e : i = k
              · subst e; exact ⟨by omega, by omega⟩
              · exact hd.out i h (by omega)
            go_wp2
            go_roundw
            case rel => exact ⟨k + 1, by omega, by go_num, hd', by first | trivial | rfl⟩
            case measure => simp [intOf]; omega
      · obtain rfl : k = E.size := by omega
        go_wp2
        go_ret
        exact ⟨Ans.yes (fun i h => hd.out i h h), rfl⟩
  · have hz0 : ((E[0].toNat : Int) == 48) = false := Bool.eq_false_iff.2 hz0
    clear hz
    go_enter Tryd.func52, Tryd.ntmps52
    go_wp2_with (go_at_call 55; refine (HC.out _).mono ?_; rintro e w1 ⟨rfl, hw⟩; obtain rfl : w = w1 := hw.symm)
    go_wp2
    go_loopw [31] (fun i wr => ∃ k : Nat, k ≤ E.size ∧ i = .int .i64 (k : Int) ∧ Hid (∀ i (h : i < E.size), i < k → isDg E[i]) ∧ wr = w) (fun i _ => E.size - (intOf i).toNat)
    case atStart => exact ⟨0, Nat.zero_le _, rfl, fun i _ h => by omega, rfl⟩
    case round =>
      obtain ⟨k, hk, rfl, hd, rfl⟩ := hrel
      by_cases hlt : k < E.size
      · have hlt' : (k : Int) < (E.size : Int) := by omega
        have hk0 : (0 : Int) ≤ (k : Int) := by omega
        by_cases d1 : (E[k].toNat : Int) < 48
        · go_wp2
          go_ret
          exact ⟨Ans.no (fun h => by have := (h k hlt).1; omega), rfl⟩
        · by_cases d2 : (57 : Int) < (E[k].toNat : Int)
          · go_wp2
            go_ret
            exact ⟨Ans.no (fun h => by have := (h k hlt).2; omega), rfl⟩
          · have hd' : Hid (∀ i (h : i < E.size), i < k + 1 → isDg E[i]) := fun i h hi => by
              by_cases e : i = k
              · subst e; exact ⟨by omega, by omega⟩
              · exact hd.out i h (by omega)
            go_wp2
            go_roundw
            case rel => exact ⟨k + 1, by omega, by go_num, hd', by first | trivial | rfl⟩
            case measure => simp [intOf]; omega
      · obtain rfl : k = E.size := by omega
        go_wp2
        go_ret
        exact ⟨Ans.yes (fun i h => hd.out i h h), rfl⟩

end Go.Proofs.YtpjgdpfpgpaenaaDoor
