/-
  Contracts of datum's names and truths; the document's, too.
  Contract of the document's IsName.
-/
import Derived.Test.YtpjgdpfpgpaenaaDoorGaf
namespace Go.Proofs.YtpjgdpfpgpaenaaDoor
open Go.RowKit
set_option linter.unusedVariables false

def sgnB (c : UInt8) : Bool := c.toNat == 43 || c.toNat == 45
/-- A text that begins as only numbers may. -/
def begB (s : ByteArray) : Bool := if h : 0 < s.size then (if sgnB s[0] then (if h1 : 1 < s.size then dgB s[1] else false) else dgB s[0]) else false
/-- What cutSign leaves. -/
def CutS (s E : ByteArray) : Prop := (∃ h : 0 < s.size, sgnB s[0] = true ∧ E = s.extract 1 s.size) ∨ ((∀ h : 0 < s.size, sgnB s[0] = false) ∧ E = s)
theorem dt_cut (s : ByteArray) (w : World) : Calls Tryd.prog 59 #[.string s] w fun e w' => ∃ a E, e = .returned (.tuple #[.string a, .string E]) ∧ Hid (CutS s E) ∧ Hid (Below w.heap.size w w') := by
  have hB : Hid (∀ q, Below w.heap.size w (w.drewN q)) := fun q => blw_drewN q (Below.refl _ _)
  by_cases h0 : 0 < s.size
  · have he := notEmpty_of s h0
    have l0 : (0 : Int) < (s.size : Int) := by omega
    have l1 : (1 : Int) ≤ (s.size : Int) := by omega
    by_cases h1 : s[0].toNat = 43
    · have d1 : ((s[0].toNat : Int) == 43) = true := by rw [h1]; rfl
      have hs : sgnB s[0] = true := by unfold sgnB; rw [h1]; rfl
      have HR : Hid (CutS s (s.extract 1 s.size)) := .inl ⟨h0, hs, rfl⟩
      clear h1 hs
      go_enter Tryd.func59, Tryd.ntmps59
      go_wp2
      go_region
      all_goals
        go_wp2
        go_ret2
        exact ⟨_, _, rfl, HR, hB.out _⟩
    · by_cases h2 : s[0].toNat = 45
      · have d1 : ((s[0].toNat : Int) == 43) = false := by rw [h2]; rfl
        have d2 : ((s[0].toNat : Int) == 45) = true := by rw [h2]; rfl
        have hs : sgnB s[0] = true := by unfold sgnB; rw [h2]; rfl
        have HR : Hid (CutS s (s.extract 1 s.size)) := .inl ⟨h0, hs, rfl⟩
        clear h1 h2 hs
        go_enter Tryd.func59, Tryd.ntmps59
        go_wp2
        go_region
        all_goals
          go_wp2
          go_ret2
          exact ⟨_, _, rfl, HR, hB.out _⟩
      · have d1 : ((s[0].toNat : Int) == 43) = false := by simp; omega
        have d2 : ((s[0].toNat : Int) == 45) = false := by simp; omega
        have hs : sgnB s[0] = false := by unfold sgnB; simp; omega
        have HR : Hid (CutS s s) := .inr ⟨fun _ => hs, rfl⟩
        clear h1 h2 hs
        go_enter Tryd.func59, Tryd.ntmps59
        go_wp2
        go_ret2
        exact ⟨_, _, rfl, HR, Below.refl _ _⟩
  · have he := isEmpty_of s h0
    have HR : Hid (CutS s s) := .inr ⟨fun h => absurd h h0, rfl⟩
    clear h0
    go_enter Tryd.func59, Tryd.ntmps59
    go_wp2
    go_ret2
    exact ⟨_, _, rfl, HR, Below.refl _ _⟩
theorem CutS.beg {s E : ByteArray} (h : CutS s E) : begB s = (if h : 0 < E.size then dgB E[0] else false) := by
  unfold begB
  rcases h with ⟨h0, h1, rfl⟩ | ⟨h1, e⟩
  · rw [dif_pos h0, if_pos h1]
    by_cases h2 : 1 < s.size
    · have hz : 0 < (s.extract 1 s.size).size := by simp; omega
      rw [dif_pos h2, dif_pos hz]
      congr 1
      simp [ByteArray.getElem_extract]
    · have hz : ¬ 0 < (s.extract 1 s.size).size := by simp; omega
      rw [dif_neg h2, dif_neg hz]
  · subst e
    by_cases h0 : 0 < E.size
    · rw [dif_pos h0, dif_pos h0, if_neg (by rw [h1 h0]; decide)]
    · rw [dif_neg h0, dif_neg h0]
theorem dt_begins (s : ByteArray) (w : World) : Calls Tryd.prog 56 #[.string s] w fun e w' => e = .returned (.bool (begB s)) ∧ Hid (Below w.heap.size w w') := by
  have HC := dt_cut s w
  have HD : Hid (∀ (c : UInt8) w, Calls Tryd.prog 60 #[.int .u8 (c.toNat : Int)] w fun e w' => e = .returned (.bool (dgB c)) ∧ w' = w) := fun c w => dt_digit c w
  go_enter Tryd.func56, Tryd.ntmps56
  go_wp2_with fail
  refine HC.mono ?_
  rintro r w1 ⟨a, E, rfl, HE, hb⟩
  have hbeg := HE.out.beg
  have HB : Hid (begB s = (if h : 0 < E.size then dgB E[0] else false)) := hbeg
  clear hbeg HE HC
  by_cases h0 : 0 < E.size
  · have he := notEmpty_of E h0
    have l0 : (0 : Int) < (E.size : Int) := by omega
    have hr := HB.out
    rw [dif_pos h0] at hr
    have HB : Hid (begB s = dgB E[0]) := hr
    clear hr
    go_wp2_with fail
    refine (HD.out E[0] w1).mono ?_
    rintro r w2 ⟨rfl, hw⟩
    obtain rfl : w1 = w2 := hw.symm
    go_wp2
    go_ret
    exact ⟨by rw [HB.out]; rfl, hb⟩
  · have he := isEmpty_of E h0
    have hr := HB.out
    rw [dif_neg h0] at hr
    have HB : Hid (begB s = false) := hr
    clear hr h0
    go_wp2
    go_ret
    exact ⟨by rw [HB.out]; rfl, hb⟩
/-- A name. -/
def nameP (s : ByteArray) : Prop := 0 < s.size ∧ s.size ≤ 64 ∧ (s.toList == [46]) = false ∧ begB s = false ∧ ∀ i (h : i < s.size), partB s[i] = true
theorem dt_truth (s : ByteArray) (w : World) : Calls Tryd.prog 53 #[.string s] w fun e w' => e = .returned (.bool ((s.toList == [35, 116]) || (s.toList == [35, 102]))) ∧ w' = w := by
  cases h1 : (s.toList == [35, 116])
  · go_enter Tryd.func53, Tryd.ntmps53
    go_wp2
    go_ret
    first | exact ⟨rfl, rfl⟩ | exact ⟨by rw [h1]; rfl, rfl⟩
  · go_enter Tryd.func53, Tryd.ntmps53
    go_wp2
    go_ret
    first | exact ⟨rfl, rfl⟩ | exact ⟨by rw [h1]; rfl, rfl⟩
set_option maxRecDepth 100000 in
set_option maxHeartbeats 1000000 in
theorem dt_name (s : ByteArray) (w : World) : Calls Tryd.prog 54 #[.string s] w fun e w' => Ans e (nameP s) ∧ Hid (Below w.heap.size w w') := by
  have HBg := dt_begins s w
  have HI : Hid (∀ (c : UInt8) w, Calls Tryd.prog 57 #[.int .u8 (c.toNat : Int)] w fun e w' => e = .returned (.bool (partB c)) ∧ w' = w) := fun c w => dt_in c w
  have h00 : Hid (Below w.heap.size w w) := Below.refl _ _
  by_cases h0 : 0 < s.size
  · have he := notEmpty_of s h0
    by_cases h1 : s.size ≤ 64
    · have d1 : ¬ (64 : Int) < (s.size : Int) := by omega
      cases h2 : (s.toList == [46])
      · go_enter Tryd.func54, Tryd.ntmps54
        go_wp2_with fail
        refine HBg.mono ?_
        rintro r w1 ⟨rfl, hb⟩
        cases h3 : begB s
        · go_wp2
          have HP : Hid ((∀ i (h : i < s.size), partB s[i] = true) → nameP s) := fun h => ⟨h0, h1, h2, h3, h⟩
          have HQ : Hid (∀ i (h : i < s.size), partB s[i] = false → ¬ nameP s) := fun i h e p => by rw [p.2.2.2.2 i h] at e; cases e
          have l64 : (s.size : Int) ≤ 64 := by omega
          clear h0 h1 h2 h3 he d1
          go_loopw [21] (fun i wr => ∃ k : Nat, k ≤ s.size ∧ i = .int .i64 (k : Int) ∧ Hid (∀ i (h : i < s.size), i < k → partB s[i] = true) ∧ wr = w1) (fun i _ => s.size - (intOf i).toNat)
          case atStart => exact ⟨0, Nat.zero_le _, rfl, fun i _ h => absurd h (by omega), rfl⟩
          case round =>
            obtain ⟨k, hk, rfl, HJ, hw⟩ := hrel
            obtain rfl : w1 = wr := hw.symm
            clear hw
            by_cases hlt : k < s.size
            · have l1 : (k : Int) < (s.size : Int) := by omega
              have l2 : (0 : Int) ≤ (k : Int) := by omega
              go_wp2_with fail
              refine (HI.out s[k] w1).mono ?_
              rintro r w2 ⟨rfl, hw⟩
              obtain rfl : w1 = w2 := hw.symm
              cases h4 : partB s[k]
              · have hn : Hid (¬ nameP s) := HQ.out k hlt h4
                go_wp2
                go_ret
                exact ⟨Ans.no hn.out, hb⟩
              · have HF : Hid (∀ i (h : i < s.size), i < k + 1 → partB s[i] = true) := fun i h hi => by
                  by_cases e : i = k
                  · subst e; exact h4
                  · exact HJ.out i h (by omega)
                clear h4
                go_wp2
                go_roundw
                case rel => exact ⟨k + 1, by omega, by go_num, HF, trivial⟩
                case measure => simp [intOf]; omega
            · obtain rfl : k = s.size := by omega
              have hn : Hid (nameP s) := HP.out (fun i h => HJ.out i h h)
              go_wp2
              go_ret
              exact ⟨Ans.yes hn.out, hb⟩
        · have hn : Hid (¬ nameP s) := fun p => by rw [p.2.2.2.1] at h3; cases h3
          go_wp2
          go_ret
          exact ⟨Ans.no hn.out, hb⟩
      · have hn : Hid (¬ nameP s) := fun p => by rw [p.2.2.1] at h2; cases h2
        go_enter Tryd.func54, Tryd.ntmps54
        go_wp2
        go_ret
        exact ⟨Ans.no hn.out, h00⟩
    · have d1 : (64 : Int) < (s.size : Int) := by omega
      have hn : Hid (¬ nameP s) := fun p => h1 p.2.1
      clear h1
      go_enter Tryd.func54, Tryd.ntmps54
      go_wp2
      go_ret
      exact ⟨Ans.no hn.out, h00⟩
  · have he := isEmpty_of s h0
    have hn : Hid (¬ nameP s) := fun p => h0 p.1
    clear h0
    go_enter Tryd.func54, Tryd.ntmps54
    go_wp2
    go_ret
    exact ⟨Ans.no hn.out, h00⟩
end Go.Proofs.YtpjgdpfpgpaenaaDoor

namespace Go.Proofs.YtpjgdpfpgpaenaaDoor
open Go.RowKit
set_option linter.unusedVariables false

theorem dg_not_sgn {c : UInt8} (h : dgB c = true) : sgnB c = false := by
  rw [dgB_iff] at h
  unfold isDg at h
  unfold sgnB
  simp
  omega
set_option maxRecDepth 100000 in
set_option maxHeartbeats 2000000 in
theorem z_name (s : ByteArray) (w : World) : Calls Tryd.prog 24 #[.string s] w fun e w' => Ans e (nameP s) ∧ Hid (Below w.heap.size w w') := by
  have HD : Hid (∀ (c : UInt8) w, Calls Tryd.prog 37 #[.int .u8 (c.toNat : Int)] w fun e w' => e = .returned (.bool (dgB c)) ∧ w' = w) := fun c w => z_digit c w
  have HI : Hid (∀ (c : UInt8) w, Calls Tryd.prog 38 #[.int .u8 (c.toNat : Int)] w fun e w' => e = .returned (.bool (partB c)) ∧ Below w.heap.size w w') := fun c w => z_part c w
  have h00 : Hid (Below w.heap.size w w) := Below.refl _ _
  by_cases h0 : 0 < s.size
  · have he := notEmpty_of s h0
    have l0 : (0 : Int) < (s.size : Int) := by omega
    by_cases h1 : s.size ≤ 64
    · have d1 : ¬ (64 : Int) < (s.size : Int) := by omega
      cases h2 : (s.toList == [46])
      · have hbg : begB s = (if sgnB s[0] then (if h1 : 1 < s.size then dgB s[1] else false) else dgB s[0]) := by unfold begB; rw [dif_pos h0]
        cases hd0 : dgB s[0]
        · rw [hd0] at hbg
          have HD0 : Hid (Calls Tryd.prog 37 #[.int .u8 (s[0].toNat : Int)] w fun e w' => e = .returned (.bool false) ∧ w' = w) := by rw [← hd0]; exact HD.out s[0] w
          by_cases h5 : s[0].toNat = 43 ∨ s[0].toNat = 45
          · have hs : sgnB s[0] = true := by unfold sgnB; rcases h5 with h | h <;> rw [h] <;> rfl
            rw [hs, if_pos rfl] at hbg
            have hc : ((s[0].toNat : Int) == 43) = true ∨ (((s[0].toNat : Int) == 43) = false ∧ ((s[0].toNat : Int) == 45) = true) := by
              rcases h5 with h | h
              · exact .inl (by rw [h]; rfl)
              · exact .inr ⟨by rw [h]; rfl, by rw [h]; rfl⟩
            by_cases h6 : 1 < s.size
            · have l6 : (1 : Int) < (s.size : Int) := by omega
              rw [dif_pos h6] at hbg
              have HD1 : Hid (Calls Tryd.prog 37 #[.int .u8 (s[1].toNat : Int)] w fun e w' => e = .returned (.bool (dgB s[1])) ∧ w' = w) := HD.out s[1] w
              cases hd1 : dgB s[1]
              · rw [hd1] at hbg HD1
                have h3 : begB s = false := hbg
                clear hbg hd0 hd1 hs h5
                rcases hc with c1 | ⟨c1, c2⟩
                all_goals
                  go_enter Tryd.func24, Tryd.ntmps24
                  go_wp2_with fail
                  refine HD0.out.mono ?_
                  rintro r w1 ⟨rfl, hw⟩
                  obtain rfl : w = w1 := hw.symm
                  clear hw
                  go_wp2_with fail
                  refine HD1.out.mono ?_
                  rintro r w1 ⟨rfl, hw⟩
                  obtain rfl : w = w1 := hw.symm
                  clear hw
                  go_wp2
                  have HP : Hid ((∀ i (h : i < s.size), partB s[i] = true) → nameP s) := fun h => ⟨h0, h1, h2, h3, h⟩
                  have HQ : Hid (∀ i (h : i < s.size), partB s[i] = false → ¬ nameP s) := fun i h e p => by rw [p.2.2.2.2 i h] at e; cases e
                  have l64 : (s.size : Int) ≤ 64 := by omega
                  clear h1 h2 h3 he d1
                  go_loopw [3] (fun i wr => ∃ k : Nat, k ≤ s.size ∧ i = .int .i64 (k : Int) ∧ Hid (∀ i (h : i < s.size), i < k → partB s[i] = true) ∧ Hid (Below w.heap.size w wr)) (fun i _ => s.size - (intOf i).toNat)
                  case atStart => exact ⟨0, Nat.zero_le _, rfl, fun i _ h => absurd h (by omega), h00⟩
                  case round =>
                    obtain ⟨k, hk, rfl, HJ, HB⟩ := hrel
                    by_cases hlt : k < s.size
                    · have l1 : (k : Int) < (s.size : Int) := by omega
                      have l2 : (0 : Int) ≤ (k : Int) := by omega
                      go_wp2_with fail
                      refine (HI.out s[k] wr).mono ?_
                      rintro r w2 ⟨rfl, hb2⟩
                      have HB2 : Hid (Below w.heap.size w w2) := HB.out.trans (hb2.mono HB.out.size)
                      clear hb2
                      cases h4 : partB s[k]
                      · have hn : Hid (¬ nameP s) := HQ.out k hlt h4
                        go_wp2
                        go_ret
                        exact ⟨Ans.no hn.out, HB2⟩
                      · have HF : Hid (∀ i (h : i < s.size), i < k + 1 → partB s[i] = true) := fun i h hi => by
                          by_cases e : i = k
                          · subst e; exact h4
                          · exact HJ.out i h (by omega)
                        clear h4
                        go_wp2
                        go_roundw
                        case rel => exact ⟨k + 1, by omega, by go_num, HF, HB2⟩
                        case measure => simp [intOf]; omega
                    · obtain rfl : k = s.size := by omega
                      have hn : Hid (nameP s) := HP.out (fun i h => HJ.out i h h)
                      go_wp2
                      go_ret
                      exact ⟨Ans.yes hn.out, HB⟩
              · rw [hd1] at hbg HD1
                have hn : Hid (¬ nameP s) := fun p => by rw [p.2.2.2.1] at hbg; cases hbg
                clear hbg hd0 hd1 hs h5
                rcases hc with c1 | ⟨c1, c2⟩
                all_goals
                  go_enter Tryd.func24, Tryd.ntmps24
                  go_wp2_with fail
                  refine HD0.out.mono ?_
                  rintro r w1 ⟨rfl, hw⟩
                  obtain rfl : w = w1 := hw.symm
                  clear hw
                  go_wp2_with fail
                  refine HD1.out.mono ?_
                  rintro r w1 ⟨rfl, hw⟩
                  obtain rfl : w = w1 := hw.symm
                  clear hw
                  go_wp2
                  go_ret
                  exact ⟨Ans.no hn.out, h00⟩
            · have l6 : ¬ (1 : Int) < (s.size : Int) := by omega
              rw [dif_neg h6] at hbg
              have h3 : begB s = false := hbg
              clear hbg hd0 hs h5 h6
              rcases hc with c1 | ⟨c1, c2⟩
              all_goals
                go_enter Tryd.func24, Tryd.ntmps24
                go_wp2_with fail
                refine HD0.out.mono ?_
                rintro r w1 ⟨rfl, hw⟩
                obtain rfl : w = w1 := hw.symm
                clear hw
                go_wp2
                have HP : Hid ((∀ i (h : i < s.size), partB s[i] = true) → nameP s) := fun h => ⟨h0, h1, h2, h3, h⟩
                have HQ : Hid (∀ i (h : i < s.size), partB s[i] = false → ¬ nameP s) := fun i h e p => by rw [p.2.2.2.2 i h] at e; cases e
                have l64 : (s.size : Int) ≤ 64 := by omega
                clear h1 h2 h3 he d1
                go_loopw [3] (fun i wr => ∃ k : Nat, k ≤ s.size ∧ i = .int .i64 (k : Int) ∧ Hid (∀ i (h : i < s.size), i < k → partB s[i] = true) ∧ Hid (Below w.heap.size w wr)) (fun i _ => s.size - (intOf i).toNat)
                case atStart => exact ⟨0, Nat.zero_le _, rfl, fun i _ h => absurd h (by omega), h00⟩
                case round =>
                  obtain ⟨k, hk, rfl, HJ, HB⟩ := hrel
                  by_cases hlt : k < s.size
                  · have l1 : (k : Int) < (s.size : Int) := by omega
                    have l2 : (0 : Int) ≤ (k : Int) := by omega
                    go_wp2_with fail
                    refine (HI.out s[k] wr).mono ?_
                    rintro r w2 ⟨rfl, hb2⟩
                    have HB2 : Hid (Below w.heap.size w w2) := HB.out.trans (hb2.mono HB.out.size)
                    clear hb2
                    cases h4 : partB s[k]
                    · have hn : Hid (¬ nameP s) := HQ.out k hlt h4
                      go_wp2
                      go_ret
                      exact ⟨Ans.no hn.out, HB2⟩
                    · have HF : Hid (∀ i (h : i < s.size), i < k + 1 → partB s[i] = true) := fun i h hi => by
                        by_cases e : i = k
                        · subst e; exact h4
                        · exact HJ.out i h (by omega)
                      clear h4
                      go_wp2
                      go_roundw
                      case rel => exact ⟨k + 1, by omega, by go_num, HF, HB2⟩
                      case measure => simp [intOf]; omega
                  · obtain rfl : k = s.size := by omega
                    have hn : Hid (nameP s) := HP.out (fun i h => HJ.out i h h)
                    go_wp2
                    go_ret
                    exact ⟨Ans.yes hn.out, HB⟩
          · have c1 : ((s[0].toNat : Int) == 43) = false := by simp; omega
            have c2 : ((s[0].toNat : Int) == 45) = false := by simp; omega
            have hs : sgnB s[0] = false := by unfold sgnB; simp; omega
            rw [hs, if_neg (by decide)] at hbg
            have h3 : begB s = false := hbg
            clear hbg hd0 hs h5
            go_enter Tryd.func24, Tryd.ntmps24
            go_wp2_with fail
            refine HD0.out.mono ?_
            rintro r w1 ⟨rfl, hw⟩
            obtain rfl : w = w1 := hw.symm
            clear hw
            go_wp2
            have HP : Hid ((∀ i (h : i < s.size), partB s[i] = true) → nameP s) := fun h => ⟨h0, h1, h2, h3, h⟩
            have HQ : Hid (∀ i (h : i < s.size), partB s[i] = false → ¬ nameP s) := fun i h e p => by rw [p.2.2.2.2 i h] at e; cases e
            have l64 : (s.size : Int) ≤ 64 := by omega
            clear h1 h2 h3 he d1
            go_loopw [3] (fun i wr => ∃ k : Nat, k ≤ s.size ∧ i = .int .i64 (k : Int) ∧ Hid (∀ i (h : i < s.size), i < k → partB s[i] = true) ∧ Hid (Below w.heap.size w wr)) (fun i _ => s.size - (intOf i).toNat)
            case atStart => exact ⟨0, Nat.zero_le _, rfl, fun i _ h => absurd h (by omega), h00⟩
            case round =>
              obtain ⟨k, hk, rfl, HJ, HB⟩ := hrel
              by_cases hlt : k < s.size
              · have l1 : (k : Int) < (s.size : Int) := by omega
                have l2 : (0 : Int) ≤ (k : Int) := by omega
                go_wp2_with fail
                refine (HI.out s[k] wr).mono ?_
                rintro r w2 ⟨rfl, hb2⟩
                have HB2 : Hid (Below w.heap.size w w2) := HB.out.trans (hb2.mono HB.out.size)
                clear hb2
                cases h4 : partB s[k]
                · have hn : Hid (¬ nameP s) := HQ.out k hlt h4
                  go_wp2
                  go_ret
                  exact ⟨Ans.no hn.out, HB2⟩
                · have HF : Hid (∀ i (h : i < s.size), i < k + 1 → partB s[i] = true) := fun i h hi => by
                    by_cases e : i = k
                    · subst e; exact h4
                    · exact HJ.out i h (by omega)
                  clear h4
                  go_wp2
                  go_roundw
                  case rel => exact ⟨k + 1, by omega, by go_num, HF, HB2⟩
                  case measure => simp [intOf]; omega
              · obtain rfl : k = s.size := by omega
                have hn : Hid (nameP s) := HP.out (fun i h => HJ.out i h h)
                go_wp2
                go_ret
                exact ⟨Ans.yes hn.out, HB⟩
        · have hn : Hid (¬ nameP s) := fun p => by
            have := p.2.2.2.1
            rw [hbg, dg_not_sgn hd0, if_neg (by decide), hd0] at this
            cases this
          have HD0 : Hid (Calls Tryd.prog 37 #[.int .u8 (s[0].toNat : Int)] w fun e w' => e = .returned (.bool true) ∧ w' = w) := by rw [← hd0]; exact HD.out s[0] w
          clear hbg hd0
          go_enter Tryd.func24, Tryd.ntmps24
          go_wp2_with fail
          refine HD0.out.mono ?_
          rintro r w1 ⟨rfl, hw⟩
          obtain rfl : w = w1 := hw.symm
          clear hw
          go_wp2
          go_ret
          exact ⟨Ans.no hn.out, h00⟩
      · have hn : Hid (¬ nameP s) := fun p => by rw [p.2.2.1] at h2; cases h2
        go_enter Tryd.func24, Tryd.ntmps24
        go_wp2
        go_ret
        exact ⟨Ans.no hn.out, h00⟩
    · have d1 : (64 : Int) < (s.size : Int) := by omega
      have hn : Hid (¬ nameP s) := fun p => h1 p.2.1
      clear h1
      go_enter Tryd.func24, Tryd.ntmps24
      go_wp2
      go_ret
      exact ⟨Ans.no hn.out, h00⟩
  · have he := isEmpty_of s h0
    have hn : Hid (¬ nameP s) := fun p => h0 p.1
    clear h0
    go_enter Tryd.func24, Tryd.ntmps24
    go_wp2
    go_ret
    exact ⟨Ans.no hn.out, h00⟩
end Go.Proofs.YtpjgdpfpgpaenaaDoor
