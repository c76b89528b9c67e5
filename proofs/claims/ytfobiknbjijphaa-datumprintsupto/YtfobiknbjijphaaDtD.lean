/-
  Contract of the document's IsName.
-/
import Derived.Test.YtfobiknbjijphaaDtC
namespace Go.Proofs.Ytfobiknbjijphaa
open Go.RowKit
set_option linter.unusedVariables false

theorem dg_not_sgn {c : UInt8} (h : dgB c = true) : sgnB c = false := by
  rw [dgB_iff] at h
  unfold isDg at h
  unfold sgnB
  simp
  omega
set_option maxRecDepth 100000 in
set_option maxHeartbeats 2000000 in
theorem z_name (s : ByteArray) (w : World) : Calls Try.prog 25 #[.string s] w fun e w' => Ans e (nameP s) ∧ Hid (Below w.heap.size w w') := by
  have HD : Hid (∀ (c : UInt8) w, Calls Try.prog 30 #[.int .u8 (c.toNat : Int)] w fun e w' => e = .returned (.bool (dgB c)) ∧ w' = w) := fun c w => z_digit c w
  have HI : Hid (∀ (c : UInt8) w, Calls Try.prog 31 #[.int .u8 (c.toNat : Int)] w fun e w' => e = .returned (.bool (partB c)) ∧ Below w.heap.size w w') := fun c w => z_part c w
  have h00 : Hid (Below w.heap.size w w) := Below.refl _ _
  by_cases h0 : 0 < s.size
  · have he := notEmpty_of s h0
    have l0 : (0 : Int) < (s.size : Int) := by omega
    by_cases h1 : s.size ≤ 64
    · have d1 : ¬ (64 : Int) < (s.size : Int) := by omega
      cases h2 : (s.toList == [46])
      · have hbg : begB s = (if sgnB s[0] then (if h1 : 1 < s.size then dgB s[1] else false) else dgB s[0]) := by unfold begB; rw [dif_pos h0]
        cases hd0 : dgB s[0]
        · rw [hd0] at hbg
          have HD0 : Hid (Calls Try.prog 30 #[.int .u8 (s[0].toNat : Int)] w fun e w' => e = .returned (.bool false) ∧ w' = w) := by rw [← hd0]; exact HD.out s[0] w
          by_cases h5 : s[0].toNat = 43 ∨ s[0].toNat = 45
          · have hs : sgnB s[0] = true := by unfold sgnB; rcases h5 with h | h <;> rw [h] <;> rfl
            rw [hs, if_pos rfl] at hbg
            have hc : ((s[0].toNat : Int) == 43) = true ∨ (((s[0].toNat : Int) == 43) = false ∧ ((s[0].toNat : Int) == 45) = true) := by
              rcases h5 with h | h
              · exact .inl (by rw [h]; rfl)
              · exact .inr ⟨by rw [h]; rfl, by rw [h]; rfl⟩
            by_cases h6 : 1 < s.size
            · have l6 : (1 : Int) < (s.size : Int) := by omega
              rw [dif_pos h6] at hbg
              have HD1 : Hid (Calls Try.prog 30 #[.int .u8 (s[1].toNat : Int)] w fun e w' => e = .returned (.bool (dgB s[1])) ∧ w' = w) := HD.out s[1] w
              cases hd1 : dgB s[1]
              · rw [hd1] at hbg HD1
                have h3 : begB s = false := hbg
                clear hbg hd0 hd1 hs h5
                rcases hc with c1 | ⟨c1, c2⟩
                all_goals
                  go_enter Try.func25, Try.ntmps25
                  go_wp2_with fail
                  refine HD0.out.mono ?_
                  rintro r w1 ⟨rfl, hw⟩
                  obtain rfl : w = w1 := hw.symm
                  clear hw
                  go_wp2_with fail
                  refine HD1.out.mono ?_
                  rintro r w1 ⟨rfl, hw⟩
                  obtain rfl : w = w1 := hw.symm
                  clear hw
                  go_wp2
                  have HP : Hid ((∀ i (h : i < s.size), partB s[i] = true) → nameP s) := fun h => ⟨h0, h1, h2, h3, h⟩
                  have HQ : Hid (∀ i (h : i < s.size), partB s[i] = false → ¬ nameP s) := fun i h e p => by rw [p.2.2.2.2 i h] at e; cases e
                  have l64 : (s.size : Int) ≤ 64 := by omega
                  clear h1 h2 h3 he d1
                  go_loopw [3] (fun i wr => ∃ k : Nat, k ≤ s.size ∧ i = .int .i64 (k : Int) ∧ Hid (∀ i (h : i < s.size), i < k → partB s[i] = true) ∧ Hid (Below w.heap.size w wr)) (fun i _ => s.size - (intOf i).toNat)
                  case atStart => exact ⟨0, Nat.zero_le _, rfl, fun i _ h => absurd h (by omega), h00⟩
                  case round =>
                    obtain ⟨k, hk, rfl, HJ, HB⟩ := hrel
                    by_cases hlt : k < s.size
                    · have l1 : (k : Int) < (s.size : Int) := by omega
                      have l2 : (0 : Int) ≤ (k : Int) := by omega
                      go_wp2_with fail
                      refine (HI.out s[k] wr).mono ?_
                      rintro r w2 ⟨rfl, hb2⟩
                      have HB2 : Hid (Below w.heap.size w w2) := HB.out.trans (hb2.mono HB.out.size)
                      clear hb2
                      cases h4 : partB s[k]
                      · have hn : Hid (¬ nameP s) := HQ.out k hlt h4
                        go_wp2
                        go_ret
                        exact ⟨Ans.no hn.out, HB2⟩
                      · have HF : Hid (∀ i (h : i < s.size), i < k + 1 → partB s[i] = true) := fun i h hi => by
                          by_cases e : i = k
                          · subst e; exact h4
                          · exact HJ.out i h (by omega)
                        clear h4
                        go_wp2
                        go_roundw
                        case rel => exact ⟨k + 1, by omega, by go_num, HF, HB2⟩
                        case measure => simp [intOf]; omega
                    · obtain rfl : k = s.size := by omega
                      have hn : Hid (nameP s) := HP.out (fun i h => HJ.out i h h)
                      go_wp2
                      go_ret
                      exact ⟨Ans.yes hn.out, HB⟩
              · rw [hd1] at hbg HD1
                have hn : Hid (¬ nameP s) := fun p => by rw [p.2.2.2.1] at hbg; cases hbg
                clear hbg hd0 hd1 hs h5
                rcases hc with c1 | ⟨c1, c2⟩
                all_goals
                  go_enter Try.func25, Try.ntmps25
                  go_wp2_with fail
                  refine HD0.out.mono ?_
                  rintro r w1 ⟨rfl, hw⟩
                  obtain rfl : w = w1 := hw.symm
                  clear hw
                  go_wp2_with fail
                  refine HD1.out.mono ?_
                  rintro r w1 ⟨rfl, hw⟩
                  obtain rfl : w = w1 := hw.symm
                  clear hw
                  go_wp2
                  go_ret
                  exact ⟨Ans.no hn.out, h00⟩
            · have l6 : ¬ (1 : Int) < (s.size : Int) := by omega
              rw [dif_neg h6] at hbg
              have h3 : begB s = false := hbg
              clear hbg hd0 hs h5 h6
              rcases hc with c1 | ⟨c1, c2⟩
              all_goals
                go_enter Try.func25, Try.ntmps25
                go_wp2_with fail
                refine HD0.out.mono ?_
                rintro r w1 ⟨rfl, hw⟩
                obtain rfl : w = w1 := hw.symm
                clear hw
                go_wp2
                have HP : Hid ((∀ i (h : i < s.size), partB s[i] = true) → nameP s) := fun h => ⟨h0, h1, h2, h3, h⟩
                have HQ : Hid (∀ i (h : i < s.size), partB s[i] = false → ¬ nameP s) := fun i h e p => by rw [p.2.2.2.2 i h] at e; cases e
                have l64 : (s.size : Int) ≤ 64 := by omega
                clear h1 h2 h3 he d1
                go_loopw [3] (fun i wr => ∃ k : Nat, k ≤ s.size ∧ i = .int .i64 (k : Int) ∧ Hid (∀ i (h : i < s.size), i < k → partB s[i] = true) ∧ Hid (Below w.heap.size w wr)) (fun i _ => s.size - (intOf i).toNat)
                case atStart => exact ⟨0, Nat.zero_le _, rfl, fun i _ h => absurd h (by omega), h00⟩
                case round =>
                  obtain ⟨k, hk, rfl, HJ, HB⟩ := hrel
                  by_cases hlt : k < s.size
                  · have l1 : (k : Int) < (s.size : Int) := by omega
                    have l2 : (0 : Int) ≤ (k : Int) := by omega
                    go_wp2_with fail
                    refine (HI.out s[k] wr).mono ?_
                    rintro r w2 ⟨rfl, hb2⟩
                    have HB2 : Hid (Below w.heap.size w w2) := HB.out.trans (hb2.mono HB.out.size)
                    clear hb2
                    cases h4 : partB s[k]
                    · have hn : Hid (¬ nameP s) := HQ.out k hlt h4
                      go_wp2
                      go_ret
                      exact ⟨Ans.no hn.out, HB2⟩
                    · have HF : Hid (∀ i (h : i < s.size), i < k + 1 → partB s[i] = true) := fun i h hi => by
                        by_cases e : i = k
                        · subst e; exact h4
                        · exact HJ.out i h (by omega)
                      clear h4
                      go_wp2
                      go_roundw
                      case rel => exact ⟨k + 1, by omega, by go_num, HF, HB2⟩
                      case measure => simp [intOf]; omega
                  · obtain rfl : k = s.size := by omega
                    have hn : Hid (nameP s) := HP.out (fun i h => HJ.out i h h)
                    go_wp2
                    go_ret
                    exact ⟨Ans.yes hn.out, HB⟩
          · have c1 : ((s[0].toNat : Int) == 43) = false := by simp; omega
            have c2 : ((s[0].toNat : Int) == 45) = false := by simp; omega
            have hs : sgnB s[0] = false := by unfold sgnB; simp; omega
            rw [hs, if_neg (by decide)] at hbg
            have h3 : begB s = false := hbg
            clear hbg hd0 hs h5
            go_enter Try.func25, Try.ntmps25
            go_wp2_with fail
            refine HD0.out.mono ?_
            rintro r w1 ⟨rfl, hw⟩
            obtain rfl : w = w1 := hw.symm
            clear hw
            go_wp2
            have HP : Hid ((∀ i (h : i < s.size), partB s[i] = true) → nameP s) := fun h => ⟨h0, h1, h2, h3, h⟩
            have HQ : Hid (∀ i (h : i < s.size), partB s[i] = false → ¬ nameP s) := fun i h e p => by rw [p.2.2.2.2 i h] at e; cases e
            have l64 : (s.size : Int) ≤ 64 := by omega
            clear h1 h2 h3 he d1
            go_loopw [3] (fun i wr => ∃ k : Nat, k ≤ s.size ∧ i = .int .i64 (k : Int) ∧ Hid (∀ i (h : i < s.size), i < k → partB s[i] = true) ∧ Hid (Below w.heap.size w wr)) (fun i _ => s.size - (intOf i).toNat)
            case atStart => exact ⟨0, Nat.zero_le _, rfl, fun i _ h => absurd h (by omega), h00⟩
            case round =>
              obtain ⟨k, hk, rfl, HJ, HB⟩ := hrel
              by_cases hlt : k < s.size
              · have l1 : (k : Int) < (s.size : Int) := by omega
                have l2 : (0 : Int) ≤ (k : Int) := by omega
                go_wp2_with fail
                refine (HI.out s[k] wr).mono ?_
                rintro r w2 ⟨rfl, hb2⟩
                have HB2 : Hid (Below w.heap.size w w2) := HB.out.trans (hb2.mono HB.out.size)
                clear hb2
                cases h4 : partB s[k]
                · have hn : Hid (¬ nameP s) := HQ.out k hlt h4
                  go_wp2
                  go_ret
                  exact ⟨Ans.no hn.out, HB2⟩
                · have HF : Hid (∀ i (h : i < s.size), i < k + 1 → partB s[i] = true) := fun i h hi => by
                    by_cases e : i = k
                    · subst e; exact h4
                    · exact HJ.out i h (by omega)
                  clear h4
                  go_wp2
                  go_roundw
                  case rel => exact ⟨k + 1, by omega, by go_num, HF, HB2⟩
                  case measure => simp [intOf]; omega
              · obtain rfl : k = s.size := by omega
                have hn : Hid (nameP s) := HP.out (fun i h => HJ.out i h h)
                go_wp2
                go_ret
                exact ⟨Ans.yes hn.out, HB⟩
        · have hn : Hid (¬ nameP s) := fun p => by
            have := p.2.2.2.1
            rw [hbg, dg_not_sgn hd0, if_neg (by decide), hd0] at this
            cases this
          have HD0 : Hid (Calls Try.prog 30 #[.int .u8 (s[0].toNat : Int)] w fun e w' => e = .returned (.bool true) ∧ w' = w) := by rw [← hd0]; exact HD.out s[0] w
          clear hbg hd0
          go_enter Try.func25, Try.ntmps25
          go_wp2_with fail
          refine HD0.out.mono ?_
          rintro r w1 ⟨rfl, hw⟩
          obtain rfl : w = w1 := hw.symm
          clear hw
          go_wp2
          go_ret
          exact ⟨Ans.no hn.out, h00⟩
      · have hn : Hid (¬ nameP s) := fun p => by rw [p.2.2.1] at h2; cases h2
        go_enter Try.func25, Try.ntmps25
        go_wp2
        go_ret
        exact ⟨Ans.no hn.out, h00⟩
    · have d1 : (64 : Int) < (s.size : Int) := by omega
      have hn : Hid (¬ nameP s) := fun p => h1 p.2.1
      clear h1
      go_enter Try.func25, Try.ntmps25
      go_wp2
      go_ret
      exact ⟨Ans.no hn.out, h00⟩
  · have he := isEmpty_of s h0
    have hn : Hid (¬ nameP s) := fun p => h0 p.1
    clear h0
    go_enter Try.func25, Try.ntmps25
    go_wp2
    go_ret
    exact ⟨Ans.no hn.out, h00⟩
end Go.Proofs.Ytfobiknbjijphaa
