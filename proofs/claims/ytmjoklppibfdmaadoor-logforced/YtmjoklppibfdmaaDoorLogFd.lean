/-
  The law LogForced: the walk. Conditions: the image's rows and bytes are of lengths that a machine can hold; the library's table of sums is as it starts.
-/
import Derived.Test.YtmjoklppibfdmaaDoorLogEq
namespace Go.Proofs.YtmjoklppibfdmaaDoor
open Go.RowKit
set_option linter.unusedVariables false

set_option maxRecDepth 100000 in
/-- What the law does behind Force. -/
theorem full_copy {w : World} (ht : Tab w) {D L n : Nat} {xa : Option Addr} {k xc : Nat} {wr : World} (h : Full w D L n (.slice xa k xc) wr) :
    Calls Tryd.prog 17 #[.pointer (some ⟨D, 0, none⟩)] wr fun r w1 => ∃ D', r = .returned (.pointer (some ⟨D', 0, none⟩)) ∧ Hid (Calls Tryd.prog 18 #[.pointer (some ⟨D', 0, none⟩), .slice none 0 0] w1 fun r w2 => r = .returned (.int .i64 0) ∧ Hid (Calls Tryd.prog 20 #[.pointer (some ⟨D, 0, none⟩)] w2 fun r w3 => ∃ a c, r = .returned (.slice a k c) ∧ Hid (Calls Tryd.prog 19 #[.slice a k c, .slice xa k xc, .func (.func 21) #[] #[]] w3 fun r w4 => r = .returned (.bool true) ∧ w4 = w3) ∧ Hid (Calls Tryd.prog 20 #[.pointer (some ⟨D', 0, none⟩)] w3 fun r w4 => ∃ a c, r = .returned (.slice a k c) ∧ Hid (Calls Tryd.prog 19 #[.slice a k c, .slice xa k xc, .func (.func 21) #[] #[]] w4 fun r w5 => r = .returned (.bool true) ∧ w5 = w4) ∧ Hid (Below w.heap.size w w4)))) := by
  obtain ⟨P, e, f, first, tot, R, hL, hP, hR, hB⟩ := h
  obtain ⟨xa', xc', A9, C9, ev, hI⟩ := recP_img hR
  cases ev
  obtain ⟨n1, n2⟩ := hL.n2
  have hRl : R.length ≤ 1000000 := by have := hL.prs.len; have := hL.le; omega
  have sB := hB.size
  obtain ⟨T, F, vt, q, _, _, _, hS, _⟩ := hL.lay
  refine (sdCopy D n 0 F e wr hS (by omega)).mono ?_
  rintro r w1 ⟨D', rfl, s1, b1⟩
  refine ⟨D', rfl, ?_⟩
  refine (sdCrash0 D' n _ e w1 s1).mono ?_
  rintro r w2 ⟨rfl, s2, p2⟩
  have b2 : Below wr.heap.size wr w2 := b1.trans (p2.below (fun k hk => hk.1) b1.size)
  refine ⟨rfl, ?_⟩
  refine (recs_kept (hS.below b2) (ht.below (hB.trans (b2.mono sB)) (Nat.le_refl _)) hL.kept hL.prs).mono ?_
  rintro r w3 ⟨a, c, A, C, rfl, h3, b3⟩
  have b23 : Below wr.heap.size wr w3 := b2.trans (b3.mono b2.size)
  refine ⟨a, c, rfl, equalImg a xa R.length c xc A A9 _ C _ C9 _ _ w3 hRl h3.out (hI.below b23) (fun i hi => rfl), ?_⟩
  refine (recs_kept (s2.below b3) (ht.below (hB.trans (b23.mono sB)) (Nat.le_refl _)) hL.kept hL.prs).mono ?_
  rintro r w4 ⟨a4, c4, A4, C4, rfl, h4, b4⟩
  have b34 : Below wr.heap.size wr w4 := b23.trans (b4.mono b23.size)
  exact ⟨a4, c4, rfl, equalImg a4 xa R.length c4 xc A4 A9 _ C4 _ C9 _ _ w4 hRl h4.out (hI.below b34) (fun i hi => rfl), hB.trans (b34.mono sB)⟩

set_option maxRecDepth 100000 in
set_option maxHeartbeats 4000000 in
theorem forced_walk (a0 : Option Addr) (N c0 : Nat) (A : Nat → Option Addr) (L C : Nat → Nat) (f : Nat → Nat → Int) (a1 : Option Addr) (N1 c1 : Nat) (w : World) (h : Img w a0 N A L C f) (hN : N ≤ 5864062014805) (hLn : ∀ i, i < N → L i ≤ 140737488355328) (hby : ∀ i j, 0 ≤ f i j ∧ f i j ≤ 255) (hN1 : N1 ≤ 9223372036854775806) (hd : DosL w a1 N1) (ht : Tab w) :
    Calls Tryd.prog 4 #[.slice a0 N c0, .slice a1 N1 c1] w fun r w' => r = .returned (.bool true) ∧ Below w.heap.size w w' := by
  have CF := fill_ok a0 N c0 A L C f a1 N1 c1 w h hN hLn hby hN1 hd ht
  have HI : Hid (∀ w1, Below w.heap.size w w1 → Img w1 a0 N A L C f) := fun w1 hb => h.below hb
  have HT : Hid (Tab w) := ht
  clear h hd hby hLn ht
  go_enter Tryd.func4, Tryd.ntmps4
  go_wp2_with fail
  refine CF.mono ?_
  rintro r w1 (⟨hnf, rfl, b1⟩ | ⟨hfit, D, Lp, v, forced, rfl, hfil⟩)
  · clear CF
    by_cases n0 : N = 0
    · subst n0
      clear hnf
      go_wp2
      go_ret
      exact ⟨rfl, b1⟩
    · have n0' : ((N : Int) == 0) = false := by simp; omega
      by_cases n1 : 4096 < N
      · have n1' : (4096 : Int) < (N : Int) := by omega
        clear hnf
        go_wp2
        go_ret
        exact ⟨rfl, b1⟩
      · have n1' : ¬ (4096 : Int) < (N : Int) := by omega
        have hx : ∃ i, i < N ∧ L i ≠ 128 := Classical.byContradiction fun hh => hnf ⟨by omega, by omega, fun i hi => Classical.byContradiction fun h9 => hh ⟨i, hi, h9⟩⟩
        have CC := containsLL a0 N c0 A L C f w1 (by omega) (HI.out w1 b1) hx
        clear hnf hx HI
        go_wp2_with fail
        refine CC.mono ?_
        rintro r w2 ⟨rfl, hw⟩
        obtain rfl : w1 = w2 := hw.symm
        clear hw CC
        go_wp2
        go_ret
        exact ⟨rfl, b1⟩
  · clear CF
    obtain ⟨xa, k, xc, rfl⟩ : ∃ xa k xc, v = .slice xa k xc := by
      obtain ⟨P, e, f9, first, z, tot, R, hL, hP, hR, hB⟩ := hfil
      obtain ⟨xa, xc, rfl⟩ := hR.len
      exact ⟨xa, _, xc, rfl⟩
    have CO := full_force HT.out hfil
    clear hfil hfit HI
    go_wp2_with fail
    refine CO.mono ?_
    rintro r w2 ⟨rfl, HFu⟩
    clear CO
    obtain ⟨last, C1, C2⟩ : ∃ last : Nat, Hid (Calls Tryd.prog 15 #[.pointer (some ⟨Lp, 0, none⟩)] w2 fun r w' => r = .returned (.int .i64 (last : Int)) ∧ w' = w2) ∧ Hid (Calls Tryd.prog 16 #[.pointer (some ⟨Lp, 0, none⟩)] w2 fun r w' => r = .returned (.int .i64 (last : Int)) ∧ w' = w2) := by
      obtain ⟨P, e, f9, first, tot, R, hL, _⟩ := HFu.out
      exact ⟨_, lgs_forced hL, lgs_last hL⟩
    have CC := full_copy HT.out HFu.out
    clear HFu
    go_wp2_with fail
    refine C1.out.mono ?_
    rintro r w9 ⟨rfl, hw⟩
    obtain rfl : w2 = w9 := hw.symm
    clear hw C1
    go_wp2_with fail
    refine C2.out.mono ?_
    rintro r w9 ⟨rfl, hw⟩
    obtain rfl : w2 = w9 := hw.symm
    clear hw C2
    go_wp2_with fail
    refine CC.mono ?_
    rintro r w3 ⟨D', rfl, K3⟩
    clear CC
    go_wp2_with fail
    refine K3.out.mono ?_
    rintro r w4 ⟨rfl, K4⟩
    clear K3
    go_wp2_with fail
    refine K4.out.mono ?_
    rintro r w5 ⟨av, cv, rfl, K5, K6⟩
    clear K4
    go_wp2_with fail
    refine K5.out.mono ?_
    rintro r w9 ⟨rfl, hw⟩
    obtain rfl : w5 = w9 := hw.symm
    clear hw K5
    go_wp2_with fail
    refine K6.out.mono ?_
    rintro r w6 ⟨ax, cx, rfl, K7, HBf⟩
    clear K6
    go_wp2_with fail
    refine K7.out.mono ?_
    rintro r w9 ⟨rfl, hw⟩
    obtain rfl : w6 = w9 := hw.symm
    clear hw K7
    go_wp2
    go_ret
    exact ⟨rfl, HBf.out⟩
end Go.Proofs.YtmjoklppibfdmaaDoor
