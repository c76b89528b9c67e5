/-
  The law LogAnew: the walk. Conditions: the image's rows and bytes are of lengths that a machine can hold; the library's table of sums is as it starts.
-/
import Derived.Test.YtmjoklppibfdmaaDoorLogLf
namespace Go.Proofs.YtmjoklppibfdmaaDoor
open Go.RowKit
set_option linter.unusedVariables false

/-- A log of its own over what was there. -/
def Mine (w : World) (D L n : Nat) (f : Nat → Int) (first z tot forced : Nat) (R : List (Nat × Nat)) (wr : World) : Prop := ∃ P e, Lgs wr P D L n e f first z tot forced R ∧ (∀ q, P q → w.heap.size ≤ q) ∧ Below w.heap.size w wr
theorem Mine.below {w : World} {D L n : Nat} {f : Nat → Int} {first z tot forced : Nat} {R : List (Nat × Nat)} {wr w' : World} (h : Mine w D L n f first z tot forced R wr) (hb : Below wr.heap.size wr w') : Mine w D L n f first z tot forced R w' := by
  obtain ⟨P, e, h1, h2, h3⟩ := h
  exact ⟨P, e, h1.below hb, h2, h3.trans (hb.mono h3.size)⟩
/-- Records of which nothing more is asked than their bytes. -/
theorem mine_recs {w : World} (ht : Tab w) {D L n : Nat} {f : Nat → Int} {first z tot forced : Nat} {R : List (Nat × Nat)} {wr : World} (h : Mine w D L n f first z tot forced R wr) :
    Calls Tryd.prog 20 #[.pointer (some ⟨D, 0, none⟩)] wr fun r w' => ∃ a c A C, r = .returned (.slice a (R.take forced).length c) ∧ Hid (Img w' a (R.take forced).length A (lenF (R.take forced)) C (bytF f (R.take forced))) ∧ Hid (Mine w D L n f first z tot forced R w') := by
  have hm := h
  obtain ⟨P, e, hL, hP, hB⟩ := h
  obtain ⟨T, F, vt, q, _, _, _, hS, _⟩ := hL.lay
  refine (recsD D n F e wr hS (ht.below hB (Nat.le_refl _))).mono ?_
  rintro r w' ⟨v, fi, tot', R', size, A, C, rfl, h1, h2, h3, h4⟩
  have hpf : PrsTo f z (R.take forced) z := hL.prf.less hL.prf.le (Nat.le_refl _)
  obtain ⟨rfl, rfl⟩ := hL.kept.recs (by have := hL.n2; omega) h1.out h2.out hpf
  have hG := h3.out
  obtain ⟨a, c, rfl⟩ := own_slice hG.own
  refine ⟨a, c, A, C, rfl, ?_, hm.below h4⟩
  have hX : RecG w' wr.heap.size (.slice a (R.take forced).length c) (R.take forced).length A (lenF (R.take forced)) C (bytF f (R.take forced)) := hG.ext2 (fun _ _ => rfl) (fun j hj i hi => by
    have := hpf.in_ j hj
    unfold lenF at hi
    exact hL.kept.eq _ (by omega))
  exact hX.img
theorem mine_force {w : World} (ht : Tab w) {D L n : Nat} {f : Nat → Int} {first z tot forced : Nat} {R : List (Nat × Nat)} {wr : World} (h : Mine w D L n f first z tot forced R wr) :
    Calls Tryd.prog 14 #[.pointer (some ⟨L, 0, none⟩)] wr fun r w' => r = .returned (.int .i64 0) ∧ Hid (Mine w D L n f first tot tot R.length R w') := by
  obtain ⟨P, e, hL, hP, hB⟩ := h
  have sB := hB.size
  have tl := ht.lt
  refine (lgs_force hL (ht.below hB (Nat.le_refl _)) (fun hh => by have := hP _ hh; omega)).mono ?_
  rintro r w4 ⟨rfl, e', P', hL4, p4, hP'⟩
  refine ⟨rfl, P', e', hL4, fun q hq => ?_, hB.trans (p4.below hP sB)⟩
  rcases hP' q hq with a | a
  · exact hP q a
  · omega
theorem mine_reset {w : World} (ht : Tab w) {D L n : Nat} {f : Nat → Int} {first z tot forced : Nat} {R : List (Nat × Nat)} {wr : World} (h : Mine w D L n f first z tot forced R wr) (hl : first + R.length - 1 < 4611686018427387904) :
    Calls Tryd.prog 25 #[.pointer (some ⟨L, 0, none⟩)] wr fun r w' => r = .returned (.int .i64 0) ∧ Hid (Mine w D L n f (first + R.length) 0 0 0 [] w') := by
  obtain ⟨P, e, hL, hP, hB⟩ := h
  have sB := hB.size
  have tl := ht.lt
  refine (lgs_reset hL (ht.below hB (Nat.le_refl _)) (fun hh => by have := hP _ hh; omega) hl).mono ?_
  rintro r w4 ⟨rfl, e', P', hL4, p4, hP'⟩
  refine ⟨rfl, P', e', hL4, fun q hq => ?_, hB.trans (p4.below hP sB)⟩
  rcases hP' q hq with a | a
  · exact hP q a
  · omega
theorem mine_append {w : World} {D L n : Nat} {f : Nat → Int} {first z tot forced : Nat} {R : List (Nat × Nat)} {wr : World} (h : Mine w D L n f first z tot forced R wr) (a : Option Addr) (m c : Nat) (g : Nat → Int) (hF : From w a m g) (hg : ∀ i, 0 ≤ g i ∧ g i ≤ 255) (hc0 : a = none → c = 0) :
    Calls Tryd.prog 27 #[.pointer (some ⟨L, 0, none⟩), .slice a m c] wr fun r w' => (∃ er, r = .returned (.tuple #[.int .i64 0, .int .i64 er]) ∧ (er == 0) = false ∧ (m = 0 ∨ 2000 < m ∨ n * 112 - tot < (putB m).length + m ∨ 4611686018427387904 ≤ first + R.length - 1) ∧ Hid (Mine w D L n f first z tot forced R w')) ∨ (r = .returned (.tuple #[.int .i64 ((first + R.length : Nat) : Int), .int .i64 0]) ∧ Hid (Mine w D L n (addR f tot m g) first z (tot + (putB m).length + m) forced (R ++ [(tot + (putB m).length, m)]) w')) := by
  have hm := h
  obtain ⟨P, e, hL, hP, hB⟩ := h
  have sB := hB.size
  refine (lgs_append hL a m c g (hF.below hB (Nat.le_refl _)) hg (fun x hx h0 hh => ?_) hc0).mono ?_
  · have h1 := hP _ hh
    rcases hF with ⟨e, _⟩ | ⟨y, e, hc⟩
    · rw [e] at hx; cases hx
    · rw [e] at hx
      obtain rfl : y = x := Option.some.inj hx
      have h9 := World.block_lt_of_cell? w _ (hc 0 h0)
      have h8 : (y.add 0).block = y.block := by unfold Addr.add; split <;> rfl
      omega
  · rintro r w4 (⟨er, rfl, her, b4, hw⟩ | ⟨rfl, hl1, hl2, P', hL4, p4, hP'⟩)
    · exact .inl ⟨er, rfl, beq_eq_false_iff_ne.2 her, hw, hm.below b4⟩
    · refine .inr ⟨rfl, P', e, hL4, fun q hq => ?_, hB.trans (p4.below hP sB)⟩
      rcases hP' q hq with a | a
      · exact hP q a
      · omega
theorem Fil.mine {w : World} {D L n : Nat} {v : Value} {forced : Nat} {wr : World} (h : Fil w D L n v forced wr) : ∃ f first z tot R, Mine w D L n f first z tot forced R wr ∧ 1 ≤ first := by
  obtain ⟨P, e, f, first, z, tot, R, h1, h2, h3, h4⟩ := h
  exact ⟨f, first, z, tot, R, ⟨P, e, h1, h2, h4⟩, h1.f1⟩

set_option maxRecDepth 100000 in
set_option maxHeartbeats 4000000 in
theorem anew_walk (a0 : Option Addr) (N c0 : Nat) (A : Nat → Option Addr) (L C : Nat → Nat) (f : Nat → Nat → Int) (a1 : Option Addr) (N1 c1 : Nat) (a2 : Option Addr) (m c2 : Nat) (g : Nat → Int) (w : World) (h : Img w a0 N A L C f) (hN : N ≤ 5864062014805) (hLn : ∀ i, i < N → L i ≤ 140737488355328) (hby : ∀ i j, 0 ≤ f i j ∧ f i j ≤ 255) (hN1 : N1 ≤ 9223372036854775806) (hd : DosL w a1 N1) (hF : From w a2 m g) (hg : ∀ i, 0 ≤ g i ∧ g i ≤ 255) (hm : m ≤ 140737488355328) (hc0 : a2 = none → c2 = 0) (ht : Tab w) :
    Calls Tryd.prog 6 #[.slice a0 N c0, .slice a1 N1 c1, .slice a2 m c2] w fun r w' => r = .returned (.bool true) ∧ Below w.heap.size w w' := by
  have CF := fill_ok a0 N c0 A L C f a1 N1 c1 w h hN hLn hby hN1 hd ht
  have HR : Hid (From w a2 m g ∧ (∀ i, 0 ≤ g i ∧ g i ≤ 255) ∧ (a2 = none → c2 = 0)) := ⟨hF, hg, hc0⟩
  have HT : Hid (Tab w) := ht
  clear h hd hby hLn hF hg hc0 ht
  go_enter Tryd.func6, Tryd.ntmps6
  go_wp2_with fail
  refine CF.mono ?_
  rintro r w1 (⟨_, rfl, b1⟩ | ⟨hfit, D, Lp, v, forced, rfl, hfil⟩)
  · clear CF
    go_wp2
    go_ret
    exact ⟨rfl, b1⟩
  · clear CF
    obtain ⟨f9, first, z, tot, R, hM, hf1⟩ := hfil.mine
    have HM : Hid (Mine w D Lp N f9 first z tot forced R w1) := hM
    obtain ⟨P, e, hL, hP, hB⟩ := hM
    obtain ⟨n1, n2⟩ := hL.n2
    have hf2 := hL.f2
    have CL := lgs_last hL
    obtain ⟨last, hla⟩ : ∃ last, first + R.length - 1 = last := ⟨_, rfl⟩
    have hRl : R.length ≤ 1000000 := by have := hL.prs.len; have := hL.le; omega
    rw [hla] at CL
    by_cases hl : last < 4611686018427387904
    · have CR := mine_reset HT.out HM.out (by omega)
      rw [show first + R.length = last + 1 by omega] at CR
      have g4 : decide ((4611686018427387904 : Int) ≤ (last : Int)) = false := by simp; omega
      have hw1 : IntKind.i64.wrap ((last : Int) + 1) = ((last + 1 : Nat) : Int) := by rw [IntKind.wrap_i64]; omega
      have hlb : (last : Int) ≤ 4611686018427387903 := by omega
      have hl0 : (0 : Int) ≤ (last : Int) := by omega
      clear hL hP hB hla hf1 hf2 hfil hfit HM hl
      go_wp2_with fail
      refine CL.mono ?_
      rintro r w9 ⟨rfl, hw⟩
      obtain rfl : w1 = w9 := hw.symm
      clear hw CL
      go_wp2_with fail
      refine CR.mono ?_
      rintro r w2 ⟨rfl, HM2⟩
      clear CR
      have hm2 := HM2.out
      obtain ⟨P2, e2, hL2, hP2, hB2⟩ := hm2
      have C1 := lgs_first hL2
      have C2 := lgs_last hL2
      have C3 := lgs_forced hL2
      have C4 := mine_recs HT.out HM2.out
      rw [show last + 1 + ([] : List (Nat × Nat)).length - 1 = last by simp] at C2
      rw [show last + 1 + 0 - 1 = last by omega] at C3
      clear hL2 hP2 hB2 HM2
      go_wp2_with fail
      refine C1.mono ?_
      rintro r w9 ⟨rfl, hw⟩
      obtain rfl : w2 = w9 := hw.symm
      clear hw C1
      go_wp2_with fail
      refine C2.mono ?_
      rintro r w9 ⟨rfl, hw⟩
      obtain rfl : w2 = w9 := hw.symm
      clear hw C2
      go_wp2_with fail
      refine C3.mono ?_
      rintro r w9 ⟨rfl, hw⟩
      obtain rfl : w2 = w9 := hw.symm
      clear hw C3
      go_wp2_with fail
      refine C4.mono ?_
      rintro r w3 ⟨av, cv, A9, C9, rfl, _, HM3⟩
      clear C4
      have CA := mine_append HM3.out a2 m c2 g HR.out.1 HR.out.2.1 HR.out.2.2
      rw [show last + 1 + ([] : List (Nat × Nat)).length = last + 1 from rfl] at CA
      go_wp2_with fail
      refine CA.mono ?_
      rintro r w4 (⟨er, rfl, her, hwhy, HM4⟩ | ⟨rfl, HM4⟩)
      · clear CA HM3
        have HBf : Hid (Below w.heap.size w w4) := by
          obtain ⟨_, _, _, _, hb⟩ := HM4.out
          exact hb
        have CRm : Calls Tryd.prog 28 #[.pointer (some ⟨Lp, 0, none⟩)] w4 fun r w' => r = .returned (.int .i64 ((N * 112 - 0 : Nat) : Int)) ∧ ∃ q, w' = w4.drewN q := by
          obtain ⟨_, _, hL4, _⟩ := HM4.out
          exact lgs_room hL4
        rw [show N * 112 - 0 = N * 112 by omega] at CRm
        have hme : (er != 0) = true := by rw [bne, her]; rfl
        by_cases m0 : m = 0
        · subst m0
          clear hwhy
          go_wp2
          go_ret
          exact ⟨rfl, HBf.out⟩
        · have m0' : ((m : Int) == 0) = false := by simp; omega
          by_cases m1 : 2000 < m
          · have m1' : (2000 : Int) < (m : Int) := by omega
            clear hwhy
            go_wp2
            go_ret
            exact ⟨rfl, HBf.out⟩
          · have m1' : ¬ (2000 : Int) < (m : Int) := by omega
            have hp : (putB m).length ≤ 2 := by
              by_cases h9 : m < 128
              · rw [putB_lt h9]; omega
              · rw [putB_ge (by omega) (by omega)]; omega
            obtain ⟨rm, hrm⟩ : ∃ rm, N * 112 = rm := ⟨_, rfl⟩
            have m2' : (rm : Int) < (m : Int) + 2 := by
              simp at hwhy
              omega
            have m3 : (m : Int) ≤ 2000 := by omega
            have m4 : (0 : Int) ≤ (m : Int) := by omega
            have m5 : (0 : Int) ≤ (rm : Int) := by omega
            rw [hrm] at CRm
            clear hwhy hp hrm m1 m0
            go_wp2_with fail
            refine CRm.mono ?_
            rintro r w5 ⟨rfl, q5, rfl⟩
            have HBg : Hid (Below w.heap.size w (w4.drewN q5)) := blw_drewN q5 HBf.out
            clear CRm
            go_wp2
            go_ret
            exact ⟨rfl, HBg.out⟩
      · clear CA HM3
        have CFo : Calls Tryd.prog 14 #[.pointer (some ⟨Lp, 0, none⟩)] w4 fun r w5 => r = .returned (.int .i64 0) ∧ Hid (Calls Tryd.prog 20 #[.pointer (some ⟨D, 0, none⟩)] w5 fun r w6 => ∃ gv ov cv a9 c9, r = .returned (.slice (some ⟨gv, ov, none⟩) 1 cv) ∧ w6.cell? ⟨gv, ov, none⟩ = some (.slice a9 m c9) ∧ Hid (Calls Tryd.prog 21 #[.slice a9 m c9, .slice a2 m c2] w6 fun r w7 => r = .returned (.bool true) ∧ w7 = w6) ∧ Hid (Below w.heap.size w w6)) := by
          refine (mine_force HT.out HM4.out).mono ?_
          rintro r w5 ⟨rfl, HM5⟩
          refine ⟨rfl, ?_⟩
          have CC := mine_recs HT.out HM5.out
          rw [List.take_length, List.nil_append] at CC
          refine CC.mono ?_
          rintro r w6 ⟨av, cv, A9, C9, rfl, hI, HM6⟩
          obtain ⟨b, off, rfl, k1, k2, _⟩ := hI.out 0 (by simp)
          obtain ⟨_, _, _, _, hb6⟩ := HM6.out
          refine ⟨b, off, cv, A9 0, C9 0, rfl, k1, ?_, hb6⟩
          refine equal_yes (A9 0) a2 m (C9 0) m c2 _ g w6 k2 (HR.out.1.below hb6 (Nat.le_refl _)) (lstI_ext (fun i hi => ?_) : lst _ m = lst g m)
          show addR f9 0 m g (0 + (putB m).length + i) = g i
          exact addR_hi i
        clear HM4
        go_wp2_with fail
        refine CFo.mono ?_
        rintro r w5 ⟨rfl, CRc⟩
        clear CFo
        go_wp2_with fail
        refine CRc.out.mono ?_
        rintro r w6 ⟨gv, ov, cv, a9, c9, rfl, hcell, HEq, HBf⟩
        clear CRc
        go_wp2_with fail
        refine HEq.out.mono ?_
        rintro r w9 ⟨rfl, hw⟩
        obtain rfl : w6 = w9 := hw.symm
        clear hw HEq
        go_wp2
        go_ret
        exact ⟨rfl, HBf.out⟩
    · have CR := lgs_reset_full hL (by omega)
      have g4 : decide ((4611686018427387904 : Int) ≤ (last : Int)) = true := by simp; omega
      have HBf : Hid (Below w.heap.size w w1) := hB
      clear hL hP hB hla hf1 hf2 hfil hfit HM hl
      go_wp2_with fail
      refine CL.mono ?_
      rintro r w9 ⟨rfl, hw⟩
      obtain rfl : w1 = w9 := hw.symm
      clear hw CL
      go_wp2_with fail
      refine CR.mono ?_
      rintro r w9 ⟨rfl, hw⟩
      obtain rfl : w1 = w9 := hw.symm
      clear hw CR
      go_wp2
      go_ret
      exact ⟨rfl, HBf.out⟩
end Go.Proofs.YtmjoklppibfdmaaDoor
