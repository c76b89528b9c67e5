/-
  The law LogBegins: the walk. Conditions: the image's rows and bytes are of lengths that a machine can hold; the library's table of sums is as it starts.
-/
import Derived.Test.YtmjoklppibfdmaaDoorLogMx
namespace Go.Proofs.YtmjoklppibfdmaaDoor
open Go.RowKit
set_option linter.unusedVariables false

theorem txt_same {f g : Nat → Int} {n p : Nat} (he : ∀ i, i < n → f i = g i) (hp : p ≤ n) : txt f n p 2000 = txt g n p 2000 := by
  have hnum : Wm.num (sh f p) (n - p) = Wm.num (sh g p) (n - p) := Wm.numAt_ext (fun i hi => he _ (by omega)) 9 0
  have hb := Wm.num_bd (sh g p) (n - p)
  unfold txt
  rw [hnum]
  generalize Wm.num (sh g p) (n - p) = N at *
  obtain ⟨a1, s1, e1⟩ := N
  dsimp only at *
  by_cases c1 : e1 ≠ 0
  · rw [if_pos c1, if_pos c1]
  · rw [if_neg c1, if_neg c1]
    by_cases c2 : max 2000 0 < a1
    · rw [if_pos c2, if_pos c2]
    · rw [if_neg c2, if_neg c2]
      by_cases c3 : ((n - p : Nat) : Int) - s1 < a1
      · rw [if_pos c3, if_pos c3]
      · rw [if_neg c3, if_neg c3, strF_ext (fun i hi => ?_)]
        exact he _ (by omega)
theorem Parsed.ext {f g : Nat → Int} {n : Nat} (he : ∀ i, i < n → f i = g i) {L : List (Nat × Nat)} {p : Nat} (h : Parsed f n L p) : Parsed g n L p := by
  refine ⟨h.1.ext he, ?_⟩
  have := txt_same he h.1.le
  unfold Stops
  rw [← this]
  exact h.2
theorem Rws.img {w : World} {g n : Nat} {b o c : Nat → Nat} {f : Nat → Nat → Int} (h : Rws w g n b o c f) : Img w (some ⟨g, 0, none⟩) n (fun i => some ⟨b i, o i, none⟩) (fun _ => 128) c f := fun i hi =>
  ⟨g, 0, rfl, by rw [Nat.zero_add]; exact h.cell i hi, h.from_ i hi, fun e => by cases e⟩
theorem Rws.below' {w w' : World} {g n : Nat} {b o c : Nat → Nat} {f : Nat → Nat → Int} (h : Rws w g n b o c f) (hl : g < w.heap.size) (hb : Below w.heap.size w w') : Rws w' g n b o c f := h.part (F := fun _ => False) (Part.ofBelow hb) (fun h => h) hl (fun _ _ h => h)
theorem sdImage (D n : Nat) (F : Nat → Prop) (e : Nat → Int) (w : World) (h : Sd w D F n 0 e) :
    Calls Tryd.prog 22 #[.pointer (some ⟨D, 0, none⟩)] w fun r w' => ∃ g b, r = .returned (.slice (some ⟨g, 0, none⟩) n n) ∧ Rws w' g n (fun _ => b) (fun i => i * 128) (fun _ => 128) (fun i => sh e (i * 128)) ∧ w.heap.size ≤ g ∧ g < w'.heap.size ∧ w.heap.size ≤ b ∧ b < w'.heap.size ∧ Below w.heap.size w w' := by
  obtain ⟨tf, ld, hd⟩ := h.quiet
  exact dkImage D n 0 F e tf ld w hd
theorem lenF_take (R : List (Nat × Nat)) (k j : Nat) (hj : j < k) : (R.take k).getD j (0, 0) = R.getD j (0, 0) := by
  simp [List.getD, hj]

set_option maxRecDepth 100000 in
/-- What the law does behind fill. -/
theorem begins_chain {w : World} (ht : Tab w) {D L n : Nat} {xa : Option Addr} {k0 xc forced : Nat} {w1 : World} (mask : Int) (hm : 0 ≤ mask ∧ mask ≤ 18446744073709551615) (h : Fil w D L n (.slice xa k0 xc) forced w1) :
    Calls Tryd.prog 22 #[.pointer (some ⟨D, 0, none⟩)] w1 fun r w2 => ∃ g, r = .returned (.slice (some ⟨g, 0, none⟩) n n) ∧
      Hid (Calls Tryd.prog 14 #[.pointer (some ⟨L, 0, none⟩)] w2 fun r w3 => r = .returned (.int .i64 0) ∧
        Hid (Calls Tryd.prog 22 #[.pointer (some ⟨D, 0, none⟩)] w3 fun r w4 => ∃ g', r = .returned (.slice (some ⟨g', 0, none⟩) n n) ∧
          Hid (Calls Tryd.prog 24 #[.slice (some ⟨g, 0, none⟩) n n, .slice (some ⟨g', 0, none⟩) n n, .int .u64 mask] w4 fun r w5 => ∃ ag cg, r = .returned (.slice ag n cg) ∧
            Hid (Calls Tryd.prog 23 #[.slice ag n cg] w5 fun r w6 => ∃ D', r = .returned (.tuple #[.pointer (some ⟨D', 0, none⟩), .int .i64 0]) ∧
              Hid (Calls Tryd.prog 20 #[.pointer (some ⟨D', 0, none⟩)] w6 fun r w7 => ∃ a k c, r = .returned (.slice a k c) ∧ (forced : Int) ≤ (k : Int) ∧ (k : Int) ≤ (k0 : Int) ∧ (k0 : Int) ≤ (xc : Int) ∧
                Hid (∀ c', Calls Tryd.prog 19 #[.slice a k c, .slice xa k c', .func (.func 21) #[] #[]] w7 fun r w8 => r = .returned (.bool true) ∧ w8 = w7) ∧ Hid (Below w.heap.size w w7)))))) := by
  obtain ⟨P, e, f, first, z, tot, R, hL, hP, hR, hB⟩ := h
  obtain ⟨n1, n2⟩ := hL.n2
  have hRl : R.length ≤ 1000000 := by have := hL.prs.len; have := hL.le; omega
  have sB := hB.size
  have tl := ht.lt
  obtain ⟨xa', xc', ev⟩ := hR.len
  cases ev
  have hcap : R.length ≤ xc := by
    obtain ⟨_, _, hG, _⟩ := hR
    rcases hG.own.2 with ⟨e1, h0⟩ | ⟨g, cap, cur, e1, _, _, h4, _⟩
    · omega
    · cases e1; exact h4
  obtain ⟨T, F, vt, q, _, _, _, hS, _⟩ := hL.lay
  refine (sdImage D n F e w1 hS).mono ?_
  rintro r w2 ⟨g, b, rfl, r2, g1, g2, b1, b2, bl2⟩
  have s2 := bl2.size
  refine ⟨g, rfl, ?_⟩
  have hL2 := hL.below bl2
  have hB2 : Below w.heap.size w w2 := hB.trans (bl2.mono sB)
  refine (lgs_force hL2 (ht.below hB2 (Nat.le_refl _)) (fun hh => by have := hP _ hh; omega)).mono ?_
  rintro r w3 ⟨rfl, e', P', hL3, p3, hP'⟩
  have s3 := p3.size
  refine ⟨rfl, ?_⟩
  have r3 : Rws w3 g n (fun _ => b) (fun i => i * 128) (fun _ => 128) (fun i => sh e (i * 128)) := r2.part p3 (fun hh => by have := hL.lt _ hh; omega) g2 (fun _ _ hh => by have := hL.lt _ hh; omega)
  have hB3 : Below w.heap.size w w3 := hB2.trans (p3.below hP hB2.size)
  have hR3 := (hR.below bl2).part p3 hP'
  obtain ⟨T', F', vt', q', _, _, _, hS3, _⟩ := hL3.lay
  refine (sdImage D n F' e' w3 hS3).mono ?_
  rintro r w4 ⟨g', b', rfl, r4, _, _, _, _, bl4⟩
  have s4 := bl4.size
  refine ⟨g', rfl, ?_⟩
  have r34 := r3.below' (by omega) bl4
  refine (mixedC (some ⟨g, 0, none⟩) (some ⟨g', 0, none⟩) n n n _ _ _ _ _ _ mask w4 n1 n2 r34.img r4.img (fun i j => hS.by_ _) (fun i j => hS3.by_ _) hm).mono ?_
  rintro r w5 ⟨ag, cg, A5, C5, h5, rfl, hI5, hcg, hor, bl5⟩
  have s5 := bl5.size
  refine ⟨ag, cg, rfl, ?_⟩
  have hby5 : ∀ i j, 0 ≤ h5 i j ∧ h5 i j ≤ 255 := fun i j => by
    rcases hor.out i with e1 | e1
    · rw [e1]; exact hS.by_ _
    · rw [e1]; exact hS3.by_ _
  refine (dOf_in ag n cg A5 (fun _ => 128) C5 h5 w5 hI5.out n1 n2 hcg hby5).mono ?_
  rintro r w6 (⟨⟨i, hi, hne⟩, _⟩ | ⟨_, D', rfl, hD, bl6⟩)
  · exact absurd rfl hne
  refine ⟨D', rfl, ?_⟩
  have hS6 := hD.sd
  have b36 : Below w3.heap.size w3 w6 := (bl4.trans (bl5.mono s4)).trans (bl6.mono (by omega))
  have hB6 : Below w.heap.size w w6 := hB3.trans (b36.mono hB3.size)
  -- the log between
  have hzt := hL.prf.le
  obtain ⟨fi, t, hH, t1, t2, teq⟩ := Kept.mixed (m := flat h5) hL.kept hL3.kept hzt (by omega) (fun p hp => by
    rcases hor.out p with e1 | e1
    · refine .inl (fun i hi => ?_)
      show e (p * 128 + i) = flat h5 (p * 128 + i)
      unfold flat
      rw [show (p * 128 + i) / 128 = p by omega, show (p * 128 + i) % 128 = i by omega, e1]
      rfl
    · refine .inr (fun i hi => ?_)
      show e' (p * 128 + i) = flat h5 (p * 128 + i)
      unfold flat
      rw [show (p * 128 + i) / 128 = p by omega, show (p * 128 + i) % 128 = i by omega, e1]
      rfl)
  obtain ⟨k, s, hk, hpk, _, hfor⟩ := PrsTo.begins (n' := t) t2 hL.prs
  have hfk := hfor forced z hL.fr hL.prf t1
  refine (recsD D' n _ (flat h5) w6 hS6 (ht.below hB6 (Nat.le_refl _))).mono ?_
  rintro r w7 ⟨v, fi', tot', R', size, A7, C7, rfl, q1, q2, q3, bl7⟩
  obtain ⟨_, rfl⟩ := hH.uniq q1.out
  obtain ⟨rfl, _⟩ := (hpk.ext (fun i hi => (teq i hi).symm)).uniq q2.out
  have hG := q3.out
  obtain ⟨a, c, rfl⟩ := own_slice hG.own
  have hlen : (R.take k).length = k := by rw [List.length_take]; omega
  rw [hlen] at hG
  have hI7 := hG.img
  have b37 : Below w3.heap.size w3 w7 := b36.trans (bl7.mono b36.size)
  obtain ⟨A9, C9, hG9, _, _⟩ := hR3.below b37
  have hI9 := hG9.img
  refine ⟨a, k, c, by rw [hlen], by omega, by omega, by omega, fun c' => ?_, hB3.trans (b37.mono hB3.size)⟩
  refine equalImg a xa k c c' A7 A9 _ C7 _ C9 _ _ w7 (by omega) hI7 (fun i hi => hI9 i (by omega)) (fun i hi => ?_)
  have hin := hpk.1.in_ i (by rw [hlen]; exact hi)
  have hle := hpk.1.le
  have hl : lenF (R.take k) i = lenF R i := by unfold lenF; rw [lenF_take _ _ _ hi]
  rw [hl]
  refine lstI_ext (fun j hj => ?_)
  rw [lenF_take _ _ _ hi] at hin
  unfold lenF at hj
  unfold bytF
  rw [lenF_take _ _ _ hi]
  exact teq _ (by omega)

set_option maxRecDepth 100000 in
set_option maxHeartbeats 4000000 in
theorem begins_walk (a0 : Option Addr) (N c0 : Nat) (A : Nat → Option Addr) (L C : Nat → Nat) (f : Nat → Nat → Int) (a1 : Option Addr) (N1 c1 : Nat) (mask : Int) (w : World) (h : Img w a0 N A L C f) (hN : N ≤ 5864062014805) (hLn : ∀ i, i < N → L i ≤ 140737488355328) (hby : ∀ i j, 0 ≤ f i j ∧ f i j ≤ 255) (hN1 : N1 ≤ 9223372036854775806) (hd : DosL w a1 N1) (hm : 0 ≤ mask ∧ mask ≤ 18446744073709551615) (ht : Tab w) :
    Calls Tryd.prog 5 #[.slice a0 N c0, .slice a1 N1 c1, .int .u64 mask] w fun r w' => r = .returned (.bool true) ∧ Below w.heap.size w w' := by
  have CF := fill_ok a0 N c0 A L C f a1 N1 c1 w h hN hLn hby hN1 hd ht
  have HT : Hid (Tab w) := ht
  have Hm : Hid (0 ≤ mask ∧ mask ≤ 18446744073709551615) := hm
  clear h hd hby hLn ht hm
  go_enter Tryd.func5, Tryd.ntmps5
  go_wp2_with fail
  refine CF.mono ?_
  rintro r w1 (⟨hnf, rfl, b1⟩ | ⟨hfit, D, Lp, v, forced, rfl, hfil⟩)
  · clear CF
    go_wp2
    go_ret
    exact ⟨rfl, b1⟩
  · clear CF
    obtain ⟨xa, k0, xc, rfl⟩ : ∃ xa k xc, v = .slice xa k xc := by
      obtain ⟨P, e, f9, first, z, tot, R, hL, hP, hR, hB⟩ := hfil
      obtain ⟨xa, xc, rfl⟩ := hR.len
      exact ⟨xa, _, xc, rfl⟩
    have hxn : xa = none → k0 = 0 ∧ xc = 0 := by
      obtain ⟨P, e, f9, first, z, tot, R, hL, hP, ⟨_, _, hG, _⟩, hB⟩ := hfil
      rintro rfl
      rcases hG.own.2 with ⟨e1, h0⟩ | ⟨g, cap, cur, e1, _⟩
      · cases e1; exact ⟨rfl, rfl⟩
      · cases e1
    have CC := begins_chain HT.out mask Hm.out hfil
    clear hfil hfit
    go_wp2_with fail
    refine CC.mono ?_
    rintro r w2 ⟨g, rfl, K2⟩
    clear CC
    go_wp2_with fail
    refine K2.out.mono ?_
    rintro r w3 ⟨rfl, K3⟩
    clear K2
    go_wp2_with fail
    refine K3.out.mono ?_
    rintro r w4 ⟨g', rfl, K4⟩
    clear K3
    go_wp2_with fail
    refine K4.out.mono ?_
    rintro r w5 ⟨ag, cg, rfl, K5⟩
    clear K4
    go_wp2_with fail
    refine K5.out.mono ?_
    rintro r w6 ⟨D', rfl, K6⟩
    clear K5
    go_wp2_with fail
    refine K6.out.mono ?_
    rintro r w7 ⟨av, k, cv, rfl, x1, x2, x3, K7, HBf⟩
    clear K6
    have x0 : (0 : Int) ≤ (k : Int) := by omega
    have x4 : (k : Int) ≤ (xc : Int) := by omega
    cases xa with
    | none =>
      obtain ⟨rfl, rfl⟩ := hxn rfl
      obtain rfl : k = 0 := by omega
      clear hxn
      go_wp2_with fail
      refine (K7.out _).mono ?_
      rintro r w9 ⟨rfl, hw⟩
      obtain rfl : w7 = w9 := hw.symm
      clear hw K7
      go_wp2
      go_ret
      exact ⟨rfl, HBf.out⟩
    | some ad =>
      clear hxn
      obtain ⟨b, off, spot⟩ := ad
      go_wp2_with fail
      refine (K7.out _).mono ?_
      rintro r w9 ⟨rfl, hw⟩
      obtain rfl : w7 = w9 := hw.symm
      clear hw K7
      go_wp2
      go_ret
      exact ⟨rfl, HBf.out⟩
end Go.Proofs.YtmjoklppibfdmaaDoor
