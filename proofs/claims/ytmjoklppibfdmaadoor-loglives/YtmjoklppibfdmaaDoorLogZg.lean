/-
  Contract of the document's own log: Force. Conditions: the log and its bytes lie apart from its disk; the sectors are the disk's.
-/
import Derived.Test.YtmjoklppibfdmaaDoorLogZf
import Derived.Test.YtmjoklppibfdmaaDoorLogK
import Derived.Deep.RegionHeld2
namespace Go.Proofs.YtmjoklppibfdmaaDoor
open Go.RowKit
set_option linter.unusedVariables false

set_option maxRecDepth 100000 in
set_option maxHeartbeats 1000000 in
theorem zForce_same {w : World} {M X from_ sectors first last : Nat} {vs : Value} {done : Nat} (h : Zl w M X from_ sectors first last last vs done) : Calls Tryd.prog 37 #[.pointer (some ⟨M, 0, none⟩)] w fun r w' => r = .returned (.int .i64 0) ∧ ∃ q, w' = w.drewN q := by
  obtain ⟨_, _, _, _, c4, c5, _⟩ := zget h
  clear h
  go_enter Tryd.func37, Tryd.ntmps37
  go_wp2_with fail
  go_quiet (fail)
  go_wp2
  go_ret
  exact ⟨rfl, _, rfl⟩

set_option maxRecDepth 100000 in
set_option maxHeartbeats 4000000 in
theorem zForce {w : World} {M X from_ sectors first last forced n g tot cs done N : Nat} {F : Nat → Prop} {e f : Nat → Int} (h : Zl w M X from_ sectors first last forced (.slice (some ⟨g, 0, none⟩) tot cs) done) (hS : Sx w X F n 0 e) (hMF : ¬ F M) (hgF : ¬ F g) (hf : From w (some ⟨g, 0, none⟩) tot f) (hby : ∀ i, 0 ≤ f i ∧ f i ≤ 255) (htc : tot ≤ cs) (hcs : cs ≤ 9223372036854775807) (hfl : forced ≠ last) (hd : done ≤ tot) (htn : tot ≤ 458752) (hN : tot - done / 112 * 112 ≤ N * 112) (hN2 : N * 112 < tot - done / 112 * 112 + 112) (hp : from_ + done / 112 + N ≤ n) (hfi : first ≤ 9223372036854775807) :
    Calls Tryd.prog 37 #[.pointer (some ⟨M, 0, none⟩)] w fun r w' => r = .returned (.int .i64 0) ∧ Hid (Zl w' M X from_ sectors first last last (.slice (some ⟨g, 0, none⟩) tot cs) tot ∧ Sx w' X (fun k => F k ∨ (w.heap.size ≤ k ∧ k < w'.heap.size)) n 0 (svs e from_ (done / 112) first (ckL (tot - done / 112 * 112)) (fun k => sh (sh f (done / 112 * 112)) (k * 112)) N) ∧ Part (fun k => F k ∨ k = M) w w') := by
  obtain ⟨n1, n2⟩ := hS.n2
  have hMl : M < w.heap.size := (Array.getElem?_eq_some_iff.1 h).1
  have hFl := hS.lt
  obtain ⟨c0, c1, c2, c3, c4, c5, c6, c7⟩ := zget h
  obtain ⟨d0, d1, d2, d3, d4, d5, d6, d7⟩ := zget (h.below (blw_drewN 1 (Below.refl _ w)))
  have hne : ((forced : Int) == (last : Int)) = false := by rw [beq_eq_false_iff_ne]; omega
  obtain ⟨pl, hpl⟩ : ∃ pl, done / 112 = pl := ⟨_, rfl⟩
  have hq : (done : Int) / 112 = (pl : Int) := by omega
  have hd0 : (0 : Int) ≤ (done : Int) := by omega
  rw [hpl] at hN hN2 hp ⊢
  obtain ⟨tl, htl⟩ : ∃ tl, tot - pl * 112 = tl := ⟨_, rfl⟩
  have hpt : pl * 112 + tl = tot := by omega
  rw [htl] at hN hN2 ⊢
  have H : Hid (Zl w M X from_ sectors first last forced (.slice (some ⟨g, 0, none⟩) tot cs) done) := h
  have HF : Hid (∀ wq, Part F w wq → ∀ i, i < tot → wq.cell? ⟨g, i, none⟩ = some (.int .u8 (f i))) := fun wq hq i hi => by
    rcases hf with ⟨e, _⟩ | ⟨x, e, hc⟩
    · cases e
    · cases e
      have := hc i hi
      rw [Addr.add_lit, Nat.zero_add] at this
      exact hq.cell (p := ⟨g, i, none⟩) hgF this
  have HS0 : Hid (Sx w X (fun k => F k ∨ (w.heap.size ≤ k ∧ k < w.heap.size)) n 0 (svs e from_ pl first (ckL tl) (fun k => sh (sh f (pl * 112)) (k * 112)) 0)) := hS.grow (fun k hk => .inl hk) (fun k hk => by
    rcases hk with hk | hk
    · exact hFl k hk
    · exact hk.2)
  have HBy : Hid (∀ i, 0 ≤ f i ∧ f i ≤ 255) := hby
  clear h hS hf hby hpl htl hd
  go_enter Tryd.func37, Tryd.ntmps37
  go_wp2_with fail
  go_quiet (fail)
  go_wp2
  have bq : Below w.heap.size w (w.drewN nq) := blw_drewN nq (Below.refl _ _)
  have HS1 : Hid (Sx (w.drewN nq) X (fun k => F k ∨ (w.heap.size ≤ k ∧ k < (w.drewN nq).heap.size)) n 0 (svs e from_ pl first (ckL tl) (fun k => sh (sh f (pl * 112)) (k * 112)) 0)) := HS0.out.below bq
  have HP1 : Hid (Part F w (w.drewN nq)) := Part.ofBelow bq
  clear c0 c1 c2 c3 c4 c5 c6 c7 d0 d1 d2 d3 d4 d5 d6 d7 HS0
  go_loopw [3] (fun s3 wr => ∃ j : Nat, j ≤ N ∧ s3 = .int .i64 ((pl + j : Nat) : Int) ∧ Hid (Sx wr X (fun k => F k ∨ (w.heap.size ≤ k ∧ k < wr.heap.size)) n j (svs e from_ pl first (ckL tl) (fun k => sh (sh f (pl * 112)) (k * 112)) j)) ∧ Hid (Part F w wr)) (fun i _ => pl + N - (intOf i).toNat)
  case atStart => exact ⟨0, Nat.zero_le _, by rw [Nat.add_zero], HS1, HP1⟩
  case round =>
    obtain ⟨j, hj, rfl, HSr, HPr⟩ := hrel
    obtain ⟨y0, y1, _, y3, y4, _, y6, _⟩ := zget (H.out.part HPr.out hMF)
    obtain ⟨i, hi⟩ : ∃ i, pl + j = i := ⟨_, rfl⟩
    rw [hi]
    have hi0 : (0 : Int) ≤ (i : Int) := by omega
    have hi9 : (i : Int) ≤ 1000000 := by omega
    by_cases hlt : j < N
    · have hA : (i : Int) * 112 < (tot : Int) := by omega
      obtain ⟨u, hu⟩ : ∃ u, ckL tl j = u := ⟨_, rfl⟩
      have hu1 : u ≤ 112 := by rw [← hu]; exact Nat.min_le_left _ _
      have hu2 : i * 112 + u ≤ tot := by rw [← hu]; unfold ckL; omega
      have hu3 : min (tot : Int) ((i : Int) * 112 + 112) = ((i * 112 + u : Nat) : Int) := by rw [← hu]; unfold ckL; omega
      have hMr : M < wr.heap.size := by have := HPr.out.size; omega
      have q1 : (i : Int) * 112 ≤ (cs : Int) := by omega
      have q2 : 0 ≤ (i : Int) * 112 := by omega
      have q3 : ((i : Int) * 112).toNat = i * 112 := by omega
      have q4 : i * 112 + u - i * 112 = u := by omega
      have hT : (tot : Int) ≤ 458752 := by omega
      have hMn : ¬ (F M ∨ (w.heap.size ≤ M ∧ M < wr.heap.size)) := fun h => by
        rcases h with h | h
        · exact hMF h
        · omega
      have hzr := HPr.out.size
      have HC : Hid (∀ wq, Part (fun k => F k ∨ (w.heap.size ≤ k ∧ k < wr.heap.size)) wr wq → wq.cell? ⟨M, 0, none⟩ = some (.pointer (some ⟨X, 0, none⟩)) ∧ wq.cell? ⟨M, 1, none⟩ = some (.int .i64 (from_ : Int)) ∧ wq.cell? ⟨M, 3, none⟩ = some (.int .i64 (first : Int))) := fun wq hq => by
        obtain ⟨y0, y1, _, y3, _⟩ := zget ((H.out.part HPr.out hMF).part hq hMn)
        exact ⟨y0, y1, y3⟩
      have CS : Hid (∀ wq, Below wr.heap.size wr wq → Calls Tryd.prog 75 #[.int .i64 (i : Int), .int .i64 (first : Int), .slice (some ⟨g, i * 112, none⟩) u (cs - i * 112)] wq fun r w5 => ∃ gg c, r = .returned (.slice (some ⟨gg, 0, none⟩) 128 c) ∧ Part (fun k => F k ∨ (w.heap.size ≤ k ∧ k < wr.heap.size)) wr w5 ∧ Hid (Calls Tryd.prog 74 #[.pointer (some ⟨X, 0, none⟩), .int .i64 (IntKind.i64.wrap ((from_ : Int) + (i : Int))), .slice (some ⟨gg, 0, none⟩) 128 c] w5 fun r w6 => ∃ z, r = .returned (.int .i64 z) ∧ Hid (Sx w6 X (fun k => F k ∨ (w.heap.size ≤ k ∧ k < w6.heap.size)) n (j + 1) (svs e from_ pl first (ckL tl) (fun k => sh (sh f (pl * 112)) (k * 112)) (j + 1))) ∧ Hid (Part F w w6) ∧ Part (fun k => F k ∨ (w.heap.size ≤ k ∧ k < wr.heap.size)) wr w6)) := fun wq hq => by
        have hF9 : From wq (some ⟨g, i * 112, none⟩) u (sh f (i * 112)) := .inr ⟨_, rfl, fun k hk => by
          rw [Addr.add_lit]
          exact HF.out wq (HPr.out.trans (Part.ofBelow hq) (fun _ _ h => h)) (i * 112 + k) (by omega)⟩
        refine (zSector i first u (cs - i * 112) (some ⟨g, i * 112, none⟩) (sh f (i * 112)) wq (by omega) hfi hu1 hF9 (fun h => by cases h) (fun k => HBy.out _)).mono ?_
        rintro r w5 ⟨gg, c, rfl, ho, hc, b5⟩
        have b25 : Below wr.heap.size wr w5 := hq.trans (b5.mono hq.size)
        have s5 := b25.size
        refine ⟨gg, c, rfl, Part.ofBelow b25, ?_⟩
        obtain ⟨a9, c9, e9, hf9, _⟩ := own_any ho.out
        cases e9
        show Calls _ _ _ _ _
        rw [show IntKind.i64.wrap ((from_ : Int) + (i : Int)) = ((from_ + i : Nat) : Int) by rw [IntKind.wrap_i64]; omega]
        refine (sxWrite X (from_ + i) n j _ _ gg 0 c _ w5 (HSr.out.below b25) (by omega) (by omega) hf9 (sec_by (hdL_by hu1) (fun k => HBy.out _) _ _)).mono ?_
        rintro r w6 ⟨rfl, s6, p6⟩
        have z6 := p6.size
        refine ⟨_, rfl, ?_, ?_, (Part.ofBelow b25).trans p6 (fun _ _ h => h)⟩
        · have hsv : svs e from_ pl first (ckL tl) (fun k => sh (sh f (pl * 112)) (k * 112)) (j + 1) = ovs (svs e from_ pl first (ckL tl) (fun k => sh (sh f (pl * 112)) (k * 112)) j) (from_ + i) (lsec i first u (sh f (i * 112))) := by
            rw [svs, hi, hu]
            congr 2
            funext k
            simp only [sh]
            congr 1
            omega
          show Sx _ _ _ _ _ _
          rw [hsv]
          refine s6.grow (fun k hk => ?_) (fun k hk => ?_)
          · rcases hk with (hk | hk) | hk
            · exact .inl hk
            · exact .inr (by omega)
            · exact .inr (by omega)
          · rcases hk with hk | hk
            · have := hFl _ hk; omega
            · exact hk.2
        · refine (HPr.out.trans (Part.ofBelow b25) (fun _ _ h => h)).trans p6 (fun k hk h => ?_)
          rcases h with h | h
          · exact h
          · omega
      have hcase : ((tot : Int) ≤ (i : Int) * 112 + 112 ∧ i * 112 + u = tot ∧ tot - i * 112 = u) ∨ (¬ (tot : Int) ≤ (i : Int) * 112 + 112 ∧ u = 112 ∧ i * 112 + 112 - i * 112 = u) := by omega
      have hfn : (from_ : Int) ≤ 4096 := by omega
      have hfn0 : (0 : Int) ≤ (from_ : Int) := by omega
      have HE : Hid (i + 1 = pl + (j + 1) ∧ j + 1 ≤ N ∧ pl + N - (i + 1) < pl + N - i) := (by omega : i + 1 = pl + (j + 1) ∧ j + 1 ≤ N ∧ pl + N - (i + 1) < pl + N - i)
      have HC0 : Hid (wr.cell? ⟨M, 0, none⟩ = some (.pointer (some ⟨X, 0, none⟩))) := y0
      rcases hcase with ⟨hc9, hu4, q5⟩ | ⟨hc9, hu4, q5⟩
      all_goals
        go_wp2_with fail
        go_quiet (fail)
        try rw [q5]
        have k8 : Below wr.heap.size wr (wr.drewN nq).drew := (blw_drewN nq (Below.refl _ wr)).drew
        have kP : Part (fun k => F k ∨ (w.heap.size ≤ k ∧ k < wr.heap.size)) wr (wr.drewN nq).drew := Part.ofBelow k8
        clear HF HBy HPr HSr HS1 HP1 bq hu3 q1 q2 q3 q4 q5 hc9 hA hN hN2 hp hpt hu1 hu2 hu4 hlt hj hi hu hne hq hd0 y0 y1 y3 y4 y6 HC0 hT htc hcs hfi htn hMl hMr hzr hMn hFl hgF hMF hfl
        go_wp2_with fail
        go_region_held2 (fun wq => wq.cell? ⟨M, 0, none⟩ = some (.pointer (some ⟨X, 0, none⟩)) ∧ wq.cell? ⟨M, 1, none⟩ = some (.int .i64 (from_ : Int)) ∧ wq.cell? ⟨M, 3, none⟩ = some (.int .i64 (first : Int))) (exact HC.out _ (by assumption)) (first | (go_at_call 75; refine (CS.out _ k8).mono ?_; rintro r w5 ⟨gg, c, rfl, p5, K5⟩) | (go_at_call 74; refine K5.out.mono ?_; rintro r w6 ⟨zz, rfl, HS6, HP6, p6x⟩))
        all_goals
          clear CS HC K5 kP k8
          go_wp2
          go_roundw
          case rel => exact ⟨j + 1, HE.out.2.1, congrArg (Value.int .i64) (by rw [← HE.out.1]; omega), HS6, HP6⟩
          case measure => have := HE.out; simp [intOf]; omega
    · have hA : ¬ (i : Int) * 112 < (tot : Int) := by omega
      have hjN : j = N := by omega
      subst hjN
      go_wp2_with fail
      have hzr := HPr.out.size
      refine (sxFlush X n j _ _ wr HSr.out (by omega)).mono ?_
      rintro r w7 ⟨rfl, s7, p7⟩
      have z7 := p7.size
      have P7 : Part F w w7 := HPr.out.trans p7 (fun k hk h => by
        rcases h with h | h
        · exact h
        · omega)
      have Z7 : Zl w7 M X from_ sectors first last forced (.slice (some ⟨g, 0, none⟩) tot cs) done := H.out.part P7 hMF
      have HS7 : Hid (Sx w7 X (fun k => F k ∨ (w.heap.size ≤ k ∧ k < w7.heap.size)) n 0 (svs e from_ pl first (ckL tl) (fun k => sh (sh f (pl * 112)) (k * 112)) j)) := s7.grow (fun k hk => by
        rcases hk with (hk | hk) | hk
        · exact .inl hk
        · exact .inr (by omega)
        · exact .inr (by omega)) (fun k hk => by
        rcases hk with hk | hk
        · have := hFl _ hk; omega
        · exact hk.2)
      have HZ7 : Hid (Zl w7 M X from_ sectors first last forced (.slice (some ⟨g, 0, none⟩) tot cs) done) := Z7
      have HP7 : Hid (Part F w w7) := P7
      obtain ⟨_, _, _, _, c4, c5, c6, c7⟩ := zget Z7
      obtain ⟨_, _, _, _, d4, d5, d6, d7⟩ := zget (Z7.below (blw_drewN 1 (Below.refl _ w7)))
      have f7 : w7.frozen? ⟨M, 7, none⟩ = false := cells_free Z7 7
      have f5 : w7.frozen? ⟨M, 5, none⟩ = false := cells_free Z7 5
      have e7 : w7.drew.frozen? ⟨M, 7, none⟩ = false := f7
      have e5 : w7.drew.frozen? ⟨M, 5, none⟩ = false := f5
      clear Z7 P7 p7 s7 HSr HPr y0 y1 y3 y4 y6 H HF HBy HS1 HP1 bq hFl hi hN hN2 hp hlt hne hq hpt hgF
      go_wp2_with fail
      go_region
      obtain ⟨W1, hW1⟩ : ∃ W1, ((w7.setCell ⟨M, 7, none⟩ (.int .i64 (tot : Int))).setCell ⟨M, 5, none⟩ (.int .i64 (last : Int))).drew = W1 := ⟨_, rfl⟩
      rw [hW1]
      have H1 : Zl W1 M X from_ sectors first last last (.slice (some ⟨g, 0, none⟩) tot cs) tot := by
        rw [← hW1]
        exact heap_set_at (heap_set_at HZ7.out _) _
      have P1 : Part (fun k => k = M) w7 W1 := by rw [← hW1]; exact (((Part.refl (fun k => k = M) w7).setCell (p := ⟨M, 7, none⟩) (fun _ => rfl) _).setCell (p := ⟨M, 5, none⟩) (fun _ => rfl) _).drewN 1
      have hs1 : W1.heap.size = w7.heap.size := by rw [← hW1]; simp [World.drew]
      have HR : Hid (Zl W1 M X from_ sectors first last last (.slice (some ⟨g, 0, none⟩) tot cs) tot ∧ Sx W1 X (fun k => F k ∨ (w.heap.size ≤ k ∧ k < W1.heap.size)) n 0 (svs e from_ pl first (ckL tl) (fun k => sh (sh f (pl * 112)) (k * 112)) j) ∧ Part (fun k => F k ∨ k = M) w W1) := by
        refine ⟨H1, ?_, ?_⟩
        · rw [hs1]
          exact HS7.out.part P1 (fun k hk e => by
            subst e
            rcases hk with hk | hk
            · exact hMF hk
            · omega)
        · exact (HP7.out.mono (fun k _ h => .inl h)).trans P1 (fun k _ h => .inr h)
      clear hW1 H1 P1 hs1 HS7 HZ7 HP7 c4 c5 c6 c7 d4 d5 d6 d7 f5 f7 e5 e7
      go_wp2
      go_ret
      exact ⟨rfl, HR⟩
end Go.Proofs.YtmjoklppibfdmaaDoor
