/-
  Contract of the document's own log: clean. Conditions: the log and its bytes lie apart from its disk; the sectors are the disk's, nothing pends.
-/
import Derived.Test.YtmjoklppibfdmaaDoorLogZg
import Derived.Test.YtmjoklppibfdmaaDoorLogO
import Derived.Deep.DeepCutAuto
namespace Go.Proofs.YtmjoklppibfdmaaDoor
open Go.RowKit
set_option linter.unusedVariables false

set_option maxRecDepth 100000 in
set_option maxHeartbeats 4000000 in
theorem zClean {w : World} {M X from_ sectors first last forced n size cs used tot : Nat} {a0 : Option Addr} {F : Nat → Prop} {e : Nat → Int} (h : Zl w M X from_ sectors (max first 1) last forced (.slice a0 size cs) size) (hS : Sx w X F n 0 e) (hMF : ¬ F M) (ha : a0 = none ∧ cs = 0 ∨ ∃ g, a0 = some ⟨g, 0, none⟩ ∧ ¬ F g) (hf : From w a0 size (lg (from0 e from_))) (htc : tot ≤ cs) (hcs : cs ≤ 9223372036854775807) (hst : size ≤ tot) (htu : tot ≤ used * 112) (hu0 : used = 0 ↔ first = 0) (hus : used ≤ sectors) (hs1 : 1 ≤ sectors) (hp : from_ + sectors ≤ n) (hfi : first ≤ 4611686018427387904) :
    Calls Tryd.prog 68 #[.pointer (some ⟨M, 0, none⟩), .int .i64 (used : Int), .int .i64 (tot : Int)] w fun r w' => ∃ e', r = .returned (.tuple #[]) ∧ Hid (Sx w' X (fun k => F k ∨ (w.heap.size ≤ k ∧ k < w'.heap.size)) n 0 e' ∧ Cleaned e e' from_ sectors first tot size ∧ Part F w w') := by
  obtain ⟨n1, n2⟩ := hS.n2
  have hby := hS.by_
  have hFl := hS.lt
  have hMl : M < w.heap.size := (Array.getElem?_eq_some_iff.1 h).1
  obtain ⟨c0, c1, c2, c3, c4, c5, c6, c7⟩ := zget h
  obtain ⟨N8, hN8⟩ : ∃ N8, nxt first size = N8 := ⟨_, rfl⟩
  have HN8 : Hid (nxt first size = N8) := hN8
  have H : Hid (Zl w M X from_ sectors (max first 1) last forced (.slice a0 size cs) size) := h
  have HS : Hid (Sx w X F n 0 e) := hS
  have HF : Hid (From w a0 size (lg (from0 e from_))) := hf
  have HA : Hid (a0 = none ∧ cs = 0 ∨ ∃ g, a0 = some ⟨g, 0, none⟩ ∧ ¬ F g) := ha
  have hN8b : N8 ≤ sectors := by rw [← hN8]; unfold nxt; split <;> omega
  clear h hS hf ha
  go_enter Tryd.func68, Tryd.ntmps68
  go_upto_region 1 with fail
  go_cut [7] (fun s7 wc => s7 = .int .i64 (N8 : Int) ∧ wc = w)
  case first =>
    by_cases h0 : used = 0
    · have h1 : size = 0 := by omega
      have h2 : tot = 0 := by omega
      have HN : Hid ((N8 : Int) = 0) := by rw [← hN8]; unfold nxt; rw [if_pos (hu0.1 h0)]; rfl
      subst h0 h1 h2
      clear hN8 hu0 htu hst
      go_wp2_with fail
      all_goals
        go_meet
        exact ⟨congrArg (Value.int .i64) (by have := HN.out; omega), rfl⟩
    · have hu1 : (1 : Int) ≤ (used : Int) := by omega
      by_cases hs0 : size = 0
      · have HN : Hid ((N8 : Int) = 1) := by rw [← hN8]; unfold nxt; rw [if_neg (fun h => h0 (hu0.2 h)), hs0]; rfl
        subst hs0
        clear hN8 hu0 htu hst
        go_wp2_with fail
        all_goals
          go_meet
          exact ⟨congrArg (Value.int .i64) (by have := HN.out; omega), rfl⟩
      · have hN9 : ((size : Int) + 111) / 112 = (N8 : Int) := by
          rw [← hN8]; unfold nxt; rw [if_neg (fun h => h0 (hu0.2 h))]; omega
        have h1 : (1 : Int) ≤ (N8 : Int) := by omega
        have h2 : (N8 : Int) ≤ (used : Int) := by omega
        have hz : (size : Int) ≤ 458752 := by omega
        have hz0 : (0 : Int) ≤ (size : Int) := by omega
        clear hN8 hu0 htu hst h0 hs0
        go_wp2_with fail
        all_goals
          go_meet
          exact ⟨congrArg (Value.int .i64) (by omega), rfl⟩
  case rest =>
    obtain ⟨rfl, hw⟩ := hcut
    obtain rfl : w = wc := hw.symm
    clear hw
    have HS0 : Hid (Sx w X (fun k => F k ∨ (w.heap.size ≤ k ∧ k < w.heap.size)) n 0 e) := HS.out.grow (fun k hk => .inl hk) (fun k hk => by
      rcases hk with hk | hk
      · exact hFl k hk
      · exact hk.2)
    go_upto_region 2 with fail
    go_cut [8] (fun s8 wd => ∃ (a' : Option Addr) (l' c' : Nat), s8 = .slice a' l' c' ∧ wd = w ∧ Hid (l' = size - (N8 - 1) * 112) ∧ Hid (From w a' l' (sh (lg (from0 e from_)) ((N8 - 1) * 112))) ∧ Hid (a' = none → c' = 0))
    case first =>
      have hN1 : N8 = 0 ∨ N8 = 1 ∨ 1 < N8 := by omega
      have hN0 : Hid ((N8 - 1) * 112 ≤ size) := by
        show (N8 - 1) * 112 ≤ size
        rw [← hN8]; unfold nxt; split <;> omega
      have hN5 : N8 = 0 ∨ N8 = 1 ∨ (N8 - 1) * 112 < size := by rw [← hN8]; unfold nxt; split <;> omega
      have HG : Hid (∀ g, a0 = some ⟨g, 0, none⟩ → From w (some ⟨g, (N8 - 1) * 112, none⟩) (size - (N8 - 1) * 112) (sh (lg (from0 e from_)) ((N8 - 1) * 112))) := fun g hg => by
        rcases HF.out with ⟨h, _⟩ | ⟨x, hx, hcx⟩
        · rw [hg] at h; cases h
        · rw [hg] at hx
          cases hx
          refine .inr ⟨_, rfl, fun i hi => ?_⟩
          have := hcx ((N8 - 1) * 112 + i) (by omega)
          rw [Addr.add_lit] at this ⊢
          rw [Nat.zero_add] at this
          exact this
      rcases HA.out with ⟨rfl, hc0⟩ | ⟨g, rfl, _⟩
      · subst hc0
        obtain rfl : size = 0 := by omega
        have hN2 : N8 = 0 ∨ N8 = 1 := by omega
        have HE : Hid (∀ m, From w none 0 m) := fun m => .inl ⟨rfl, rfl⟩
        clear hN8 HN8 H HS HS0 HF HA HG hN1 hN5 hN0 hu0 htu hst htc
        rcases hN2 with rfl | rfl
        all_goals
          go_wp2_with fail
          all_goals
            go_meet
            exact ⟨none, 0, 0, rfl, rfl, rfl, HE.out _, fun _ => rfl⟩
      · have HG2 := HG.out g rfl
        by_cases hc0 : cs = 0
        · subst hc0
          obtain rfl : size = 0 := by omega
          have hN2 : N8 = 0 ∨ N8 = 1 := by omega
          have HE : Hid (∀ x m, From w (some x) 0 m) := fun x m => .inr ⟨x, rfl, fun i hi => by omega⟩
          clear hN8 HN8 H HS HS0 HF HA HG HG2 hN1 hN5 hN0 hu0 htu hst htc
          rcases hN2 with rfl | rfl
          all_goals
            go_wp2_with fail
            all_goals
              go_meet
              exact ⟨_, 0, 0, rfl, rfl, rfl, HE.out _ _, fun h => by cases h⟩
        · have hcp : (0 : Int) < (cs : Int) := by omega
          have hsz : (size : Int) ≤ (cs : Int) := by omega
          rcases hN1 with rfl | rfl | hN1
          · have HE : Hid (From w (some ⟨g, 0, none⟩) size (sh (lg (from0 e from_)) 0)) := by
              show From _ _ _ _
              simpa using HG2
            clear hN8 HN8 H HS HS0 HF HA HG HG2 hN5 hN0 hu0 htu hst htc
            go_wp2_with fail
            all_goals
              go_meet
              exact ⟨some ⟨g, 0, none⟩, size, cs, rfl, rfl, rfl, HE.out, fun h => by cases h⟩
          · have HE : Hid (From w (some ⟨g, 0, none⟩) size (sh (lg (from0 e from_)) 0)) := by
              show From _ _ _ _
              simpa using HG2
            clear hN8 HN8 H HS HS0 HF HA HG HG2 hN5 hN0 hu0 htu hst htc
            go_wp2_with fail
            all_goals
              go_meet
              exact ⟨some ⟨g, 0, none⟩, size, cs, rfl, rfl, rfl, HE.out, fun h => by cases h⟩
          · obtain ⟨q, rfl⟩ : ∃ q, N8 = q + 1 := ⟨N8 - 1, by omega⟩
            rw [Nat.add_sub_cancel] at HG2 hN5
            obtain ⟨v, rfl⟩ : ∃ v, size = q * 112 + v := ⟨size - q * 112, by have := hN0.out; omega⟩
            rw [Nat.add_sub_cancel_left] at HG2
            have HE : Hid (From w (some ⟨g, q * 112, none⟩) v (sh (lg (from0 e from_)) (q * 112))) := HG2
            have q0 : (0 : Int) < (q : Int) := by omega
            have q9 : (q : Int) ≤ 4096 := by omega
            have v0 : (0 : Int) ≤ (v : Int) := by omega
            have r1 : (q : Int) * 112 + (v : Int) ≤ (cs : Int) := by omega
            have r2 : ¬ cs = q * 112 := by omega
            have r3 : (q : Int) * 112 ≤ (q : Int) * 112 + (v : Int) := by omega
            have r4 : ((q : Int) * 112).toNat = q * 112 := by omega
            have r5 : (0 : Int) ≤ (q : Int) * 112 := by omega
            clear hN8 HN8 H HS HS0 HF HA HG HG2 hN5 hN0 hu0 htu hst htc hN1 hFl hMF hus hs1 hp hfi hN8b hMl hby c4 c5 c2 n1 n2
            go_wp2_with fail
            all_goals
              go_meet
              exact ⟨some ⟨g, q * 112, none⟩, v, cs - q * 112, rfl, rfl, by show v = q * 112 + v - (q + 1 - 1) * 112; omega, HE.out, fun h => by cases h⟩
    case rest =>
      obtain ⟨a', l', c', rfl, hw, HL, HFr, HCz⟩ := hcut
      obtain rfl : w = wc := hw.symm
      clear hw
      go_upto_region 3 with fail
      go_cut [44] (fun s44 wd => s44 = .bool (decide (Trunc first tot size)) ∧ wd = w)
      case first =>
        obtain ⟨bt, hbt⟩ : ∃ bt, decide (Trunc first tot size) = bt := ⟨_, rfl⟩
        have HBt : Hid (decide (Trunc first tot size) = bt) := hbt
        by_cases h0 : used = 0
        · have HB : Hid (bt = false) := by rw [← hbt]; exact decide_eq_false (fun h => by have := h.1; omega)
          have hz : N8 = 0 := by rw [← hN8]; unfold nxt; rw [if_pos (hu0.1 h0)]
          subst hz
          clear hN8 HN8 H HS HS0 HF HA hbt
          go_wp2_with fail
          all_goals
            go_meet
            exact ⟨by rw [HBt.out, HB.out], rfl⟩
        · obtain ⟨q, hq⟩ : ∃ q, (size - 1) / 112 = q := ⟨_, rfl⟩
          have hN9 : N8 = q + 1 := by rw [← hN8]; unfold nxt; rw [if_neg (fun h => h0 (hu0.2 h)), hq]
          have hls : q * 112 + l' = size := by have := HL.out; rw [hN9, Nat.add_sub_cancel] at this; omega
          have hB : bt = decide (size < tot ∧ size < q * 112 + 112) := by
            rw [← hbt]
            refine decide_eq_decide.2 ⟨fun h => ?_, fun h => ⟨by have := hu0; omega, Nat.lt_min.2 ⟨h.1, by rw [hq]; exact h.2⟩⟩⟩
            have h1 := (Nat.lt_min.1 h.2).1
            have h2 := (Nat.lt_min.1 h.2).2
            rw [hq] at h2
            exact ⟨h1, h2⟩
          have HB : Hid (bt = decide (size < tot ∧ size < q * 112 + 112)) := hB
          have q0 : (0 : Int) < (q : Int) + 1 := by omega
          have q9 : (q : Int) ≤ 4096 := by omega
          have l0 : (0 : Int) ≤ (l' : Int) := by omega
          have l9 : (l' : Int) ≤ 458752 := by omega
          have t0 : (0 : Int) ≤ (tot : Int) := by omega
          have t9 : (tot : Int) ≤ 458752 := by omega
          have q00 : (0 : Int) ≤ (q : Int) := by omega
          subst hN9
          clear hB hbt
          have hs9 : Hid (q * 112 + l' = size) := hls
          have hmt : (tot : Int) ≤ ((q : Int) + 1) * 112 ∨ ¬ (tot : Int) ≤ ((q : Int) + 1) * 112 := by omega
          have hm2 : (q : Int) * 112 + (l' : Int) < (tot : Int) ∨ ¬ (q : Int) * 112 + (l' : Int) < (tot : Int) := by omega
          have hm3 : (q : Int) * 112 + (l' : Int) < ((q : Int) + 1) * 112 ∨ ¬ (q : Int) * 112 + (l' : Int) < ((q : Int) + 1) * 112 := by omega
          clear hN8 HN8 H HS HS0 HF HA hls hq hFl hMF hus hs1 hp hfi hN8b hMl hby c0 c1 c3 c4 c5 c6 c7 c2 n1 n2 hu0 htu hst htc h0
          have hX : (Hid (bt = true) ∧ size < tot ∧ size < q * 112 + 112) ∨ (Hid (bt = false) ∧ ¬ (size < tot ∧ size < q * 112 + 112)) := by
            by_cases h : size < tot ∧ size < q * 112 + 112
            · exact .inl ⟨HB.out.trans (decide_eq_true h), h⟩
            · exact .inr ⟨HB.out.trans (decide_eq_false h), h⟩
          rcases hX with ⟨HV, hX⟩ | ⟨HV, hX⟩
          all_goals
            rcases hmt with hmt | hmt
            all_goals
              rcases hm2 with hm2 | hm2
              all_goals
                rcases hm3 with hm3 | hm3
                all_goals
                  first
                  | (exfalso; have := hs9.out; omega)
                  | (clear hX HB
                     go_wp2_with fail
                     all_goals
                       go_meet
                       exact ⟨by first | (rw [HBt.out, HV.out]; done) | (rw [HBt.out, HV.out]; exact congrArg Value.bool (decide_eq_false (by omega))) | (rw [HBt.out, HV.out]; exact congrArg Value.bool (decide_eq_true (by omega))), rfl⟩)
      case rest =>
        obtain ⟨rfl, hw⟩ := hcut
        obtain rfl : w = wc := hw.symm
        clear hw
        go_upto_if 44 with fail
        go_cut [6] (fun s6 wd => ∃ (eK : Nat → Int) (b : Bool), s6 = .bool b ∧ Hid (Sx wd X (fun k => F k ∨ (w.heap.size ≤ k ∧ k < wd.heap.size)) n (if b then 1 else 0) eK) ∧ Hid (CleanTo e eK from_ sectors first tot size N8) ∧ Hid (Part F w wd))
        case first =>
          have HP0 : Hid (Part F w w) := Part.refl _ _
          by_cases hT : Trunc first tot size
          · have hTd : decide (Trunc first tot size) = true := decide_eq_true hT
            obtain ⟨q, hq⟩ : ∃ q, (size - 1) / 112 = q := ⟨_, rfl⟩
            have hT0 := hT.1
            have hT1 := (Nat.lt_min.1 hT.2).1
            have hT2 := (Nat.lt_min.1 hT.2).2
            rw [hq] at hT2
            have hN9 : N8 = q + 1 := by rw [← hN8]; unfold nxt; rw [if_neg (by omega), hq]
            have hqs : q < sectors := by omega
            subst hN9
            have hL : size - q * 112 = l' := by have := HL.out; rw [Nat.add_sub_cancel] at this; omega
            have hFr : From w a' l' (sh (lg (from0 e from_)) (q * 112)) := by have := HFr.out; rwa [Nat.add_sub_cancel] at this
            have hl9 : l' ≤ 112 := by omega
            have HC1 : Hid (CleanTo e (ovs e (from_ + q) (lsec q first l' (sh (lg (from0 e from_)) (q * 112)))) from_ sectors first tot size (q + 1)) := by
              have := CleanTo.trunc e from_ sectors first tot size hT (by rw [hq]; exact hqs)
              rw [hq, hN8, hL] at this
              exact this
            rw [show max first 1 = first by omega] at H c3
            have HC : Hid (∀ wq, Part F w wq → wq.cell? ⟨M, 0, none⟩ = some (.pointer (some ⟨X, 0, none⟩)) ∧ wq.cell? ⟨M, 1, none⟩ = some (.int .i64 (from_ : Int)) ∧ wq.cell? ⟨M, 3, none⟩ = some (.int .i64 (first : Int))) := fun wq hq => by
              obtain ⟨y0, y1, _, y3, _⟩ := zget (H.out.part hq hMF)
              exact ⟨y0, y1, y3⟩
            have CS : Hid (∀ wq, Below w.heap.size w wq → ∀ (z : Int), z = (q : Int) → Calls Tryd.prog 75 #[.int .i64 z, .int .i64 (first : Int), .slice a' l' c'] wq fun r w5 => ∃ gg c, r = .returned (.slice (some ⟨gg, 0, none⟩) 128 c) ∧ Part F w w5 ∧ Hid (∀ z : Int, z = ((from_ + q : Nat) : Int) → Calls Tryd.prog 74 #[.pointer (some ⟨X, 0, none⟩), .int .i64 z, .slice (some ⟨gg, 0, none⟩) 128 c] w5 fun r w6 => ∃ z, r = .returned (.int .i64 z) ∧ Hid (Sx w6 X (fun k => F k ∨ (w.heap.size ≤ k ∧ k < w6.heap.size)) n 1 (ovs e (from_ + q) (lsec q first l' (sh (lg (from0 e from_)) (q * 112))))) ∧ Hid (Part F w w6) ∧ Part F w w6)) := fun wq hqb z hz => by
              subst hz
              refine (zSector q first l' c' a' (sh (lg (from0 e from_)) (q * 112)) wq (by omega) (by omega) hl9 (hFr.below hqb (Nat.le_refl _)) HCz.out (fun i => hby _)).mono ?_
              rintro r w5 ⟨gg, c, rfl, ho, hc, b5⟩
              have b25 : Below w.heap.size w w5 := hqb.trans (b5.mono hqb.size)
              have s5 := b25.size
              refine ⟨gg, c, rfl, Part.ofBelow b25, fun z hz => ?_⟩
              subst hz
              obtain ⟨a9, c9, e9, hf9, _⟩ := own_any ho.out
              cases e9
              refine (sxWrite X (from_ + q) n 0 F e gg 0 c _ w5 (HS.out.below b25) (by omega) (by omega) hf9 (sec_by (hdL_by hl9) (fun i => hby _) _ _)).mono ?_
              rintro r w6 ⟨rfl, s6, p6⟩
              have z6 := p6.size
              have p26 : Part F w w6 := (Part.ofBelow b25).trans p6 (fun _ _ h => h)
              refine ⟨_, rfl, ?_, p26, p26⟩
              refine s6.grow (fun k hk => ?_) (fun k hk => ?_)
              · rcases hk with hk | hk
                · exact .inl hk
                · exact .inr (by omega)
              · rcases hk with hk | hk
                · have := hFl _ hk; omega
                · exact hk.2
            have q0 : (0 : Int) ≤ (q : Int) := by omega
            have q9 : (q : Int) ≤ 4096 := by omega
            have fr0 : (0 : Int) ≤ (from_ : Int) := by omega
            have fr9 : (from_ : Int) ≤ 4096 := by omega
            have k8 : Below w.heap.size w w.drew := (Below.refl _ w).drew
            have kP : Part F w w.drew := Part.ofBelow k8
            rw [hTd]
            clear hN8 HN8 H HS HS0 HF HA hT hTd hT0 hT1 hT2 hq hqs hFl hMF htc htu hst hu0 hus hs1 hp hfi hN8b hMl hby c0 c1 c2 c3 c4 c5 c6 c7 HP0 n1 n2 HL HFr HCz hL hFr hl9
            go_wp2_with fail
            go_region_held2 (fun wq => wq.cell? ⟨M, 0, none⟩ = some (.pointer (some ⟨X, 0, none⟩)) ∧ wq.cell? ⟨M, 1, none⟩ = some (.int .i64 (from_ : Int)) ∧ wq.cell? ⟨M, 3, none⟩ = some (.int .i64 (first : Int))) (exact HC.out _ (by assumption)) (first | (go_at_call 75; refine (CS.out _ k8 _ (by first | rfl | omega | (simp only [IntKind.wrap_i64]; omega))).mono ?_; rintro r w5 ⟨gg, c, rfl, p5, K5⟩) | (go_at_call 74; refine (K5.out _ (by first | rfl | omega | (simp only [IntKind.wrap_i64]; omega))).mono ?_; rintro r w6 ⟨zz, rfl, HS6, HP6, p6x⟩))
            all_goals
              clear CS HC K5 kP k8
              go_wp2_with fail
              go_meet
              exact ⟨_, true, rfl, HS6.out, HC1.out, HP6.out⟩
          · have hTd : decide (Trunc first tot size) = false := decide_eq_false hT
            have HC0 : Hid (CleanTo e e from_ sectors first tot size N8) := by rw [← hN8]; exact CleanTo.start e from_ sectors first tot size hT
            rw [hTd]
            clear hT hN8
            go_wp2_with fail
            go_meet
            exact ⟨e, false, rfl, HS0.out, HC0.out, HP0.out⟩
        case rest =>
          obtain ⟨eK, b, rfl, HSK, HCK, HPK⟩ := hcut
          have HZ : Hid (∀ wq, Part F w wq → wq.cell? ⟨M, 0, none⟩ = some (.pointer (some ⟨X, 0, none⟩)) ∧ wq.cell? ⟨M, 1, none⟩ = some (.int .i64 (from_ : Int)) ∧ wq.cell? ⟨M, 2, none⟩ = some (.int .i64 (sectors : Int))) := fun wq hq => by
            obtain ⟨y0, y1, y2, _⟩ := zget (H.out.part hq hMF)
            exact ⟨y0, y1, y2⟩
          clear H HS HS0 HF HA HL HFr HCz c0 c1 c2 c3 c4 c5 c6 c7 hN8
          go_wp2_with fail
          go_loopw [6, 9] (fun s6 s9 wr => ∃ (k : Nat) (e1 : Nat → Int) (b : Bool), s9 = .int .i64 (k : Int) ∧ N8 ≤ k ∧ k ≤ sectors ∧ s6 = .bool b ∧ Hid (Sx wr X (fun k => F k ∨ (w.heap.size ≤ k ∧ k < wr.heap.size)) n (if b then k + 1 else 0) e1) ∧ Hid (CleanTo e e1 from_ sectors first tot size k) ∧ Hid (Part F w wr)) (fun _ k _ => sectors - (intOf k).toNat)
          case atStart => exact ⟨N8, eK, b, rfl, Nat.le_refl _, hN8b, rfl, HSK.out.mono (by cases b <;> simp), HCK, HPK⟩
          case round =>
            obtain ⟨k, e1, b, rfl, hk1, hk2, rfl, HSr, HCr, HPr⟩ := hrel
            obtain ⟨z0, z1, z2⟩ := HZ.out wr HPr.out
            have hsr := HPr.out.size
            by_cases hlt : k < sectors
            · have hlt' : (k : Int) < (sectors : Int) := by omega
              have hMb : (if b then k + 1 else 0) ≤ 5000 := by split <;> omega
              have hnx : nxt first size ≤ k := by rw [HN8.out]; exact hk1
              obtain ⟨sK, hsK⟩ : ∃ sK, sh e1 ((from_ + k) * 128) = sK := ⟨_, rfl⟩
              have hsec : ∀ i, i < 128 → sK i = e ((from_ + k) * 128 + i) := fun i hi => by
                have := HCr.out.1 k hlt i hi
                rw [if_neg (by omega)] at this
                rw [← this, ← hsK]
                rfl
              have HSec : Hid (∀ i, i < 128 → sK i = e ((from_ + k) * 128 + i)) := hsec
              have HBy : Hid (∀ i, 0 ≤ sK i ∧ sK i ≤ 255) := by
                show ∀ i, 0 ≤ sK i ∧ sK i ≤ 255
                rw [← hsK]
                exact fun i => HSr.out.by_ _
              have CR : Hid (∀ wq, Below wr.heap.size wr wq → ∀ z : Int, z = ((from_ + k : Nat) : Int) → Calls Tryd.prog 65 #[.pointer (some ⟨X, 0, none⟩), .int .i64 z] wq fun r w' => ∃ g c, r = .returned (.tuple #[.slice (some ⟨g, 0, none⟩) 128 c, .int .i64 0]) ∧ Hid (Own w' wr.heap.size (.slice (some ⟨g, 0, none⟩) 128 c) (lst sK 128)) ∧ Hid (Below wr.heap.size wr w') ∧ Part F w w') := fun wq hq z hz => by
                subst hz
                refine (sxRead X (from_ + k) n _ _ e1 wq (HSr.out.below hq) (by omega) (by omega)).mono ?_
                rintro r w1 ⟨g, c, rfl, o1, h1, h2, b1⟩
                rw [hsK] at o1
                exact ⟨g, c, rfl, o1.out.mono hq.size, hq.trans (b1.mono hq.size), HPr.out.trans (Part.ofBelow (F := F) (hq.trans (b1.mono hq.size))) (fun _ _ h => h)⟩
              have k8 : Below wr.heap.size wr wr.drew := (Below.refl _ wr).drew
              have kP : Part F w wr.drew := HPr.out.drewN 1
              clear hsec hsK
              go_wp2_with fail
              go_region_held2 (fun wq => wq.cell? ⟨M, 0, none⟩ = some (.pointer (some ⟨X, 0, none⟩)) ∧ wq.cell? ⟨M, 1, none⟩ = some (.int .i64 (from_ : Int)) ∧ wq.cell? ⟨M, 2, none⟩ = some (.int .i64 (sectors : Int))) (exact HZ.out _ (by assumption)) ((go_at_call 65; refine (CR.out _ k8 _ (by first | rfl | omega | (simp only [IntKind.wrap_i64]; omega))).mono ?_; rintro r w1 ⟨g, c, rfl, O1, B1, p1⟩))
              all_goals
                obtain ⟨TB, hTB⟩ : ∃ TB, strF sK 128 = TB := ⟨_, rfl⟩
                obtain ⟨TZ, hTZ⟩ : ∃ TZ, strF (fun _ => 0) 128 = TZ := ⟨_, rfl⟩
                obtain ⟨bb, hbb⟩ : ∃ bb, decide (Nil sK 128) = bb := ⟨_, rfl⟩
                have HBB : Hid ((!TB.toList == TZ.toList) = !bb) := by
                  show (!TB.toList == TZ.toList) = !bb
                  rw [← hTB, ← hTZ, ← hbb]
                  have hz : ∀ i : Nat, 0 ≤ (fun _ : Nat => (0 : Int)) i ∧ (fun _ : Nat => (0 : Int)) i ≤ 255 := fun _ => ⟨Int.le_refl 0, by show (0 : Int) ≤ 255; decide⟩
                  by_cases e9 : Nil sK 128
                  · have : strF sK 128 = strF (fun _ => 0) 128 := by rw [strF, strF, lstI_ext (g := fun _ => (0 : Int)) (fun i hi => e9 i hi)]
                    rw [this]
                    simp [e9]
                  · have h3 : (strF sK 128).toList ≠ (strF (fun _ => 0) 128).toList := fun h => e9 (fun i hi => lst_inj (strF_inj HBy.out hz (by
                      have p := Lib.strOfNums_toList (lst sK 128)
                      have q := Lib.strOfNums_toList (lst (fun _ => 0) 128)
                      exact ByteArray.ext (Array.toList_inj.1 (p.symm.trans (h.trans q))))) i hi)
                    simp [e9, h3]
                obtain ⟨MB, hMB⟩ : ∃ MB, madeCells #[.int .u8 0] 128 = MB := ⟨_, rfl⟩
                have hmk : ∀ w : World, (Instr.makeSlice 34 (.int .i64 128) (.int .i64 128)).run Tryd.prog w = .ok (.slice (some ⟨w.heap.size, 0, none⟩) 128 128) (w.alloc (.cells MB 5)) := fun w => by
                  rw [← hMB]
                  exact run_make_row' (P := Tryd.prog) 34 5 (.int .u8 0) 1 Tryd.underlying34 info5 rfl .i64 .i64 128 (by omega) (by omega) w
                have HMf : Hid (∀ (g : Nat) (v : World), v.heap[g]? = some (.cells MB 5 (0, 0)) → From v (some ⟨g, 0, none⟩) 128 (fun _ => 0)) := fun g v hv => by
                  refine .inr ⟨_, rfl, fun i hi => ?_⟩
                  rw [Addr.add_lit, Nat.zero_add, cells_at hv i, ← Array.getElem?_toList, ← hMB, made_bytes, List.getElem?_map, lst_get _ _ _ hi]
                  rfl
                have HCv : Hid (∀ wq, Below w1.heap.size w1 wq → ∀ cc, (convert 34 9 (.slice (some ⟨g, 0, none⟩) 128 cc)).run Tryd.prog wq = .ok (.string TB) wq) := fun wq hq cc => by
                  rw [← hTB]
                  exact conv_from cc ((own_from O1.out).below hq (Nat.le_refl _))
                have b1 : Below w1.heap.size w1 w1 := Below.refl _ _
                have hc0 : ∀ cc, (convert 34 9 (.slice (some ⟨g, 0, none⟩) 128 cc)).run Tryd.prog w1.drew = .ok (.string TB) w1.drew := HCv.out _ b1.drew
                have hc1 : ∀ cc, (convert 34 9 (.slice (some ⟨g, 0, none⟩) 128 cc)).run Tryd.prog (w1.drew.alloc (.cells MB 5)) = .ok (.string TB) (w1.drew.alloc (.cells MB 5)) := HCv.out _ (b1.drew.alloc (Nat.le_refl _) _)
                have hc2 : ∀ cc, (convert 34 9 (.slice (some ⟨g, 0, none⟩) 128 cc)).run Tryd.prog (w1.alloc (.cells MB 5)).drew = .ok (.string TB) (w1.alloc (.cells MB 5)).drew := HCv.out _ ((b1.alloc (Nat.le_refl _) _).drew)
                have hd1 : (convert 34 9 (.slice (some ⟨w1.heap.size, 0, none⟩) 128 128)).run Tryd.prog (w1.drew.alloc (.cells MB 5)) = .ok (.string TZ) (w1.drew.alloc (.cells MB 5)) := by
                  rw [← hTZ]
                  exact conv_from 128 (HMf.out _ _ (heap_alloc_at w1.drew _ _ rfl))
                have hd2 : (convert 34 9 (.slice (some ⟨w1.heap.size, 0, none⟩) 128 128)).run Tryd.prog (w1.alloc (.cells MB 5)).drew = .ok (.string TZ) (w1.alloc (.cells MB 5)).drew := by
                  rw [← hTZ]
                  exact conv_from 128 (HMf.out _ (w1.alloc (.cells MB 5)).drew (heap_alloc_at w1 _ _ rfl))
                have HNl : Hid (decide (Nil sK 128) = bb) := hbb
                clear CR k8 kP hTB hTZ hbb hMB b1
                go_wp2_with fail
                go_region
                rw [HBB.out]
                obtain ⟨W2, hW2⟩ : ∃ W2, (w1.alloc (Obj.cells MB 5)).drew = W2 := ⟨_, rfl⟩
                rw [hW2]
                have hB2 : Below wr.heap.size wr W2 := by
                  rw [← hW2]
                  exact B1.out.trans ((((Below.refl _ w1).alloc (Nat.le_refl _) _).drew).mono B1.out.size)
                have hs2 := hB2.size
                have hP2 : Part F w W2 := HPr.out.trans (Part.ofBelow hB2) (fun _ _ h => h)
                have hS2 := HSr.out.below hB2
                clear HBB hc0 hc1 hc2 hd1 hd2 HCv O1 B1 hW2 p1
                cases bb with
                | true =>
                  have HC2 : Hid (CleanTo e e1 from_ sectors first tot size (k + 1)) := HCr.out.blank hlt hnx (fun i hi => by rw [← HSec.out i hi]; exact (of_decide_eq_true HNl.out) i hi)
                  have HS2 : Hid (Sx W2 X (fun k => F k ∨ (w.heap.size ≤ k ∧ k < W2.heap.size)) n (if b then k + 1 + 1 else 0) e1) := (hS2.grow (fun k hk => hk.imp id (fun hk => by omega)) (fun k hk => by
                    rcases hk with hk | hk
                    · exact hS2.lt k (.inl hk)
                    · exact hk.2)).mono (by split <;> omega)
                  have HP2 : Hid (Part F w W2) := hP2
                  clear hS2 hP2 HSr HCr HPr HZ HMf hmk HNl HSec HBy
                  go_wp2
                  go_roundw
                  case rel => exact ⟨k + 1, e1, b, by go_num, by omega, by omega, rfl, HS2, HC2, HP2⟩
                  case measure => simp [intOf]; omega
                | false =>
                  have HC2 : Hid (CleanTo e (ovs e1 (from_ + k) (fun _ => 0)) from_ sectors first tot size (k + 1)) := HCr.out.zero hlt hnx _ (fun _ _ => rfl)
                  have CW : Hid (∀ Wm, Below W2.heap.size W2 Wm → Wm.heap[W2.heap.size]? = some (.cells MB 5 (0, 0)) → ∀ z : Int, z = ((from_ + k : Nat) : Int) → Calls Tryd.prog 74 #[.pointer (some ⟨X, 0, none⟩), .int .i64 z, .slice (some ⟨W2.heap.size, 0, none⟩) 128 128] Wm fun r w3 => ∃ y, r = .returned (.int .i64 y) ∧ Hid (Sx w3 X (fun k => F k ∨ (w.heap.size ≤ k ∧ k < w3.heap.size)) n (k + 1 + 1) (ovs e1 (from_ + k) (fun _ => 0))) ∧ Hid (Part F w w3) ∧ Part F w w3) := fun Wm hbm hhm z hz => by
                    subst hz
                    refine (sxWrite X (from_ + k) n _ _ e1 W2.heap.size 0 128 (fun _ => 0) Wm (hS2.below hbm) (by omega) (by omega) (HMf.out _ Wm hhm) (fun _ => ⟨by decide, by decide⟩)).mono ?_
                    rintro r w3 ⟨rfl, s3, p3⟩
                    have hz2 := hbm.size
                    have hz3 := p3.size
                    have hp3 : Part F w w3 := (hP2.trans (Part.ofBelow (F := F) hbm) (fun _ _ h => h)).trans p3 (fun k hk hk2 => by
                      rcases hk2 with hk2 | hk2
                      · exact hk2
                      · omega)
                    refine ⟨_, rfl, (s3.grow (fun k hk => ?_) (fun k hk => ?_)).mono (by split <;> omega), hp3, hp3⟩
                    · rcases hk with (hk | hk) | hk
                      · exact .inl hk
                      · exact .inr (by omega)
                      · exact .inr (by omega)
                    · rcases hk with hk | hk
                      · exact s3.lt k (.inl (.inl hk))
                      · exact hk.2
                  have kP : Part F w W2.drew := hP2.drewN 1
                  have HPa : Hid (∀ o, Part F w (W2.drew.alloc o)) := fun o => (hP2.drewN 1).alloc o
                  have HPb : Hid (∀ o, Part F w (W2.alloc o).drew) := fun o => (hP2.alloc o).drewN 1
                  have HBa : Hid (∀ o, Below W2.heap.size W2 (W2.drew.alloc o)) := fun o => ((Below.refl _ W2).drew).alloc (Nat.le_refl _) o
                  have HBb : Hid (∀ o, Below W2.heap.size W2 (W2.alloc o).drew) := fun o => ((Below.refl _ W2).alloc (Nat.le_refl _) o).drew
                  clear hS2 hP2 HSr HCr HPr HMf HNl HSec HBy
                  go_wp2_with fail
                  go_region_held2 (fun wq => wq.cell? ⟨M, 0, none⟩ = some (.pointer (some ⟨X, 0, none⟩)) ∧ wq.cell? ⟨M, 1, none⟩ = some (.int .i64 (from_ : Int)) ∧ wq.cell? ⟨M, 2, none⟩ = some (.int .i64 (sectors : Int))) (exact HZ.out _ (by first | assumption | exact HPa.out _ | exact HPb.out _)) ((go_at_call 74; refine (CW.out _ (by first | exact HBa.out _ | exact HBb.out _) (by exact heap_alloc_at W2 _ _ rfl) _ (by first | rfl | omega | (simp only [IntKind.wrap_i64]; omega))).mono ?_; rintro r w3 ⟨yy, rfl, HS3, HP3, p3x⟩))
                  all_goals
                    clear CW HPa HPb HBa HBb kP hmk HZ
                    go_wp2
                    go_roundw
                    case rel => exact ⟨k + 1, _, true, by go_num, by omega, by omega, rfl, HS3, HC2, HP3⟩
                    case measure => simp [intOf]; omega
            · have hge : ¬ (k : Int) < (sectors : Int) := by omega
              have HD : Hid (Cleaned e e1 from_ sectors first tot size) := HCr.out.done (by omega)
              have hMb : (if b then k + 1 else 0) ≤ 100000 := by split <;> omega
              cases b with
              | false =>
                have HE : Hid (Sx wr X (fun k => F k ∨ (w.heap.size ≤ k ∧ k < wr.heap.size)) n 0 e1 ∧ Cleaned e e1 from_ sectors first tot size ∧ Part F w wr) := ⟨HSr.out, HD.out, HPr.out⟩
                clear HSr HCr HPr HZ HD
                go_wp2
                go_end0
                first | exact ⟨e1, rfl, HE⟩ | exact ⟨rfl, e1, HE⟩
              | true =>
                have CF : Hid (Calls Tryd.prog 76 #[.pointer (some ⟨X, 0, none⟩)] wr fun r w7 => ∃ y, r = .returned (.int .i64 y) ∧ Hid (Sx w7 X (fun k => F k ∨ (w.heap.size ≤ k ∧ k < w7.heap.size)) n 0 e1 ∧ Cleaned e e1 from_ sectors first tot size ∧ Part F w w7)) := by
                  refine (sxFlush X n _ _ e1 wr HSr.out (by omega)).mono ?_
                  rintro r w7 ⟨rfl, s7, p7⟩
                  have hz7 := p7.size
                  refine ⟨_, rfl, s7.grow (fun k hk => ?_) (fun k hk => ?_), HD.out, HPr.out.trans p7 (fun k hk h => ?_)⟩
                  · rcases hk with (hk | hk) | hk
                    · exact .inl hk
                    · exact .inr (by omega)
                    · exact .inr (by omega)
                  · rcases hk with hk | hk
                    · exact s7.lt k (.inl (.inl hk))
                    · exact hk.2
                  · rcases h with h | h
                    · exact h
                    · omega
                clear HSr HCr HPr HZ HD
                go_wp2_with fail
                refine CF.out.mono ?_
                rintro r w7 ⟨yy, rfl, HE⟩
                clear CF
                go_wp2
                go_end0
                first | exact ⟨e1, rfl, HE⟩ | exact ⟨rfl, e1, HE⟩
end Go.Proofs.YtmjoklppibfdmaaDoor
