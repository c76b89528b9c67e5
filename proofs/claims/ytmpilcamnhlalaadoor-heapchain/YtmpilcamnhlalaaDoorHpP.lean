/-
  A heap's mover over a list: contract of run.
-/
import Derived.Test.YtmpilcamnhlalaaDoorHpL
namespace Go.Proofs.YtmpilcamnhlalaaDoor
open Go.RowKit
set_option linter.unusedVariables false

def Rx (E : Env) (w0 w : World) (c a : Nat) (b1 b2 : Bool) : Prop := ∃ v, Rn E w0 w c a b1 b2 v
theorem Rn.first {E : Env} {w0 w : World} {c a : Nat} {b1 b2 : Bool} {v : Value} (h : Rn E w0 w c a b1 b2 v) : w.cell? ⟨E.mb, 1, none⟩ = some (.int .i64 (E.no : Int)) := by rw [cells_at h.mv.hm 1]; rfl
theorem rx_roots {E : Env} {w0 w : World} (ok : EnvOk E) (hw0 : w0.heap.size = E.W0) {g cr : Nat} (hg : E.sr = .slice (some ⟨g, 0, none⟩) 1 cr) (hcr : 1 ≤ cr) (h : Rx E w0 w 0 0 false false) : Calls Tryd.prog 43 #[.pointer (some ⟨E.mb, 0, none⟩), E.sr] w fun r w' => r = .returned (.tuple #[]) ∧ Hid (Rx E w0 w' (min 1 E.t) 0 true false) := by
  obtain ⟨v, h⟩ := h
  have n1 := ok.n1
  have hr := h.hr
  rw [hg] at hr
  have hc : ∀ q, q < 1 → w.cell? ⟨g, q, none⟩ = some (.int .i64 (kw E.r0)) := fun q hq => by
    obtain rfl : q = 0 := by omega
    have := World.ownsRow.cells (g := g) hr rfl 0 _ rfl
    rw [Addr.add_lit] at this
    exact this
  rw [hg]
  by_cases ht : 0 < E.t
  · have e0 : E.r0 = some (E.no + E.y 0) := if_pos ht
    have e1 : E.r1 = some (E.no + 0) := if_pos ht
    have hy0 := ok.y1 0 ht
    have n2 := ok.n2
    rw [show min 1 E.t = 1 by omega]
    refine h_words_last (L := 0) (f := fun _ => kw E.r0) (E.y 0) (kw E.r1) (fun w' => Rx E w0 w' 1 0 true false) (by decide) hcr (by omega) (by omega) h.first hc (fun q hq => by omega) (by show kw E.r0 = _; rw [e0]; rfl) (fun wq hq => ?_)
    refine (h_object (h.dr hq).mv hy0 (fun s hs => by omega) (ok.fl 0 ht) (by omega) ok.n3 n2).mono ?_
    rintro r w1 ⟨rfl, HM⟩
    obtain ⟨v', hR⟩ := (h.dr hq).move ok hw0 HM.out
    have hr1 := hR.hr
    rw [hg] at hr1
    obtain ⟨g', c', e', r1, r2, _⟩ := row_put1 (u' := .int .i64 0) hr1
    cases e'
    exact ⟨by rw [e1]; rfl, r1, r2, v', hR.setR ok hg⟩
  · have e1 : E.r1 = E.r0 := by unfold Env.r1 Env.r0; rw [if_neg ht, if_neg ht]
    have e0 : E.r0 = E.oo := if_neg ht
    rw [show min 1 E.t = 0 by omega]
    refine (h_words_skip (L := 1) (f := fun _ => kw E.r0) (by decide) hcr (by omega) h.first hc (fun q hq => .inr ⟨E.oo, by rw [e0], ok.o1⟩)).mono ?_
    rintro r w' ⟨rfl, hd⟩
    exact ⟨rfl, v, (h.dr hd).sameR e1⟩
theorem rx_fields {E : Env} {w0 w : World} (ok : EnvOk E) (hw0 : w0.heap.size = E.W0) (h : Rx E w0 w (min 1 E.t) 0 true false) : Calls Tryd.prog 43 #[.pointer (some ⟨E.mb, 0, none⟩), .slice (some ⟨E.fb, 0, none⟩) E.L E.L] w fun r w' => r = .returned (.tuple #[]) ∧ Hid (Rx E w0 w' (min 1 E.t) 0 true true) := by
  obtain ⟨v, h⟩ := h
  have n1 := ok.n1
  have l1 := ok.l1
  have l2 := ok.l2
  have hc : ∀ q, q < E.L → w.cell? ⟨E.fb, q, none⟩ = some (.int .i64 (E.kf q)) := fun q hq => by
    rw [cells_at h.hf q, wrow_get _ _ _ hq, if_neg (fun e => by cases e.1)]
  by_cases ht : 0 < E.t
  · have e0 : E.r0 = some (E.no + E.y 0) := if_pos ht
    have e1 : E.r1 = some (E.no + 0) := if_pos ht
    have hy0 := ok.y1 0 ht
    have n2 := ok.n2
    rw [show min 1 E.t = 1 by omega] at h ⊢
    have key := h_words_last (w := w) (mb := E.mb) (lb := E.fb) (L := E.L - 1) (cL := E.L) (no := E.no) (f := E.kf) (E.y 0) (kw E.r1) (fun w' => Rx E w0 w' 1 0 true true) (by omega) (by omega) (by omega) (by omega) h.first (fun q hq => hc q (by omega)) (fun q hq => ok.k0 q (by omega)) (by rw [ok.k1, e0]; rfl) (fun wq hq => ?_)
    · rw [show E.L - 1 + 1 = E.L by omega] at key
      exact key
    refine (h_object_had (h.dr hq).mv 0 (by omega) hy0 (fun a b ha hb _ => by omega)).mono ?_
    rintro r w1 ⟨rfl, hw⟩
    subst hw
    have hR := h.dr hq
    exact ⟨by rw [e1]; rfl, cells_free hR.hf _, ⟨_, by rw [cells_at hR.hf, wrow_get _ _ _ (by omega)]⟩, v, hR.setF ok⟩
  · have e1 : E.r1 = E.r0 := by unfold Env.r1 Env.r0; rw [if_neg ht, if_neg ht]
    have e0 : E.r0 = E.oo := if_neg ht
    refine (h_words_skip (L := E.L) (f := E.kf) l2 (Nat.le_refl _) (by omega) h.first hc (fun q hq => ?_)).mono ?_
    · by_cases e : q + 1 < E.L
      · exact ok.k0 q e
      · rw [show q = E.L - 1 by omega, ok.k1, e0]
        exact .inr ⟨E.oo, rfl, ok.o1⟩
    · rintro r w' ⟨rfl, hd⟩
      exact ⟨rfl, v, (h.dr hd).sameF ok e1⟩
theorem rx_scan {E : Env} {w0 w : World} (ok : EnvOk E) (hw0 : w0.heap.size = E.W0) (a : Nat) (ha : a < E.t) (h : Rx E w0 w (min (a + 1) E.t) a true true) : Calls Tryd.prog 43 #[.pointer (some ⟨E.mb, 0, none⟩), .slice (some ⟨E.FB (E.no + E.y a), 0, none⟩) 2 2] w fun r w' => r = .returned (.tuple #[]) ∧ Hid (Rx E w0 w' (min (a + 1 + 1) E.t) (a + 1) true true) := by
  obtain ⟨v, h⟩ := h
  have n1 := ok.n1
  have n2 := ok.n2
  have hy := ok.y1 a ha
  have hjn : E.no + E.y a < E.no + E.ny := by omega
  have hc : ∀ q, q < 2 → w.cell? ⟨E.FB (E.no + E.y a), q, none⟩ = some (.int .i64 (E.FW (E.no + E.y a) q)) := fun q hq => by
    rw [cells_at (h.ff _ hjn) q, wrow_get _ _ _ (by rw [ok.fl a ha]; exact hq), E.fw_young ok ha a (Nat.le_refl _)]
  have hs0 : Sk E.no (E.FW (E.no + E.y a) 0) := .inl (ok.f0 a ha)
  by_cases ht : a + 1 < E.t
  · have e0 : E.lk a = some (E.no + E.y (a + 1)) := if_pos ht
    have e1 : E.nx a = some (E.no + (a + 1)) := if_pos ht
    have hy1 := ok.y1 (a + 1) ht
    rw [show min (a + 1) E.t = a + 1 by omega] at h
    rw [show min (a + 1 + 1) E.t = a + 1 + 1 by omega]
    refine h_words_last (L := 1) (f := E.FW (E.no + E.y a)) (E.y (a + 1)) (kw (E.nx a)) (fun w' => Rx E w0 w' (a + 1 + 1) (a + 1) true true) (by decide) (by decide) (by omega) (by omega) h.first hc (fun q hq => by obtain rfl : q = 0 := (by omega); exact hs0) (by rw [ok.f1 a ha, e0]; rfl) (fun wq hq => ?_)
    refine (h_object (h.dr hq).mv hy1 (fun s hs e => by have := ok.yi s (a + 1) (by omega) ht e; omega) (ok.fl _ ht) (by omega) ok.n3 n2).mono ?_
    rintro r w1 ⟨rfl, HM⟩
    obtain ⟨v', hR⟩ := (h.dr hq).move ok hw0 HM.out
    exact ⟨by rw [e1]; rfl, cells_free (hR.ff _ hjn) _, ⟨_, by rw [cells_at (hR.ff _ hjn), wrow_get _ _ _ (by rw [ok.fl a ha]; decide)]⟩, v', hR.setJ ok ha⟩
  · have e1 : E.nx a = E.lk a := by unfold Env.nx Env.lk; rw [if_neg ht, if_neg ht]
    have e0 : E.lk a = E.oo := if_neg ht
    rw [show min (a + 1 + 1) E.t = min (a + 1) E.t by omega]
    refine (h_words_skip (L := 2) (f := E.FW (E.no + E.y a)) (by decide) (by decide) (by omega) h.first hc (fun q hq => ?_)).mono ?_
    · match q, hq with
      | 0, _ => exact hs0
      | 1, _ => rw [ok.f1 a ha, e0]; exact .inr ⟨E.oo, rfl, ok.o1⟩
    · rintro r w' ⟨rfl, hd⟩
      exact ⟨rfl, v, (h.dr hd).sameJ ok ha e1⟩

set_option maxRecDepth 100000 in
set_option maxHeartbeats 1000000 in
theorem h_run {E : Env} {w0 w : World} (ok : EnvOk E) (hw0 : w0.heap.size = E.W0) {g cr : Nat} (hg : E.sr = .slice (some ⟨g, 0, none⟩) 1 cr) (hcr : 1 ≤ cr) (h : Rx E w0 w 0 0 false false) : Calls Tryd.prog 44 #[.pointer (some ⟨E.mb, 0, none⟩), .slice (some ⟨E.rl, 0, none⟩) 2 2] w fun r w' => r = .returned (.tuple #[]) ∧ Hid (Rx E w0 w' E.t E.t true true) := by
  have HC : Hid (∀ wr c a b1 b2, Rx E w0 wr c a b1 b2 → wr.cell? ⟨E.rl, 0, none⟩ = some (.slice (some ⟨g, 0, none⟩) 1 cr) ∧ wr.cell? ⟨E.rl, 1, none⟩ = some (.slice (some ⟨E.fb, 0, none⟩) E.L E.L) ∧ wr.cell? ⟨E.mb, 1, none⟩ = some (.int .i64 (E.no : Int))) := fun wr c a b1 b2 hR => by
    obtain ⟨v, hR⟩ := hR
    exact ⟨by rw [cells_at hR.hl 0, ← hg]; rfl, by rw [cells_at hR.hl 1]; rfl, hR.first⟩
  have H1 : Hid (∀ wr, Rx E w0 wr 0 0 false false → Calls Tryd.prog 43 #[.pointer (some ⟨E.mb, 0, none⟩), .slice (some ⟨g, 0, none⟩) 1 cr] wr fun r w' => r = .returned (.tuple #[]) ∧ Hid (Rx E w0 w' (min 1 E.t) 0 true false)) := fun wr hR => by
    have := rx_roots ok hw0 hg hcr hR
    rw [hg] at this
    exact this
  have H2 : Hid (∀ wr, Rx E w0 wr (min 1 E.t) 0 true false → Calls Tryd.prog 43 #[.pointer (some ⟨E.mb, 0, none⟩), .slice (some ⟨E.fb, 0, none⟩) E.L E.L] wr fun r w' => r = .returned (.tuple #[]) ∧ Hid (Rx E w0 w' (min 1 E.t) 0 true true)) := fun wr hR => rx_fields ok hw0 hR
  have H3 : Hid (∀ wr a, a < E.t → Rx E w0 wr (min (a + 1) E.t) a true true → ∃ gt ct, wr.cell? ⟨E.mb, 3, none⟩ = some (.slice (some ⟨gt, 0, none⟩) (E.no + min (a + 1) E.t) ct) ∧ wr.cell? ⟨gt, (E.no + a) * 4 + 1, none⟩ = some (.slice (some ⟨E.FB (E.no + E.y a), 0, none⟩) 2 2) ∧ Hid (Calls Tryd.prog 43 #[.pointer (some ⟨E.mb, 0, none⟩), .slice (some ⟨E.FB (E.no + E.y a), 0, none⟩) 2 2] wr fun r w' => r = .returned (.tuple #[]) ∧ Hid (Rx E w0 w' (min (a + 1 + 1) E.t) (a + 1) true true))) := fun wr a ha hR => by
    have hS := rx_scan ok hw0 a ha hR
    obtain ⟨v, hR⟩ := hR
    obtain ⟨at_, ct, rfl⟩ := row_slice hR.mv.rt
    obtain ⟨gt, rfl⟩ : ∃ gt, at_ = some ⟨gt, 0, none⟩ := by
      rcases hR.mv.rt.2 with ⟨e0, h0⟩ | ⟨g', cap, cur, e0, _⟩
      · omega
      · cases e0; exact ⟨g', rfl⟩
    refine ⟨gt, ct, by rw [cells_at hR.mv.hm 3]; rfl, ?_, hS⟩
    have := World.ownsRow.cells (g := gt) hR.mv.rt rfl ((E.no + a) * 4 + 1) (.slice (some ⟨E.FB (E.no + E.y a), 0, none⟩) 2 2) (by
      rw [objL_get _ _ _ _ _ _ _ (by omega) (by decide), Nat.zero_add]
      unfold objC mK
      rw [if_neg (by omega), if_neg (by omega), if_neg (by omega), show E.no + a - E.no = a by omega, ok.fl a ha]
      rfl)
    rw [Addr.add_lit, Nat.zero_add] at this
    exact this
  have H4 : Hid (∀ wr, Rx E w0 wr (min (E.t + 1) E.t) E.t true true → ∃ at_ ct, wr.cell? ⟨E.mb, 3, none⟩ = some (.slice at_ (E.no + E.t) ct)) := fun wr hR => by
    obtain ⟨v, hR⟩ := hR
    obtain ⟨at_, ct, rfl⟩ := row_slice hR.mv.rt
    refine ⟨at_, ct, ?_⟩
    rw [cells_at hR.mv.hm 3, show E.no + E.t = E.no + min (E.t + 1) E.t by omega]
    rfl
  have n1 := ok.n1
  have HR0 : Hid (Rx E w0 w 0 0 false false) := h
  clear h ok hg hw0
  generalize E.mb = mb at *
  generalize E.rl = rl at *
  generalize E.fb = fb at *
  generalize E.L = L at *
  generalize E.FB = FB at *
  generalize E.y = y at *
  generalize E.no = no at *
  generalize E.t = t at *
  have hno' : (no : Int) ≤ 1000 := by omega
  have ht' : (t : Int) ≤ 1000 := by omega
  go_enter Tryd.func44, Tryd.ntmps44
  go_wp2
  go_loopw [9] (fun s9 wr => (s9 = .int .i64 0 ∧ Hid (Rx E w0 wr 0 0 false false)) ∨ (s9 = .int .i64 1 ∧ Hid (Rx E w0 wr (min 1 t) 0 true false)) ∨ (s9 = .int .i64 2 ∧ Hid (Rx E w0 wr (min 1 t) 0 true true))) (fun k _ => 2 - (intOf k).toNat)
  case atStart => exact .inl ⟨rfl, HR0⟩
  case round =>
    rcases hrel with ⟨rfl, HR⟩ | ⟨rfl, HR⟩ | ⟨rfl, HR⟩
    · obtain ⟨c0, c1, c2⟩ := HC.out _ _ _ _ _ HR.out
      have HW := H1.out _ HR.out
      have HW1 : Hid (Calls Tryd.prog 43 #[.pointer (some ⟨mb, 0, none⟩), .slice (some ⟨g, 0, none⟩) 1 cr] wr fun r w' => r = .returned (.tuple #[]) ∧ Hid (Rx E w0 w' (min 1 t) 0 true false)) := HW
      clear HW H1 H2 H3 H4 HC HR HR0
      go_wp2_with fail
      refine HW1.out.mono ?_
      rintro r w1 ⟨rfl, HN⟩
      go_wp2
      go_roundw
      case rel => exact .inr (.inl ⟨by go_num, HN⟩)
      case measure => simp [intOf]
    · obtain ⟨c0, c1, c2⟩ := HC.out _ _ _ _ _ HR.out
      have HW := H2.out _ HR.out
      have HW1 : Hid (Calls Tryd.prog 43 #[.pointer (some ⟨mb, 0, none⟩), .slice (some ⟨fb, 0, none⟩) L L] wr fun r w' => r = .returned (.tuple #[]) ∧ Hid (Rx E w0 w' (min 1 t) 0 true true)) := HW
      clear HW H1 H2 H3 H4 HC HR HR0
      go_wp2_with fail
      refine HW1.out.mono ?_
      rintro r w1 ⟨rfl, HN⟩
      go_wp2
      go_roundw
      case rel => exact .inr (.inr ⟨by go_num, HN⟩)
      case measure => simp [intOf]
    · obtain ⟨c0, c1, c2⟩ := HC.out _ _ _ _ _ HR.out
      have HRa : Hid (Rx E w0 wr (min (0 + 1) t) 0 true true) := HR
      clear H1 H2 HR HR0 c0 c1
      go_wp2
      go_loopw [6] (fun s6 wq => ∃ a : Nat, a ≤ t ∧ s6 = .int .i64 ((no : Int) + (a : Int)) ∧ Hid (Rx E w0 wq (min (a + 1) t) a true true)) (fun k _ => no + t - (intOf k).toNat)
      case atStart => exact ⟨0, Nat.zero_le _, by simp, HRa⟩
      case round =>
        obtain ⟨a, ha, rfl, HR⟩ := hrel
        obtain ⟨_, _, d2⟩ := HC.out _ _ _ _ _ HR.out
        by_cases hlt : a < t
        · obtain ⟨gt, ct, x3, x4, HW⟩ := H3.out _ a hlt HR.out
          obtain ⟨na, hna⟩ : ∃ na : Nat, no + a = na := ⟨_, rfl⟩
          have hna' : (no : Int) + (a : Int) = (na : Int) := by omega
          obtain ⟨nc, hnc⟩ : ∃ nc : Nat, no + min (a + 1) t = nc := ⟨_, rfl⟩
          rw [hna] at x4
          rw [hnc] at x3
          rw [hna']
          have l1 : (na : Int) < (nc : Int) := by omega
          have l2 : (0 : Int) ≤ (na : Int) := by omega
          have l3 : (na : Int) ≤ 2000 := by omega
          have l4 : na < no + t := by omega
          have HNa : Hid ((no : Int) + ((a + 1 : Nat) : Int) = (na : Int) + 1) := by show (no : Int) + ((a + 1 : Nat) : Int) = (na : Int) + 1; omega
          clear H3 H4 HC HR HRa c2 hna hnc hna'
          go_wp2_with fail
          refine HW.out.mono ?_
          rintro r w1 ⟨rfl, HN⟩
          clear HW x3 x4
          go_wp2
          go_roundw
          case rel => exact ⟨a + 1, by omega, by first | (rw [HNa.out]; done) | (rw [HNa.out]; go_num), HN⟩
          case measure => simp [intOf]; omega
        · obtain rfl : a = t := by omega
          obtain ⟨at_, ct, x3⟩ := H4.out _ HR.out
          have HF : Hid (Rx E w0 wr a a true true) := by
            have := HR.out
            rw [show min (a + 1) a = a by omega] at this
            exact this
          have hge : ¬ (no : Int) + (a : Int) < (no : Int) + (a : Int) := by omega
          have hge2 : ¬ (no : Int) + (a : Int) < ((no + a : Nat) : Int) := by omega
          clear H3 H4 HC HR HRa c2 d2
          go_wp2
          go_end0
          exact ⟨rfl, HF⟩
end Go.Proofs.YtmpilcamnhlalaaDoor
