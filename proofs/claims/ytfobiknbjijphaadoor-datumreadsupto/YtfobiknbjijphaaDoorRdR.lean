/-
  The program's reader: lists.
-/
import Derived.Test.YtfobiknbjijphaaDoorGba
namespace Go.Proofs.YtfobiknbjijphaaDoor
open Go.RowKit
set_option linter.unusedVariables false
set_option linter.unusedSimpArgs false

set_option maxHeartbeats 8000000 in
theorem rd_list {n b : Nat} {s : ByteArray} {p o : Nat} {w : World} (hRD : RD n) (h : Rr b s p o w) (hn : o + n = 64) (F : Nat) (hF : (rst s p).length < F) :
    Calls Tryd.prog 48 #[.pointer (some ⟨b, 0, none⟩)] w fun e w' => RdO b s o w (itL (rdD n) false F [] (rst s p)) e w' := by
  obtain ⟨G, hG⟩ : ∃ G, w.heap.size = G := ⟨_, rfl⟩
  obtain ⟨W1, hW⟩ : ∃ W1, w.alloc (.cells #[.int .i64 0, .string ⟨#[]⟩, .slice none 0 0, .slice none 0 0] 34) = W1 := ⟨_, rfl⟩
  obtain ⟨D, hD⟩ : ∃ D, W1.heap.size = D := ⟨_, rfl⟩
  obtain ⟨W2, hW2⟩ : ∃ W2, W1.alloc (.cells #[.int .i64 5, .string ⟨#[]⟩, .slice none 0 0, .slice none 0 0] 34) = W2 := ⟨_, rfl⟩
  have hB1 : Below w.heap.size w W1 := by rw [← hW]; exact (Below.refl _ w).alloc (Nat.le_refl _) _
  have hB2 : Below W1.heap.size W1 W2 := by rw [← hW2]; exact (Below.refl _ W1).alloc (Nat.le_refl _) _
  have d1 : D4 W1 G (.int .i64 0) (.string ⟨#[]⟩) (.slice none 0 0) (.slice none 0 0) := by rw [← hW]; exact heap_alloc_at _ _ _ hG.symm
  have d2 : D4 W2 D (.int .i64 5) (.string ⟨#[]⟩) (.slice none 0 0) (.slice none 0 0) := by rw [← hW2]; exact heap_alloc_at _ _ _ hD.symm
  have hbG : b < G := by rw [← hG]; exact h.lt
  have hGD : G < D := by
    have := (Array.getElem?_eq_some_iff.1 d1).1
    omega
  obtain ⟨R, hR⟩ : ∃ R, itL (rdD n) false F [] (rst s p) = R := ⟨_, rfl⟩
  have H0 : Hid (Lp b s o w G D 5 p [] none 0 W2 ∧ Std (rdD n) false R [] (rst s p)) := hid ⟨⟨(h.under hB1).under hB2, (Pt.ofB hB1).trans_ (Pt.ofB hB2), d1.under hB2, d2, DRow.nil _ _, Nat.zero_le _, by omega, hbG, hGD⟩, F, hF, hR.symm⟩
  have HRD := hid hRD
  have hn2 := hid hn
  have HW2 := hid hW2
  have hsz := h.1.2.1
  have HS := hid hsz
  rw [hR]
  clear hF h hRD hB1 hB2 d1 d2 hbG hGD hR hn hW2 hsz
  go_enter Tryd.func48, Tryd.ntmps48
  go_wp2
  try rw [hW]
  try rw [hG]
  try rw [HW2.out]
  go_loopw [] (fun wr => ∃ q acc a c, Hid (Lp b s o w G D 5 q acc a c wr ∧ Std (rdD n) false R acc (rst s q))) (fun wr => s.size - posOf b wr)
  case atStart => exact ⟨p, [], none, 0, H0⟩
  case round =>
    clear H0 HW2 hW
    obtain ⟨q, acc, a, c, HQ⟩ := hrel
    have hq0 := hid HQ.out.1.rr.pos
    have HC := hid (rd_closed HQ.out.1.rr)
    go_wp2_with fail
    refine HC.out.mono ?_
    clear HC
    rintro e w1 (⟨q2, rfl, HX⟩ | ⟨q2, rfl, HX⟩ | ⟨⟨v, rfl⟩, HX⟩)
    · have hqq : q ≤ q2 := by
        have h1 := skB_len false (rst s q)
        rw [HX.out.1] at h1
        simp only [List.length_cons, rst_len] at h1
        have h2 := HX.out.2.1.1.1
        omega
      have HL := hid (HQ.out.1.on HX.out.2.1 HX.out.2.2 hqq)
      have HRR : Hid (R = .ok (.node 5 ⟨#[]⟩ acc []) (rst s q2)) := hid (HQ.out.2.close HX.out.1)
      obtain ⟨e0, e1, e2, e3, -, -, -, -⟩ := HL.out.d.c4
      obtain ⟨i0, i1, i2, i3, f0, f1, f2, f3⟩ := HL.out.g.c4
      clear HX HQ hq0 HRD HS hqq
      go_wp2
      obtain ⟨k1, k2⟩ := HL.out.fin HRR.out
      exact bodyPost_ret (v := .agg #[.int .i64 5, .string ⟨#[]⟩, .slice a acc.length c, .slice none 0 0]) (res4 k1 Tryd.results48 rfl) rfl k2
    · obtain ⟨hx0, ⟨hx1, hx2⟩, hx3, hx4⟩ := HX.out
      have hqq : q ≤ q2 := by
        have h1 := skB_len false (rst s q)
        rw [hx0] at h1
        simp only [rst_len] at h1
        omega
      have hcons : rst s q2 = s[q2] :: rst s (q2 + 1) := rst_cons hx1
      have hit := fun h => HQ.out.2.item (rdD_gets n) (by rw [hx0]; exact hcons) hx2 h
      rw [← hcons] at hit
      have HL0 := hid (HQ.out.1.on hx3 hx4 hqq)
      obtain ⟨e0, e1, e2, e3, -, -, -, -⟩ := HL0.out.d.c4
      by_cases hz : acc.length = 0
      · have hz1 : ¬ (0 : Int) < (acc.length : Int) := by omega
        have hst := hit (by rintro ⟨_, h, _⟩; exact h (List.length_eq_zero_iff.1 hz))
        clear hit hz
        have HL1 : Hid (∀ k, Lp b s o w G D 5 q2 acc a c (w1.drewN k)) := hid fun k => HL0.out.under (blw_drewN k (Below.refl _ _))
        have HC : Hid (∀ k, Calls Tryd.prog 30 #[.pointer (some ⟨b, 0, none⟩)] (w1.drewN k) fun e w' => RdO b s o (w1.drewN k) (rdD n (rst s q2)) e w') := hid fun k => HRD.out b s q2 o _ (HL1.out k).rr hn2.out
        have HPn : Hid (∀ k w3 v, Hid (∃ k' m, rdD n (rst s q2) = .bad k' m ∧ k' ≤ s.size ∧ Flt b s k' m w3 ∧ Pt b (w1.drewN k) w3) → RdO b s o w R (.panicked [{ v := .iface 44 v, recovered := false }]) w3) := hid fun k w3 v hh => by
          obtain ⟨k', m, g1, g2, g3, g4⟩ := hh.out
          exact .inr ⟨⟨v, rfl⟩, hid ⟨k', m, hst.1 k' m g1, g2, g3, (HL1.out k).pt.trans_ g4⟩⟩
        have HDc : Hid (∀ k w3, Pt b (w1.drewN k) w3 → C4 w3 D (.int .i64 5) (.string ⟨#[]⟩) (.slice a acc.length c) (.slice none 0 0) ∧ D < w3.heap.size) := hid fun k w3 hp => by
          have hd := (HL1.out k).d.part hp (fun e => by have := HL0.out.z; omega)
          exact ⟨hd.c4, (Array.getElem?_eq_some_iff.1 hd).1⟩
        have HNx : Hid (∀ d q3 V, rdD n (rst s q2) = .ok d (rst s q3) → Rr b s q3 o V → q2 < q3 ∧ Std (rdD n) false R (acc ++ [d]) (rst s q3)) := hid fun d q3 V e r => by
          have h1 := (rdD_gets n _ _ _ e).2.1
          rw [rst_len, rst_len] at h1
          exact ⟨by omega, hst.2 _ _ e⟩
        have HLe : Hid (∀ d : Dt, acc.length + [d].length ≤ 1099511627776) := hid fun d => by
          have h1 := HL0.out.le
          have h2 := HS.out
          simp
          omega
        have hms : Hid (q ≤ q2 ∧ q2 < s.size) := hid ⟨hqq, hx1⟩
        clear hst hcons hx0 hx1 hx2 hx3 hx4 hqq HX HQ HRD HS
        go_wp2_with fail
        go_region_law (first | (go_simp; go_at_call 30; refine (HC.out _).mono ?_; rintro e w3 (⟨d, a3, c3, a4, c4, q3, rfl, HR⟩ | ⟨⟨v, rfl⟩, HR⟩); rotate_left; (exact ⟨rfl, HPn.out _ _ v HR⟩); obtain ⟨⟨e0, e1, e2, e3, f0, f1, f2, f3⟩, n5⟩ := HDc.out _ w3 HR.out.2.2.1; have HM2 := hid (HNx.out _ _ _ HR.out.1 HR.out.2.1); have HM := hid ((HL1.out _).ready HR.out.2.2.1 HR.out.2.2.2); obtain ⟨G3, hG3⟩ : ∃ G3, w3.heap.size = G3 := ⟨_, rfl⟩; have n6 : D < G3 := (by omega); rw [hG3] at HM) | (refine step_push rfl _ _ rfl (D + 1) (.slice a acc.length c) (.slice (some ⟨G3, 0, none⟩) 1 1) acc [d] (by go_simp) (by go_simp) (by exact HM.out.1) (by exact HM.out.2.1) (by exact HLe.out d) (by exact HM.out.2.2) ?_; intro a' c' w5 hr5 hg5; obtain ⟨⟨e0, e1, e2, e3, f0, f1, f2, f3⟩, HN2⟩ := (HL1.out _).push HR.out.2.2.1 HR.out.2.1 HM2.out.1 hr5 hg5; have HN3 := hid HN2; clear HN2))
        all_goals
          have HN4 := hid (show Lp b s o w G D 5 q3 (acc ++ [d]) a' c' (w5.setCell ⟨D, 2, none⟩ (.slice a' (acc.length + 1) c')) ∧ Std (rdD n) false R (acc ++ [d]) (rst s q3) from ⟨HN3.out, HM2.out.2⟩)
          have HN5 : Hid (q < q3) := hid (by have := HM2.out.1; have := hms.out; omega)
          clear HN3 HM2 HM HR HPn HDc HNx HLe HC HL1 HL0
          go_wp2
          go_roundw
          case rel => exact ⟨q3, acc ++ [d], a', c', HN4⟩
          case measure =>
            have h1 := HN4.out.1.rr.pos
            have h2 := HN5.out
            have h3 := hq0.out
            have h4 := hms.out
            rw [h1, h3]
            omega
      · have hz1 : (0 : Int) < (acc.length : Int) := by omega
        have hne : acc ≠ [] := fun e => hz (by rw [e]; rfl)
        have HDt := hid (rd_dot hx3 hx1)
        have HSt := hid HQ.out.2
        have Hx : Hid (q ≤ q2 ∧ skB false (rst s q) = s[q2] :: rst s (q2 + 1) ∧ s[q2] ≠ 41) := hid ⟨hqq, by rw [hx0]; exact hcons, hx2⟩
        have Hit := hid hit
        have Hcons := hid hcons
        have Hne := hid hne
        clear hit hz hcons hx0 hx2 hx3 hx4 hqq HX HQ hne
        go_wp2_with fail
        refine HDt.out.mono ?_
        clear HDt
        rintro e w2 (⟨rfl, hd⟩ | ⟨rfl, hd⟩)
        · have hd1 := hd.out.1
          have HL2 := hid (HL0.out.on hd.out.2.1 hd.out.2.2 (by omega))
          have HRR : Hid (R = dotR acc (rdD n (rst s (q2 + 1)))) := hid (HSt.out.dot Hx.out.2.1 Hx.out.2.2 Hne.out hd1.1 (by rw [← Hcons.out]; exact hd1.2))
          have HC := hid (rd_dotted HRD.out HL2.out.rr hn2.out (show b < D + 1 by have := HL2.out.z; omega) (Nat.succ_le_of_lt (Array.getElem?_eq_some_iff.1 HL2.out.d).1) HL2.out.row HL2.out.le)
          obtain ⟨e0, e1, e2, e3, -, -, -, -⟩ := HL2.out.d.c4
          clear hd hd1 HSt Hx Hit Hcons Hne HL0 HRD HS
          go_wp2_with fail
          refine HC.out.mono ?_
          clear HC
          rintro e w4 (⟨d, a3, c3, a4, c4, q3, rfl, HR⟩ | ⟨⟨v, rfl⟩, HR⟩)
          · have hG4 : D4 w4 G (.int .i64 0) (.string ⟨#[]⟩) (.slice none 0 0) (.slice none 0 0) := HL2.out.g.part HR.out.2.2.1 (fun e => by have := HL2.out.z; rcases e with e | e <;> omega)
            have HE : Hid (D4 (set4 w4 G (.int .i64 d.kd) (.string d.tx) (.slice a3 d.its.length c3) (.slice a4 d.tl.length c4)) G (.int .i64 d.kd) (.string d.tx) (.slice a3 d.its.length c3) (.slice a4 d.tl.length c4) ∧ RdO b s o w R (.returned (.agg #[.int .i64 d.kd, .string d.tx, .slice a3 d.its.length c3, .slice a4 d.tl.length c4])) (set4 w4 G (.int .i64 d.kd) (.string d.tx) (.slice a3 d.its.length c3) (.slice a4 d.tl.length c4))) := hid (by
              have z := HL2.out.z
              refine ⟨hG4.set _ _ _ _, .inl ⟨d, a3, c3, a4, c4, q3, rfl, hid ⟨HRR.out.trans HR.out.1, HR.out.2.1.part (set4_part w4 G _ _ _ _) (fun e => by omega), Pt.set4_ (Part.trans HL2.out.pt HR.out.2.2.1 (fun i hi e => by rcases e with e | e <;> omega)) z.1 _ _ _ _, ?_⟩⟩⟩
              exact ds_keep HR.out.2.2.2 (fun k k1 k2 => set4_other w4 (show k ≠ G by omega) _ _ _ _) (by omega))
            obtain ⟨i0, i1, i2, i3, f0, f1, f2, f3⟩ := hG4.c4
            clear hG4 HR HL2 HRR
            go_wp2
            exact bodyPost_ret (v := .agg #[.int .i64 d.kd, .string d.tx, .slice a3 d.its.length c3, .slice a4 d.tl.length c4]) (res4 HE.out.1 Tryd.results48 rfl) rfl HE.out.2
          · have HF : Hid (RdO b s o w R (.panicked [{ v := .iface 44 v, recovered := false }]) w4) := hid (by
              obtain ⟨k, m, g1, g2, g3, g4⟩ := HR.out
              have z := HL2.out.z
              exact .inr ⟨⟨v, rfl⟩, hid ⟨k, m, HRR.out.trans g1, g2, g3, Part.trans HL2.out.pt g4 (fun i hi e => by rcases e with e | e <;> omega)⟩⟩)
            clear HR HL2 HRR
            go_wp2
            refine ⟨rfl, ?_⟩
            exact HF.out
        · have HLx := hid (HL0.out.on hd.out.2.1 hd.out.2.2 (Nat.le_refl _))
          have hst := Hit.out (by rintro ⟨_, _, h1, h2⟩; exact hd.out.1 ⟨h1, h2⟩)
          have hqq := Hx.out.1
          clear HL0
          have HL0 := HLx
          clear HLx
          have HL1 : Hid (∀ k, Lp b s o w G D 5 q2 acc a c (w2.drewN k)) := hid fun k => HL0.out.under (blw_drewN k (Below.refl _ _))
          have HC : Hid (∀ k, Calls Tryd.prog 30 #[.pointer (some ⟨b, 0, none⟩)] (w2.drewN k) fun e w' => RdO b s o (w2.drewN k) (rdD n (rst s q2)) e w') := hid fun k => HRD.out b s q2 o _ (HL1.out k).rr hn2.out
          have HPn : Hid (∀ k w3 v, Hid (∃ k' m, rdD n (rst s q2) = .bad k' m ∧ k' ≤ s.size ∧ Flt b s k' m w3 ∧ Pt b (w2.drewN k) w3) → RdO b s o w R (.panicked [{ v := .iface 44 v, recovered := false }]) w3) := hid fun k w3 v hh => by
            obtain ⟨k', m, g1, g2, g3, g4⟩ := hh.out
            exact .inr ⟨⟨v, rfl⟩, hid ⟨k', m, hst.1 k' m g1, g2, g3, (HL1.out k).pt.trans_ g4⟩⟩
          have HDc : Hid (∀ k w3, Pt b (w2.drewN k) w3 → C4 w3 D (.int .i64 5) (.string ⟨#[]⟩) (.slice a acc.length c) (.slice none 0 0) ∧ D < w3.heap.size) := hid fun k w3 hp => by
            have hd := (HL1.out k).d.part hp (fun e => by have := HL0.out.z; omega)
            exact ⟨hd.c4, (Array.getElem?_eq_some_iff.1 hd).1⟩
          have HNx : Hid (∀ d q3 V, rdD n (rst s q2) = .ok d (rst s q3) → Rr b s q3 o V → q2 < q3 ∧ Std (rdD n) false R (acc ++ [d]) (rst s q3)) := hid fun d q3 V e r => by
            have h1 := (rdD_gets n _ _ _ e).2.1
            rw [rst_len, rst_len] at h1
            exact ⟨by omega, hst.2 _ _ e⟩
          have HLe : Hid (∀ d : Dt, acc.length + [d].length ≤ 1099511627776) := hid fun d => by
            have h1 := HL0.out.le
            have h2 := HS.out
            simp
            omega
          have hms : Hid (q ≤ q2 ∧ q2 < s.size) := hid ⟨hqq, hx1⟩
          obtain ⟨e0, e1, e2, e3, -, -, -, -⟩ := HL0.out.d.c4
          clear hst HSt Hx Hit Hcons Hne hd hx1 hqq HRD HS
          go_wp2_with fail
          go_region_law (first | (go_simp; go_at_call 30; refine (HC.out _).mono ?_; rintro e w3 (⟨d, a3, c3, a4, c4, q3, rfl, HR⟩ | ⟨⟨v, rfl⟩, HR⟩); rotate_left; (exact ⟨rfl, HPn.out _ _ v HR⟩); obtain ⟨⟨e0, e1, e2, e3, f0, f1, f2, f3⟩, n5⟩ := HDc.out _ w3 HR.out.2.2.1; have HM2 := hid (HNx.out _ _ _ HR.out.1 HR.out.2.1); have HM := hid ((HL1.out _).ready HR.out.2.2.1 HR.out.2.2.2); obtain ⟨G3, hG3⟩ : ∃ G3, w3.heap.size = G3 := ⟨_, rfl⟩; have n6 : D < G3 := (by omega); rw [hG3] at HM) | (refine step_push rfl _ _ rfl (D + 1) (.slice a acc.length c) (.slice (some ⟨G3, 0, none⟩) 1 1) acc [d] (by go_simp) (by go_simp) (by exact HM.out.1) (by exact HM.out.2.1) (by exact HLe.out d) (by exact HM.out.2.2) ?_; intro a' c' w5 hr5 hg5; obtain ⟨⟨e0, e1, e2, e3, f0, f1, f2, f3⟩, HN2⟩ := (HL1.out _).push HR.out.2.2.1 HR.out.2.1 HM2.out.1 hr5 hg5; have HN3 := hid HN2; clear HN2))
          all_goals
            have HN4 := hid (show Lp b s o w G D 5 q3 (acc ++ [d]) a' c' (w5.setCell ⟨D, 2, none⟩ (.slice a' (acc.length + 1) c')) ∧ Std (rdD n) false R (acc ++ [d]) (rst s q3) from ⟨HN3.out, HM2.out.2⟩)
            have HN5 : Hid (q < q3) := hid (by have := HM2.out.1; have := hms.out; omega)
            clear HN3 HM2 HM HR HPn HDc HNx HLe HC HL1 HL0
            go_wp2
            go_roundw
            case rel => exact ⟨q3, acc ++ [d], a', c', HN4⟩
            case measure =>
              have h1 := HN4.out.1.rr.pos
              have h2 := HN5.out
              have h3 := hq0.out
              have h4 := hms.out
              rw [h1, h3]
              omega
    · have HF : Hid (RdO b s o w R (.panicked [{ v := .iface 44 v, recovered := false }]) w1) := hid (.inr ⟨⟨v, rfl⟩, hid ⟨0, 100, HQ.out.2.stop HX.out.1, Nat.zero_le _, HX.out.2.1, HQ.out.1.pt.trans_ HX.out.2.2⟩⟩)
      clear HX HQ hq0 HRD HS
      go_wp2
      refine ⟨rfl, ?_⟩
      exact HF.out
end Go.Proofs.YtfobiknbjijphaaDoor
