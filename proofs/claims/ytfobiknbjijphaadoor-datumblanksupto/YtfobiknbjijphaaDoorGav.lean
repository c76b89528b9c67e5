/-
  The program's reader: lists.
  The program's reader: a datum.
-/
import Derived.Test.YtfobiknbjijphaaDoorGau
namespace Go.Proofs.YtfobiknbjijphaaDoor
open Go.RowKit
set_option linter.unusedVariables false
set_option linter.unusedSimpArgs false

set_option maxHeartbeats 8000000 in
theorem rd_list {n b : Nat} {s : ByteArray} {p o : Nat} {w : World} (hRD : RD n) (h : Rr b s p o w) (hn : o + n = 64) (F : Nat) (hF : (rst s p).length < F) :
    Calls Tryd.prog 48 #[.pointer (some ⟨b, 0, none⟩)] w fun e w' => RdO b s o w (itL (rdD n) false F [] (rst s p)) e w' := by
  obtain ⟨G, hG⟩ : ∃ G, w.heap.size = G := ⟨_, rfl⟩
  obtain ⟨W1, hW⟩ : ∃ W1, w.alloc (.cells #[.int .i64 0, .string ⟨#[]⟩, .slice none 0 0, .slice none 0 0] 34) = W1 := ⟨_, rfl⟩
  obtain ⟨D, hD⟩ : ∃ D, W1.heap.size = D := ⟨_, rfl⟩
  obtain ⟨W2, hW2⟩ : ∃ W2, W1.alloc (.cells #[.int .i64 5, .string ⟨#[]⟩, .slice none 0 0, .slice none 0 0] 34) = W2 := ⟨_, rfl⟩
  have hB1 : Below w.heap.size w W1 := by rw [← hW]; exact (Below.refl _ w).alloc (Nat.le_refl _) _
  have hB2 : Below W1.heap.size W1 W2 := by rw [← hW2]; exact (Below.refl _ W1).alloc (Nat.le_refl _) _
  have d1 : D4 W1 G (.int .i64 0) (.string ⟨#[]⟩) (.slice none 0 0) (.slice none 0 0) := by rw [← hW]; exact heap_alloc_at _ _ _ hG.symm
  have d2 : D4 W2 D (.int .i64 5) (.string ⟨#[]⟩) (.slice none 0 0) (.slice none 0 0) := by rw [← hW2]; exact heap_alloc_at _ _ _ hD.symm
  have hbG : b < G := by rw [← hG]; exact h.lt
  have hGD : G < D := by
    have := (Array.getElem?_eq_some_iff.1 d1).1
    omega
  obtain ⟨R, hR⟩ : ∃ R, itL (rdD n) false F [] (rst s p) = R := ⟨_, rfl⟩
  have H0 : Hid (Lp b s o w G D 5 p [] none 0 W2 ∧ Std (rdD n) false R [] (rst s p)) := hid ⟨⟨(h.under hB1).under hB2, (Pt.ofB hB1).trans_ (Pt.ofB hB2), d1.under hB2, d2, DRow.nil _ _, Nat.zero_le _, by omega, hbG, hGD⟩, F, hF, hR.symm⟩
  have HRD := hid hRD
  have hn2 := hid hn
  have HW2 := hid hW2
  have hsz := h.1.2.1
  have HS := hid hsz
  rw [hR]
  clear hF h hRD hB1 hB2 d1 d2 hbG hGD hR hn hW2 hsz
  go_enter Tryd.func48, Tryd.ntmps48
  go_wp2
  try rw [hW]
  try rw [hG]
  try rw [HW2.out]
  go_loopw [] (fun wr => ∃ q acc a c, Hid (Lp b s o w G D 5 q acc a c wr ∧ Std (rdD n) false R acc (rst s q))) (fun wr => s.size - posOf b wr)
  case atStart => exact ⟨p, [], none, 0, H0⟩
  case round =>
    clear H0 HW2 hW
    obtain ⟨q, acc, a, c, HQ⟩ := hrel
    have hq0 := hid HQ.out.1.rr.pos
    have HC := hid (rd_closed HQ.out.1.rr)
    go_wp2_with fail
    refine HC.out.mono ?_
    clear HC
    rintro e w1 (⟨q2, rfl, HX⟩ | ⟨q2, rfl, HX⟩ | ⟨⟨v, rfl⟩, HX⟩)
    · have hqq : q ≤ q2 := by
        have h1 := skB_len false (rst s q)
        rw [HX.out.1] at h1
        simp only [List.length_cons, rst_len] at h1
        have h2 := HX.out.2.1.1.1
        omega
      have HL := hid (HQ.out.1.on HX.out.2.1 HX.out.2.2 hqq)
      have HRR : Hid (R = .ok (.node 5 ⟨#[]⟩ acc []) (rst s q2)) := hid (HQ.out.2.close HX.out.1)
      obtain ⟨e0, e1, e2, e3, -, -, -, -⟩ := HL.out.d.c4
      obtain ⟨i0, i1, i2, i3, f0, f1, f2, f3⟩ := HL.out.g.c4
      clear HX HQ hq0 HRD HS hqq
      go_wp2
      obtain ⟨k1, k2⟩ := HL.out.fin HRR.out
      exact bodyPost_ret (v := .agg #[.int .i64 5, .string ⟨#[]⟩, .slice a acc.length c, .slice none 0 0]) (res4 k1 Tryd.results48 rfl) rfl k2
    · obtain ⟨hx0, ⟨hx1, hx2⟩, hx3, hx4⟩ := HX.out
      have hqq : q ≤ q2 := by
        have h1 := skB_len false (rst s q)
        rw [hx0] at h1
        simp only [rst_len] at h1
        omega
      have hcons : rst s q2 = s[q2] :: rst s (q2 + 1) := rst_cons hx1
      have hit := fun h => HQ.out.2.item (rdD_gets n) (by rw [hx0]; exact hcons) hx2 h
      rw [← hcons] at hit
      have HL0 := hid (HQ.out.1.on hx3 hx4 hqq)
      obtain ⟨e0, e1, e2, e3, -, -, -, -⟩ := HL0.out.d.c4
      by_cases hz : acc.length = 0
      · have hz1 : ¬ (0 : Int) < (acc.length : Int) := by omega
        have hst := hit (by rintro ⟨_, h, _⟩; exact h (List.length_eq_zero_iff.1 hz))
        clear hit hz
        have HL1 : Hid (∀ k, Lp b s o w G D 5 q2 acc a c (w1.drewN k)) := hid fun k => HL0.out.under (blw_drewN k (Below.refl _ _))
        have HC : Hid (∀ k, Calls Tryd.prog 30 #[.pointer (some ⟨b, 0, none⟩)] (w1.drewN k) fun e w' => RdO b s o (w1.drewN k) (rdD n (rst s q2)) e w') := hid fun k => HRD.out b s q2 o _ (HL1.out k).rr hn2.out
        have HPn : Hid (∀ k w3 v, Hid (∃ k' m, rdD n (rst s q2) = .bad k' m ∧ k' ≤ s.size ∧ Flt b s k' m w3 ∧ Pt b (w1.drewN k) w3) → RdO b s o w R (.panicked [{ v := .iface 44 v, recovered := false }]) w3) := hid fun k w3 v hh => by
          obtain ⟨k', m, g1, g2, g3, g4⟩ := hh.out
          exact .inr ⟨⟨v, rfl⟩, hid ⟨k', m, hst.1 k' m g1, g2, g3, (HL1.out k).pt.trans_ g4⟩⟩
        have HDc : Hid (∀ k w3, Pt b (w1.drewN k) w3 → C4 w3 D (.int .i64 5) (.string ⟨#[]⟩) (.slice a acc.length c) (.slice none 0 0) ∧ D < w3.heap.size) := hid fun k w3 hp => by
          have hd := (HL1.out k).d.part hp (fun e => by have := HL0.out.z; omega)
          exact ⟨hd.c4, (Array.getElem?_eq_some_iff.1 hd).1⟩
        have HNx : Hid (∀ d q3 V, rdD n (rst s q2) = .ok d (rst s q3) → Rr b s q3 o V → q2 < q3 ∧ Std (rdD n) false R (acc ++ [d]) (rst s q3)) := hid fun d q3 V e r => by
          have h1 := (rdD_gets n _ _ _ e).2.1
          rw [rst_len, rst_len] at h1
          exact ⟨by omega, hst.2 _ _ e⟩
        have HLe : Hid (∀ d : Dt, acc.length + [d].length ≤ 1099511627776) := hid fun d => by
          have h1 := HL0.out.le
          have h2 := HS.out
          simp
          omega
        have hms : Hid (q ≤ q2 ∧ q2 < s.size) := hid ⟨hqq, hx1⟩
        clear hst hcons hx0 hx1 hx2 hx3 hx4 hqq HX HQ HRD HS
        go_wp2_with fail
        go_region_law (first | (go_simp; go_at_call 30; refine (HC.out _).mono ?_; rintro e w3 (⟨d, a3, c3, a4, c4, q3, rfl, HR⟩ | ⟨⟨v, rfl⟩, HR⟩); rotate_left; (exact ⟨rfl, HPn.out _ _ v HR⟩); obtain ⟨⟨e0, e1, e2, e3, f0, f1, f2, f3⟩, n5⟩ := HDc.out _ w3 HR.out.2.2.1; have HM2 := hid (HNx.out _ _ _ HR.out.1 HR.out.2.1); have HM := hid ((HL1.out _).ready HR.out.2.2.1 HR.out.2.2.2); obtain ⟨G3, hG3⟩ : ∃ G3, w3.heap.size = G3 := ⟨_, rfl⟩; have n6 : D < G3 := (by omega); rw [hG3] at HM) | (refine step_push rfl _ _ rfl (D + 1) (.slice a acc.length c) (.slice (some ⟨G3, 0, none⟩) 1 1) acc [d] (by go_simp) (by go_simp) (by exact HM.out.1) (by exact HM.out.2.1) (by exact HLe.out d) (by exact HM.out.2.2) ?_; intro a' c' w5 hr5 hg5; obtain ⟨⟨e0, e1, e2, e3, f0, f1, f2, f3⟩, HN2⟩ := (HL1.out _).push HR.out.2.2.1 HR.out.2.1 HM2.out.1 hr5 hg5; have HN3 := hid HN2; clear HN2))
        all_goals
          have HN4 := hid (show Lp b s o w G D 5 q3 (acc ++ [d]) a' c' (w5.setCell ⟨D, 2, none⟩ (.slice a' (acc.length + 1) c')) ∧ Std (rdD n) false R (acc ++ [d]) (rst s q3) from ⟨HN3.out, HM2.out.2⟩)
          have HN5 : Hid (q < q3) := hid (by have := HM2.out.1; have := hms.out; omega)
          clear HN3 HM2 HM HR HPn HDc HNx HLe HC HL1 HL0
          go_wp2
          go_roundw
          case rel => exact ⟨q3, acc ++ [d], a', c', HN4⟩
          case measure =>
            have h1 := HN4.out.1.rr.pos
            have h2 := HN5.out
            have h3 := hq0.out
            have h4 := hms.out
            rw [h1, h3]
            omega
      · have hz1 : (0 : Int) < (acc.length : Int) := by omega
        have hne : acc ≠ [] := fun e => hz (by rw [e]; rfl)
        have HDt := hid (rd_dot hx3 hx1)
        have HSt := hid HQ.out.2
        have Hx : Hid (q ≤ q2 ∧ skB false (rst s q) = s[q2] :: rst s (q2 + 1) ∧ s[q2] ≠ 41) := hid ⟨hqq, by rw [hx0]; exact hcons, hx2⟩
        have Hit := hid hit
        have Hcons := hid hcons
        have Hne := hid hne
        clear hit hz hcons hx0 hx2 hx3 hx4 hqq HX HQ hne
        go_wp2_with fail
        refine HDt.out.mono ?_
        clear HDt
        rintro e w2 (⟨rfl, hd⟩ | ⟨rfl, hd⟩)
        · have hd1 := hd.out.1
          have HL2 := hid (HL0.out.on hd.out.2.1 hd.out.2.2 (by omega))
          have HRR : Hid (R = dotR acc (rdD n (rst s (q2 + 1)))) := hid (HSt.out.dot Hx.out.2.1 Hx.out.2.2 Hne.out hd1.1 (by rw [← Hcons.out]; exact hd1.2))
          have HC := hid (rd_dotted HRD.out HL2.out.rr hn2.out (show b < D + 1 by have := HL2.out.z; omega) (Nat.succ_le_of_lt (Array.getElem?_eq_some_iff.1 HL2.out.d).1) HL2.out.row HL2.out.le)
          obtain ⟨e0, e1, e2, e3, -, -, -, -⟩ := HL2.out.d.c4
          clear hd hd1 HSt Hx Hit Hcons Hne HL0 HRD HS
          go_wp2_with fail
          refine HC.out.mono ?_
          clear HC
          rintro e w4 (⟨d, a3, c3, a4, c4, q3, rfl, HR⟩ | ⟨⟨v, rfl⟩, HR⟩)
          · have hG4 : D4 w4 G (.int .i64 0) (.string ⟨#[]⟩) (.slice none 0 0) (.slice none 0 0) := HL2.out.g.part HR.out.2.2.1 (fun e => by have := HL2.out.z; rcases e with e | e <;> omega)
            have HE : Hid (D4 (set4 w4 G (.int .i64 d.kd) (.string d.tx) (.slice a3 d.its.length c3) (.slice a4 d.tl.length c4)) G (.int .i64 d.kd) (.string d.tx) (.slice a3 d.its.length c3) (.slice a4 d.tl.length c4) ∧ RdO b s o w R (.returned (.agg #[.int .i64 d.kd, .string d.tx, .slice a3 d.its.length c3, .slice a4 d.tl.length c4])) (set4 w4 G (.int .i64 d.kd) (.string d.tx) (.slice a3 d.its.length c3) (.slice a4 d.tl.length c4))) := hid (by
              have z := HL2.out.z
              refine ⟨hG4.set _ _ _ _, .inl ⟨d, a3, c3, a4, c4, q3, rfl, hid ⟨HRR.out.trans HR.out.1, HR.out.2.1.part (set4_part w4 G _ _ _ _) (fun e => by omega), Pt.set4_ (Part.trans HL2.out.pt HR.out.2.2.1 (fun i hi e => by rcases e with e | e <;> omega)) z.1 _ _ _ _, ?_⟩⟩⟩
              exact ds_keep HR.out.2.2.2 (fun k k1 k2 => set4_other w4 (show k ≠ G by omega) _ _ _ _) (by omega))
            obtain ⟨i0, i1, i2, i3, f0, f1, f2, f3⟩ := hG4.c4
            clear hG4 HR HL2 HRR
            go_wp2
            exact bodyPost_ret (v := .agg #[.int .i64 d.kd, .string d.tx, .slice a3 d.its.length c3, .slice a4 d.tl.length c4]) (res4 HE.out.1 Tryd.results48 rfl) rfl HE.out.2
          · have HF : Hid (RdO b s o w R (.panicked [{ v := .iface 44 v, recovered := false }]) w4) := hid (by
              obtain ⟨k, m, g1, g2, g3, g4⟩ := HR.out
              have z := HL2.out.z
              exact .inr ⟨⟨v, rfl⟩, hid ⟨k, m, HRR.out.trans g1, g2, g3, Part.trans HL2.out.pt g4 (fun i hi e => by rcases e with e | e <;> omega)⟩⟩)
            clear HR HL2 HRR
            go_wp2
            refine ⟨rfl, ?_⟩
            exact HF.out
        · have HLx := hid (HL0.out.on hd.out.2.1 hd.out.2.2 (Nat.le_refl _))
          have hst := Hit.out (by rintro ⟨_, _, h1, h2⟩; exact hd.out.1 ⟨h1, h2⟩)
          have hqq := Hx.out.1
          clear HL0
          have HL0 := HLx
          clear HLx
          have HL1 : Hid (∀ k, Lp b s o w G D 5 q2 acc a c (w2.drewN k)) := hid fun k => HL0.out.under (blw_drewN k (Below.refl _ _))
          have HC : Hid (∀ k, Calls Tryd.prog 30 #[.pointer (some ⟨b, 0, none⟩)] (w2.drewN k) fun e w' => RdO b s o (w2.drewN k) (rdD n (rst s q2)) e w') := hid fun k => HRD.out b s q2 o _ (HL1.out k).rr hn2.out
          have HPn : Hid (∀ k w3 v, Hid (∃ k' m, rdD n (rst s q2) = .bad k' m ∧ k' ≤ s.size ∧ Flt b s k' m w3 ∧ Pt b (w2.drewN k) w3) → RdO b s o w R (.panicked [{ v := .iface 44 v, recovered := false }]) w3) := hid fun k w3 v hh => by
            obtain ⟨k', m, g1, g2, g3, g4⟩ := hh.out
            exact .inr ⟨⟨v, rfl⟩, hid ⟨k', m, hst.1 k' m g1, g2, g3, (HL1.out k).pt.trans_ g4⟩⟩
          have HDc : Hid (∀ k w3, Pt b (w2.drewN k) w3 → C4 w3 D (.int .i64 5) (.string ⟨#[]⟩) (.slice a acc.length c) (.slice none 0 0) ∧ D < w3.heap.size) := hid fun k w3 hp => by
            have hd := (HL1.out k).d.part hp (fun e => by have := HL0.out.z; omega)
            exact ⟨hd.c4, (Array.getElem?_eq_some_iff.1 hd).1⟩
          have HNx : Hid (∀ d q3 V, rdD n (rst s q2) = .ok d (rst s q3) → Rr b s q3 o V → q2 < q3 ∧ Std (rdD n) false R (acc ++ [d]) (rst s q3)) := hid fun d q3 V e r => by
            have h1 := (rdD_gets n _ _ _ e).2.1
            rw [rst_len, rst_len] at h1
            exact ⟨by omega, hst.2 _ _ e⟩
          have HLe : Hid (∀ d : Dt, acc.length + [d].length ≤ 1099511627776) := hid fun d => by
            have h1 := HL0.out.le
            have h2 := HS.out
            simp
            omega
          have hms : Hid (q ≤ q2 ∧ q2 < s.size) := hid ⟨hqq, hx1⟩
          obtain ⟨e0, e1, e2, e3, -, -, -, -⟩ := HL0.out.d.c4
          clear hst HSt Hx Hit Hcons Hne hd hx1 hqq HRD HS
          go_wp2_with fail
          go_region_law (first | (go_simp; go_at_call 30; refine (HC.out _).mono ?_; rintro e w3 (⟨d, a3, c3, a4, c4, q3, rfl, HR⟩ | ⟨⟨v, rfl⟩, HR⟩); rotate_left; (exact ⟨rfl, HPn.out _ _ v HR⟩); obtain ⟨⟨e0, e1, e2, e3, f0, f1, f2, f3⟩, n5⟩ := HDc.out _ w3 HR.out.2.2.1; have HM2 := hid (HNx.out _ _ _ HR.out.1 HR.out.2.1); have HM := hid ((HL1.out _).ready HR.out.2.2.1 HR.out.2.2.2); obtain ⟨G3, hG3⟩ : ∃ G3, w3.heap.size = G3 := ⟨_, rfl⟩; have n6 : D < G3 := (by omega); rw [hG3] at HM) | (refine step_push rfl _ _ rfl (D + 1) (.slice a acc.length c) (.slice (some ⟨G3, 0, none⟩) 1 1) acc [d] (by go_simp) (by go_simp) (by exact HM.out.1) (by exact HM.out.2.1) (by exact HLe.out d) (by exact HM.out.2.2) ?_; intro a' c' w5 hr5 hg5; obtain ⟨⟨e0, e1, e2, e3, f0, f1, f2, f3⟩, HN2⟩ := (HL1.out _).push HR.out.2.2.1 HR.out.2.1 HM2.out.1 hr5 hg5; have HN3 := hid HN2; clear HN2))
          all_goals
            have HN4 := hid (show Lp b s o w G D 5 q3 (acc ++ [d]) a' c' (w5.setCell ⟨D, 2, none⟩ (.slice a' (acc.length + 1) c')) ∧ Std (rdD n) false R (acc ++ [d]) (rst s q3) from ⟨HN3.out, HM2.out.2⟩)
            have HN5 : Hid (q < q3) := hid (by have := HM2.out.1; have := hms.out; omega)
            clear HN3 HM2 HM HR HPn HDc HNx HLe HC HL1 HL0
            go_wp2
            go_roundw
            case rel => exact ⟨q3, acc ++ [d], a', c', HN4⟩
            case measure =>
              have h1 := HN4.out.1.rr.pos
              have h2 := HN5.out
              have h3 := hq0.out
              have h4 := hms.out
              rw [h1, h3]
              omega
    · have HF : Hid (RdO b s o w R (.panicked [{ v := .iface 44 v, recovered := false }]) w1) := hid (.inr ⟨⟨v, rfl⟩, hid ⟨0, 100, HQ.out.2.stop HX.out.1, Nat.zero_le _, HX.out.2.1, HQ.out.1.pt.trans_ HX.out.2.2⟩⟩)
      clear HX HQ hq0 HRD HS
      go_wp2
      refine ⟨rfl, ?_⟩
      exact HF.out
end Go.Proofs.YtfobiknbjijphaaDoor

namespace Go.Proofs.YtfobiknbjijphaaDoor
open Go.RowKit
set_option linter.unusedVariables false
set_option linter.unusedSimpArgs false

/-- A result is put into the block that is handed back. -/
theorem dat_end {b : Nat} {s : ByteArray} {o q G c c2 : Nat} {w V1 V2 : World} {d : Dt} {a a2 : Option Addr} {R : Rs Dt} (z : w.heap.size ≤ G ∧ b < G) (g : D4 V2 G (.int .i64 0) (.string ⟨#[]⟩) (.slice none 0 0) (.slice none 0 0)) (pt : Pt b w V1) (h1 : G < V1.heap.size) (hr : R = .ok d (rst s q)) (r : Rr b s q o V2) (p : Pt b V1 V2)
    (ds : DS V1.heap.size none V2 d (.agg #[.int .i64 d.kd, .string d.tx, .slice a d.its.length c, .slice a2 d.tl.length c2])) :
    D4 (set4 V2 G (.int .i64 d.kd) (.string d.tx) (.slice a d.its.length c) (.slice a2 d.tl.length c2)) G (.int .i64 d.kd) (.string d.tx) (.slice a d.its.length c) (.slice a2 d.tl.length c2) ∧
    RdO b s o w R (.returned (.agg #[.int .i64 d.kd, .string d.tx, .slice a d.its.length c, .slice a2 d.tl.length c2])) (set4 V2 G (.int .i64 d.kd) (.string d.tx) (.slice a d.its.length c) (.slice a2 d.tl.length c2)) := by
  refine ⟨g.set _ _ _ _, .inl ⟨d, a, c, a2, c2, q, rfl, hid ⟨hr, r.part (set4_part V2 G _ _ _ _) (fun e => by omega), Pt.set4_ (pt.trans_ p) z.1 _ _ _ _, ?_⟩⟩⟩
  exact ds_keep ds (fun k k1 k2 => set4_other V2 (show k ≠ G by omega) _ _ _ _) (by omega)
theorem pcL_delim {c : UInt8} {r : List UInt8} (h : dlB c = true) : pcL (c :: r) = 0 := by
  simp [pcL, enB, h]
theorem atL_nil : atL [] = .bad 100 := by
  unfold atL
  rw [if_neg (by simp), if_neg (fun h => absurd h.1 (by decide)), if_neg (fun h => h.1 rfl)]
theorem rdD_shut {n : Nat} {l r : List UInt8} (h : skB false l = 41 :: r) : rdD n l = .bad (r.length + 1) 100 := by
  rw [rdD_piece h (by decide) rfl, pcL_delim (by decide)]
  show (match atL [] with | .bad n => Rs.bad (r.length + 1) n | .ok d => Rs.ok d ((41 :: r).drop 0)) = _
  rw [atL_nil]
/-- Where datum stands behind the blanks. -/
structure Sd (b : Nat) (s : ByteArray) (o : Nat) (w : World) (G q : Nat) (V : World) : Prop where
  rr : Rr b s q o V
  g : D4 V G (.int .i64 0) (.string ⟨#[]⟩) (.slice none 0 0) (.slice none 0 0)
  pt : Pt b w V
  z : w.heap.size ≤ G ∧ b < G
theorem Sd.under {b : Nat} {s : ByteArray} {o : Nat} {w : World} {G q : Nat} {V V' : World} (h : Sd b s o w G q V) (hb : Below V.heap.size V V') : Sd b s o w G q V' := ⟨h.rr.under hb, h.g.under hb, h.pt.trans_ (Pt.ofB hb), h.z⟩
theorem Sd.on {b : Nat} {s : ByteArray} {o : Nat} {w : World} {G q q2 : Nat} {V V' : World} (h : Sd b s o w G q V) (r : Rr b s q2 o V') (p : Pt b V V') : Sd b s o w G q2 V' := ⟨r, h.g.part p (fun e => by have := h.z; omega), h.pt.trans_ p, h.z⟩
theorem Sd.lt {b : Nat} {s : ByteArray} {o : Nat} {w : World} {G q : Nat} {V : World} (h : Sd b s o w G q V) : G < V.heap.size := (Array.getElem?_eq_some_iff.1 h.g).1
def strR (k : Nat) (r : List UInt8) : Rs Dt := match stL k [] r with | .bad k n => .bad k n | .ok t r2 => .ok (.node 3 (ba t) [] []) r2
theorem rdD_strR {n : Nat} {l r : List UInt8} (h : skB false l = 34 :: r) : rdD n l = strR (r.length + 1) r := by
  rw [rdD_str h]; rfl
theorem strR_ok {k : Nat} {r t r2 : List UInt8} (h : stL k [] r = .ok t r2) : strR k r = .ok (.node 3 (ba t) [] []) r2 := by simp only [strR, h]
theorem strR_bad {k j n : Nat} {r : List UInt8} (h : stL k [] r = .bad j n) : strR k r = .bad j n := by simp only [strR, h]
noncomputable def pcR (k : Nat) (l : List UInt8) : Rs Dt := match atL (l.take (pcL l)) with | .bad n => .bad k n | .ok d => .ok d (l.drop (pcL l))
theorem rdD_pcR {n : Nat} {l r : List UInt8} {c : UInt8} (h : skB false l = c :: r) (h1 : c ≠ 34) (h2 : opn (c :: r) = 0) : rdD n l = pcR (r.length + 1) (c :: r) := by
  rw [rdD_piece h h1 h2]; rfl
theorem pcR_ok {k : Nat} {l : List UInt8} {d : Dt} (h : atL (l.take (pcL l)) = .ok d) : pcR k l = .ok d (l.drop (pcL l)) := by simp only [pcR, h]
theorem pcR_bad {k n : Nat} {l : List UInt8} (h : atL (l.take (pcL l)) = .bad n) : pcR k l = .bad k n := by simp only [pcR, h]
theorem beq_dec (a c : UInt8) : (a == c) = decide (c = a) := by
  rw [Bool.eq_iff_iff, beq_iff_eq, decide_eq_true_iff]
  exact eq_comm
theorem tk_yes {b : Nat} {s : ByteArray} {o : Nat} {w : World} {G q : Nat} {V : World} (h : Sd b s o w G q V) (t : ByteArray) (k : Nat) (hk : t.size = k) (hp : t.data.toList.isPrefixOf (rst s q) = true) : Calls Tryd.prog 46 #[.pointer (some ⟨b, 0, none⟩), .string t] V fun e w' => e = .returned (.bool true) ∧ Hid (Sd b s o w G (q + k) w') := by
  subst hk
  refine (rd_take h.rr t).mono ?_
  rintro e w' (⟨rfl, h2⟩ | ⟨rfl, h2⟩)
  · exact ⟨rfl, h.on h2.out.2.1 h2.out.2.2⟩
  · rw [hp] at h2; cases h2.out.1
theorem tk_no {b : Nat} {s : ByteArray} {o : Nat} {w : World} {G q : Nat} {V : World} (h : Sd b s o w G q V) (t : ByteArray) (hp : t.data.toList.isPrefixOf (rst s q) = false) : Calls Tryd.prog 46 #[.pointer (some ⟨b, 0, none⟩), .string t] V fun e w' => e = .returned (.bool false) ∧ Hid (Sd b s o w G q w') := by
  refine (rd_take h.rr t).mono ?_
  rintro e w' (⟨rfl, h2⟩ | ⟨rfl, h2⟩)
  · rw [hp] at h2; cases h2.out.1
  · exact ⟨rfl, h.under h2.out.2⟩
theorem wi_gen {b : Nat} {s : ByteArray} {q o n : Nat} {V : World} {R : Rs Dt} {e : Ending} {w' : World} (hq : q ≤ s.size) (hn : o + n = 64) (h0 : n = 0 → R = .bad (s.size - q) 7) (h : (o = 64 ∧ Pnc e ∧ Hid (Flt b s (s.size - q) 7 w' ∧ Pt b V w')) ∨ (o < 64 ∧ RdO b s o V R e w')) : RdO b s o V R e w' := by
  rcases h with ⟨h1, h2, h3⟩ | h
  · exact .inr ⟨h2, hid ⟨s.size - q, 7, h0 (by omega), by omega, h3.out.1, h3.out.2⟩⟩
  · exact h.2
set_option maxHeartbeats 8000000 in
theorem rd_datum {n : Nat} (hRD : ∀ m, n = m + 1 → RD m) : RD n := by
  intro b s p o w h hn
  obtain ⟨G, hG⟩ : ∃ G, w.heap.size = G := ⟨_, rfl⟩
  obtain ⟨W1, hW⟩ : ∃ W1, w.alloc (.cells #[.int .i64 0, .string ⟨#[]⟩, .slice none 0 0, .slice none 0 0] 34) = W1 := ⟨_, rfl⟩
  have hB1 : Below w.heap.size w W1 := by rw [← hW]; exact (Below.refl _ w).alloc (Nat.le_refl _) _
  have d1 : D4 W1 G (.int .i64 0) (.string ⟨#[]⟩) (.slice none 0 0) (.slice none 0 0) := by rw [← hW]; exact heap_alloc_at _ _ _ hG.symm
  have hbG : b < G := by rw [← hG]; exact h.lt
  have S1 : Sd b s o w G p W1 := ⟨h.under hB1, d1, Pt.ofB hB1, by omega, hbG⟩
  have HK := hid (rd_skip S1.rr)
  have HS1 := hid S1
  have HRD := hid hRD
  have hn2 := hid hn
  obtain ⟨R, hR⟩ : ∃ R, rdD n (rst s p) = R := ⟨_, rfl⟩
  have HR := hid hR
  rw [hR]
  have hmf : ∀ (f : FuncId) (x y : Array Value) (V : World), (Instr.makeFunc (.func f) x y).run Tryd.prog V = .ok (.func (.func f) x y) V := fun _ _ _ _ => rfl
  clear h hB1 d1 hbG S1 hRD hn hR
  go_enter Tryd.func30, Tryd.ntmps30
  go_wp2_with fail
  try rw [hW]
  try rw [hG]
  try go_wp2_with fail
  refine HK.out.mono ?_
  clear HK
  rintro e w1 ⟨rfl, HQ⟩
  obtain ⟨q, hq1, hq2, hq3⟩ := HQ.out
  have HS := hid (HS1.out.on hq1 hq3)
  have Hq := hid hq2
  have HE := hid (rd_ended hq1)
  obtain ⟨-, k1, -, -, -, -, -, -, -⟩ := hq1.cells
  clear HQ hq1 hq2 hq3 HS1
  go_wp2_with fail
  refine HE.out.mono ?_
  clear HE
  rintro e w2 ⟨rfl, hb2⟩
  have HS2 := hid (HS.out.under hb2.out)
  clear hb2
  by_cases hlt : s.size ≤ q
  · have hd : decide (s.size ≤ q) = true := decide_eq_true hlt
    have hqs : q ≤ s.size := HS2.out.rr.1.1
    have HRR : Hid (R = .bad (s.size - q) 100) := hid (by
      rw [← HR.out, rdD_nil (by rw [← Hq.out]; exact rst_nil hlt)]
      congr 1; omega)
    have HG := hid (rd_giveUp HS2.out.rr q 100 hqs)
    rw [hd]
    clear hlt
    go_wp2_with fail
    refine HG.out.mono ?_
    rintro e w3 ⟨⟨v, rfl⟩, hf, hp⟩
    have HF : Hid (RdO b s o w R (.panicked [{ v := .iface 44 v, recovered := false }]) w3) := hid (.inr ⟨⟨v, rfl⟩, hid ⟨s.size - q, 100, by rw [HRR.out], by omega, hf.out 100 rfl, HS2.out.pt.trans_ hp.out⟩⟩)
    clear hf hp HG HS2 HRD HR
    go_wp2
    refine ⟨rfl, ?_⟩
    exact HF.out
  · have hd : decide (s.size ≤ q) = false := decide_eq_false hlt
    have hqs : q < s.size := by omega
    obtain ⟨c, hc⟩ : ∃ c, s[q] = c := ⟨_, rfl⟩
    obtain ⟨r, hr⟩ : ∃ r, rst s (q + 1) = r := ⟨_, rfl⟩
    have Hr := hid hr
    have hcons : rst s q = c :: r := by rw [rst_cons hqs, hc, hr]
    have hrl : r.length = s.size - (q + 1) := by rw [← hr, rst_len]
    have Hcons := hid hcons
    have hl : skB false (rst s p) = c :: r := by rw [← Hq.out, hcons]
    have Hl := hid hl
    obtain ⟨y0, y1, -, -, -, -, -, -, -⟩ := HS2.out.rr.cells
    have l0 : (0 : Int) ≤ (q : Int) := by omega
    have l1 : (q : Int) < (s.size : Int) := by omega
    have Hql : Hid (q < s.size ∧ r.length = s.size - (q + 1)) := hid ⟨hqs, hrl⟩
    rw [hd]
    by_cases h41 : c = 41
    · have b41 : ((c.toNat : Int) == 41) = true := by rw [h41]; rfl
      have HRR : Hid (R = .bad (s.size - q) 100) := hid (by
        rw [← HR.out, rdD_shut (by rw [hl, h41]), hrl]
        congr 1; omega)
      have HG := hid (rd_giveUp HS2.out.rr q 100 (by omega))
      clear hl hcons hr hrl h41
      go_wp2_with fail
      refine HG.out.mono ?_
      rintro e w3 ⟨⟨v, rfl⟩, hf, hp⟩
      have HF : Hid (RdO b s o w R (.panicked [{ v := .iface 44 v, recovered := false }]) w3) := hid (.inr ⟨⟨v, rfl⟩, hid ⟨s.size - q, 100, by rw [HRR.out], by omega, hf.out 100 rfl, HS2.out.pt.trans_ hp.out⟩⟩)
      clear hf hp HG HS2 HRD HR
      go_wp2
      refine ⟨rfl, ?_⟩
      exact HF.out
    have b41 : ((c.toNat : Int) == 41) = false := by
      have : ((c.toNat : Int) == 41) = decide (c = 41) := @u8b c 41 (by decide)
      rw [this, decide_eq_false h41]
    have q40 : (⟨#[40]⟩ : ByteArray).data.toList.isPrefixOf (rst s q) = decide (c = 40) := by
      rw [hcons]; show [40].isPrefixOf (c :: r) = _
      rw [pre1_eq]; exact beq_dec _ c
    have q39 : (⟨#[39]⟩ : ByteArray).data.toList.isPrefixOf (rst s q) = decide (c = 39) := by
      rw [hcons]; show [39].isPrefixOf (c :: r) = _
      rw [pre1_eq]; exact beq_dec _ c
    have q34 : (⟨#[34]⟩ : ByteArray).data.toList.isPrefixOf (rst s q) = decide (c = 34) := by
      rw [hcons]; show [34].isPrefixOf (c :: r) = _
      rw [pre1_eq]; exact beq_dec _ c
    have q35 : (⟨#[35, 40]⟩ : ByteArray).data.toList.isPrefixOf (rst s q) = (c == 35 && r.head? == some 40) := by
      rw [hcons]; exact pre2_eq r c
    clear hr
    by_cases h40 : c = 40
    · subst h40
      have P40 := hid (q40.trans (decide_eq_true rfl))
      clear q40 q39 q34 q35 hl hcons hrl
      go_wp2_with fail
      refine (tk_yes HS2.out ⟨#[40]⟩ 1 rfl P40.out).mono ?_
      rintro e w3 ⟨rfl, HS3⟩
      have HWi : Hid (Calls Tryd.prog 47 #[.pointer (some ⟨b, 0, none⟩), .int .i64 (q : Int), .func (.func 48) #[.pointer (some ⟨b, 0, none⟩)] #[]] w3 fun e w' => RdO b s o w3 R e w') := hid (by
        refine (rd_withinL HS3.out.rr q (by omega) R (fun V hV => ?_)).mono (fun e w' he => wi_gen (by omega) hn2.out (fun h0 => ?_) he)
        · cases n with
          | zero => exact absurd hV.1.2.2 (by have := hn2.out; omega)
          | succ m =>
            have := rd_list (HRD.out m rfl) hV (by have := hn2.out; omega) (r.length + 1) (by rw [Hr.out]; exact Nat.lt_succ_self _)
            rw [← HR.out, rdD_list Hl.out]; rw [Hr.out] at this; exact this
        · subst h0
          rw [← HR.out, rdD_deep Hl.out (by simp [opn]), Hql.out.2]; congr 1; omega)
      clear P40 HS2 HS Hcons
      go_wp2_with fail
      refine HWi.out.mono ?_
      clear HWi
      rintro e w4 (⟨d, a3, c3, a4, c4, q3, rfl, HX⟩ | ⟨⟨v, rfl⟩, HX⟩)
      · have hG : D4 w4 G (.int .i64 0) (.string ⟨#[]⟩) (.slice none 0 0) (.slice none 0 0) := HS3.out.g.part HX.out.2.2.1 (fun e => by have := HS3.out.z; omega)
        have HE := hid (dat_end HS3.out.z hG HS3.out.pt HS3.out.lt HX.out.1 HX.out.2.1 HX.out.2.2.1 HX.out.2.2.2)
        obtain ⟨i0, i1, i2, i3, f0, f1, f2, f3⟩ := hG.c4
        clear hG HX HRD HR
        go_wp2
        exact bodyPost_ret (v := .agg #[.int .i64 d.kd, .string d.tx, .slice a3 d.its.length c3, .slice a4 d.tl.length c4]) (res4 HE.out.1 Tryd.results30 rfl) rfl HE.out.2
      · have HF : Hid (RdO b s o w R (.panicked [{ v := .iface 44 v, recovered := false }]) w4) := hid (by
          obtain ⟨k, m, g1, g2, g3, g4⟩ := HX.out
          exact .inr ⟨⟨v, rfl⟩, hid ⟨k, m, g1, g2, g3, HS3.out.pt.trans_ g4⟩⟩)
        clear HX HRD HR
        go_wp2
        refine ⟨rfl, ?_⟩
        exact HF.out
    have P40 := hid (q40.trans (decide_eq_false h40))
    by_cases h35 : (c == 35 && r.head? == some 40) = true
    · have P35 := hid (q35.trans h35)
      have hx : ∃ r2, c = 35 ∧ r = 40 :: r2 := by
        rw [Bool.and_eq_true, beq_iff_eq, beq_iff_eq] at h35
        cases r with
        | nil => simp at h35
        | cons x r2 => exact ⟨r2, h35.1, by have := h35.2; simp at this; rw [this]⟩
      obtain ⟨r2, hx1, hx2⟩ := hx
      subst hx1; subst hx2
      have Hr2 : Hid (rst s (q + 2) = r2) := hid (by
        have := rst_drop s (q + 1) 1
        rw [Hr.out] at this
        exact this.symm)
      clear q40 q39 q34 q35 hl hcons hrl h40 h35
      go_wp2_with fail
      refine (tk_no HS2.out ⟨#[40]⟩ P40.out).mono ?_
      rintro e w3 ⟨rfl, HS3⟩
      go_wp2_with fail
      refine (tk_yes HS3.out ⟨#[35, 40]⟩ 2 rfl P35.out).mono ?_
      rintro e w4 ⟨rfl, HS4⟩
      have HWi : Hid (Calls Tryd.prog 47 #[.pointer (some ⟨b, 0, none⟩), .int .i64 (q : Int), .func (.func 49) #[.pointer (some ⟨b, 0, none⟩)] #[]] w4 fun e w' => RdO b s o w4 R e w') := hid (by
        refine (rd_withinV HS4.out.rr q (by omega) R (fun V hV => ?_)).mono (fun e w' he => wi_gen (by omega) hn2.out (fun h0 => ?_) he)
        · cases n with
          | zero => exact absurd hV.1.2.2 (by have := hn2.out; omega)
          | succ m =>
            have := rd_vector (HRD.out m rfl) hV (by have := hn2.out; omega) (r2.length + 2) (by rw [Hr2.out]; omega)
            rw [← HR.out, rdD_vec Hl.out]; rw [Hr2.out] at this; exact this
        · subst h0
          rw [← HR.out, rdD_deep Hl.out (by simp [opn]), Hql.out.2]; congr 1; omega)
      clear P35 P40 HS2 HS HS3 Hcons
      go_wp2_with fail
      refine HWi.out.mono ?_
      clear HWi
      rintro e w5 (⟨d, a3, c3, a4, c4, q3, rfl, HX⟩ | ⟨⟨v, rfl⟩, HX⟩)
      · have hG : D4 w5 G (.int .i64 0) (.string ⟨#[]⟩) (.slice none 0 0) (.slice none 0 0) := HS4.out.g.part HX.out.2.2.1 (fun e => by have := HS4.out.z; omega)
        have HE := hid (dat_end HS4.out.z hG HS4.out.pt HS4.out.lt HX.out.1 HX.out.2.1 HX.out.2.2.1 HX.out.2.2.2)
        obtain ⟨i0, i1, i2, i3, f0, f1, f2, f3⟩ := hG.c4
        clear hG HX HRD HR
        go_wp2
        exact bodyPost_ret (v := .agg #[.int .i64 d.kd, .string d.tx, .slice a3 d.its.length c3, .slice a4 d.tl.length c4]) (res4 HE.out.1 Tryd.results30 rfl) rfl HE.out.2
      · have HF : Hid (RdO b s o w R (.panicked [{ v := .iface 44 v, recovered := false }]) w5) := hid (by
          obtain ⟨k, m, g1, g2, g3, g4⟩ := HX.out
          exact .inr ⟨⟨v, rfl⟩, hid ⟨k, m, g1, g2, g3, HS4.out.pt.trans_ g4⟩⟩)
        clear HX HRD HR
        go_wp2
        refine ⟨rfl, ?_⟩
        exact HF.out
    have P35 := hid (q35.trans (Bool.eq_false_iff.2 h35))
    by_cases h39 : c = 39
    · subst h39
      have P39 := hid (q39.trans (decide_eq_true rfl))
      clear q40 q39 q34 q35 hl hcons hrl h40 h35
      go_wp2_with fail
      refine (tk_no HS2.out ⟨#[40]⟩ P40.out).mono ?_
      rintro e w3 ⟨rfl, HS3⟩
      go_wp2_with fail
      refine (tk_no HS3.out ⟨#[35, 40]⟩ P35.out).mono ?_
      rintro e w4 ⟨rfl, HS4⟩
      go_wp2_with fail
      refine (tk_yes HS4.out ⟨#[39]⟩ 1 rfl P39.out).mono ?_
      rintro e w5 ⟨rfl, HS5⟩
      have HWi : Hid (Calls Tryd.prog 47 #[.pointer (some ⟨b, 0, none⟩), .int .i64 (q : Int), .func (.func 50) #[.pointer (some ⟨b, 0, none⟩)] #[]] w5 fun e w' => RdO b s o w5 R e w') := hid (by
        refine (rd_withinQ HS5.out.rr q (by omega) R (fun V hV => ?_)).mono (fun e w' he => wi_gen (by omega) hn2.out (fun h0 => ?_) he)
        · cases n with
          | zero => exact absurd hV.1.2.2 (by have := hn2.out; omega)
          | succ m =>
            have := rd_quoted (HRD.out m rfl) hV (by have := hn2.out; omega)
            rw [← HR.out, rdD_quote Hl.out]; rw [Hr.out] at this; exact this
        · subst h0
          rw [← HR.out, rdD_deep Hl.out (by simp [opn]), Hql.out.2]; congr 1; omega)
      clear P35 P40 P39 HS2 HS HS3 HS4 Hcons
      go_wp2_with fail
      refine HWi.out.mono ?_
      clear HWi
      rintro e w6 (⟨d, a3, c3, a4, c4, q3, rfl, HX⟩ | ⟨⟨v, rfl⟩, HX⟩)
      · have hG : D4 w6 G (.int .i64 0) (.string ⟨#[]⟩) (.slice none 0 0) (.slice none 0 0) := HS5.out.g.part HX.out.2.2.1 (fun e => by have := HS5.out.z; omega)
        have HE := hid (dat_end HS5.out.z hG HS5.out.pt HS5.out.lt HX.out.1 HX.out.2.1 HX.out.2.2.1 HX.out.2.2.2)
        obtain ⟨i0, i1, i2, i3, f0, f1, f2, f3⟩ := hG.c4
        clear hG HX HRD HR
        go_wp2
        exact bodyPost_ret (v := .agg #[.int .i64 d.kd, .string d.tx, .slice a3 d.its.length c3, .slice a4 d.tl.length c4]) (res4 HE.out.1 Tryd.results30 rfl) rfl HE.out.2
      · have HF : Hid (RdO b s o w R (.panicked [{ v := .iface 44 v, recovered := false }]) w6) := hid (by
          obtain ⟨k, m, g1, g2, g3, g4⟩ := HX.out
          exact .inr ⟨⟨v, rfl⟩, hid ⟨k, m, g1, g2, g3, HS5.out.pt.trans_ g4⟩⟩)
        clear HX HRD HR
        go_wp2
        refine ⟨rfl, ?_⟩
        exact HF.out
    have P39 := hid (q39.trans (decide_eq_false h39))
    have hop : opn (c :: r) = 0 := by
      unfold opn
      split
      · rename_i e; injection e with e1 e2; exact absurd e1 h40
      · rename_i e; injection e with e1 e2; exact absurd e1 h39
      · rename_i e; injection e with e1 e2; subst e1; subst e2; exact absurd rfl h35
      · rfl
    by_cases h34 : c = 34
    · subst h34
      have P34 := hid (q34.trans (decide_eq_true rfl))
      clear q40 q39 q34 q35 hl hcons hrl h40 h35 h39
      go_wp2_with fail
      refine (tk_no HS2.out ⟨#[40]⟩ P40.out).mono ?_
      rintro e w3 ⟨rfl, HS3⟩
      go_wp2_with fail
      refine (tk_no HS3.out ⟨#[35, 40]⟩ P35.out).mono ?_
      rintro e w4 ⟨rfl, HS4⟩
      go_wp2_with fail
      refine (tk_no HS4.out ⟨#[39]⟩ P39.out).mono ?_
      rintro e w5 ⟨rfl, HS5⟩
      go_wp2_with fail
      refine (tk_yes HS5.out ⟨#[34]⟩ 1 rfl P34.out).mono ?_
      rintro e w6 ⟨rfl, HS6⟩
      have HC := hid (rd_string HS6.out.rr (s.size - q) (by omega))
      have hsq : ((s.size - (s.size - q) : Nat) : Int) = (q : Int) := by
        have := Hql.out.1
        omega
      rw [hsq] at HC
      have HRR : Hid (R = strR (s.size - q) (rst s (q + 1))) := hid (by
        have h1 := Hql.out
        have h2 : r.length + 1 = s.size - q := by omega
        rw [← HR.out, rdD_strR Hl.out, h2, Hr.out])
      clear P35 P40 P39 P34 HS2 HS HS3 HS4 HS5 Hcons hsq
      go_wp2_with fail
      refine HC.out.mono ?_
      clear HC
      rintro e w7 (⟨t, q3, rfl, HX⟩ | ⟨⟨v, rfl⟩, HX⟩)
      · have hG : D4 w7 G (.int .i64 0) (.string ⟨#[]⟩) (.slice none 0 0) (.slice none 0 0) := HS6.out.g.part HX.out.2.2 (fun e => by have := HS6.out.z; omega)
        have htl : (ba t).size ≤ 140737488355328 := by
          have h1 := (stL_len _ _ _ _ _ HX.out.1).1
          have h2 := HS6.out.rr.1.2.1
          simp only [List.length_nil, rst_len] at h1
          show t.length ≤ _
          omega
        have HE := hid (dat_end (d := .node 3 (ba t) [] []) (a := none) (a2 := none) (c := 0) (c2 := 0) HS6.out.z hG HS6.out.pt HS6.out.lt (HRR.out.trans (strR_ok HX.out.1)) HX.out.2.1 HX.out.2.2 (DS.leaf _ _ _ 3 _ htl))
        obtain ⟨i0, i1, i2, i3, f0, f1, f2, f3⟩ := hG.c4
        clear hG HX HRD HR htl
        go_wp2
        exact bodyPost_ret (v := .agg #[.int .i64 3, .string (ba t), .slice none 0 0, .slice none 0 0]) (res4 HE.out.1 Tryd.results30 rfl) rfl HE.out.2
      · have HF : Hid (RdO b s o w R (.panicked [{ v := .iface 44 v, recovered := false }]) w7) := hid (by
          obtain ⟨k, m, g1, g2, g3, g4⟩ := HX.out
          exact .inr ⟨⟨v, rfl⟩, hid ⟨k, m, HRR.out.trans (strR_bad g1), g2, g3, HS6.out.pt.trans_ g4⟩⟩)
        clear HX HRD HR
        go_wp2
        refine ⟨rfl, ?_⟩
        exact HF.out
    have P34 := hid (q34.trans (decide_eq_false h34))
    have HRR : Hid (R = pcR (s.size - q) (rst s q)) := hid (by
      have h2 : r.length + 1 = s.size - q := by omega
      rw [← HR.out, rdD_pcR hl h34 hop, h2, hcons])
    clear q40 q39 q34 q35 hl hcons hrl h40 h35 h39 h34 hop
    go_wp2_with fail
    refine (tk_no HS2.out ⟨#[40]⟩ P40.out).mono ?_
    rintro e w3 ⟨rfl, HS3⟩
    go_wp2_with fail
    refine (tk_no HS3.out ⟨#[35, 40]⟩ P35.out).mono ?_
    rintro e w4 ⟨rfl, HS4⟩
    go_wp2_with fail
    refine (tk_no HS4.out ⟨#[39]⟩ P39.out).mono ?_
    rintro e w5 ⟨rfl, HS5⟩
    go_wp2_with fail
    refine (tk_no HS5.out ⟨#[34]⟩ P34.out).mono ?_
    rintro e w6 ⟨rfl, HS6⟩
    have HC := hid (rd_piece HS6.out.rr)
    clear P35 P40 P39 P34 HS2 HS HS3 HS4 HS5 Hcons
    go_wp2_with fail
    refine HC.out.mono ?_
    clear HC
    rintro e w7 (⟨d, v, q3, rfl, HX⟩ | ⟨m, ⟨v, rfl⟩, HX⟩)
    · obtain ⟨hx1, hx2, hx3, hx4, kd, t, rfl, rfl, hx5⟩ := HX.out
      have hG : D4 w7 G (.int .i64 0) (.string ⟨#[]⟩) (.slice none 0 0) (.slice none 0 0) := HS6.out.g.part hx4 (fun e => by have := HS6.out.z; omega)
      have HE := hid (dat_end (d := .node kd t [] []) (a := none) (a2 := none) (c := 0) (c2 := 0) HS6.out.z hG HS6.out.pt HS6.out.lt ((HRR.out.trans (pcR_ok hx1)).trans (by rw [hx2])) hx3 hx4 (DS.leaf _ _ _ kd _ (by omega)))
      obtain ⟨i0, i1, i2, i3, f0, f1, f2, f3⟩ := hG.c4
      clear hG HX HRD HR hx1 hx2 hx3 hx4 hx5
      go_wp2
      exact bodyPost_ret (v := .agg #[.int .i64 kd, .string t, .slice none 0 0, .slice none 0 0]) (res4 HE.out.1 Tryd.results30 rfl) rfl HE.out.2
    · have HF : Hid (RdO b s o w R (.panicked [{ v := .iface 44 v, recovered := false }]) w7) := hid (.inr ⟨⟨v, rfl⟩, hid ⟨s.size - q, m, HRR.out.trans (pcR_bad HX.out.1), by omega, HX.out.2.1, HS6.out.pt.trans_ HX.out.2.2⟩⟩)
      clear HX HRD HR
      go_wp2
      refine ⟨rfl, ?_⟩
      exact HF.out
theorem rd_all : ∀ n, RD n
  | 0 => rd_datum fun m h => by omega
  | n + 1 => rd_datum fun m h => by
    have : m = n := by omega
    subst this
    exact rd_all m
end Go.Proofs.YtfobiknbjijphaaDoor
