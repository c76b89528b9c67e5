/-
  The document's reader: lists and vectors. Printed by tools/mkzrh.py.
-/
import Derived.Test.YtfobiknbjijphaaDoorGbd
namespace Go.Proofs.YtfobiknbjijphaaDoor
open Go.RowKit
set_option linter.unusedVariables false
set_option linter.unusedSimpArgs false

set_option maxRecDepth 100000 in
set_option maxHeartbeats 16000000 in
theorem z_listm {n b dp : Nat} {s : ByteArray} {p : Nat} {w : World} (hZD : ZD n) (h : Zr b s p w) (hn : dp + 1 + n = 65) (vec : Bool) (F : Nat) (hF : (rst s p).length < F) :
    Calls Tryd.prog 37 #[.pointer (some ⟨b, 0, none⟩), .int .i64 (dp : Int), .bool vec] w fun e w' => ZdO b s w (itL (rdD n) vec F [] (rst s p)) e w' := by
  obtain ⟨G, hG⟩ : ∃ G, w.heap.size = G := ⟨_, rfl⟩
  obtain ⟨W1, hW⟩ : ∃ W1, w.alloc (.cells #[.int .i64 0, .string ⟨#[]⟩, .slice none 0 0, .slice none 0 0] 34) = W1 := ⟨_, rfl⟩
  have hbG0 : b < G := by rw [← hG]; exact h.lt
  have hB1 : Below w.heap.size w W1 := by rw [← hW]; exact (Below.refl _ w).alloc (Nat.le_refl _) _
  have d1 : D4 W1 G (.int .i64 0) (.string ⟨#[]⟩) (.slice none 0 0) (.slice none 0 0) := by rw [← hW]; exact heap_alloc_at _ _ _ hG.symm
  obtain ⟨R, hR⟩ : ∃ R, itL (rdD n) vec F [] (rst s p) = R := ⟨_, rfl⟩
  have H0 : Hid (Zb b s w G p W1 ∧ DRow (G + 1) W1 (.slice none 0 0) [] ∧ Std (rdD n) vec R [] (rst s p) ∧ ([] : List Dt).length ≤ p) := hid ⟨⟨h.under hB1, Pt.ofB hB1, d1, by omega, hbG0⟩, DRow.nil _ _, ⟨F, hF, hR.symm⟩, Nat.zero_le _⟩
  have HZD := hid hZD
  have HBG := hid (⟨by omega, hbG0⟩ : w.heap.size ≤ G ∧ b < G)
  have hdp := hid hn
  have lM : (s.size : Int) ≤ 1099511627776 := by have := h.1.2; omega
  have ldp : (dp : Int) ≤ 65 := by omega
  have ldp0 : (0 : Int) ≤ (dp : Int) := by omega
  rw [hR]
  clear h hB1 d1 hbG0 hR hF hZD hn
  go_enter Tryd.func37, Tryd.ntmps37
  go_wp2
  try rw [hW]
  try rw [hG]
  go_loopw [7, 8, 9] (fun vl vt vd wr =>
    (∃ (q : Nat) (acc : List Dt) (a : Option Addr) (c : Nat), vl = .slice a acc.length c ∧ vt = .slice none 0 0 ∧ vd = .bool false ∧ Hid (Zb b s w G q wr ∧ DRow (G + 1) wr (.slice a acc.length c) acc ∧ Std (rdD n) vec R acc (rst s q) ∧ acc.length ≤ q)) ∨
    (∃ (q : Nat) (acc : List Dt) (a : Option Addr) (c : Nat), vl = .slice a acc.length c ∧ vt = .slice none 0 0 ∧ vd = .bool true ∧ Hid (Zb b s w G q wr ∧ DRow (G + 1) wr (.slice a acc.length c) acc ∧ R = dotR acc (rdD n (rst s q)) ∧ acc.length ≤ q ∧ acc ≠ [] ∧ vec = false)) ∨
    (∃ (q : Nat) (acc : List Dt) (a : Option Addr) (c : Nat) (x : Dt) (a2 : Option Addr) (c2 : Nat), vl = .slice a acc.length c ∧ vt = .slice a2 1 c2 ∧ vd = .bool true ∧ Hid (Zb b s w G q wr ∧ (DRow (G + 1) wr (.slice a acc.length c) acc ∧ SS (G + 1) none wr [x] (.slice a2 1 c2)) ∧ R = dotR acc (.ok x (rst s q)) ∧ acc.length + x.its.length ≤ 1099511627776 ∧ acc ≠ [] ∧ vec = false)) ∨
    (∃ (a : Option Addr) (m c : Nat) (a2 : Option Addr) (m2 c2 : Nat) (d : Bool), vl = .slice a m c ∧ vt = .slice a2 m2 c2 ∧ vd = .bool d ∧ Hid (Zg b s w G R wr))) (fun _ _ _ wr => zM b s.size wr)
  case atStart => exact .inl ⟨p, [], none, 0, rfl, rfl, rfl, H0⟩
  case round =>
    clear H0 hW
    rcases hrel with hrel | hrel | hrel | hrel
    · obtain ⟨q, acc, a, c, rfl, rfl, rfl, HM⟩ := hrel
      have HRow0 := hid HM.out.2.1
      have HZ0 := hid HM.out.1
      have HSt0 := hid HM.out.2.2
      obtain ⟨v0, rfl⟩ : ∃ v0, v0 = wr := ⟨_, rfl⟩
      have hq0 := hid HZ0.out.rr.zM
      have hqs := HZ0.out.rr.1.1
      have HBk := hid (z_blanks HZ0.out.rr)
      obtain ⟨c0, c1, c2b, -, f1, -, -⟩ := HZ0.out.rr.cells
      clear HM
      go_wp2_with fail
      refine HBk.out.mono ?_
      rintro e w1 ⟨rfl, HQ⟩
      obtain ⟨q1, hq1, hq2, hq3⟩ := HQ.out
      have hqq : q ≤ q1 := by
        have h1 := skB_len false (rst s q)
        rw [← hq2, rst_len, rst_len] at h1
        have h2 := hq1.1.1
        omega
      have HB1 := hid (HZ0.out.on hq1 hq3)
      have hbG := HB1.out.z
      have Hsk := hid hq2
      have HRow := hid (row_on HRow0.out hq3 hbG.2)
      have HSt := hid HSt0.out
      have HFl : Hid (∀ V a, Below w1.heap.size w1 V → a ≤ s.size → Calls Tryd.prog 32 #[.pointer (some ⟨b, 0, none⟩), .int .i64 (a : Int), .int .i64 100] V fun e w' => e = .returned (.tuple #[]) ∧ Hid (Zfp b s q1 (s.size - a) 100 w' ∧ Pt b w w' ∧ D4 w' G (.int .i64 0) (.string ⟨#[]⟩) (.slice none 0 0) (.slice none 0 0))) := hid fun V a hV ha => by
        have hB := HB1.out.under hV
        refine (z_failP hB.rr a ha).mono ?_
        rintro e w' ⟨he, h2⟩
        exact ⟨he, hid ⟨h2.out.1, hB.pt.trans_ h2.out.2, hB.g.part h2.out.2 (fun e => by omega)⟩⟩
      obtain ⟨PT, hPT⟩ : ∃ PT, s.extract q1 (q1 + pcL (rst s q1)) = PT := ⟨_, rfl⟩
      have HPc : Hid (∀ V, Below w1.heap.size w1 V → Calls Tryd.prog 53 #[.pointer (some ⟨b, 0, none⟩)] V fun e w' => e = .returned (.string PT) ∧ Hid (Below w1.heap.size w1 w')) := hid fun V hV => by
        refine (z_piece (hq1.under hV)).mono ?_
        rintro e w' ⟨he, h2⟩
        exact ⟨by rw [he, hPT], hV.trans (h2.out.mono hV.size)⟩
      have HDt : Hid (∀ V, Below w1.heap.size w1 V → Calls Tryd.prog 20 #[.pointer (some ⟨b, 0, none⟩), .int .i64 ((dp : Int) + 1)] V fun e w' => ZdO b s V (rdD n (rst s q1)) e w') := hid fun V hV => HZD.out b s q1 (dp + 1) V (hq1.under hV) hdp.out
      obtain ⟨c0, c1, c2b, -, f1, -, -⟩ := hq1.cells
      have l0 : (0 : Int) ≤ (q1 : Int) := by omega
      have HSz := hid hq1.1
      clear HQ hq3 HRow0 HSt0 HZ0 hq1 HBk
      have HBk := hid hqq
      by_cases hlt : q1 < s.size
      · have m1 : (q1 : Int) < (s.size : Int) := by omega
        have m2 : ¬ (s.size : Int) ≤ (q1 : Int) := by omega
        obtain ⟨y, hy⟩ : ∃ y, s[q1]'hlt = y := ⟨_, rfl⟩
        have hcons : rst s q1 = y :: rst s (q1 + 1) := by rw [rst_cons hlt, hy]
        have hsk : skB false (rst s q) = y :: rst s (q1 + 1) := by rw [← hq2, hcons]
        have bd : (PT.toList == [46]) = decide (y = 46 ∧ pcL (y :: rst s (q1 + 1)) = 1) := by rw [← hPT]; exact dot_piece hcons
        have q41 : ((y.toNat : Int) == 41) = decide (y = 41) := @u8b y 41 (by decide)
        have hlen : (rst s (q1 + 1)).length + 1 = s.size - q1 := by rw [rst_len]; omega
        have Hlen := hid hlen
        have Hcs := hid (⟨hcons, hsk⟩ : rst s q1 = y :: rst s (q1 + 1) ∧ skB false (rst s q) = y :: rst s (q1 + 1))
        clear hPT hcons hsk hq2 hlen
        by_cases h41 : y = 41
        · rw [decide_eq_true h41] at q41
          have HRR : Hid (R = .ok (.node (if vec then 6 else 5) ⟨#[]⟩ acc []) (rst s (q1 + 1))) := hid (HSt.out.1.close (by rw [Hcs.out.2, h41]))
          clear h41 bd HSt HFl HPc HDt
          cases hvec : vec
          · have HL : Hid (∀ V, Below w1.heap.size w1 V → Calls Tryd.prog 35 #[.slice a acc.length c, .slice none 0 0] (V.setCell ⟨b, 1, none⟩ (.int .i64 ((q1 : Int) + 1))) fun e w' => e = .returned (.agg #[.int .i64 5, .string ⟨#[]⟩, .slice a acc.length c, .slice none 0 0]) ∧ D4 w' G (.int .i64 0) (.string ⟨#[]⟩) (.slice none 0 0) (.slice none 0 0) ∧ Hid (D4 (set4 w' G (.int .i64 5) (.string ⟨#[]⟩) (.slice a acc.length c) (.slice none 0 0)) G (.int .i64 5) (.string ⟨#[]⟩) (.slice a acc.length c) (.slice none 0 0) ∧ ZdO b s w R (.returned (.agg #[.int .i64 5, .string ⟨#[]⟩, .slice a acc.length c, .slice none 0 0])) (set4 w' G (.int .i64 5) (.string ⟨#[]⟩) (.slice a acc.length c) (.slice none 0 0)))) := hid fun V hV => by
              have hB := HB1.out.under hV
              have hpt : Pt b V (V.setCell ⟨b, 1, none⟩ (.int .i64 ((q1 : Int) + 1))) := Pt.set (Part.refl _ _) 1 _
              have hr2 := hB.on (hB.rr.at_ (q1 + 1) hlt) hpt
              have hrow := row_on (row_on HRow.out (Pt.ofB hV) hbG.2) hpt hbG.2
              refine (z_listN (c2 := 0) (a2 := none) hrow.ss hr2.lt (by decide)).mono ?_
              rintro e w' ⟨he, h2⟩
              have hB2 := hr2.under h2.out.1
              refine ⟨he, hB2.g, hid ⟨hB2.g.set _ _ _ _, .inl ⟨.node 5 ⟨#[]⟩ acc [], a, c, none, 0, q1 + 1, rfl, hid ⟨by rw [HRR.out, hvec]; rfl, hB2.rr.part (set4_part w' G _ _ _ _) (fun e => by omega), Pt.set4_ hB2.pt hbG.1 _ _ _ _, ?_⟩⟩⟩⟩
              exact ds_keep h2.out.2 (fun k k1 k2 => set4_other w' (show k ≠ G by omega) _ _ _ _) (by omega)
            have hvf : vec = false := hvec
            clear HRow HRR HBk
            subst hvec
            go_wp2
            go_quiet (fail)
            go_wp2
            go_quiet (fail)
            go_wp2
            go_quiet (fail)
            go_wp2_with fail
            refine (HL.out _ (by first | exact blw_drewN _ (Below.refl _ _) | exact blw_drewN _ (blw_drewN _ (Below.refl _ _)) | exact blw_drewN _ (blw_drewN _ (blw_drewN _ (Below.refl _ _))))).mono ?_
            rintro e w3 ⟨rfl, hg, HX⟩
            obtain ⟨i0, i1, i2, i3, j0, j1, j2, j3⟩ := hg.c4
            clear HL hg
            go_wp2
            exact bodyPost_ret (v := .agg #[.int .i64 5, .string ⟨#[]⟩, .slice a acc.length c, .slice none 0 0]) (res4 HX.out.1 Tryd.results37 rfl) rfl HX.out.2
          · have HL : Hid (∀ V, Below w1.heap.size w1 V → C4 (V.setCell ⟨b, 1, none⟩ (.int .i64 ((q1 : Int) + 1))) G (.int .i64 0) (.string ⟨#[]⟩) (.slice none 0 0) (.slice none 0 0) ∧ Hid (D4 (set4 (V.setCell ⟨b, 1, none⟩ (.int .i64 ((q1 : Int) + 1))) G (.int .i64 6) (.string ⟨#[]⟩) (.slice a acc.length c) (.slice none 0 0)) G (.int .i64 6) (.string ⟨#[]⟩) (.slice a acc.length c) (.slice none 0 0) ∧ ZdO b s w R (.returned (.agg #[.int .i64 6, .string ⟨#[]⟩, .slice a acc.length c, .slice none 0 0])) (set4 (V.setCell ⟨b, 1, none⟩ (.int .i64 ((q1 : Int) + 1))) G (.int .i64 6) (.string ⟨#[]⟩) (.slice a acc.length c) (.slice none 0 0)))) := hid fun V hV => by
              have hB := HB1.out.under hV
              have hpt : Pt b V (V.setCell ⟨b, 1, none⟩ (.int .i64 ((q1 : Int) + 1))) := Pt.set (Part.refl _ _) 1 _
              have hr2 : Zb b s w G (q1 + 1) (V.setCell ⟨b, 1, none⟩ (.int .i64 ((q1 : Int) + 1))) := hB.on (hB.rr.at_ (q1 + 1) hlt) hpt
              have hrow := row_on (row_on HRow.out (Pt.ofB hV) hbG.2) hpt hbG.2
              obtain ⟨W, hW⟩ : ∃ W, V.setCell ⟨b, 1, none⟩ (.int .i64 ((q1 : Int) + 1)) = W := ⟨_, rfl⟩
              rw [hW] at hr2 hrow ⊢
              refine ⟨hr2.g.c4, hid ⟨hr2.g.set _ _ _ _, .inl ⟨.node 6 ⟨#[]⟩ acc [], a, c, none, 0, q1 + 1, rfl, hid ⟨by rw [HRR.out, hvec]; rfl, hr2.rr.part (set4_part W G _ _ _ _) (fun e => by omega), Pt.set4_ hr2.pt hbG.1 _ _ _ _, ?_⟩⟩⟩⟩
              exact ds_keep (DS.node hrow.ss (SS.nil _ _ _ none 0 (by decide)) 6 ⟨#[]⟩ (by decide)) (fun k k1 k2 => set4_other W (show k ≠ G by omega) _ _ _ _) (by omega)
            clear HRow HRR HBk
            subst hvec
            have HG0 := hid (HB1.out.g.c4)
            obtain ⟨i0, i1, i2, i3, j0, j1, j2, j3⟩ := HG0.out
            have n1 : ¬ G = b := by omega
            have n2 : ¬ b = G := by omega
            go_wp2
            go_quiet (fail)
            go_wp2
            go_quiet (fail)
            go_wp2
            go_quiet (fail)
            go_wp2
            exact bodyPost_ret (v := .agg #[.int .i64 6, .string ⟨#[]⟩, .slice a acc.length c, .slice none 0 0]) (res4 (HL.out _ (by first | exact blw_drewN _ (Below.refl _ _) | exact blw_drewN _ (blw_drewN _ (Below.refl _ _)) | exact blw_drewN _ (blw_drewN _ (blw_drewN _ (Below.refl _ _))))).2.out.1 Tryd.results37 rfl) rfl (HL.out _ (by first | exact blw_drewN _ (Below.refl _ _) | exact blw_drewN _ (blw_drewN _ (Below.refl _ _)) | exact blw_drewN _ (blw_drewN _ (blw_drewN _ (Below.refl _ _))))).2.out.2
        · rw [decide_eq_false h41] at q41
          by_cases hdot : y = 46 ∧ pcL (y :: rst s (q1 + 1)) = 1
          · rw [decide_eq_true hdot] at bd
            have hdd := rdD_dot (n := n) (r := rst s (q1 + 1)) (c := y) (l := rst s q1) (by rw [Hsk.out, skB_idem]; exact Hcs.out.2) hdot.1 hdot.2
            by_cases hok : vec = false ∧ acc ≠ []
            · have HRR : Hid (R = dotR acc (rdD n (rst s (q1 + 1)))) := hid (by
                have h := HSt.out.1
                rw [hok.1] at h
                exact h.dot Hcs.out.2 h41 hok.2 hdot.1 hdot.2)
              have hvf := hok.1
              have Hne := hid hok.2
              have lz : (0 : Int) < (acc.length : Int) := by
                have := List.length_pos_iff.2 hok.2
                omega
              have bz : ((acc.length : Int) == 0) = false := by simp; exact hok.2
              have HLe := hid HSt.out.2
              clear hdot hdd hok HSt HFl HDt
              subst hvf
              go_wp2
              go_quiet (fail)
              go_wp2
              go_quiet (fail)
              go_wp2
              go_quiet (fail)
              go_wp2_with fail
              refine (HPc.out _ (by first | exact blw_drewN _ (Below.refl _ _) | exact blw_drewN _ (blw_drewN _ (Below.refl _ _)) | exact blw_drewN _ (blw_drewN _ (blw_drewN _ (Below.refl _ _))))).mono ?_
              rintro e wp ⟨rfl, hbp⟩
              obtain ⟨c0, c1, c2b, -, f1, -, -⟩ := (HB1.out.rr.under hbp.out).cells
              have HN : Hid (Zb b s w G (q1 + 1) (wp.setCell ⟨b, 1, none⟩ (.int .i64 ((q1 : Int) + 1))) ∧ DRow (G + 1) (wp.setCell ⟨b, 1, none⟩ (.int .i64 ((q1 : Int) + 1))) (.slice a acc.length c) acc) := hid (by
                have hB := HB1.out.under hbp.out
                have hpt : Pt b wp (wp.setCell ⟨b, 1, none⟩ (.int .i64 ((q1 : Int) + 1))) := Pt.set (Part.refl _ _) 1 _
                exact ⟨hB.on (hB.rr.at_ (q1 + 1) hlt) hpt, row_on (row_on HRow.out (Pt.ofB hbp.out) hbG.2) hpt hbG.2⟩)
              have hm := HN.out.1.rr.zM
              have Hm := hid hm
              clear hm HPc HRow
              go_wp2
              go_roundw
              case rel => exact .inr (.inl ⟨q1 + 1, acc, a, c, rfl, rfl, rfl, HN.out.1, HN.out.2, HRR.out, by have := HLe.out; have := HBk.out; omega, Hne.out, by first | rfl | trivial⟩)
              case measure =>
                refine Nat.lt_of_le_of_lt (Nat.le_of_eq Hm.out) ?_
                have h2 := hq0.out
                have h3 := HBk.out
                rw [h2]
                omega
            · have hitem := HSt.out.1.item (rdD_gets n) Hcs.out.2 h41 (by rintro ⟨h1, h2, _⟩; exact hok ⟨h1, h2⟩)
              rw [← Hcs.out.1] at hitem
              have HRR : Hid (R = .bad (s.size - q1) 100) := hid (by rw [hitem.1 _ _ hdd, Hlen.out])
              clear hdot hdd hitem HSt HDt
              have hcase : vec = true ∨ (vec = false ∧ acc.length = 0) := by
                cases hv : vec
                · refine .inr ⟨rfl, ?_⟩
                  by_cases h0 : acc.length = 0
                  · exact h0
                  · exact absurd ⟨hv, fun e => h0 (by rw [e]; rfl)⟩ hok
                · exact .inl rfl
              clear hok
              rcases hcase with hv | ⟨hv, hz⟩
              · subst hv
                go_wp2
                go_quiet (fail)
                go_wp2
                go_quiet (fail)
                go_wp2
                go_quiet (fail)
                go_wp2_with fail
                refine (HPc.out _ (by first | exact blw_drewN _ (Below.refl _ _) | exact blw_drewN _ (blw_drewN _ (Below.refl _ _)) | exact blw_drewN _ (blw_drewN _ (blw_drewN _ (Below.refl _ _))))).mono ?_
                rintro e wp ⟨rfl, hbp⟩
                obtain ⟨d0, d1, d2b, -, g1, -, -⟩ := (HB1.out.rr.under hbp.out).cells
                go_wp2_with fail
                refine (HFl.out _ q1 hbp.out (by omega)).mono ?_
                rintro e w2 ⟨rfl, HX⟩
                obtain ⟨hb1, hb2⟩ := HX.out.1
                have x1 : w2.cell? ⟨b, 1, none⟩ = some (.int .i64 (q1 : Int)) := by rw [cells_at hb2 1]; rfl
                have x2 := cells_free hb2 1
                have HZg : Hid (Zg b s w G R (w2.setCell ⟨b, 1, none⟩ (.int .i64 ((q1 : Int) + 1))) ∧ zM b s.size (w2.setCell ⟨b, 1, none⟩ (.int .i64 ((q1 : Int) + 1))) = 0) := hid (by
                  have hf : Zf b s (s.size - q1) 100 (w2.setCell ⟨b, 1, none⟩ (.int .i64 ((q1 : Int) + 1))) := ⟨by omega, q1 + 1, by omega, hb1.2.2, heap_set_at hb2 _⟩
                  exact ⟨⟨_, _, HRR.out, hf, Pt.set HX.out.2.1 1 _, (heap_set_other w2 (show G ≠ b by omega) 1 _).trans HX.out.2.2⟩, hf.zM⟩)
                clear HX HFl HPc HBk HRow hb1 hb2
                go_wp2
                go_roundw
                case rel => exact .inr (.inr (.inr ⟨_, _, _, _, _, _, _, rfl, rfl, rfl, hid HZg.out.1⟩))
                case measure =>
                  refine Nat.lt_of_le_of_lt (Nat.le_of_eq HZg.out.2) ?_
                  have h2 := hq0.out
                  rw [h2]
                  omega
              · subst hv
                have hz2 : (acc.length : Int) = 0 := by omega
                go_wp2
                go_quiet (fail)
                go_wp2
                go_quiet (fail)
                go_wp2
                go_quiet (fail)
                go_wp2_with fail
                refine (HPc.out _ (by first | exact blw_drewN _ (Below.refl _ _) | exact blw_drewN _ (blw_drewN _ (Below.refl _ _)) | exact blw_drewN _ (blw_drewN _ (blw_drewN _ (Below.refl _ _))))).mono ?_
                rintro e wp ⟨rfl, hbp⟩
                obtain ⟨d0, d1, d2b, -, g1, -, -⟩ := (HB1.out.rr.under hbp.out).cells
                go_wp2_with fail
                refine (HFl.out _ q1 hbp.out (by omega)).mono ?_
                rintro e w2 ⟨rfl, HX⟩
                obtain ⟨hb1, hb2⟩ := HX.out.1
                have x1 : w2.cell? ⟨b, 1, none⟩ = some (.int .i64 (q1 : Int)) := by rw [cells_at hb2 1]; rfl
                have x2 := cells_free hb2 1
                have HZg : Hid (Zg b s w G R (w2.setCell ⟨b, 1, none⟩ (.int .i64 ((q1 : Int) + 1))) ∧ zM b s.size (w2.setCell ⟨b, 1, none⟩ (.int .i64 ((q1 : Int) + 1))) = 0) := hid (by
                  have hf : Zf b s (s.size - q1) 100 (w2.setCell ⟨b, 1, none⟩ (.int .i64 ((q1 : Int) + 1))) := ⟨by omega, q1 + 1, by omega, hb1.2.2, heap_set_at hb2 _⟩
                  exact ⟨⟨_, _, HRR.out, hf, Pt.set HX.out.2.1 1 _, (heap_set_other w2 (show G ≠ b by omega) 1 _).trans HX.out.2.2⟩, hf.zM⟩)
                clear HX HFl HPc HBk HRow hb1 hb2
                go_wp2
                go_roundw
                case rel => exact .inr (.inr (.inr ⟨_, _, _, _, _, _, _, rfl, rfl, rfl, hid HZg.out.1⟩))
                case measure =>
                  refine Nat.lt_of_le_of_lt (Nat.le_of_eq HZg.out.2) ?_
                  have h2 := hq0.out
                  rw [h2]
                  omega
          · rw [decide_eq_false hdot] at bd
            have hitem := HSt.out.1.item (rdD_gets n) Hcs.out.2 h41 (by rintro ⟨_, _, h1, h2⟩; exact hdot ⟨h1, h2⟩)
            rw [← Hcs.out.1] at hitem
            have Hit := hid hitem
            have HLe := hid (⟨HSt.out.2, HB1.out.rr.1⟩ : acc.length ≤ q ∧ q1 ≤ s.size ∧ s.size ≤ 1099511627776)
            clear hdot hitem HSt HFl
            go_wp2
            go_quiet (fail)
            go_wp2
            go_quiet (fail)
            go_wp2
            go_quiet (fail)
            go_wp2_with fail
            refine (HPc.out _ (by first | exact blw_drewN _ (Below.refl _ _) | exact blw_drewN _ (blw_drewN _ (Below.refl _ _)) | exact blw_drewN _ (blw_drewN _ (blw_drewN _ (Below.refl _ _))))).mono ?_
            rintro e wp ⟨rfl, hbp⟩
            obtain ⟨c0, c1, c2b, -, f1, -, -⟩ := (HB1.out.rr.under hbp.out).cells
            have HBp := hid (HB1.out.under hbp.out)
            have HRp := hid (row_on HRow.out (Pt.ofB hbp.out) hbG.2)
            have HC := hid (HDt.out wp hbp.out)
            clear HDt HPc
            go_wp2_with fail
            refine HC.out.mono ?_
            clear HC
            rintro e w3 (⟨d, a3, c3, a4, c4, q3, rfl, HX⟩ | ⟨k0, t0, a3, m3, c3, a4, m4, c4, rfl, HX⟩)
            · have HM := hid (row_ready HRp.out (Nat.lt_succ_of_lt hbG.2) HBp.out.lt HX.out.2.2.1 HX.out.2.2.2)
              have Hq3 : Hid (q1 < q3 ∧ q3 ≤ s.size) := hid ⟨by
                have h1 := (rdD_gets n _ _ _ HX.out.1).2.1
                rw [rst_len, rst_len] at h1
                omega, HX.out.2.1.1.1⟩
              have HL2 : Hid (acc.length + [d].length ≤ 1099511627776) := hid (by
                have h1 := HLe.out
                have h2 := HBk.out
                have h3 := hlt
                simp
                omega)
              go_wp2_with (at_builtin; refine wpList_push rfl _ _ rfl (G + 1) (.slice a acc.length c) (.slice (some ⟨w3.heap.size, 0, none⟩) 1 1) acc [d] rfl rfl (by exact HM.out.1) (by exact HM.out.2.1) (by exact HL2.out) (by exact HM.out.2.2) ?_)
              intro a' c' w5 hr5 hg5
              have HN : Hid (Zb b s w G q3 w5 ∧ DRow (G + 1) w5 (.slice a' (acc ++ [d]).length c') (acc ++ [d]) ∧ Std (rdD n) vec R (acc ++ [d]) (rst s q3) ∧ (acc ++ [d]).length ≤ q3) := hid (by
                have h1 := HLe.out
                have h2 := Hq3.out
                have h3 := HBk.out
                refine ⟨HBp.out.grown HRp.out HX.out.2.2.1 HX.out.2.1 hg5, ?_, Hit.out.2 _ _ HX.out.1, by simp; omega⟩
                have : (acc ++ [d]).length = acc.length + [d].length := List.length_append
                rw [this]
                exact hr5)
              have Hm := hid HN.out.1.rr.zM
              clear hr5 hg5 HM HX HRp HBp HRow Hit
              go_wp2
              go_roundw
              case rel => exact .inl ⟨q3, acc ++ [d], a', c', by simp, rfl, rfl, HN.out⟩
              case measure =>
                refine Nat.lt_of_le_of_lt (Nat.le_of_eq Hm.out) ?_
                have h2 := hq0.out
                have h3 := HBk.out
                have h4 := Hq3.out
                rw [h2]
                omega
            · obtain ⟨xs, o1, o2⟩ := HRp.out
              have hlw : G + 1 ≤ (w3.alloc (Obj.cells #[.int .i64 k0, .string t0, .slice a3 m3 c3, .slice a4 m4 c4] 34)).heap.size := by
                have h1 := HBp.out.lt
                have h2 := (show Pt b wp w3 from (by obtain ⟨_, _, _, _, h⟩ := HX.out; exact h)).size
                rw [World.size_alloc]
                omega
              have hpt3 : Pt b wp w3 := by obtain ⟨_, _, _, _, h⟩ := HX.out; exact h
              have o3 : (w3.alloc (Obj.cells #[.int .i64 k0, .string t0, .slice a3 m3 c3, .slice a4 m4 c4] 34)).ownsRow (G + 1) 34 4 (.slice a acc.length c) acc.length xs := World.ownsRow.alloc (hpt3.row o1 (fun k hk e => by have := (World.ownsRow.lt o1 k hk).1; omega)) _
              have HO := hid (⟨o3, hlw⟩ : _ ∧ _)
              have HL2 : Hid (acc.length + 1 ≤ 1099511627776) := hid (by
                have h1 := HLe.out
                have h2 := HBk.out
                have h3 := hlt
                omega)
              clear o1 o2 o3 hlw hpt3
              go_wp2_with (at_builtin; refine wpList_push0 rfl _ _ rfl (G + 1) (.slice a acc.length c) (.slice (some ⟨w3.heap.size, 0, none⟩) 1 1) acc.length 1 xs [.int .i64 k0, .string t0, .slice a3 m3 c3, .slice a4 m4 c4] rfl rfl (by exact HO.out.1) (by exact srcs_lit) (by exact HL2.out) (by exact HO.out.2) ?_)
              intro a' c' w5 hr5 hg5
              have HZg : Hid (Zg b s w G R w5 ∧ zM b s.size w5 = 0) := hid (by
                obtain ⟨k, j, g1, g2, g3⟩ := HX.out
                have hz := Zg.grown (R := R) HBp.out HRp.out g3 (Hit.out.1 _ _ g1) g2 hg5
                obtain ⟨k2, j2, h1, h2, h3⟩ := hz
                exact ⟨⟨k2, j2, h1, h2, h3⟩, h2.zM⟩)
              clear hr5 hg5 HX HRp HBp HRow HO
              go_wp2
              go_roundw
              case rel => exact .inr (.inr (.inr ⟨_, _, _, _, _, _, _, rfl, rfl, rfl, hid HZg.out.1⟩))
              case measure =>
                refine Nat.lt_of_le_of_lt (Nat.le_of_eq HZg.out.2) ?_
                have h2 := hq0.out
                rw [h2]
                omega
      · have m1 : ¬ (q1 : Int) < (s.size : Int) := by omega
        have m2 : (s.size : Int) ≤ (q1 : Int) := by omega
        have HRR : Hid (R = .bad (s.size - s.size) 100) := hid (by rw [Nat.sub_self]; exact HSt.out.1.stop (by rw [← Hsk.out]; exact rst_nil (by omega)))
        clear HSt
        go_wp2
        go_quiet (fail)
        go_wp2_with fail
        refine (HFl.out _ s.size (by first | exact blw_drewN _ (Below.refl _ _) | exact blw_drewN _ (blw_drewN _ (Below.refl _ _)) | exact blw_drewN _ (blw_drewN _ (blw_drewN _ (Below.refl _ _)))) (by omega)).mono ?_
        rintro e w2 ⟨rfl, HX⟩
        have HZg := hid (⟨⟨_, _, HRR.out, HX.out.1.zf, HX.out.2.1, HX.out.2.2⟩, HX.out.1.zf.zM⟩ : Zg b s w G R w2 ∧ zM b s.size w2 = 0)
        clear HX HFl HPc HDt HBk HRow
        go_wp2
        go_roundw
        case rel => exact .inr (.inr (.inr ⟨_, _, _, _, _, _, _, rfl, rfl, rfl, hid HZg.out.1⟩))
        case measure =>
          refine Nat.lt_of_le_of_lt (Nat.le_of_eq HZg.out.2) ?_
          have h2 := hq0.out
          rw [h2]
          omega
    · obtain ⟨q, acc, a, c, rfl, rfl, rfl, HM⟩ := hrel
      have HRow0 := hid HM.out.2.1
      have HZ0 := hid HM.out.1
      have HSt0 := hid HM.out.2.2
      have HVec := hid HM.out.2.2.2.2.2
      obtain ⟨v0, rfl⟩ : ∃ v0, v0 = wr := ⟨_, rfl⟩
      have hq0 := hid HZ0.out.rr.zM
      have hqs := HZ0.out.rr.1.1
      have HBk := hid (z_blanks HZ0.out.rr)
      obtain ⟨c0, c1, c2b, -, f1, -, -⟩ := HZ0.out.rr.cells
      clear HM
      go_wp2_with fail
      refine HBk.out.mono ?_
      rintro e w1 ⟨rfl, HQ⟩
      obtain ⟨q1, hq1, hq2, hq3⟩ := HQ.out
      have hqq : q ≤ q1 := by
        have h1 := skB_len false (rst s q)
        rw [← hq2, rst_len, rst_len] at h1
        have h2 := hq1.1.1
        omega
      have HB1 := hid (HZ0.out.on hq1 hq3)
      have hbG := HB1.out.z
      have Hsk := hid hq2
      have HRow := hid (row_on HRow0.out hq3 hbG.2)
      have HSt := hid HSt0.out
      have HFl : Hid (∀ V a, Below w1.heap.size w1 V → a ≤ s.size → Calls Tryd.prog 32 #[.pointer (some ⟨b, 0, none⟩), .int .i64 (a : Int), .int .i64 100] V fun e w' => e = .returned (.tuple #[]) ∧ Hid (Zfp b s q1 (s.size - a) 100 w' ∧ Pt b w w' ∧ D4 w' G (.int .i64 0) (.string ⟨#[]⟩) (.slice none 0 0) (.slice none 0 0))) := hid fun V a hV ha => by
        have hB := HB1.out.under hV
        refine (z_failP hB.rr a ha).mono ?_
        rintro e w' ⟨he, h2⟩
        exact ⟨he, hid ⟨h2.out.1, hB.pt.trans_ h2.out.2, hB.g.part h2.out.2 (fun e => by omega)⟩⟩
      obtain ⟨PT, hPT⟩ : ∃ PT, s.extract q1 (q1 + pcL (rst s q1)) = PT := ⟨_, rfl⟩
      have HPc : Hid (∀ V, Below w1.heap.size w1 V → Calls Tryd.prog 53 #[.pointer (some ⟨b, 0, none⟩)] V fun e w' => e = .returned (.string PT) ∧ Hid (Below w1.heap.size w1 w')) := hid fun V hV => by
        refine (z_piece (hq1.under hV)).mono ?_
        rintro e w' ⟨he, h2⟩
        exact ⟨by rw [he, hPT], hV.trans (h2.out.mono hV.size)⟩
      have HDt : Hid (∀ V, Below w1.heap.size w1 V → Calls Tryd.prog 20 #[.pointer (some ⟨b, 0, none⟩), .int .i64 ((dp : Int) + 1)] V fun e w' => ZdO b s V (rdD n (rst s q1)) e w') := hid fun V hV => HZD.out b s q1 (dp + 1) V (hq1.under hV) hdp.out
      obtain ⟨c0, c1, c2b, -, f1, -, -⟩ := hq1.cells
      have l0 : (0 : Int) ≤ (q1 : Int) := by omega
      have HSz := hid hq1.1
      clear HQ hq3 HRow0 HSt0 HZ0 hq1 HBk
      have HBk := hid hqq
      by_cases hlt : q1 < s.size
      · have m1 : (q1 : Int) < (s.size : Int) := by omega
        have m2 : ¬ (s.size : Int) ≤ (q1 : Int) := by omega
        obtain ⟨y, hy⟩ : ∃ y, s[q1]'hlt = y := ⟨_, rfl⟩
        have hcons : rst s q1 = y :: rst s (q1 + 1) := by rw [rst_cons hlt, hy]
        have hsk : skB false (rst s q) = y :: rst s (q1 + 1) := by rw [← hq2, hcons]
        have bd : (PT.toList == [46]) = decide (y = 46 ∧ pcL (y :: rst s (q1 + 1)) = 1) := by rw [← hPT]; exact dot_piece hcons
        have q41 : ((y.toNat : Int) == 41) = decide (y = 41) := @u8b y 41 (by decide)
        have hlen : (rst s (q1 + 1)).length + 1 = s.size - q1 := by rw [rst_len]; omega
        have Hlen := hid hlen
        have Hcs := hid (⟨hcons, hsk⟩ : rst s q1 = y :: rst s (q1 + 1) ∧ skB false (rst s q) = y :: rst s (q1 + 1))
        clear hPT hcons hsk hq2 hlen
        by_cases h41 : y = 41
        · rw [decide_eq_true h41] at q41
          clear bd
          have HRR : Hid (R = .bad (s.size - q1) 100) := hid (by rw [HSt.out.1, rdD_shut (by rw [Hcs.out.2, h41]), ← Hlen.out]; rfl)
          clear HSt
          go_wp2
          go_quiet (fail)
          go_wp2
          go_quiet (fail)
          go_wp2_with fail
          refine (HFl.out _ q1 (by first | exact blw_drewN _ (Below.refl _ _) | exact blw_drewN _ (blw_drewN _ (Below.refl _ _)) | exact blw_drewN _ (blw_drewN _ (blw_drewN _ (Below.refl _ _)))) (by omega)).mono ?_
          rintro e w2 ⟨rfl, HX⟩
          have HZg := hid (⟨⟨_, _, HRR.out, HX.out.1.zf, HX.out.2.1, HX.out.2.2⟩, HX.out.1.zf.zM⟩ : Zg b s w G R w2 ∧ zM b s.size w2 = 0)
          clear HX HFl HPc HDt HBk HRow
          go_wp2
          go_roundw
          case rel => exact .inr (.inr (.inr ⟨_, _, _, _, _, _, _, rfl, rfl, rfl, hid HZg.out.1⟩))
          case measure =>
            refine Nat.lt_of_le_of_lt (Nat.le_of_eq HZg.out.2) ?_
            have h2 := hq0.out
            rw [h2]
            omega
        · rw [decide_eq_false h41] at q41
          by_cases hdot : y = 46 ∧ pcL (y :: rst s (q1 + 1)) = 1
          · rw [decide_eq_true hdot] at bd
            have HRR : Hid (R = .bad (s.size - q1) 100) := hid (by rw [HSt.out.1, rdD_dot Hcs.out.2 hdot.1 hdot.2, Hlen.out]; rfl)
            have hvf := HVec.out
            clear hdot HSt HDt HVec
            subst hvf
            go_wp2
            go_quiet (fail)
            go_wp2
            go_quiet (fail)
            go_wp2
            go_quiet (fail)
            go_wp2_with fail
            refine (HPc.out _ (by first | exact blw_drewN _ (Below.refl _ _) | exact blw_drewN _ (blw_drewN _ (Below.refl _ _)) | exact blw_drewN _ (blw_drewN _ (blw_drewN _ (Below.refl _ _))))).mono ?_
            rintro e wp ⟨rfl, hbp⟩
            obtain ⟨d0, d1, d2b, -, g1, -, -⟩ := (HB1.out.rr.under hbp.out).cells
            go_wp2_with fail
            refine (HFl.out _ q1 hbp.out (by omega)).mono ?_
            rintro e w2 ⟨rfl, HX⟩
            obtain ⟨hb1, hb2⟩ := HX.out.1
            have x1 : w2.cell? ⟨b, 1, none⟩ = some (.int .i64 (q1 : Int)) := by rw [cells_at hb2 1]; rfl
            have x2 := cells_free hb2 1
            have HZg : Hid (Zg b s w G R (w2.setCell ⟨b, 1, none⟩ (.int .i64 ((q1 : Int) + 1))) ∧ zM b s.size (w2.setCell ⟨b, 1, none⟩ (.int .i64 ((q1 : Int) + 1))) = 0) := hid (by
              have hf : Zf b s (s.size - q1) 100 (w2.setCell ⟨b, 1, none⟩ (.int .i64 ((q1 : Int) + 1))) := ⟨by omega, q1 + 1, by omega, hb1.2.2, heap_set_at hb2 _⟩
              exact ⟨⟨_, _, HRR.out, hf, Pt.set HX.out.2.1 1 _, (heap_set_other w2 (show G ≠ b by omega) 1 _).trans HX.out.2.2⟩, hf.zM⟩)
            clear HX HFl HPc HBk HRow hb1 hb2
            go_wp2
            go_roundw
            case rel => exact .inr (.inr (.inr ⟨_, _, _, _, _, _, _, rfl, rfl, rfl, hid HZg.out.1⟩))
            case measure =>
              refine Nat.lt_of_le_of_lt (Nat.le_of_eq HZg.out.2) ?_
              have h2 := hq0.out
              rw [h2]
              omega
          · rw [decide_eq_false hdot] at bd
            have HRR := hid HSt.out.1
            have HLe := hid (⟨HSt.out.2.1, HB1.out.rr.1⟩ : acc.length ≤ q ∧ q1 ≤ s.size ∧ s.size ≤ 1099511627776)
            have Hne := hid HSt.out.2.2.1
            have hskk : rdD n (rst s q) = rdD n (rst s q1) := by rw [Hsk.out, rdD_skip]
            rw [hskk] at HRR
            clear hdot HSt HFl hskk
            go_wp2
            go_quiet (fail)
            go_wp2
            go_quiet (fail)
            go_wp2
            go_quiet (fail)
            go_wp2_with fail
            refine (HPc.out _ (by first | exact blw_drewN _ (Below.refl _ _) | exact blw_drewN _ (blw_drewN _ (Below.refl _ _)) | exact blw_drewN _ (blw_drewN _ (blw_drewN _ (Below.refl _ _))))).mono ?_
            rintro e wp ⟨rfl, hbp⟩
            obtain ⟨c0, c1, c2b, -, f1, -, -⟩ := (HB1.out.rr.under hbp.out).cells
            have HBp := hid (HB1.out.under hbp.out)
            have HRp := hid (row_on HRow.out (Pt.ofB hbp.out) hbG.2)
            have HC := hid (HDt.out wp hbp.out)
            clear HDt HPc
            go_wp2_with fail
            refine HC.out.mono ?_
            clear HC
            rintro e w3 (⟨d, a3, c3, a4, c4, q3, rfl, HX⟩ | ⟨k0, t0, a3, m3, c3, a4, m4, c4, rfl, HX⟩)
            · have HM := hid (row_ready (DRow.nil (G + 1) wp) (Nat.lt_succ_of_lt hbG.2) HBp.out.lt HX.out.2.2.1 HX.out.2.2.2)
              have Hq3 : Hid (q1 < q3 ∧ q3 ≤ s.size) := hid ⟨by
                have h1 := (rdD_gets n _ _ _ HX.out.1).2.1
                rw [rst_len, rst_len] at h1
                omega, HX.out.2.1.1.1⟩
              have HL2 : Hid (([] : List Dt).length + [d].length ≤ 1099511627776) := hid (by
                have h1 := HLe.out
                have h2 := HBk.out
                have h3 := hlt
                first | (simp; done) | (simp; omega))
              go_wp2_with (at_builtin; refine wpList_push rfl _ _ rfl (G + 1) (.slice none 0 0) (.slice (some ⟨w3.heap.size, 0, none⟩) 1 1) [] [d] rfl rfl (by exact HM.out.1) (by exact HM.out.2.1) (by exact HL2.out) (by exact HM.out.2.2) ?_)
              intro a' c' w5 hr5 hg5
              have HN : Hid (Zb b s w G q3 w5 ∧ (DRow (G + 1) w5 (.slice a acc.length c) acc ∧ SS (G + 1) none w5 [d] (.slice a' 1 c')) ∧ R = dotR acc (.ok d (rst s q3)) ∧ acc.length + d.its.length ≤ 1099511627776) := hid (by
                have h1 := HLe.out
                have h2 := Hq3.out
                have h3 := HBk.out
                have hgt := (rdD_gets n _ _ _ HX.out.1).1
                rw [rst_len, rst_len] at hgt
                have hs3 := (Below.refl w3.heap.size w3).alloc (Nat.le_refl _) (Obj.cells #[.int .i64 d.kd, .string d.tx, .slice a3 d.its.length c3, .slice a4 d.tl.length c4] 34)
                have hp := HX.out.2.2.1.size
                refine ⟨HBp.out.grown (DRow.nil (G + 1) wp) HX.out.2.2.1 HX.out.2.1 hg5, ⟨(row_on HRp.out HX.out.2.2.1 hbG.2).keep (fun k k1 k2 => (hg5.block k (by have := hs3.size; omega) (by simp [Value.ownBlock])).trans (hs3.block k k2)), ?_⟩, by rw [HRR.out, HX.out.1], by omega⟩
                have := hr5.ss
                simpa using this)
              have Hm := hid HN.out.1.rr.zM
              clear hr5 hg5 HM HX HRp HBp HRow HRR
              go_wp2
              go_roundw
              case rel => exact .inr (.inr (.inl ⟨q3, acc, a, c, d, a', c', rfl, by simp, rfl, HN.out.1, HN.out.2.1, HN.out.2.2.1, HN.out.2.2.2, Hne.out, HVec.out⟩))
              case measure =>
                refine Nat.lt_of_le_of_lt (Nat.le_of_eq Hm.out) ?_
                have h2 := hq0.out
                have h3 := HBk.out
                have h4 := Hq3.out
                rw [h2]
                omega
            · obtain ⟨xs, o1, o2⟩ := (DRow.nil (G + 1) wp)
              have hlw : G + 1 ≤ (w3.alloc (Obj.cells #[.int .i64 k0, .string t0, .slice a3 m3 c3, .slice a4 m4 c4] 34)).heap.size := by
                have h1 := HBp.out.lt
                have h2 := (show Pt b wp w3 from (by obtain ⟨_, _, _, _, h⟩ := HX.out; exact h)).size
                rw [World.size_alloc]
                omega
              have hpt3 : Pt b wp w3 := by obtain ⟨_, _, _, _, h⟩ := HX.out; exact h
              have o3 : (w3.alloc (Obj.cells #[.int .i64 k0, .string t0, .slice a3 m3 c3, .slice a4 m4 c4] 34)).ownsRow (G + 1) 34 4 (.slice none 0 0) 0 xs := World.ownsRow.alloc (hpt3.row o1 (fun k hk e => by have := (World.ownsRow.lt o1 k hk).1; omega)) _
              have HO := hid (⟨o3, hlw⟩ : _ ∧ _)
              have HL2 : Hid (0 + 1 ≤ 1099511627776) := hid (by
                have h1 := HLe.out
                have h2 := HBk.out
                have h3 := hlt
                omega)
              clear o1 o2 o3 hlw hpt3
              go_wp2_with (at_builtin; refine wpList_push0 rfl _ _ rfl (G + 1) (.slice none 0 0) (.slice (some ⟨w3.heap.size, 0, none⟩) 1 1) 0 1 xs [.int .i64 k0, .string t0, .slice a3 m3 c3, .slice a4 m4 c4] rfl rfl (by exact HO.out.1) (by exact srcs_lit) (by exact HL2.out) (by exact HO.out.2) ?_)
              intro a' c' w5 hr5 hg5
              have HZg : Hid (Zg b s w G R w5 ∧ zM b s.size w5 = 0) := hid (by
                obtain ⟨k, j, g1, g2, g3⟩ := HX.out
                have hz := Zg.grown (R := R) HBp.out (DRow.nil (G + 1) wp) g3 ((by rw [HRR.out, g1]; rfl)) g2 hg5
                obtain ⟨k2, j2, h1, h2, h3⟩ := hz
                exact ⟨⟨k2, j2, h1, h2, h3⟩, h2.zM⟩)
              clear hr5 hg5 HX HRp HBp HRow HO
              go_wp2
              go_roundw
              case rel => exact .inr (.inr (.inr ⟨_, _, _, _, _, _, _, rfl, rfl, rfl, hid HZg.out.1⟩))
              case measure =>
                refine Nat.lt_of_le_of_lt (Nat.le_of_eq HZg.out.2) ?_
                have h2 := hq0.out
                rw [h2]
                omega
      · have m1 : ¬ (q1 : Int) < (s.size : Int) := by omega
        have m2 : (s.size : Int) ≤ (q1 : Int) := by omega
        have HRR : Hid (R = .bad (s.size - s.size) 100) := hid (by rw [HSt.out.1, rdD_nil (by rw [← Hsk.out]; exact rst_nil (by omega)), Nat.sub_self]; rfl)
        clear HSt
        go_wp2
        go_quiet (fail)
        go_wp2_with fail
        refine (HFl.out _ s.size (by first | exact blw_drewN _ (Below.refl _ _) | exact blw_drewN _ (blw_drewN _ (Below.refl _ _)) | exact blw_drewN _ (blw_drewN _ (blw_drewN _ (Below.refl _ _)))) (by omega)).mono ?_
        rintro e w2 ⟨rfl, HX⟩
        have HZg := hid (⟨⟨_, _, HRR.out, HX.out.1.zf, HX.out.2.1, HX.out.2.2⟩, HX.out.1.zf.zM⟩ : Zg b s w G R w2 ∧ zM b s.size w2 = 0)
        clear HX HFl HPc HDt HBk HRow
        go_wp2
        go_roundw
        case rel => exact .inr (.inr (.inr ⟨_, _, _, _, _, _, _, rfl, rfl, rfl, hid HZg.out.1⟩))
        case measure =>
          refine Nat.lt_of_le_of_lt (Nat.le_of_eq HZg.out.2) ?_
          have h2 := hq0.out
          rw [h2]
          omega
    · obtain ⟨q, acc, a, c, x, a2, c2, rfl, rfl, rfl, HM⟩ := hrel
      have HRow0 := hid HM.out.2.1
      have HZ0 := hid HM.out.1
      have HSt0 := hid HM.out.2.2
      have HVec := hid HM.out.2.2.2.2.2
      obtain ⟨v0, rfl⟩ : ∃ v0, v0 = wr := ⟨_, rfl⟩
      have hq0 := hid HZ0.out.rr.zM
      have hqs := HZ0.out.rr.1.1
      have HBk := hid (z_blanks HZ0.out.rr)
      obtain ⟨c0, c1, c2b, -, f1, -, -⟩ := HZ0.out.rr.cells
      clear HM
      go_wp2_with fail
      refine HBk.out.mono ?_
      rintro e w1 ⟨rfl, HQ⟩
      obtain ⟨q1, hq1, hq2, hq3⟩ := HQ.out
      have hqq : q ≤ q1 := by
        have h1 := skB_len false (rst s q)
        rw [← hq2, rst_len, rst_len] at h1
        have h2 := hq1.1.1
        omega
      have HB1 := hid (HZ0.out.on hq1 hq3)
      have hbG := HB1.out.z
      have Hsk := hid hq2
      have HRow := hid (⟨row_on HRow0.out.1 hq3 hbG.2, HRow0.out.2.nx (lo' := G + 1) (x' := none) (w' := w1) (fun k k1 k2 k3 => ⟨hq3.block k k3 (by omega), k1, k2⟩)⟩ : DRow (G + 1) w1 (.slice a acc.length c) acc ∧ SS (G + 1) none w1 [x] (.slice a2 1 c2))
      have HSt := hid HSt0.out
      have HFl : Hid (∀ V a, Below w1.heap.size w1 V → a ≤ s.size → Calls Tryd.prog 32 #[.pointer (some ⟨b, 0, none⟩), .int .i64 (a : Int), .int .i64 100] V fun e w' => e = .returned (.tuple #[]) ∧ Hid (Zfp b s q1 (s.size - a) 100 w' ∧ Pt b w w' ∧ D4 w' G (.int .i64 0) (.string ⟨#[]⟩) (.slice none 0 0) (.slice none 0 0))) := hid fun V a hV ha => by
        have hB := HB1.out.under hV
        refine (z_failP hB.rr a ha).mono ?_
        rintro e w' ⟨he, h2⟩
        exact ⟨he, hid ⟨h2.out.1, hB.pt.trans_ h2.out.2, hB.g.part h2.out.2 (fun e => by omega)⟩⟩
      obtain ⟨PT, hPT⟩ : ∃ PT, s.extract q1 (q1 + pcL (rst s q1)) = PT := ⟨_, rfl⟩
      have HPc : Hid (∀ V, Below w1.heap.size w1 V → Calls Tryd.prog 53 #[.pointer (some ⟨b, 0, none⟩)] V fun e w' => e = .returned (.string PT) ∧ Hid (Below w1.heap.size w1 w')) := hid fun V hV => by
        refine (z_piece (hq1.under hV)).mono ?_
        rintro e w' ⟨he, h2⟩
        exact ⟨by rw [he, hPT], hV.trans (h2.out.mono hV.size)⟩
      have HDt : Hid (∀ V, Below w1.heap.size w1 V → Calls Tryd.prog 20 #[.pointer (some ⟨b, 0, none⟩), .int .i64 ((dp : Int) + 1)] V fun e w' => ZdO b s V (rdD n (rst s q1)) e w') := hid fun V hV => HZD.out b s q1 (dp + 1) V (hq1.under hV) hdp.out
      obtain ⟨c0, c1, c2b, -, f1, -, -⟩ := hq1.cells
      have l0 : (0 : Int) ≤ (q1 : Int) := by omega
      have HSz := hid hq1.1
      clear HQ hq3 HRow0 HSt0 HZ0 hq1 HBk
      have HBk := hid hqq
      by_cases hlt : q1 < s.size
      · have m1 : (q1 : Int) < (s.size : Int) := by omega
        have m2 : ¬ (s.size : Int) ≤ (q1 : Int) := by omega
        obtain ⟨y, hy⟩ : ∃ y, s[q1]'hlt = y := ⟨_, rfl⟩
        have hcons : rst s q1 = y :: rst s (q1 + 1) := by rw [rst_cons hlt, hy]
        have hsk : skB false (rst s q) = y :: rst s (q1 + 1) := by rw [← hq2, hcons]
        have bd : (PT.toList == [46]) = decide (y = 46 ∧ pcL (y :: rst s (q1 + 1)) = 1) := by rw [← hPT]; exact dot_piece hcons
        have q41 : ((y.toNat : Int) == 41) = decide (y = 41) := @u8b y 41 (by decide)
        have hlen : (rst s (q1 + 1)).length + 1 = s.size - q1 := by rw [rst_len]; omega
        have Hlen := hid hlen
        have Hcs := hid (⟨hcons, hsk⟩ : rst s q1 = y :: rst s (q1 + 1) ∧ skB false (rst s q) = y :: rst s (q1 + 1))
        clear hPT hcons hsk hq2 hlen
        by_cases h41 : y = 41
        · rw [decide_eq_true h41] at q41
          have HRR : Hid (R = .ok (mkl acc x) (rst s (q1 + 1))) := hid (by rw [HSt.out.1]; exact dotR_yes (by rw [Hcs.out.2, h41]))
          have HLn := hid HSt.out.2.1
          clear h41 bd HSt HFl HPc HDt
          have HL : Hid (∀ V, Below w1.heap.size w1 V → Calls Tryd.prog 35 #[.slice a acc.length c, .slice a2 1 c2] (V.setCell ⟨b, 1, none⟩ (.int .i64 ((q1 : Int) + 1))) fun e w' => ∃ b1 e1 b2 e2, e = .returned (.agg #[.int .i64 5, .string ⟨#[]⟩, .slice b1 (mkl acc x).its.length e1, .slice b2 (mkl acc x).tl.length e2]) ∧ D4 w' G (.int .i64 0) (.string ⟨#[]⟩) (.slice none 0 0) (.slice none 0 0) ∧ Hid (D4 (set4 w' G (.int .i64 5) (.string ⟨#[]⟩) (.slice b1 (mkl acc x).its.length e1) (.slice b2 (mkl acc x).tl.length e2)) G (.int .i64 5) (.string ⟨#[]⟩) (.slice b1 (mkl acc x).its.length e1) (.slice b2 (mkl acc x).tl.length e2) ∧ ZdO b s w R (.returned (.agg #[.int .i64 5, .string ⟨#[]⟩, .slice b1 (mkl acc x).its.length e1, .slice b2 (mkl acc x).tl.length e2])) (set4 w' G (.int .i64 5) (.string ⟨#[]⟩) (.slice b1 (mkl acc x).its.length e1) (.slice b2 (mkl acc x).tl.length e2)))) := hid fun V hV => by
            have hB := HB1.out.under hV
            have hpt : Pt b V (V.setCell ⟨b, 1, none⟩ (.int .i64 ((q1 : Int) + 1))) := Pt.set (Part.refl _ _) 1 _
            have hr2 := hB.on (hB.rr.at_ (q1 + 1) hlt) hpt
            have hrow := row_on (row_on HRow.out.1 (Pt.ofB hV) hbG.2) hpt hbG.2
            have htl := HRow.out.2.nx (lo' := G + 1) (x' := none) (w' := V.setCell ⟨b, 1, none⟩ (.int .i64 ((q1 : Int) + 1))) (fun k k1 k2 k3 => ⟨(heap_set_other V (show k ≠ b by omega) 1 _).trans (hV.block k k3), k1, k2⟩)
            refine (z_listT hrow.ss htl hr2.lt HLn.out).mono ?_
            rintro e w' ⟨b1, e1, b2, e2, he, h2⟩
            have hB2 := hr2.under h2.out.1
            have hmk : (mkl acc x).kd = 5 ∧ (mkl acc x).tx = ⟨#[]⟩ := by unfold mkl; split <;> exact ⟨rfl, rfl⟩
            refine ⟨b1, e1, b2, e2, he, hB2.g, hid ⟨hB2.g.set _ _ _ _, .inl ⟨mkl acc x, b1, e1, b2, e2, q1 + 1, by rw [hmk.1, hmk.2], hid ⟨HRR.out, hB2.rr.part (set4_part w' G _ _ _ _) (fun e => by omega), Pt.set4_ hB2.pt hbG.1 _ _ _ _, ?_⟩⟩⟩⟩
            rw [hmk.1, hmk.2]
            exact ds_keep h2.out.2 (fun k k1 k2 => set4_other w' (show k ≠ G by omega) _ _ _ _) (by omega)
          have hvf := HVec.out
          clear HRow HRR HBk HVec
          subst hvf
          go_wp2
          go_quiet (fail)
          go_wp2
          go_quiet (fail)
          go_wp2
          go_quiet (fail)
          go_wp2_with fail
          refine (HL.out _ (by first | exact blw_drewN _ (Below.refl _ _) | exact blw_drewN _ (blw_drewN _ (Below.refl _ _)) | exact blw_drewN _ (blw_drewN _ (blw_drewN _ (Below.refl _ _))))).mono ?_
          rintro e w3 ⟨b1, e1, b2, e2, rfl, hg, HX⟩
          obtain ⟨i0, i1, i2, i3, j0, j1, j2, j3⟩ := hg.c4
          clear HL hg
          go_wp2
          exact bodyPost_ret (v := .agg #[.int .i64 5, .string ⟨#[]⟩, .slice b1 (mkl acc x).its.length e1, .slice b2 (mkl acc x).tl.length e2]) (res4 HX.out.1 Tryd.results37 rfl) rfl HX.out.2
        · rw [decide_eq_false h41] at q41
          by_cases hdot : y = 46 ∧ pcL (y :: rst s (q1 + 1)) = 1
          · rw [decide_eq_true hdot] at bd
            have HRR : Hid (R = .bad (s.size - q1) 100) := hid (by rw [HSt.out.1, dotR_no Hcs.out.2 h41, Hlen.out])
            have hvf := HVec.out
            clear hdot HSt HDt HVec
            subst hvf
            go_wp2
            go_quiet (fail)
            go_wp2
            go_quiet (fail)
            go_wp2
            go_quiet (fail)
            go_wp2_with fail
            refine (HPc.out _ (by first | exact blw_drewN _ (Below.refl _ _) | exact blw_drewN _ (blw_drewN _ (Below.refl _ _)) | exact blw_drewN _ (blw_drewN _ (blw_drewN _ (Below.refl _ _))))).mono ?_
            rintro e wp ⟨rfl, hbp⟩
            obtain ⟨d0, d1, d2b, -, g1, -, -⟩ := (HB1.out.rr.under hbp.out).cells
            go_wp2_with fail
            refine (HFl.out _ q1 hbp.out (by omega)).mono ?_
            rintro e w2 ⟨rfl, HX⟩
            obtain ⟨hb1, hb2⟩ := HX.out.1
            have x1 : w2.cell? ⟨b, 1, none⟩ = some (.int .i64 (q1 : Int)) := by rw [cells_at hb2 1]; rfl
            have x2 := cells_free hb2 1
            have HZg : Hid (Zg b s w G R (w2.setCell ⟨b, 1, none⟩ (.int .i64 ((q1 : Int) + 1))) ∧ zM b s.size (w2.setCell ⟨b, 1, none⟩ (.int .i64 ((q1 : Int) + 1))) = 0) := hid (by
              have hf : Zf b s (s.size - q1) 100 (w2.setCell ⟨b, 1, none⟩ (.int .i64 ((q1 : Int) + 1))) := ⟨by omega, q1 + 1, by omega, hb1.2.2, heap_set_at hb2 _⟩
              exact ⟨⟨_, _, HRR.out, hf, Pt.set HX.out.2.1 1 _, (heap_set_other w2 (show G ≠ b by omega) 1 _).trans HX.out.2.2⟩, hf.zM⟩)
            clear HX HFl HPc HBk HRow hb1 hb2
            go_wp2
            go_roundw
            case rel => exact .inr (.inr (.inr ⟨_, _, _, _, _, _, _, rfl, rfl, rfl, hid HZg.out.1⟩))
            case measure =>
              refine Nat.lt_of_le_of_lt (Nat.le_of_eq HZg.out.2) ?_
              have h2 := hq0.out
              rw [h2]
              omega
          · rw [decide_eq_false hdot] at bd
            have HRR : Hid (R = .bad (s.size - q1) 100) := hid (by rw [HSt.out.1, dotR_no Hcs.out.2 h41, Hlen.out])
            clear hdot HSt HDt
            go_wp2
            go_quiet (fail)
            go_wp2
            go_quiet (fail)
            go_wp2
            go_quiet (fail)
            go_wp2_with fail
            refine (HPc.out _ (by first | exact blw_drewN _ (Below.refl _ _) | exact blw_drewN _ (blw_drewN _ (Below.refl _ _)) | exact blw_drewN _ (blw_drewN _ (blw_drewN _ (Below.refl _ _))))).mono ?_
            rintro e wp ⟨rfl, hbp⟩
            obtain ⟨d0, d1, d2b, -, g1, -, -⟩ := (HB1.out.rr.under hbp.out).cells
            go_wp2_with fail
            refine (HFl.out _ q1 hbp.out (by omega)).mono ?_
            rintro e w2 ⟨rfl, HX⟩
            have HZg := hid (⟨⟨_, _, HRR.out, HX.out.1.zf, HX.out.2.1, HX.out.2.2⟩, HX.out.1.zf.zM⟩ : Zg b s w G R w2 ∧ zM b s.size w2 = 0)
            clear HX HFl HPc HBk HRow
            go_wp2
            go_roundw
            case rel => exact .inr (.inr (.inr ⟨_, _, _, _, _, _, _, rfl, rfl, rfl, hid HZg.out.1⟩))
            case measure =>
              refine Nat.lt_of_le_of_lt (Nat.le_of_eq HZg.out.2) ?_
              have h2 := hq0.out
              rw [h2]
              omega
      · have m1 : ¬ (q1 : Int) < (s.size : Int) := by omega
        have m2 : (s.size : Int) ≤ (q1 : Int) := by omega
        have HRR : Hid (R = .bad (s.size - s.size) 100) := hid (by rw [HSt.out.1, dotR_end (by rw [← Hsk.out]; exact rst_nil (by omega)), Nat.sub_self])
        clear HSt
        go_wp2
        go_quiet (fail)
        go_wp2_with fail
        refine (HFl.out _ s.size (by first | exact blw_drewN _ (Below.refl _ _) | exact blw_drewN _ (blw_drewN _ (Below.refl _ _)) | exact blw_drewN _ (blw_drewN _ (blw_drewN _ (Below.refl _ _)))) (by omega)).mono ?_
        rintro e w2 ⟨rfl, HX⟩
        have HZg := hid (⟨⟨_, _, HRR.out, HX.out.1.zf, HX.out.2.1, HX.out.2.2⟩, HX.out.1.zf.zM⟩ : Zg b s w G R w2 ∧ zM b s.size w2 = 0)
        clear HX HFl HPc HDt HBk HRow
        go_wp2
        go_roundw
        case rel => exact .inr (.inr (.inr ⟨_, _, _, _, _, _, _, rfl, rfl, rfl, hid HZg.out.1⟩))
        case measure =>
          refine Nat.lt_of_le_of_lt (Nat.le_of_eq HZg.out.2) ?_
          have h2 := hq0.out
          rw [h2]
          omega
    · obtain ⟨a, m, c, a2, m2, c2, d, rfl, rfl, rfl, HM⟩ := hrel
      obtain ⟨k, j, hR, hf, hpt, hg⟩ := HM.out
      have hbG : w.heap.size ≤ G ∧ b < G := HBG.out
      have HE := hid (zd_bad hbG hg hR hf hpt)
      obtain ⟨hf1, p0, hf2, hf3, hf4⟩ := hf
      have c2b : wr.cell? ⟨b, 2, none⟩ = some (.int .i64 ((s.size - k : Nat) : Int)) := by rw [cells_at hf4 2]; rfl
      have m0 : (0 : Int) ≤ ((s.size - k : Nat) : Int) := by omega
      have m1 : ¬ ((s.size - k : Nat) : Int) < 0 := by omega
      obtain ⟨N, hN⟩ : ∃ N : Int, ((s.size - k : Nat) : Int) = N := ⟨_, rfl⟩
      rw [hN] at c2b m0 m1
      obtain ⟨i0, i1, i2, i3, j0, j1, j2, j3⟩ := hg.c4
      clear hf4 hg hR hpt HM hN hf1 hf2 hf3
      go_wp2
      exact bodyPost_ret (v := .agg #[.int .i64 0, .string ⟨#[]⟩, .slice none 0 0, .slice none 0 0]) (res4 HE.out.1 Tryd.results37 rfl) rfl HE.out.2
end Go.Proofs.YtfobiknbjijphaaDoor
