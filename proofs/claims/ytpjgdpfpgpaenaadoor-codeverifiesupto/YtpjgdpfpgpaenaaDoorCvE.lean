/-
  The program's Verify.
-/
import Derived.Test.YtpjgdpfpgpaenaaDoorCvD
namespace Go.Proofs.YtpjgdpfpgpaenaaDoor
open Go.RowKit
set_option linter.unusedVariables false
set_option linter.unusedSimpArgs false

theorem bdw {B : Nat} {V U : World} (h : Hid (Below B V U)) : Hid (Below B V U.drew) := hid h.out.drew
set_option maxRecDepth 100000 in
set_option maxHeartbeats 8000000 in
theorem c_verify {c : Cd} {v : Value} {w : World} (h : CAt w c v) (hf : c.fit) (ht : Bare w) : Calls Tryd.prog 6 #[v] w fun e w' => Vfy e c.ok ∧ Hid (Below w.heap.size w w') := by
  obtain ⟨ai, ci, ad, cd, an, cn, X, rfl, h1, h2, h3, h4, h5, h6, h7⟩ := h
  obtain ⟨ni, I, D, ns, S⟩ := c
  simp only [Cd.fit] at h1 h2 h3 h4 h5 h6 h7 hf ⊢
  obtain ⟨nd, hnd⟩ : ∃ nd, D.length = nd := ⟨_, rfl⟩
  rw [hnd] at h2 h5 ⊢
  obtain ⟨W0, hW⟩ : ∃ W0, w.alloc (.cells #[.slice ai ni ci, .slice ad nd cd, .slice an ns cn] 26) = W0 := ⟨_, rfl⟩
  obtain ⟨B, hB⟩ : ∃ B, w.heap.size = B := ⟨_, rfl⟩
  have hb0 : Below w.heap.size w W0 := by rw [← hW]; exact blw_al (Below.refl _ _) _
  have hs : W0.heap[B]? = some (.cells #[.slice ai ni ci, .slice ad nd cd, .slice an ns cn] 26 (0, 0)) := by rw [← hW]; exact heap_alloc_at _ _ _ hB.symm
  have HX : Hid (∀ V, Hid (Below W0.heap.size W0 V) → (V.cell? ⟨B, 0, none⟩ = some (.slice ai ni ci) ∧ V.cell? ⟨B, 1, none⟩ = some (.slice ad nd cd) ∧ V.cell? ⟨B, 2, none⟩ = some (.slice an ns cn)) ∧ Hid (Below w.heap.size w V)) := hid fun V hV => by
    have e := (hV.out.block B (Array.getElem?_eq_some_iff.1 hs).1).trans hs
    exact ⟨⟨by rw [cells_at e]; rfl, by rw [cells_at e]; rfl, by rw [cells_at e]; rfl⟩, hid (hb0.trans (hV.out.mono hb0.size))⟩
  have HT := hid (ht.below hb0)
  have HW := hid hW
  have Hf := hid hf
  have HI := hid (h4.below hb0)
  have HD := hid (h5.below hb0)
  have HDs : Hid (∀ j (h : j < D.length), DAt W0 D[j] (vx X j)) := hid fun j hj => (h6 j hj).under hb0
  have HN := hid (h7.below hb0)
  have H1 := hid h1
  have H2 := hid h2
  have H3 := hid h3
  have Hnd := hid hnd
  have k0 : Hid (Below W0.heap.size W0 W0) := hid (Below.refl _ _)
  obtain ⟨⟨c0, c1, c2⟩, -⟩ := HX.out W0 k0
  by_cases hn0 : ni = 0
  · subst hn0
    have HQ : Hid (¬ Cd.ok ⟨0, I, D, ns, S⟩) := hid fun h => absurd (show 1 ≤ 0 from h.1) (by decide)
    clear hf hs hb0 h1 h2 h3 h4 h5 h6 h7 ht hnd
    go_enter Tryd.func6, Tryd.ntmps6
    go_wp2
    go_ret
    exact ⟨.inr ⟨HQ.out, rfl⟩, (HX.out _ k0).2⟩
  · by_cases hn1 : ni ≤ 20000
    · obtain ⟨m, rfl⟩ : ∃ m, ni = m + 1 := ⟨ni - 1, by omega⟩
      have HE : Hid (∀ V, Calls Tryd.prog 17 #[.agg #[.int .i64 (I m 0), .int .i64 (I m 1), .int .i64 (I m 2)]] V fun e w' => Ans e (endP (I m 0)) ∧ Hid (Below V.heap.size V w')) := hid fun V => c_ends _ _ _ V
      obtain ⟨g, o, rfl, hX⟩ := h4 (Nat.succ_pos _)
      have y : ∀ i, i < 3 → W0.cell? ⟨g, o + m * 3 + i, none⟩ = some (.int .i64 (I m i)) := fun i hi => (by
        have := hX m (Nat.lt_succ_self _) i hi
        exact (hb0.cell (World.block_lt_of_cell? w _ this)).trans this)
      have y0 : W0.cell? ⟨g, o + m * 3, none⟩ = some (.int .i64 (I m 0)) := y 0 (by decide)
      have y1 := y 1 (by decide)
      have y2 := y 2 (by decide)
      have l1 : (m : Int) + 1 ≤ 20000 := by omega
      have z1 : ((m : Int) + 1 == 0) = false := by rw [beq_eq_false_iff_ne]; omega
      have z2 : ¬ (20000 : Int) < (m : Int) + 1 := by omega
      have l2 : (0 : Int) ≤ (m : Int) := by omega
      clear hf hs hb0 h1 h2 h3 h4 h5 h6 h7 ht hnd hX y hn0 hn1
      go_enter Tryd.func6, Tryd.ntmps6
      go_wp2_with fail
      refine (HE.out _).mono ?_
      clear HE y0 y1 y2
      rintro e w1 ⟨⟨q, rfl, hq⟩, hb1⟩
      have k1 : Hid (Below W0.heap.size W0 w1) := hb1
      obtain ⟨⟨d0, d1, d2⟩, K1⟩ := HX.out w1 k1
      cases q
      · have HQ : Hid (¬ Cd.ok ⟨m + 1, I, D, ns, S⟩) := hid fun h => by have := hq.2 h.2.2.1; cases this
        go_wp2
        go_ret
        exact ⟨.inr ⟨HQ.out, rfl⟩, K1⟩
      · have HE : Hid (endP (I m 0)) := hid (hq.1 rfl)
        have HRm := hid (fun V => c_room (some ⟨g, o, none⟩) ad an (m + 1) nd ns ci cd cn V)
        clear hq hb1 c0 c1 c2 hW
        go_wp2_with fail
        refine (HRm.out _).mono ?_
        clear HRm
        rintro e w2 ⟨R, rfl, hR, hb2⟩
        have k2 : Hid (Below W0.heap.size W0 w2) := hid (k1.out.trans (hb2.out.mono k1.out.size))
        obtain ⟨⟨e0, e1, e2⟩, K2⟩ := HX.out w2 k2
        clear hb2 k1 K1 d0 d1 d2
        go_wp2_with fail
        have HXI : Hid (∀ j, j < m + 1 → ∀ i, i < 3 → W0.cell? ⟨g, o + j * 3 + i, none⟩ = some (.int .i64 (I j i))) := hid fun j hj i hi => by
          obtain ⟨g', o', h1, h2⟩ := HI.out (Nat.succ_pos _)
          injection h1 with h1
          injection h1 with h1 h3
          subst h1; subst h3
          exact h2 j hj i hi
        clear HI
        go_loopw [35] (fun i wr => ∃ j : Nat, i = .int .i64 (j : Int) ∧ j ≤ m + 1 ∧ Hid (∀ q, q < j → opP (m + 1) nd ns (I q 0) (I q 1) (I q 2)) ∧ Hid (Below w2.heap.size w2 wr)) (fun i _ => m + 1 - (intOf i).toNat)
        case atStart => exact ⟨0, rfl, Nat.zero_le _, fun q h => absurd h (Nat.not_lt_zero _), Below.refl _ _⟩
        case round =>
          obtain ⟨j, rfl, hj, HJ, kr⟩ := hrel
          by_cases hlt : j < m + 1
          · have q1 : (j : Int) < (m : Int) + 1 := by omega
            have q2 : (0 : Int) ≤ (j : Int) := by omega
            have kr0 : Hid (Below W0.heap.size W0 wr) := hid (k2.out.trans (kr.out.mono k2.out.size))
            have hXw : ∀ i, i < 3 → wr.cell? ⟨g, o + j * 3 + i, none⟩ = some (.int .i64 (I j i)) := fun i hi => (kr0.out.cell (World.block_lt_of_cell? W0 _ (HXI.out j hlt i hi))).trans (HXI.out j hlt i hi)
            obtain ⟨x0, hx0⟩ : ∃ x, I j 0 = x := ⟨_, rfl⟩
            obtain ⟨x1, hx1⟩ : ∃ x, I j 1 = x := ⟨_, rfl⟩
            obtain ⟨x2, hx2⟩ : ∃ x, I j 2 = x := ⟨_, rfl⟩
            have r0 : wr.cell? ⟨g, o + j * 3, none⟩ = some (.int .i64 (I j 0)) := hXw 0 (by decide)
            have r1 := hXw 1 (by decide)
            have r2 := hXw 2 (by decide)
            rw [hx0] at r0
            rw [hx1] at r1
            rw [hx2] at r2
            obtain ⟨V, hV⟩ : ∃ V, wr.alloc (.cells #[.int .i64 x0, .int .i64 x1, .int .i64 x2] 40) = V := ⟨_, rfl⟩
            obtain ⟨G, hG⟩ : ∃ G, wr.heap.size = G := ⟨_, rfl⟩
            have hbV : Below wr.heap.size wr V := by rw [← hV]; exact blw_al (Below.refl _ _) _
            have hsV : V.heap[G]? = some (.cells #[.int .i64 x0, .int .i64 x1, .int .i64 x2] 40 (0, 0)) := by rw [← hV]; exact heap_alloc_at _ _ _ hG.symm
            have HG : Hid (∀ U, Hid (Below V.heap.size V U) → U.cell? ⟨G, 0, none⟩ = some (.int .i64 x0) ∧ U.cell? ⟨G, 1, none⟩ = some (.int .i64 x1) ∧ U.cell? ⟨G, 2, none⟩ = some (.int .i64 x2)) := hid fun U hU => by
              have e := (hU.out.block G (Array.getElem?_eq_some_iff.1 hsV).1).trans hsV
              exact ⟨by rw [cells_at e]; rfl, by rw [cells_at e]; rfl, by rw [cells_at e]; rfl⟩
            have kV : Hid (Below V.heap.size V V) := hid (Below.refl _ _)
            have KV : Hid (∀ U, Hid (Below V.heap.size V U) → Hid (Below w2.heap.size w2 U)) := hid fun U hU => hid (kr.out.trans ((hbV.trans (hU.out.mono hbV.size)).mono kr.out.size))
            have HTV : Hid (∀ U, Hid (Below V.heap.size V U) → Bare U) := hid fun U hU => HT.out.below (kr0.out.trans ((hbV.trans (hU.out.mono hbV.size)).mono kr0.out.size))
            have HRV : Hid (∀ U, Hid (Below V.heap.size V U) → Room U R (m + 1) nd ns) := hid fun U hU => hR.out.below (KV.out U hU).out
            by_cases hbp : bareP x0 x1 x2
            · have HBr : Hid (∀ U, Hid (Below V.heap.size V U) → Calls Tryd.prog 19 #[.agg #[.int .i64 x0, .int .i64 x1, .int .i64 x2]] U fun e w' => e = .returned (.bool true) ∧ Hid (Below V.heap.size V w')) := hid fun U hU => by
                refine (c_bare x0 x1 x2 _ (HTV.out U hU)).mono ?_
                rintro e w' ⟨⟨q, rfl, hq⟩, h2⟩
                exact ⟨by rw [hq.2 hbp], hid (hU.out.trans (h2.out.mono hU.out.size))⟩
              have HO : Hid (opP (m + 1) nd ns x0 x1 x2) := hid (op_room.2 (.inl hbp))
              have HJ2 : Hid (∀ q, q < j + 1 → opP (m + 1) nd ns (I q 0) (I q 1) (I q 2)) := hid fun q hq => by
                by_cases e : q = j
                · subst e
                  rw [hx0, hx1, hx2]
                  exact HO.out
                · exact HJ.out q (by omega)
              clear hbV hsV hXw HJ hbp HO HRV HTV kr0 hx0 hx1 hx2
              obtain ⟨v0, v1, v2⟩ := HG.out V kV
              go_wp2_with fail
              refine (HBr.out _ kV).mono ?_
              rintro e w3 ⟨rfl, kb3⟩
              obtain ⟨t0, t1, t2⟩ := HG.out w3 kb3
              clear v0 v1 v2 r0 r1 r2
              go_wp2
              go_roundw
              case rel => exact ⟨j + 1, by go_num, by omega, HJ2, KV.out _ kb3⟩
              case measure => simp [intOf]; omega
            · have HBr : Hid (∀ U, Hid (Below V.heap.size V U) → Calls Tryd.prog 19 #[.agg #[.int .i64 x0, .int .i64 x1, .int .i64 x2]] U fun e w' => e = .returned (.bool false) ∧ Hid (Below V.heap.size V w')) := hid fun U hU => by
                refine (c_bare x0 x1 x2 _ (HTV.out U hU)).mono ?_
                rintro e w' ⟨⟨q, rfl, hq⟩, h2⟩
                cases q
                · exact ⟨rfl, hid (hU.out.trans (h2.out.mono hU.out.size))⟩
                · exact absurd (hq.1 rfl) hbp
              by_cases hh : ∃ k : Nat, x0 = k ∧ k < 15 ∧ (0 ≤ x1 ∧ x1 < rmA (m + 1) nd ns k) ∧ 0 ≤ x2 ∧ x2 < rmB k
              · have HHo : Hid (∀ U, Hid (Below V.heap.size V U) → Calls Tryd.prog 20 #[.pointer (some ⟨R, 0, none⟩), .agg #[.int .i64 x0, .int .i64 x1, .int .i64 x2]] U fun e w' => e = .returned (.bool true) ∧ Hid (Below V.heap.size V w')) := hid fun U hU => by
                  refine (c_holds x0 x1 x2 R (m + 1) nd ns _ (HRV.out U hU)).mono ?_
                  rintro e w' ⟨⟨q, rfl, hq⟩, h2⟩
                  exact ⟨by rw [hq.2 hh], hid (hU.out.trans (h2.out.mono hU.out.size))⟩
                have HO : Hid (opP (m + 1) nd ns x0 x1 x2) := hid (op_room.2 (.inr hh))
                have HJ2 : Hid (∀ q, q < j + 1 → opP (m + 1) nd ns (I q 0) (I q 1) (I q 2)) := hid fun q hq => by
                  by_cases e : q = j
                  · subst e
                    rw [hx0, hx1, hx2]
                    exact HO.out
                  · exact HJ.out q (by omega)
                clear hbV hsV hXw HJ hbp hh HO HRV HTV kr0 hx0 hx1 hx2
                obtain ⟨v0, v1, v2⟩ := HG.out V kV
                go_wp2_with fail
                refine (HBr.out _ kV).mono ?_
                rintro e w3 ⟨rfl, kb3⟩
                obtain ⟨t0, t1, t2⟩ := HG.out w3 kb3
                clear v0 v1 v2 r0 r1 r2
                go_wp2_with fail
                refine (HHo.out _ kb3).mono ?_
                rintro e w4 ⟨rfl, kb4⟩
                go_wp2
                go_roundw
                case rel => exact ⟨j + 1, by go_num, by omega, HJ2, KV.out _ kb4⟩
                case measure => simp [intOf]; omega
              · have HHo : Hid (∀ U, Hid (Below V.heap.size V U) → Calls Tryd.prog 20 #[.pointer (some ⟨R, 0, none⟩), .agg #[.int .i64 x0, .int .i64 x1, .int .i64 x2]] U fun e w' => e = .returned (.bool false) ∧ Hid (Below V.heap.size V w')) := hid fun U hU => by
                  refine (c_holds x0 x1 x2 R (m + 1) nd ns _ (HRV.out U hU)).mono ?_
                  rintro e w' ⟨⟨q, rfl, hq⟩, h2⟩
                  cases q
                  · exact ⟨rfl, hid (hU.out.trans (h2.out.mono hU.out.size))⟩
                  · exact absurd (hq.1 rfl) hh
                have HQ : Hid (¬ Cd.ok ⟨m + 1, I, D, ns, S⟩) := hid fun h => by
                  have := h.2.2.2.1 j hlt
                  simp only at this
                  rw [Hnd.out, hx0, hx1, hx2] at this
                  rcases op_room.1 this with h | h
                  · exact hbp h
                  · exact hh h
                clear hbV hsV hXw HJ hbp hh HRV HTV kr0 hx0 hx1 hx2
                obtain ⟨v0, v1, v2⟩ := HG.out V kV
                go_wp2_with fail
                refine (HBr.out _ kV).mono ?_
                rintro e w3 ⟨rfl, kb3⟩
                obtain ⟨t0, t1, t2⟩ := HG.out w3 kb3
                clear v0 v1 v2 r0 r1 r2
                go_wp2_with fail
                refine (HHo.out _ kb3).mono ?_
                rintro e w4 ⟨rfl, kb4⟩
                go_wp2
                go_ret
                exact ⟨.inr ⟨HQ.out, rfl⟩, (HX.out _ (hid (k2.out.trans ((KV.out _ kb4).out.mono k2.out.size)))).2⟩
          · obtain rfl : j = m + 1 := by omega
            obtain ⟨⟨e0', e1', e2'⟩, -⟩ := HX.out wr (hid (k2.out.trans (kr.out.mono k2.out.size)))
            have k3 : Hid (Below W0.heap.size W0 wr) := hid (k2.out.trans (kr.out.mono k2.out.size))
            have HOps := HJ
            have hndb : (nd : Int) ≤ 1048576 := by have := Hf.out.2.2.1; have := Hnd.out; omega
            have hnsb : (ns : Int) ≤ 1048576 := by have := Hf.out.2.2.2.1; omega
            clear HXI HJ hR k2 K2 e0 e1 e2 kr HT hj
            obtain ⟨W3, hW3⟩ : ∃ W3, W3 = wr := ⟨_, rfl⟩
            subst hW3
            go_wp2_with fail
            clear e0' e1'
            go_loopw [52] (fun i wr => ∃ j : Nat, i = .int .i64 (j : Int) ∧ j ≤ nd ∧ Hid (∀ q (h : q < D.length), q < j → D[q].may) ∧ Hid (Below W3.heap.size W3 wr)) (fun i _ => nd - (intOf i).toNat)
            case atStart => exact ⟨0, rfl, Nat.zero_le _, fun q _ h => absurd h (Nat.not_lt_zero _), Below.refl _ _⟩
            case round =>
              obtain ⟨j, rfl, hj, HJ, kr⟩ := hrel
              have kr0 : Hid (Below W0.heap.size W0 wr) := hid (k3.out.trans (kr.out.mono k3.out.size))
              by_cases hlt : j < nd
              · have q1 : (j : Int) < (nd : Int) := by omega
                have q2 : (0 : Int) ≤ (j : Int) := by omega
                have hjl : j < D.length := by rw [Hnd.out]; exact hlt
                obtain ⟨g2, o2, rfl, hX⟩ := HD.out (by omega)
                obtain ⟨ax, nx, cx, bx, mx, dx, f0, f1, f2, f3⟩ := (HDs.out j hjl).form
                have hvx : vx X j = .agg #[.int .i64 D[j].kd, .string D[j].tx, .slice ax nx cx, .slice bx mx dx] := by unfold vx; rw [f0, f1, f2, f3]
                have hdx := HDs.out j hjl
                rw [hvx] at hdx
                have hsz : D[j].siz ≤ 1048576 := Nat.le_trans (sizL_mem j hjl) Hf.out.1
                have HM : Hid (D[j].may → ∀ q (h : q < D.length), q < j + 1 → D[q].may) := hid fun hm q h hq => by
                  by_cases e : q = j
                  · subst e; exact hm
                  · exact HJ.out q h (by omega)
                have HNo : Hid (¬ D[j].may → ¬ Cd.ok ⟨m + 1, I, D, ns, S⟩) := hid fun hm h => hm (h.2.2.2.2.1 _ (List.getElem_mem hjl))
                obtain ⟨x, hx⟩ : ∃ x, D[j] = x := ⟨_, rfl⟩
                rw [hx] at hdx f0 f1 hsz HM HNo
                have hXw : ∀ i, i < 4 → wr.cell? ⟨g2, o2 + j * 4 + i, none⟩ = some (X j i) := fun i hi => (kr0.out.cell (World.block_lt_of_cell? W0 _ (hX j hlt i hi))).trans (hX j hlt i hi)
                have x0 : wr.cell? ⟨g2, o2 + j * 4, none⟩ = some (X j 0) := hXw 0 (by decide)
                have x1 := hXw 1 (by decide)
                have x2 := hXw 2 (by decide)
                have x3 := hXw 3 (by decide)
                rw [f0] at x0
                rw [f1] at x1
                rw [f2] at x2
                rw [f3] at x3
                obtain ⟨V, hV⟩ : ∃ V, wr.alloc (.cells #[.int .i64 x.kd, .string x.tx, .slice ax nx cx, .slice bx mx dx] 42) = V := ⟨_, rfl⟩
                obtain ⟨G, hG⟩ : ∃ G, wr.heap.size = G := ⟨_, rfl⟩
                have hbV : Below wr.heap.size wr V := by rw [← hV]; exact blw_al (Below.refl _ _) _
                have hsV : V.heap[G]? = some (.cells #[.int .i64 x.kd, .string x.tx, .slice ax nx cx, .slice bx mx dx] 42 (0, 0)) := by rw [← hV]; exact heap_alloc_at _ _ _ hG.symm
                have v0 := cells_at hsV 0
                have v1 := cells_at hsV 1
                have v2 := cells_at hsV 2
                have v3 := cells_at hsV 3
                simp only [List.getElem?_toArray, List.getElem?_cons_zero, List.getElem?_cons_succ] at v0 v1 v2 v3
                have HC : Hid (Calls Tryd.prog 21 #[.agg #[.int .i64 x.kd, .string x.tx, .slice ax nx cx, .slice bx mx dx]] V fun e w' => Ans e x.may ∧ Hid (Below W3.heap.size W3 w')) := hid (by
                  have h1 := kr.out.trans (hbV.mono kr.out.size)
                  refine (dt_can (hdx.under (k3.out.trans (h1.mono k3.out.size))) hsz).mono ?_
                  rintro e w' ⟨h2, h3⟩
                  exact ⟨h2, hid (h1.trans (h3.out.mono h1.size))⟩)
                clear hbV hsV hXw hX f0 f1 f2 f3 hvx hdx hsz HJ kr0
                go_wp2_with fail
                refine HC.out.mono ?_
                clear HC
                rintro e w4 ⟨⟨q, rfl, hq⟩, k4⟩
                clear v0 v1 v2 v3 x0 x1 x2 x3
                cases q
                · have HQ : Hid (¬ Cd.ok ⟨m + 1, I, D, ns, S⟩) := hid (HNo.out (fun h => by have := hq.2 h; cases this))
                  clear hq
                  go_wp2
                  go_ret
                  exact ⟨.inr ⟨HQ.out, rfl⟩, (HX.out _ (hid (k3.out.trans (k4.out.mono k3.out.size)))).2⟩
                · have HJ2 := hid (HM.out (hq.1 rfl))
                  clear hq
                  go_wp2
                  go_roundw
                  case rel =>
                    refine ⟨_, _, _, _, _, _, _, _, _, _, ⟨j + 1, ?_, by omega, HJ2, k4⟩, rfl⟩
                    go_num
                  case measure => simp [intOf]; omega
              · obtain rfl : j = nd := by omega
                have HMs : Hid (∀ d ∈ D, d.may) := hid fun d hd => by
                  obtain ⟨q, hq, rfl⟩ := List.getElem_of_mem hd
                  exact HJ.out q hq (by have := Hnd.out; omega)
                obtain ⟨⟨-, -, e2⟩, -⟩ := HX.out wr kr0
                clear HJ HD HDs
                have k4 := kr0
                clear kr kr0 hj hlt
                obtain ⟨W4, hW4⟩ : ∃ W4, W4 = wr := ⟨_, rfl⟩
                subst hW4
                go_wp2_with fail
                clear e2
                go_loopw [63] (fun i wr => ∃ q : Nat, i = .int .i64 (q : Int) ∧ q ≤ ns ∧ Hid (∀ p, p < q → nameP (S p)) ∧ Hid (Below W4.heap.size W4 wr)) (fun i _ => ns - (intOf i).toNat)
                case atStart => exact ⟨0, rfl, Nat.zero_le _, fun q h => absurd h (Nat.not_lt_zero _), Below.refl _ _⟩
                case round =>
                  obtain ⟨q, rfl, hq, HJ, kr⟩ := hrel
                  have kr0 : Hid (Below W0.heap.size W0 wr) := hid (k4.out.trans (kr.out.mono k4.out.size))
                  by_cases hlt : q < ns
                  · have q1 : (q : Int) < (ns : Int) := by omega
                    have q2 : (0 : Int) ≤ (q : Int) := by omega
                    obtain ⟨g2, o2, rfl, hX⟩ := HN.out (by omega)
                    have x0 : wr.cell? ⟨g2, o2 + q, none⟩ = some (.string (S q)) := (kr0.out.cell (World.block_lt_of_cell? W0 _ (hX q hlt))).trans (hX q hlt)
                    have HNo : Hid (¬ nameP (S q) → ¬ Cd.ok ⟨m + 1, I, D, ns, S⟩) := hid fun hm h => hm (h.2.2.2.2.2 q hlt)
                    have HM : Hid (nameP (S q) → ∀ p, p < q + 1 → nameP (S p)) := hid fun hm p hp => by
                      by_cases e : p = q
                      · subst e; exact hm
                      · exact HJ.out p (by omega)
                    have HC : Hid (Calls Tryd.prog 22 #[.string (S q)] wr fun e w' => Ans e (nameP (S q)) ∧ Hid (Below W4.heap.size W4 w')) := hid (by
                      have hsz := Hf.out.2.2.2.2 q hlt
                      refine (c_isName (S q) (by omega) wr).mono ?_
                      rintro e w' ⟨h2, h3⟩
                      exact ⟨h2, hid (kr.out.trans (h3.out.mono kr.out.size))⟩)
                    obtain ⟨z, hz⟩ : ∃ z, S q = z := ⟨_, rfl⟩
                    rw [hz] at x0 HC HNo HM
                    clear hX HJ kr0 hz
                    go_wp2_with fail
                    refine HC.out.mono ?_
                    clear HC
                    rintro e w5 ⟨⟨b, rfl, hb⟩, k5⟩
                    clear x0
                    cases b
                    · have HQ : Hid (¬ Cd.ok ⟨m + 1, I, D, ns, S⟩) := hid (HNo.out (fun h => by have := hb.2 h; cases this))
                      clear hb
                      go_wp2
                      go_ret
                      exact ⟨.inr ⟨HQ.out, rfl⟩, (HX.out _ (hid (k4.out.trans (k5.out.mono k4.out.size)))).2⟩
                    · have HJ2 := hid (HM.out (hb.1 rfl))
                      clear hb
                      go_wp2
                      go_roundw
                      case rel =>
                        refine ⟨_, _, _, _, _, _, _, _, _, _, ⟨q + 1, ?_, by omega, HJ2, k5⟩, rfl⟩
                        go_num
                      case measure => simp [intOf]; omega
                  · obtain rfl : q = ns := by omega
                    have HQ : Hid (Cd.ok ⟨m + 1, I, D, q, S⟩) := hid ⟨Nat.succ_pos _, by show m + 1 ≤ 20000; omega, HE.out, by rw [← Hnd.out] at HOps; exact HOps.out, HMs.out, HJ.out⟩
                    clear HJ HE HMs HOps
                    go_wp2
                    go_ret
                    exact ⟨.inl ⟨HQ.out, rfl⟩, (HX.out _ kr0).2⟩
    · have HQ : Hid (¬ Cd.ok ⟨ni, I, D, ns, S⟩) := hid fun h => hn1 h.2.1
      have l0 : ¬ (ni : Int) = 0 := by omega
      have l1 : (20000 : Int) < (ni : Int) := by omega
      clear hf hs hb0 h1 h2 h3 h4 h5 h6 h7 ht hnd hn1
      go_enter Tryd.func6, Tryd.ntmps6
      go_wp2
      go_ret
      exact ⟨.inr ⟨HQ.out, rfl⟩, (HX.out _ k0).2⟩
end Go.Proofs.YtpjgdpfpgpaenaaDoor
