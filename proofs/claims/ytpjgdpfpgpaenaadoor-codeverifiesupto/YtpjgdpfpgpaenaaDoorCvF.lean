/-
  The document's Verify.
-/
import Derived.Test.YtpjgdpfpgpaenaaDoorCvC
import Derived.Test.YtpjgdpfpgpaenaaDoorCvE
namespace Go.Proofs.YtpjgdpfpgpaenaaDoor
open Go.RowKit
set_option linter.unusedVariables false
set_option linter.unusedSimpArgs false

set_option maxRecDepth 100000 in
set_option maxHeartbeats 8000000 in
theorem x_verify {c : Cd} {v : Value} {w : World} (h : CAt w c v) (hf : c.fit) : Calls Tryd.prog 7 #[v] w fun e w' => Vfy e c.ok ∧ Hid (Below w.heap.size w w') := by
  obtain ⟨ai, ci, ad, cd, an, cn, X, rfl, h1, h2, h3, h4, h5, h6, h7⟩ := h
  obtain ⟨ni, I, D, ns, S⟩ := c
  simp only [Cd.fit] at h1 h2 h3 h4 h5 h6 h7 hf ⊢
  obtain ⟨nd, hnd⟩ : ∃ nd, D.length = nd := ⟨_, rfl⟩
  rw [hnd] at h2 h5 ⊢
  obtain ⟨W0, hW⟩ : ∃ W0, w.alloc (.cells #[.slice ai ni ci, .slice ad nd cd, .slice an ns cn] 26) = W0 := ⟨_, rfl⟩
  obtain ⟨B, hB⟩ : ∃ B, w.heap.size = B := ⟨_, rfl⟩
  have hb0 : Below w.heap.size w W0 := by rw [← hW]; exact blw_al (Below.refl _ _) _
  have hs : W0.heap[B]? = some (.cells #[.slice ai ni ci, .slice ad nd cd, .slice an ns cn] 26 (0, 0)) := by rw [← hW]; exact heap_alloc_at _ _ _ hB.symm
  have HX : Hid (∀ V, Hid (Below W0.heap.size W0 V) → (V.cell? ⟨B, 0, none⟩ = some (.slice ai ni ci) ∧ V.cell? ⟨B, 1, none⟩ = some (.slice ad nd cd) ∧ V.cell? ⟨B, 2, none⟩ = some (.slice an ns cn)) ∧ Hid (Below w.heap.size w V)) := hid fun V hV => by
    have e := (hV.out.block B (Array.getElem?_eq_some_iff.1 hs).1).trans hs
    exact ⟨⟨by rw [cells_at e]; rfl, by rw [cells_at e]; rfl, by rw [cells_at e]; rfl⟩, hid (hb0.trans (hV.out.mono hb0.size))⟩
  have HW := hid hW
  have Hf := hid hf
  have HI := hid (h4.below hb0)
  have HD := hid (h5.below hb0)
  have HDs : Hid (∀ j (h : j < D.length), DAt W0 D[j] (vx X j)) := hid fun j hj => (h6 j hj).under hb0
  have HN := hid (h7.below hb0)
  have H1 := hid h1
  have H2 := hid h2
  have H3 := hid h3
  have Hnd := hid hnd
  have k0 : Hid (Below W0.heap.size W0 W0) := hid (Below.refl _ _)
  obtain ⟨⟨c0, c1, c2⟩, -⟩ := HX.out W0 k0
  by_cases hn0 : ni = 0
  · subst hn0
    have HQ : Hid (¬ Cd.ok ⟨0, I, D, ns, S⟩) := hid fun h => absurd (show 1 ≤ 0 from h.1) (by decide)
    clear hf hs hb0 h1 h2 h3 h4 h5 h6 h7 hnd
    go_enter Tryd.func7, Tryd.ntmps7
    go_wp2
    go_ret
    exact ⟨.inr ⟨HQ.out, rfl⟩, (HX.out _ k0).2⟩
  · by_cases hn1 : ni ≤ 20000
    · obtain ⟨m, rfl⟩ : ∃ m, ni = m + 1 := ⟨ni - 1, by omega⟩
      have l1 : (m : Int) + 1 ≤ 20000 := by omega
      have z1 : ¬ (m : Int) + 1 < 1 := by omega
      have z2 : ¬ (20000 : Int) < (m : Int) + 1 := by omega
      have l2 : (0 : Int) ≤ (m : Int) := by omega
      have hndb : (nd : Int) ≤ 1048576 := by have := Hf.out.2.2.1; have := Hnd.out; omega
      have hnsb : (ns : Int) ≤ 1048576 := by have := Hf.out.2.2.2.1; omega
      clear hf hs hb0 h1 h2 h3 h4 h5 h6 h7 hnd hn0 hn1
      go_enter Tryd.func7, Tryd.ntmps7
      go_wp2_with fail
      go_loopw [23] (fun i wr => ∃ j : Nat, i = .int .i64 (j : Int) ∧ j ≤ nd ∧ Hid (∀ q (h : q < D.length), q < j → D[q].may) ∧ Hid (Below W0.heap.size W0 wr)) (fun i _ => nd - (intOf i).toNat)
      case atStart => exact ⟨0, rfl, Nat.zero_le _, fun q _ h => absurd h (Nat.not_lt_zero _), Below.refl _ _⟩
      case round =>
        obtain ⟨j, rfl, hj, HJ, kr⟩ := hrel
        have kr0 : Hid (Below W0.heap.size W0 wr) := hid (kr.out)
        by_cases hlt : j < nd
        · have q1 : (j : Int) < (nd : Int) := by omega
          have q2 : (0 : Int) ≤ (j : Int) := by omega
          have hjl : j < D.length := by rw [Hnd.out]; exact hlt
          obtain ⟨g2, o2, rfl, hX⟩ := HD.out (by omega)
          obtain ⟨ax, nx, cx, bx, mx, dx, f0, f1, f2, f3⟩ := (HDs.out j hjl).form
          have hvx : vx X j = .agg #[.int .i64 D[j].kd, .string D[j].tx, .slice ax nx cx, .slice bx mx dx] := by unfold vx; rw [f0, f1, f2, f3]
          have hdx := HDs.out j hjl
          rw [hvx] at hdx
          have hsz : D[j].siz ≤ 1048576 := Nat.le_trans (sizL_mem j hjl) Hf.out.1
          have HM : Hid (D[j].may → ∀ q (h : q < D.length), q < j + 1 → D[q].may) := hid fun hm q h hq => by
            by_cases e : q = j
            · subst e; exact hm
            · exact HJ.out q h (by omega)
          have HNo : Hid (¬ D[j].may → ¬ Cd.ok ⟨m + 1, I, D, ns, S⟩) := hid fun hm h => hm (h.2.2.2.2.1 _ (List.getElem_mem hjl))
          obtain ⟨x, hx⟩ : ∃ x, D[j] = x := ⟨_, rfl⟩
          rw [hx] at hdx f0 f1 hsz HM HNo
          have hXw : ∀ i, i < 4 → wr.cell? ⟨g2, o2 + j * 4 + i, none⟩ = some (X j i) := fun i hi => (kr0.out.cell (World.block_lt_of_cell? W0 _ (hX j hlt i hi))).trans (hX j hlt i hi)
          have x0 : wr.cell? ⟨g2, o2 + j * 4, none⟩ = some (X j 0) := hXw 0 (by decide)
          have x1 := hXw 1 (by decide)
          have x2 := hXw 2 (by decide)
          have x3 := hXw 3 (by decide)
          rw [f0] at x0
          rw [f1] at x1
          rw [f2] at x2
          rw [f3] at x3
          obtain ⟨V, hV⟩ : ∃ V, wr.alloc (.cells #[.int .i64 x.kd, .string x.tx, .slice ax nx cx, .slice bx mx dx] 42) = V := ⟨_, rfl⟩
          obtain ⟨G, hG⟩ : ∃ G, wr.heap.size = G := ⟨_, rfl⟩
          have hbV : Below wr.heap.size wr V := by rw [← hV]; exact blw_al (Below.refl _ _) _
          have hsV : V.heap[G]? = some (.cells #[.int .i64 x.kd, .string x.tx, .slice ax nx cx, .slice bx mx dx] 42 (0, 0)) := by rw [← hV]; exact heap_alloc_at _ _ _ hG.symm
          have v0 := cells_at hsV 0
          have v1 := cells_at hsV 1
          have v2 := cells_at hsV 2
          have v3 := cells_at hsV 3
          simp only [List.getElem?_toArray, List.getElem?_cons_zero, List.getElem?_cons_succ] at v0 v1 v2 v3
          have HC : Hid (Calls Tryd.prog 23 #[.agg #[.int .i64 x.kd, .string x.tx, .slice ax nx cx, .slice bx mx dx]] V fun e w' => Ans e x.may ∧ Hid (Below W0.heap.size W0 w')) := hid (by
            have h1 := kr.out.trans (hbV.mono kr.out.size)
            refine (z_can (hdx.under h1) hsz).mono ?_
            rintro e w' ⟨h2, h3⟩
            exact ⟨h2, hid (h1.trans (h3.out.mono h1.size))⟩)
          clear hbV hsV hXw hX f0 f1 f2 f3 hvx hdx hsz HJ kr0
          go_wp2_with fail
          refine HC.out.mono ?_
          clear HC
          rintro e w4 ⟨⟨q, rfl, hq⟩, k4⟩
          clear v0 v1 v2 v3 x0 x1 x2 x3
          cases q
          · have HQ : Hid (¬ Cd.ok ⟨m + 1, I, D, ns, S⟩) := hid (HNo.out (fun h => by have := hq.2 h; cases this))
            clear hq
            go_wp2
            go_ret
            exact ⟨.inr ⟨HQ.out, rfl⟩, (HX.out _ k4).2⟩
          · have HJ2 := hid (HM.out (hq.1 rfl))
            clear hq
            go_wp2
            go_roundw
            case rel => exact ⟨j + 1, by go_num, by omega, HJ2, k4⟩
            case measure => simp [intOf]; omega
        · obtain rfl : j = nd := by omega
          have HMs : Hid (∀ d ∈ D, d.may) := hid fun d hd => by
            obtain ⟨q, hq, rfl⟩ := List.getElem_of_mem hd
            exact HJ.out q hq (by have := Hnd.out; omega)
          obtain ⟨⟨-, -, e2⟩, -⟩ := HX.out wr kr0
          have k4 := kr0
          clear HJ HD HDs kr kr0 hj hlt
          obtain ⟨W4, hW4⟩ : ∃ W4, W4 = wr := ⟨_, rfl⟩
          subst hW4
          go_wp2_with fail
          clear e2
          go_loopw [34] (fun i wr => ∃ q : Nat, i = .int .i64 (q : Int) ∧ q ≤ ns ∧ Hid (∀ p, p < q → nameP (S p)) ∧ Hid (Below W4.heap.size W4 wr)) (fun i _ => ns - (intOf i).toNat)
          case atStart => exact ⟨0, rfl, Nat.zero_le _, fun q h => absurd h (Nat.not_lt_zero _), Below.refl _ _⟩
          case round =>
            obtain ⟨q, rfl, hq, HJ, kr⟩ := hrel
            have kr0 : Hid (Below W0.heap.size W0 wr) := hid (k4.out.trans (kr.out.mono k4.out.size))
            by_cases hlt : q < ns
            · have q1 : (q : Int) < (ns : Int) := by omega
              have q2 : (0 : Int) ≤ (q : Int) := by omega
              obtain ⟨g2, o2, rfl, hX⟩ := HN.out (by omega)
              have x0 : wr.cell? ⟨g2, o2 + q, none⟩ = some (.string (S q)) := (kr0.out.cell (World.block_lt_of_cell? W0 _ (hX q hlt))).trans (hX q hlt)
              have HNo : Hid (¬ nameP (S q) → ¬ Cd.ok ⟨m + 1, I, D, ns, S⟩) := hid fun hm h => hm (h.2.2.2.2.2 q hlt)
              have HM : Hid (nameP (S q) → ∀ p, p < q + 1 → nameP (S p)) := hid fun hm p hp => by
                by_cases e : p = q
                · subst e; exact hm
                · exact HJ.out p (by omega)
              have HC : Hid (Calls Tryd.prog 24 #[.string (S q)] wr fun e w' => Ans e (nameP (S q)) ∧ Hid (Below W4.heap.size W4 w')) := hid (by
                refine (z_name (S q) wr).mono ?_
                rintro e w' ⟨h2, h3⟩
                exact ⟨h2, hid (kr.out.trans (h3.out.mono kr.out.size))⟩)
              obtain ⟨z, hz⟩ : ∃ z, S q = z := ⟨_, rfl⟩
              rw [hz] at x0 HC HNo HM
              clear hX HJ kr0 hz
              go_wp2_with fail
              refine HC.out.mono ?_
              clear HC
              rintro e w5 ⟨⟨b, rfl, hb⟩, k5⟩
              clear x0
              cases b
              · have HQ : Hid (¬ Cd.ok ⟨m + 1, I, D, ns, S⟩) := hid (HNo.out (fun h => by have := hb.2 h; cases this))
                clear hb
                go_wp2
                go_ret
                exact ⟨.inr ⟨HQ.out, rfl⟩, (HX.out _ (hid (k4.out.trans (k5.out.mono k4.out.size)))).2⟩
              · have HJ2 := hid (HM.out (hb.1 rfl))
                clear hb
                go_wp2
                go_roundw
                case rel => exact ⟨q + 1, by go_num, by omega, HJ2, k5⟩
                case measure => simp [intOf]; omega
            · obtain rfl : q = ns := by omega
              have HNs := HJ
              obtain ⟨⟨e0, e1, e2⟩, -⟩ := HX.out wr kr0
              have k5 := kr0
              clear HJ HN kr kr0 hq hlt k4
              obtain ⟨W5, hW5⟩ : ∃ W5, W5 = wr := ⟨_, rfl⟩
              subst hW5
              go_wp2_with fail
              clear e0 e1 e2
              go_loopw [45] (fun i wr => ∃ p : Nat, i = .int .i64 (p : Int) ∧ p ≤ m + 1 ∧ Hid (∀ t, t < p → opP (m + 1) j q (I t 0) (I t 1) (I t 2)) ∧ Hid (Below W5.heap.size W5 wr)) (fun i _ => m + 1 - (intOf i).toNat)
              case atStart => exact ⟨0, rfl, Nat.zero_le _, fun q h => absurd h (Nat.not_lt_zero _), Below.refl _ _⟩
              case round =>
                obtain ⟨p, rfl, hp, HJ, kr⟩ := hrel
                have kr0 : Hid (Below W0.heap.size W0 wr) := hid (k5.out.trans (kr.out.mono k5.out.size))
                obtain ⟨g, o, rfl, hXI⟩ := HI.out (Nat.succ_pos _)
                by_cases hlt : p < m + 1
                · have q1 : (p : Int) < (m : Int) + 1 := by omega
                  have q2 : (0 : Int) ≤ (p : Int) := by omega
                  have hXw : ∀ i, i < 3 → wr.cell? ⟨g, o + p * 3 + i, none⟩ = some (.int .i64 (I p i)) := fun i hi => (kr0.out.cell (World.block_lt_of_cell? W0 _ (hXI p hlt i hi))).trans (hXI p hlt i hi)
                  have r0 : wr.cell? ⟨g, o + p * 3, none⟩ = some (.int .i64 (I p 0)) := hXw 0 (by decide)
                  have r1 := hXw 1 (by decide)
                  have r2 := hXw 2 (by decide)
                  have HM : Hid (opP (m + 1) j q (I p 0) (I p 1) (I p 2) → ∀ t, t < p + 1 → opP (m + 1) j q (I t 0) (I t 1) (I t 2)) := hid fun hm t ht => by
                    by_cases e : t = p
                    · subst e; exact hm
                    · exact HJ.out t (by omega)
                  have HNo : Hid (¬ opP (m + 1) j q (I p 0) (I p 1) (I p 2) → ¬ Cd.ok ⟨m + 1, I, D, q, S⟩) := hid fun hm h => hm (by have := h.2.2.2.1 p hlt; simp only at this; rw [Hnd.out] at this; exact this)
                  obtain ⟨x0, hx0⟩ : ∃ x, I p 0 = x := ⟨_, rfl⟩
                  obtain ⟨x1, hx1⟩ : ∃ x, I p 1 = x := ⟨_, rfl⟩
                  obtain ⟨x2, hx2⟩ : ∃ x, I p 2 = x := ⟨_, rfl⟩
                  rw [hx0, hx1, hx2] at HM HNo
                  rw [hx0] at r0
                  rw [hx1] at r1
                  rw [hx2] at r2
                  obtain ⟨V, hV⟩ : ∃ V, wr.alloc (.cells #[.int .i64 x0, .int .i64 x1, .int .i64 x2] 40) = V := ⟨_, rfl⟩
                  obtain ⟨G, hG⟩ : ∃ G, wr.heap.size = G := ⟨_, rfl⟩
                  have hbV : Below wr.heap.size wr V := by rw [← hV]; exact blw_al (Below.refl _ _) _
                  have hsV : V.heap[G]? = some (.cells #[.int .i64 x0, .int .i64 x1, .int .i64 x2] 40 (0, 0)) := by rw [← hV]; exact heap_alloc_at _ _ _ hG.symm
                  have v0 := cells_at hsV 0
                  have v1 := cells_at hsV 1
                  have v2 := cells_at hsV 2
                  simp only [List.getElem?_toArray, List.getElem?_cons_zero, List.getElem?_cons_succ] at v0 v1 v2
                  have h1 : Below W5.heap.size W5 V := kr.out.trans (hbV.mono kr.out.size)
                  obtain ⟨⟨e0, e1, e2⟩, -⟩ := HX.out V (hid (k5.out.trans (h1.mono k5.out.size)))
                  have HC : Hid (Calls Tryd.prog 25 #[.agg #[.slice (some ⟨g, o, none⟩) (m + 1) ci, .slice ad j cd, .slice an q cn], .agg #[.int .i64 x0, .int .i64 x1, .int .i64 x2]] V fun e w' => Ans e (opP (m + 1) j q x0 x1 x2) ∧ Hid (Below W5.heap.size W5 w')) := hid (by
                    refine (x_instr _ _ _ _ _ _ _ _ _ _ _ _ V).mono ?_
                    rintro e w' ⟨h2, h3⟩
                    exact ⟨h2, hid (h1.trans (h3.out.mono h1.size))⟩)
                  clear hbV hsV hXw hXI HJ kr0 hx0 hx1 hx2 h1
                  go_wp2_with fail
                  refine HC.out.mono ?_
                  clear HC
                  rintro e w6 ⟨⟨b, rfl, hb⟩, k6⟩
                  clear v0 v1 v2 r0 r1 r2 e0 e1 e2
                  cases b
                  · have HQ : Hid (¬ Cd.ok ⟨m + 1, I, D, q, S⟩) := hid (HNo.out (fun h => by have := hb.2 h; cases this))
                    clear hb
                    go_wp2
                    go_ret
                    exact ⟨.inr ⟨HQ.out, rfl⟩, (HX.out _ (hid (k5.out.trans (k6.out.mono k5.out.size)))).2⟩
                  · have HJ2 := hid (HM.out (hb.1 rfl))
                    clear hb
                    go_wp2
                    go_roundw
                    case rel => exact ⟨p + 1, by go_num, by omega, HJ2, k6⟩
                    case measure => simp [intOf]; omega
                · obtain rfl : p = m + 1 := by omega
                  have hXw : ∀ i, i < 3 → wr.cell? ⟨g, o + m * 3 + i, none⟩ = some (.int .i64 (I m i)) := fun i hi => (kr0.out.cell (World.block_lt_of_cell? W0 _ (hXI m (Nat.lt_succ_self _) i hi))).trans (hXI m (Nat.lt_succ_self _) i hi)
                  have r0 : wr.cell? ⟨g, o + m * 3, none⟩ = some (.int .i64 (I m 0)) := hXw 0 (by decide)
                  have HQ : Hid (endP (I m 0) ↔ Cd.ok ⟨m + 1, I, D, q, S⟩) := hid ⟨fun h => ⟨Nat.succ_pos _, by show m + 1 ≤ 20000; omega, h, by rw [← Hnd.out] at HJ; exact HJ.out, HMs.out, HNs.out⟩, fun h => h.2.2.1⟩
                  obtain ⟨x0, hx0⟩ : ∃ x, I m 0 = x := ⟨_, rfl⟩
                  rw [hx0] at r0 HQ
                  obtain ⟨⟨e0, e1, e2⟩, k7⟩ := HX.out wr kr0
                  clear hXw hXI HJ hx0 kr0 HMs HNs HI
                  have hcase : ((x0 == 14) = false ∧ (x0 == 13) = false ∧ (x0 == 7) = false ∧ (x0 == 12) = false) ∨ x0 = 14 ∨ x0 = 13 ∨ x0 = 7 ∨ x0 = 12 := by
                    simp only [beq_eq_false_iff_ne]; omega
                  rcases hcase with ⟨d1, d2, d3, d4⟩ | rfl | rfl | rfl | rfl
                  · have HQ2 : Hid (¬ Cd.ok ⟨m + 1, I, D, q, S⟩) := hid fun h => by
                      have h1 := HQ.out.2 h
                      simp only [beq_eq_false_iff_ne, ne_eq] at d1 d2 d3 d4
                      unfold endP at h1
                      omega
                    clear HQ
                    have n1 : (x0 != 14) = true := by rw [bne, d1]; rfl
                    have n2 : (x0 != 13) = true := by rw [bne, d2]; rfl
                    have n3 : (x0 != 7) = true := by rw [bne, d3]; rfl
                    have n4 : (x0 != 12) = true := by rw [bne, d4]; rfl
                    go_wp2
                    go_ret
                    exact ⟨.inr ⟨HQ2.out, rfl⟩, k7⟩
                  all_goals
                    have HQ2 : Hid (Cd.ok ⟨m + 1, I, D, q, S⟩) := hid (HQ.out.1 (by unfold endP; omega))
                    clear HQ
                    go_wp2
                    go_ret
                    exact ⟨.inl ⟨HQ2.out, rfl⟩, k7⟩
    · have HQ : Hid (¬ Cd.ok ⟨ni, I, D, ns, S⟩) := hid fun h => hn1 h.2.1
      have l0 : ¬ (ni : Int) = 0 := by omega
      have l1 : (20000 : Int) < (ni : Int) := by omega
      clear hf hs hb0 h1 h2 h3 h4 h5 h6 h7 hnd hn1
      go_enter Tryd.func7, Tryd.ntmps7
      go_wp2
      go_ret
      exact ⟨.inr ⟨HQ.out, rfl⟩, (HX.out _ k0).2⟩
end Go.Proofs.YtpjgdpfpgpaenaaDoor
