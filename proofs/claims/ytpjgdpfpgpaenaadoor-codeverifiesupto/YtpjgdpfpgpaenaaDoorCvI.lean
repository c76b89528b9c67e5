/-
  The program's Encode.
-/
import Derived.Test.YtpjgdpfpgpaenaaDoorCvH
namespace Go.Proofs.YtpjgdpfpgpaenaaDoor
open Go.RowKit
set_option linter.unusedVariables false
set_option linter.unusedSimpArgs false

theorem wr_new {w : World} : Wr w.heap.size (w.alloc (.cells #[.slice none 0 0] 37)) [] := ⟨.slice none 0 0, heap_alloc_at _ _ _ rfl, World.ownsRow_nil _ _ _ _⟩
/-- What Encode answers. -/
def Enc (e : Ending) (w' : World) (c : Cd) : Prop :=
  (¬ c.ok ∧ e = .returned (.tuple #[.slice none 0 0, .int .i64 130])) ∨ (c.ok ∧ ∃ a k, e = .returned (.tuple #[.slice a c.enc.length k, .int .i64 0]) ∧ From w' a c.enc.length (fn c.enc))
set_option maxRecDepth 100000 in
set_option maxHeartbeats 8000000 in
theorem c_encode {c : Cd} {v : Value} {w : World} (h : CAt w c v) (hf : c.fit) (ht : Bare w) : Calls Tryd.prog 4 #[v] w fun e w' => Hid (Enc e w' c) ∧ Hid (Below w.heap.size w w') := by
  have hC := h
  obtain ⟨ai, ci, ad, cd, an, cn, X, rfl, h1, h2, h3, h4, h5, h6, h7⟩ := h
  obtain ⟨ni, I, D, ns, S⟩ := c
  simp only at h1 h2 h3 h4 h5 h6 h7 hC ⊢
  obtain ⟨nd, hnd⟩ : ∃ nd, D.length = nd := ⟨_, rfl⟩
  rw [hnd] at h2 h5 hC ⊢
  obtain ⟨W0, hW⟩ : ∃ W0, w.alloc (.cells #[.slice ai ni ci, .slice ad nd cd, .slice an ns cn] 26) = W0 := ⟨_, rfl⟩
  obtain ⟨B, hB⟩ : ∃ B, w.heap.size = B := ⟨_, rfl⟩
  have hb0 : Below w.heap.size w W0 := by rw [← hW]; exact blw_al (Below.refl _ _) _
  have hs : W0.heap[B]? = some (.cells #[.slice ai ni ci, .slice ad nd cd, .slice an ns cn] 26 (0, 0)) := by rw [← hW]; exact heap_alloc_at _ _ _ hB.symm
  have HX : Hid (∀ V, Hid (Below W0.heap.size W0 V) → (V.cell? ⟨B, 0, none⟩ = some (.slice ai ni ci) ∧ V.cell? ⟨B, 1, none⟩ = some (.slice ad nd cd) ∧ V.cell? ⟨B, 2, none⟩ = some (.slice an ns cn)) ∧ Hid (Below w.heap.size w V)) := hid fun V hV => by
    have e := (hV.out.block B (Array.getElem?_eq_some_iff.1 hs).1).trans hs
    exact ⟨⟨by rw [cells_at e]; rfl, by rw [cells_at e]; rfl, by rw [cells_at e]; rfl⟩, hid (hb0.trans (hV.out.mono hb0.size))⟩
  have HVf : Hid (Calls Tryd.prog 6 #[.agg #[.slice ai ni ci, .slice ad nd cd, .slice an ns cn]] W0 fun e w' => Vfy e (Cd.ok ⟨ni, I, D, ns, S⟩) ∧ Hid (Below W0.heap.size W0 w')) := hid (c_verify (hC.below hb0) hf (ht.below hb0))
  have Hf := hid hf
  have HI := hid (h4.below hb0)
  have HD := hid (h5.below hb0)
  have HDs : Hid (∀ j (h : j < D.length), DAt W0 D[j] (vx X j)) := hid fun j hj => (h6 j hj).under hb0
  have HN := hid (h7.below hb0)
  have H1 := hid h1
  have H2 := hid h2
  have H3 := hid h3
  have Hnd := hid hnd
  have k0 : Hid (Below W0.heap.size W0 W0) := hid (Below.refl _ _)
  obtain ⟨⟨c0, c1, c2⟩, -⟩ := HX.out W0 k0
  clear hf hs hb0 h1 h2 h3 h4 h5 h6 h7 ht hnd hC
  go_enter Tryd.func4, Tryd.ntmps4
  go_wp2_with fail
  refine HVf.out.mono ?_
  clear HVf
  rintro e w1 ⟨hv, k1⟩
  obtain ⟨⟨d0, d1, d2⟩, K1⟩ := HX.out w1 k1
  rcases hv with ⟨hok, rfl⟩ | ⟨hok, rfl⟩
  · have Hok := hid hok
    have HLn := hid (enc_lens Hf.out hok)
    clear hok c0 c1 c2 hW d0 d1 d2
    obtain ⟨V1, hV1⟩ : ∃ V1, w1.alloc (.cells #[.slice none 0 0] 37) = V1 := ⟨_, rfl⟩
    obtain ⟨Wb, hWb⟩ : ∃ Wb, w1.heap.size = Wb := ⟨_, rfl⟩
    have hr1 : Hid (Wr Wb V1 []) := hid (by rw [← hV1, ← hWb]; exact wr_new)
    have m1 : Hid (Below Wb w1 V1) := hid (by rw [← hV1, ← hWb]; exact blw_al (Below.refl _ _) _)
    have KX : Hid (∀ V, Hid (Below Wb w1 V) → ((V.cell? ⟨B, 0, none⟩ = some (.slice ai ni ci) ∧ V.cell? ⟨B, 1, none⟩ = some (.slice ad nd cd) ∧ V.cell? ⟨B, 2, none⟩ = some (.slice an ns cn)) ∧ Hid (Below W0.heap.size W0 V))) := hid fun V hV => by
      have h1 : Hid (Below W0.heap.size W0 V) := hid (k1.out.trans (hV.out.mono (by rw [← hWb]; exact k1.out.size)))
      exact ⟨(HX.out V h1).1, h1⟩
    obtain ⟨⟨d0, d1, d2⟩, -⟩ := KX.out V1 m1
    have HM1 : Hid (∀ G, V1.heap.size = G → Calls Tryd.prog 11 #[.pointer (some ⟨Wb, 0, none⟩), .slice (some ⟨G, 0, none⟩) 1 1] (V1.alloc (.cells #[.int .i64 (ni : Int)] 3)) fun e w' => e = .returned (.tuple #[]) ∧ Hid (Wr Wb w' (enc1 ⟨ni, I, D, ns, S⟩)) ∧ Hid (Below Wb w1 w')) := hid fun G hG => by
      refine (c_numbers hr1.out [(ni : Int)] (fun z hz => by simp at hz; have := Hok.out.2.1; simp only at this; omega) (by simp) G 3 hG (by decide) (by decide)).mono ?_
      rintro e w' ⟨h1, h2, h3⟩
      exact ⟨h1, h2, hid (m1.out.trans h3.out)⟩
    obtain ⟨G1, hG1⟩ : ∃ G1, V1.heap.size = G1 := ⟨_, rfl⟩
    have HM1' := hid (HM1.out G1 hG1)
    clear HM1
    go_wp2_with fail
    refine HM1'.out.mono ?_
    clear HM1' hV1 hr1 d0 d1 d2 m1 hG1
    rintro e w2 ⟨rfl, hr2, m2⟩
    obtain ⟨⟨d0, d1, d2⟩, -⟩ := KX.out w2 m2
    have hnib : (ni : Int) ≤ 20000 := by have := Hok.out.2.1; simp only at this; omega
    have hndb : (nd : Int) ≤ 1048576 := by have := Hf.out.2.2.1; have := Hnd.out; simp only at *; omega
    have hnsb : (ns : Int) ≤ 1048576 := by have := Hf.out.2.2.2.1; simp only at this; omega
    go_wp2_with fail
    clear d0 d1 d2
    go_loopw [22] (fun i wr => ∃ j : Nat, i = .int .i64 (j : Int) ∧ j ≤ ni ∧ Hid (Wr Wb wr (enc1 ⟨ni, I, D, ns, S⟩ ++ encI I j)) ∧ Hid (Below Wb w1 wr)) (fun i _ => ni - (intOf i).toNat)
    case atStart => exact ⟨0, rfl, Nat.zero_le _, by show Wr _ _ (_ ++ []); rw [List.append_nil]; exact hr2.out, m2⟩
    case round =>
      obtain ⟨j, rfl, hj, hr, mr⟩ := hrel
      by_cases hlt : j < ni
      · have q1 : (j : Int) < (ni : Int) := by omega
        have q2 : (0 : Int) ≤ (j : Int) := by omega
        obtain ⟨g, o, rfl, hX⟩ := HI.out (by omega)
        have kr := (KX.out wr mr).2
        have hXw : ∀ i, i < 3 → wr.cell? ⟨g, o + j * 3 + i, none⟩ = some (.int .i64 (I j i)) := fun i hi => (kr.out.cell (World.block_lt_of_cell? W0 _ (hX j hlt i hi))).trans (hX j hlt i hi)
        have r0 : wr.cell? ⟨g, o + j * 3, none⟩ = some (.int .i64 (I j 0)) := hXw 0 (by decide)
        have r1 := hXw 1 (by decide)
        have r2 := hXw 2 (by decide)
        have hop : I j 0 ≤ 9223372036854775807 ∧ I j 1 ≤ 9223372036854775807 ∧ I j 2 ≤ 9223372036854775807 := (op_le (Hok.out.2.2.2.1 j hlt) Hok.out.2.1 Hf.out.2.2.1 Hf.out.2.2.2.1).2
        have hlen : (enc1 ⟨ni, I, D, ns, S⟩ ++ encI I j).length ≤ 1000000 := HLn.out.2.1 j hj
        have HE : Hid (enc1 ⟨ni, I, D, ns, S⟩ ++ encI I (j + 1) = (enc1 ⟨ni, I, D, ns, S⟩ ++ encI I j) ++ nmB [I j 0, I j 1, I j 2]) := hid (by rw [List.append_assoc]; rfl)
        obtain ⟨x0, hx0⟩ : ∃ x, I j 0 = x := ⟨_, rfl⟩
        obtain ⟨x1, hx1⟩ : ∃ x, I j 1 = x := ⟨_, rfl⟩
        obtain ⟨x2, hx2⟩ : ∃ x, I j 2 = x := ⟨_, rfl⟩
        rw [hx0] at r0
        rw [hx1] at r1
        rw [hx2] at r2
        rw [hx0, hx1, hx2] at HE hop
        obtain ⟨ys, hys⟩ : ∃ ys, enc1 ⟨ni, I, D, ns, S⟩ ++ encI I j = ys := ⟨_, rfl⟩
        rw [hys] at hr HE hlen
        obtain ⟨V, hV⟩ : ∃ V, wr.alloc (.cells #[.int .i64 x0, .int .i64 x1, .int .i64 x2] 40) = V := ⟨_, rfl⟩
        obtain ⟨G, hG⟩ : ∃ G, wr.heap.size = G := ⟨_, rfl⟩
        have hbV : Below wr.heap.size wr V := by rw [← hV]; exact blw_al (Below.refl _ _) _
        have hsV : V.heap[G]? = some (.cells #[.int .i64 x0, .int .i64 x1, .int .i64 x2] 40 (0, 0)) := by rw [← hV]; exact heap_alloc_at _ _ _ hG.symm
        have v0 := cells_at hsV 0
        have v1 := cells_at hsV 1
        have v2 := cells_at hsV 2
        simp only [List.getElem?_toArray, List.getElem?_cons_zero, List.getElem?_cons_succ] at v0 v1 v2
        have hrV := hr.out.below hbV
        have hltW : Wb ≤ wr.heap.size := by obtain ⟨v, q⟩ := hr.out.v; exact Nat.le_of_lt q.lt
        obtain ⟨G2, hG2⟩ : ∃ G2, V.heap.size = G2 := ⟨_, rfl⟩
        have HC : Hid (Calls Tryd.prog 11 #[.pointer (some ⟨Wb, 0, none⟩), .slice (some ⟨G2, 0, none⟩) 3 3] (V.alloc (.cells #[.int .i64 x0, .int .i64 x1, .int .i64 x2] 3)) fun e w' => e = .returned (.tuple #[]) ∧ Hid (Wr Wb w' (ys ++ nmB [x0, x1, x2])) ∧ Hid (Below Wb w1 w')) := hid (by
          refine (c_numbers hrV [x0, x1, x2] (fun z hz => by simp at hz; omega) (by simp; omega) G2 3 hG2 (by decide) (by decide)).mono ?_
          rintro e w' ⟨h1, h2, h3⟩
          exact ⟨h1, h2, hid (mr.out.trans ((hbV.mono hltW).trans h3.out))⟩)
        clear hbV hsV hrV hltW hop hlen hx0 hx1 hx2 hys hXw hX kr hr
        go_wp2_with fail
        refine HC.out.mono ?_
        clear HC
        rintro e w3 ⟨rfl, hr3, m3⟩
        clear v0 v1 v2 r0 r1 r2 hG2 hV hG
        go_wp2
        go_roundw
        case rel => exact ⟨j + 1, by go_num, by omega, hid (by rw [HE.out]; exact hr3.out), m3⟩
        case measure => simp [intOf]; omega
      · obtain rfl : j = ni := by omega
        obtain ⟨⟨d0, d1, d2⟩, -⟩ := KX.out wr mr
        obtain ⟨G2, hG2⟩ : ∃ G2, wr.heap.size = G2 := ⟨_, rfl⟩
        have HC : Hid (Calls Tryd.prog 11 #[.pointer (some ⟨Wb, 0, none⟩), .slice (some ⟨G2, 0, none⟩) 1 1] (wr.alloc (.cells #[.int .i64 (nd : Int)] 3)) fun e w' => e = .returned (.tuple #[]) ∧ Hid (Wr Wb w' (enc2 ⟨j, I, D, ns, S⟩)) ∧ Hid (Below Wb w1 w')) := hid (by
          have hlen : (enc1 ⟨j, I, D, ns, S⟩ ++ encI I j).length ≤ 1000000 := HLn.out.2.1 j (Nat.le_refl _)
          refine (c_numbers hr.out [(nd : Int)] (fun z hz => by simp at hz; omega) (by simp only [List.length_singleton]; omega) G2 3 hG2 (by decide) (by decide)).mono ?_
          rintro e w' ⟨h1, h2, h3⟩
          refine ⟨h1, hid ?_, hid (mr.out.trans h3.out)⟩
          show Wr Wb w' (enc1 ⟨j, I, D, ns, S⟩ ++ encI I j ++ nmB [(D.length : Int)])
          rw [Hnd.out]
          exact h2.out)
        go_wp2_with fail
        refine HC.out.mono ?_
        clear HC d0 d1 d2 hG2 hr mr HI hr2 m2
        rintro e w3 ⟨rfl, hr3, m3⟩
        obtain ⟨⟨d0, d1, d2⟩, -⟩ := KX.out w3 m3
        go_wp2_with fail
        clear d0 d1 d2
        go_loopw [43] (fun i wr => ∃ p : Nat, i = .int .i64 (p : Int) ∧ p ≤ nd ∧ Hid (Wr Wb wr (enc2 ⟨j, I, D, ns, S⟩ ++ encS (prD D) p)) ∧ Hid (Below Wb w1 wr)) (fun i _ => nd - (intOf i).toNat)
        case atStart => exact ⟨0, rfl, Nat.zero_le _, by show Wr _ _ (_ ++ []); rw [List.append_nil]; exact hr3.out, m3⟩
        case round =>
          obtain ⟨p, rfl, hp, hr, mr⟩ := hrel
          by_cases hlt2 : p < nd
          · have q1 : (p : Int) < (nd : Int) := by omega
            have q2 : (0 : Int) ≤ (p : Int) := by omega
            have hpl : p < D.length := by rw [Hnd.out]; exact hlt2
            obtain ⟨g2, o2, rfl, hX⟩ := HD.out (by omega)
            obtain ⟨ax, nx, cx, bx, mx, dx, f0, f1, f2, f3⟩ := (HDs.out p hpl).form
            have hvx : vx X p = .agg #[.int .i64 D[p].kd, .string D[p].tx, .slice ax nx cx, .slice bx mx dx] := by unfold vx; rw [f0, f1, f2, f3]
            have hdx := HDs.out p hpl
            rw [hvx] at hdx
            have hsz : D[p].siz ≤ 1048576 := Nat.le_trans (sizL_mem p hpl) Hf.out.1
            have hwt : D[p].wt ≤ 1048576 := mem_wt Hf.out.2.1 hpl
            have hmay : D[p].may := Hok.out.2.2.2.2.1 _ (List.getElem_mem hpl)
            have hlen : (enc2 ⟨j, I, D, ns, S⟩ ++ encS (prD D) p).length ≤ 8800000000000 := HLn.out.2.2.1 p (by rw [Hnd.out]; exact hp)
            have hpz : (prD D p).size ≤ 8388608 := prD_le Hf.out.2.1 p
            have HE : Hid (enc2 ⟨j, I, D, ns, S⟩ ++ encS (prD D) (p + 1) = (enc2 ⟨j, I, D, ns, S⟩ ++ encS (prD D) p) ++ txB (ba D[p].out)) := hid (by rw [List.append_assoc, ← prD_at hpl]; rfl)
            rw [prD_at hpl] at hpz
            have kr := (KX.out wr mr).2
            obtain ⟨x, hx⟩ : ∃ x, D[p] = x := ⟨_, rfl⟩
            rw [hx] at hdx f0 f1 hsz hwt hmay hpz HE
            have hXw : ∀ i, i < 4 → wr.cell? ⟨g2, o2 + p * 4 + i, none⟩ = some (X p i) := fun i hi => (kr.out.cell (World.block_lt_of_cell? W0 _ (hX p hlt2 i hi))).trans (hX p hlt2 i hi)
            have x0 : wr.cell? ⟨g2, o2 + p * 4, none⟩ = some (X p 0) := hXw 0 (by decide)
            have x1 := hXw 1 (by decide)
            have x2 := hXw 2 (by decide)
            have x3 := hXw 3 (by decide)
            rw [f0] at x0
            rw [f1] at x1
            rw [f2] at x2
            rw [f3] at x3
            obtain ⟨ys, hys⟩ : ∃ ys, enc2 ⟨j, I, D, ns, S⟩ ++ encS (prD D) p = ys := ⟨_, rfl⟩
            rw [hys] at hr HE hlen
            obtain ⟨V, hV⟩ : ∃ V, wr.alloc (.cells #[.int .i64 x.kd, .string x.tx, .slice ax nx cx, .slice bx mx dx] 42) = V := ⟨_, rfl⟩
            obtain ⟨G, hG⟩ : ∃ G, wr.heap.size = G := ⟨_, rfl⟩
            have hbV : Below wr.heap.size wr V := by rw [← hV]; exact blw_al (Below.refl _ _) _
            have hsV : V.heap[G]? = some (.cells #[.int .i64 x.kd, .string x.tx, .slice ax nx cx, .slice bx mx dx] 42 (0, 0)) := by rw [← hV]; exact heap_alloc_at _ _ _ hG.symm
            have v0 := cells_at hsV 0
            have v1 := cells_at hsV 1
            have v2 := cells_at hsV 2
            have v3 := cells_at hsV 3
            simp only [List.getElem?_toArray, List.getElem?_cons_zero, List.getElem?_cons_succ] at v0 v1 v2 v3
            have hltW : Wb ≤ wr.heap.size := by obtain ⟨v, q⟩ := hr.out.v; exact Nat.le_of_lt q.lt
            have HPr : Hid (Calls Tryd.prog 13 #[.agg #[.int .i64 x.kd, .string x.tx, .slice ax nx cx, .slice bx mx dx]] V fun e w' => e = .returned (.string (ba x.out)) ∧ Hid (Wr Wb w' ys) ∧ Hid (Below Wb w1 w')) := hid (by
              refine (dt_print (hdx.under (kr.out.trans (hbV.mono kr.out.size))) hsz (by omega)).mono ?_
              rintro e w' ⟨h1, h2⟩
              have hb2 := hbV.trans (h2.out.mono hbV.size)
              rcases h1 with ⟨_, h⟩ | ⟨h, _⟩
              · exact ⟨h, hid (hr.out.below hb2), hid (mr.out.trans (hb2.mono hltW))⟩
              · exact absurd hmay h)
            have HTx : Hid (∀ V', Hid (Wr Wb V' ys) → Hid (Below Wb w1 V') → Calls Tryd.prog 12 #[.pointer (some ⟨Wb, 0, none⟩), .string (ba x.out)] V' fun e w' => e = .returned (.tuple #[]) ∧ Hid (Wr Wb w' (ys ++ txB (ba x.out))) ∧ Hid (Below Wb w1 w')) := hid fun V' hr' hm' => by
              refine (c_text hr'.out (ba x.out) (by omega)).mono ?_
              rintro e w' ⟨h1, h2, h3⟩
              exact ⟨h1, h2, hid (hm'.out.trans h3.out)⟩
            clear hbV hsV hltW hlen hx hys hXw hX kr hr hpz hmay hwt hsz hdx hvx f0 f1 f2 f3 mr hpl
            go_wp2_with fail
            refine HPr.out.mono ?_
            clear HPr
            rintro e w4 ⟨rfl, hr4, m4⟩
            clear v0 v1 v2 v3 x0 x1 x2 x3 hV hG
            have HT1 := hid (HTx.out w4 hr4 m4)
            clear HTx
            go_wp2_with fail
            refine HT1.out.mono ?_
            clear HT1 hr4 m4
            rintro e w5 ⟨rfl, hr5, m5⟩
            go_wp2
            go_roundw
            case rel => first
              | exact ⟨p + 1, by go_num, by omega, hid (by rw [HE.out]; exact hr5.out), m5⟩
              | (refine ⟨_, _, _, _, _, _, _, _, _, ⟨p + 1, ?_, by omega, hid (by rw [HE.out]; exact hr5.out), m5⟩, rfl⟩
                 go_num)
            case measure => simp [intOf]; omega
          · obtain rfl : p = nd := by omega
            obtain ⟨⟨d0, d1, d2⟩, -⟩ := KX.out wr mr
            obtain ⟨G3, hG3⟩ : ∃ G3, wr.heap.size = G3 := ⟨_, rfl⟩
            have HC : Hid (Calls Tryd.prog 11 #[.pointer (some ⟨Wb, 0, none⟩), .slice (some ⟨G3, 0, none⟩) 1 1] (wr.alloc (.cells #[.int .i64 (ns : Int)] 3)) fun e w' => e = .returned (.tuple #[]) ∧ Hid (Wr Wb w' (enc3 ⟨j, I, D, ns, S⟩)) ∧ Hid (Below Wb w1 w')) := hid (by
              have hlen : (enc2 ⟨j, I, D, ns, S⟩ ++ encS (prD D) p).length ≤ 8800000000000 := HLn.out.2.2.1 p (by rw [Hnd.out]; exact hp)
              refine (c_numbers hr.out [(ns : Int)] (fun z hz => by simp at hz; omega) (by simp only [List.length_singleton]; omega) G3 3 hG3 (by decide) (by decide)).mono ?_
              rintro e w' ⟨h1, h2, h3⟩
              refine ⟨h1, hid ?_, hid (mr.out.trans h3.out)⟩
              show Wr Wb w' (enc2 ⟨j, I, D, ns, S⟩ ++ encS (prD D) D.length ++ nmB [(ns : Int)])
              rw [Hnd.out]
              exact h2.out)
            go_wp2_with fail
            refine HC.out.mono ?_
            clear HC d0 d1 d2 hG3 hr mr HD HDs hr3 m3
            rintro e w4 ⟨rfl, hr4, m4⟩
            obtain ⟨⟨d0, d1, d2⟩, -⟩ := KX.out w4 m4
            go_wp2_with fail
            clear d0 d1 d2
            go_loopw [59] (fun i wr => ∃ q : Nat, i = .int .i64 (q : Int) ∧ q ≤ ns ∧ Hid (Wr Wb wr (enc3 ⟨j, I, D, ns, S⟩ ++ encS S q)) ∧ Hid (Below Wb w1 wr)) (fun i _ => ns - (intOf i).toNat)
            case atStart => exact ⟨0, rfl, Nat.zero_le _, by show Wr _ _ (_ ++ []); rw [List.append_nil]; exact hr4.out, m4⟩
            case round =>
              obtain ⟨q, rfl, hq, hr, mr⟩ := hrel
              by_cases hlt3 : q < ns
              · have q1 : (q : Int) < (ns : Int) := by omega
                have q2 : (0 : Int) ≤ (q : Int) := by omega
                obtain ⟨g2, o2, rfl, hX⟩ := HN.out (by omega)
                have kr := (KX.out wr mr).2
                have x0 : wr.cell? ⟨g2, o2 + q, none⟩ = some (.string (S q)) := (kr.out.cell (World.block_lt_of_cell? W0 _ (hX q hlt3))).trans (hX q hlt3)
                have hlen : (enc3 ⟨j, I, D, ns, S⟩ ++ encS S q).length ≤ 9920000000000 := HLn.out.2.2.2 q hq
                have hsz : (S q).size ≤ 1048576 := Hf.out.2.2.2.2 q hlt3
                have HE : Hid (enc3 ⟨j, I, D, ns, S⟩ ++ encS S (q + 1) = (enc3 ⟨j, I, D, ns, S⟩ ++ encS S q) ++ txB (S q)) := hid (by rw [List.append_assoc]; rfl)
                obtain ⟨z, hz⟩ : ∃ z, S q = z := ⟨_, rfl⟩
                obtain ⟨ys, hys⟩ : ∃ ys, enc3 ⟨j, I, D, ns, S⟩ ++ encS S q = ys := ⟨_, rfl⟩
                rw [hz] at x0 hsz HE
                rw [hys] at hr HE hlen
                have HT1 : Hid (Calls Tryd.prog 12 #[.pointer (some ⟨Wb, 0, none⟩), .string z] wr fun e w' => e = .returned (.tuple #[]) ∧ Hid (Wr Wb w' (ys ++ txB z)) ∧ Hid (Below Wb w1 w')) := hid (by
                  refine (c_text hr.out z (by omega)).mono ?_
                  rintro e w' ⟨h1, h2, h3⟩
                  exact ⟨h1, h2, hid (mr.out.trans h3.out)⟩)
                clear hlen hsz hz hys hr kr hX mr
                go_wp2_with fail
                refine HT1.out.mono ?_
                clear HT1 x0
                rintro e w5 ⟨rfl, hr5, m5⟩
                go_wp2
                go_roundw
                case rel => first
                  | exact ⟨q + 1, by go_num, by omega, hid (by rw [HE.out]; exact hr5.out), m5⟩
                  | (refine ⟨_, _, _, _, _, _, _, _, ⟨q + 1, ?_, by omega, hid (by rw [HE.out]; exact hr5.out), m5⟩, rfl⟩
                     go_num)
                case measure => simp [intOf]; omega
              · obtain rfl : q = ns := by omega
                obtain ⟨v, hv⟩ := hr.out.v
                obtain ⟨a, k, rfl, hF, -, -, -, -⟩ := hv.2.open
                have c0 := hv.cell.1
                have HF : Hid (From wr a (Cd.enc ⟨j, I, D, q, S⟩).length (fn (Cd.enc ⟨j, I, D, q, S⟩))) := hid hF
                have HK := (HX.out wr (KX.out wr mr).2).2
                have hL : (enc3 ⟨j, I, D, q, S⟩ ++ encS S q).length = (Cd.enc ⟨j, I, D, q, S⟩).length := rfl
                rw [hL] at c0
                clear hv hF hL hr mr HN KX HX
                go_wp2
                go_ret2
                exact ⟨hid (.inr ⟨Hok.out, a, k, rfl, HF.out⟩), HK⟩
  · have Hok := hid hok
    clear hok
    go_wp2
    go_ret2
    exact ⟨hid (.inl ⟨Hok.out, rfl⟩), K1⟩
end Go.Proofs.YtpjgdpfpgpaenaaDoor
