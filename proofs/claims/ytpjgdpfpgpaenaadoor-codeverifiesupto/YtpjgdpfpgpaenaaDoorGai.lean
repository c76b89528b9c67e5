/-
  Contract of datum's measure.
  Contracts of datum's Can, Depth, Size.
-/
import Derived.Test.YtpjgdpfpgpaenaaDoorGah
namespace Go.Proofs.YtpjgdpfpgpaenaaDoor
open Go.RowKit
set_option linter.unusedVariables false

theorem two_set {w : World} {g : Nat} {u0 u1 : Value} {T : TypeId} (h : w.heap[g]? = some (.cells #[u0, u1] T (0, 0))) (v0 v1 : Value) :
    (w.cell? ⟨g, 0, none⟩ = some u0 ∧ w.frozen? ⟨g, 0, none⟩ = false ∧ w.cell? ⟨g, 1, none⟩ = some u1 ∧ w.frozen? ⟨g, 1, none⟩ = false) ∧ ((w.setCell ⟨g, 0, none⟩ v0).cell? ⟨g, 1, none⟩ = some u1 ∧ (w.setCell ⟨g, 0, none⟩ v0).frozen? ⟨g, 1, none⟩ = false) ∧ ((w.setCell ⟨g, 0, none⟩ v0).setCell ⟨g, 1, none⟩ v1).heap[g]? = some (.cells #[v0, v1] T (0, 0)) ∧ (((w.setCell ⟨g, 0, none⟩ v0).setCell ⟨g, 1, none⟩ v1).cell? ⟨g, 0, none⟩ = some v0 ∧ ((w.setCell ⟨g, 0, none⟩ v0).setCell ⟨g, 1, none⟩ v1).cell? ⟨g, 1, none⟩ = some v1) ∧ ∀ k, k ≠ g → ((w.setCell ⟨g, 0, none⟩ v0).setCell ⟨g, 1, none⟩ v1).heap[k]? = w.heap[k]? := by
  have h1 : (w.setCell ⟨g, 0, none⟩ v0).heap[g]? = some (.cells #[v0, u1] T (0, 0)) := heap_set_at h v0
  have h2 : ((w.setCell ⟨g, 0, none⟩ v0).setCell ⟨g, 1, none⟩ v1).heap[g]? = some (.cells #[v0, v1] T (0, 0)) := heap_set_at h1 v1
  refine ⟨⟨by rw [cells_at h 0]; rfl, cells_free h 0, by rw [cells_at h 1]; rfl, cells_free h 1⟩, ⟨by rw [cells_at h1 1]; rfl, cells_free h1 1⟩, h2, ⟨by rw [cells_at h2 0]; rfl, by rw [cells_at h2 1]; rfl⟩, fun k hk => ?_⟩
  rw [heap_set_other _ hk 1 v1, heap_set_other _ hk 0 v0]
theorem depL_append : ∀ (l r : List Dt), depL (l ++ r) = max (depL l) (depL r)
  | [], r => by simp [depL]
  | y :: l, r => by
    show max y.dep (depL (l ++ r)) = max (max y.dep (depL l)) (depL r)
    rw [depL_append l r]; omega
theorem sizL_append : ∀ (l r : List Dt), sizL (l ++ r) = sizL l + sizL r
  | [], r => by simp [sizL]
  | y :: l, r => by
    show y.siz + sizL (l ++ r) = y.siz + sizL l + sizL r
    rw [sizL_append l r]; omega
theorem goodL_append : ∀ (l r : List Dt), goodL (l ++ r) ↔ goodL l ∧ goodL r
  | [], r => by simp [goodL]
  | y :: l, r => by
    show (y.good ∧ goodL (l ++ r)) ↔ ((y.good ∧ goodL l) ∧ goodL r)
    rw [goodL_append l r]
    exact and_assoc.symm
/-- Where the count stands: how deep and how many the data are that were looked at. -/
def Ls (G n : Nat) (w2 : World) (P : List Dt) (D S : Int) (V : World) : Prop := Below G w2 V ∧ V.heap[G]? = some (.cells #[.int .i64 D, .int .i64 S] 66 (0, 0)) ∧ goodL P ∧ depL P ≤ n ∧ D = ((1 + depL P : Nat) : Int) ∧ S = ((1 + sizL P : Nat) : Int)
/-- One more datum was looked at. -/
theorem Ls.step {G n : Nat} {w2 : World} {P : List Dt} {D S : Int} {V : World} (h : Ls G n w2 P D S V) {x : Dt} (hx : x.good) (hd : x.dep ≤ n) {V' : World} (hb : Below V.heap.size V V') {D' S' : Int} (hD : D' = max D (1 + (x.dep : Int))) (hS : S' = S + (x.siz : Int)) :
    Ls G n w2 (P ++ [x]) D' S' ((V'.setCell ⟨G, 0, none⟩ (.int .i64 D')).setCell ⟨G, 1, none⟩ (.int .i64 S')) := by
  obtain ⟨h1, h2, h3, h4, h5, h6⟩ := h
  have hl := (Array.getElem?_eq_some_iff.1 h2).1
  have h2' := (hb.block G hl).trans h2
  refine ⟨((h1.trans (hb.mono (by omega))).setCell (Nat.le_refl _) _).setCell (Nat.le_refl _) _, (two_set h2' _ _).2.2.1, (goodL_app _ _).2 ⟨h3, hx⟩, by rw [depL_app]; omega, by rw [depL_app]; omega, by rw [sizL_app]; omega⟩
/-- What measure tells of a datum. -/
def Msr (d : Dt) (n : Nat) (r : Ending) : Prop := (d.good ∧ d.dep ≤ n ∧ r = .returned (.tuple #[.agg #[.int .i64 (d.dep : Int), .int .i64 (d.siz : Int)], .bool true])) ∨ (¬ (d.good ∧ d.dep ≤ n) ∧ r = .returned (.tuple #[.agg #[.int .i64 0, .int .i64 0], .bool false]))
set_option linter.unusedSimpArgs false in
set_option maxRecDepth 100000 in
set_option maxHeartbeats 4000000 in
theorem dt_measure (N : Nat) : ∀ (d : Dt) (v : Value) (n : Nat) (w : World), d.siz < N → DAt w d v → d.siz ≤ 1048576 → n ≤ 64 → Calls Tryd.prog 34 #[v, .int .i64 (n : Int)] w fun r w' => Hid (Msr d n r) ∧ Hid (Below w.heap.size w w') := by
  induction N with
  | zero => exact fun d v n w h _ _ _ => absurd h (Nat.not_lt_zero _)
  | succ N ih =>
    intro d v n w hN hd hs hn
    have IH : Hid (∀ (d : Dt) (v : Value) (n : Nat) (w : World), d.siz < N → DAt w d v → d.siz ≤ 1048576 → n ≤ 64 → Calls Tryd.prog 34 #[v, .int .i64 (n : Int)] w fun r w' => Hid (Msr d n r) ∧ Hid (Below w.heap.size w w')) := ih
    clear ih
    have hd0 := hd
    cases hd with
    | mk k t l m a b c c2 X Y hl hm ra rb sz =>
      obtain ⟨n1, hn1⟩ : ∃ n1, l.length = n1 := ⟨_, rfl⟩
      obtain ⟨n2, hn2⟩ : ∃ n2, m.length = n2 := ⟨_, rfl⟩
      rw [hn1, hn2] at hd0
      obtain ⟨W1, hW1⟩ : ∃ W1, (w.alloc (.cells #[.int .i64 k, .string t, .slice a n1 c, .slice b n2 c2] 42)).alloc (.cells #[.int .i64 0, .int .i64 0] 66) = W1 := ⟨_, rfl⟩
      have hb1 : Below w.heap.size w W1 := by rw [← hW1]; exact ((Below.refl _ w).alloc (Nat.le_refl _) _).alloc (by rw [World.size_alloc]; omega) _
      have hd1 := hd0.under hb1
      have HF : Hid (Calls Tryd.prog 45 #[.agg #[.int .i64 k, .string t, .slice a n1 c, .slice b n2 c2]] W1 fun e w' => Ans e (fitP k t l m) ∧ Hid (Below W1.heap.size W1 w')) := dt_fits hn1 hn2 hd1
      obtain ⟨B, hB⟩ : ∃ B, w.heap.size = B := ⟨_, rfl⟩
      have h0 : W1.heap[B]? = some (.cells #[.int .i64 k, .string t, .slice a n1 c, .slice b n2 c2] 42 (0, 0)) := by
        rw [← hW1, ← hB, Below.heap_alloc _ _ _ (by rw [World.size_alloc]; omega)]
        exact heap_alloc_at _ _ _ rfl
      have h4 : W1.heap[B + 1]? = some (.cells #[.int .i64 0, .int .i64 0] 66 (0, 0)) := by
        rw [← hW1, ← hB]
        exact heap_alloc_at _ _ _ (by rw [World.size_alloc])
      have HC : Hid (∀ wq, Below W1.heap.size W1 wq → (wq.cell? ⟨B, 0, none⟩ = some (.int .i64 k) ∧ wq.cell? ⟨B, 1, none⟩ = some (.string t) ∧ wq.cell? ⟨B, 2, none⟩ = some (.slice a n1 c) ∧ wq.cell? ⟨B, 3, none⟩ = some (.slice b n2 c2)) ∧ Hid (wq.heap[B + 1]? = some (.cells #[.int .i64 0, .int .i64 0] 66 (0, 0)))) := fun wq hb => by
        have e0 := (hb.block B (Array.getElem?_eq_some_iff.1 h0).1).trans h0
        have e4 := (hb.block (B + 1) (Array.getElem?_eq_some_iff.1 h4).1).trans h4
        exact ⟨⟨by rw [cells_at e0 0]; rfl, by rw [cells_at e0 1]; rfl, by rw [cells_at e0 2]; rfl, by rw [cells_at e0 3]; rfl⟩, e4⟩
      obtain ⟨⟨z0, z1, z2, z3⟩, _⟩ := HC.out W1 (Below.refl _ _)
      have HB1 : Hid (Below B w W1) := by rw [← hB]; exact hb1
      rw [hn1, hn2]
      clear hb1 hd1 h0 h4
      have hgood : Hid ((Dt.node k t l m).good ↔ fitP k t l m ∧ goodL l ∧ goodL m) := Iff.rfl
      have hdep : Hid ((Dt.node k t l m).dep = if sqB k then 1 + max (depL l) (depL m) else 0) := rfl
      have hsiz : Hid ((Dt.node k t l m).siz = 1 + (sizL l + sizL m)) := rfl
      have Hb : Hid (∀ V, Below W1.heap.size W1 V → Below B w V ∧ B + 2 ≤ V.heap.size) := fun V hb => ⟨by
        have h1 : B ≤ W1.heap.size := by have := (Array.getElem?_eq_some_iff.1 (HC.out W1 (Below.refl _ _)).2.out).1; omega
        exact HB1.out.trans (hb.mono h1), by
        have h1 := (Array.getElem?_eq_some_iff.1 (HC.out W1 (Below.refl _ _)).2.out).1
        have := hb.size
        omega⟩
      go_enter Tryd.func34, Tryd.ntmps34
      go_wp2_with fail
      try rw [hW1]
      try rw [hB]
      refine HF.out.mono ?_
      rintro r w2 ⟨⟨q, rfl, hq⟩, hb2⟩
      obtain ⟨⟨y0, y1, y2, y3⟩, hR⟩ := HC.out w2 hb2.out
      obtain ⟨hB2, hs2⟩ := Hb.out w2 hb2.out
      have hsz2 : Hid (B + 2 ≤ w2.heap.size) := hs2
      have HB2 : Hid (Below B w w2) := hB2
      clear hs2 hB2
      cases q
      · have hn : Hid (¬ (Dt.node k t l m).good) := fun h => by have := hq.2 (hgood.out.1 h).1; cases this
        clear hq
        obtain ⟨⟨x0, x1, x2, x3⟩, ⟨x4, x5⟩, _, ⟨x7, x8⟩, _⟩ := two_set hR.out (.int .i64 0) (.int .i64 0)
        have hb3 : Hid (Below B w ((w2.setCell ⟨B + 1, 0, none⟩ (.int .i64 0)).setCell ⟨B + 1, 1, none⟩ (.int .i64 0))) := (HB2.out.setCell (Nat.le_succ _) _).setCell (Nat.le_succ _) _
        go_wp2
        refine bodyPost_ret (v := .tuple #[.agg #[.int .i64 0, .int .i64 0], .bool false]) (by simp [results, Tryd.results34, go_sem, x7, x8]) rfl ?_
        exact ⟨.inr ⟨fun h => hn.out h.1, rfl⟩, by rw [hB]; exact hb3⟩
      · have hfit : Hid (fitP k t l m) := hq.1 rfl
        clear hq
        cases hk : sqB k
        · have hls : Hid (l = [] ∧ m = []) := by
            rcases hfit.out with ⟨h, _⟩ | ⟨h, _⟩ | ⟨_, _, h, h', _⟩
            · rw [h] at hk; cases hk
            · rw [h] at hk; cases hk
            · exact ⟨h, h'⟩
          have d5 : (k != 5) = true := by unfold sqB at hk; simp at hk ⊢; exact hk.1
          have d6 : (k != 6) = true := by unfold sqB at hk; simp at hk ⊢; exact hk.2
          obtain ⟨⟨x0, x1, x2, x3⟩, ⟨x4, x5⟩, _, ⟨x7, x8⟩, _⟩ := two_set hR.out (.int .i64 0) (.int .i64 1)
          have hb3 : Hid (Below B w ((w2.setCell ⟨B + 1, 0, none⟩ (.int .i64 0)).setCell ⟨B + 1, 1, none⟩ (.int .i64 1))) := (HB2.out.setCell (Nat.le_succ _) _).setCell (Nat.le_succ _) _
          have hM : Hid (Msr (.node k t l m) n (.returned (.tuple #[.agg #[.int .i64 0, .int .i64 1], .bool true]))) := by
            refine .inl ⟨hgood.out.2 ⟨hfit.out, ?_, ?_⟩, ?_, ?_⟩
            · rw [hls.out.1]; exact trivial
            · rw [hls.out.2]; exact trivial
            · rw [hdep.out, hk]; simp
            · rw [hdep.out, hsiz.out, hk, hls.out.1, hls.out.2]; rfl
          clear hk
          go_wp2
          refine bodyPost_ret (v := .tuple #[.agg #[.int .i64 0, .int .i64 1], .bool true]) (by simp [results, Tryd.results34, go_sem, x7, x8]) rfl ?_
          exact ⟨hM, by rw [hB]; exact hb3⟩
        · have hdep2 : Hid ((Dt.node k t l m).dep = 1 + max (depL l) (depL m)) := by rw [hdep.out, hk]; rfl
          have dk : (if (k != 5) = true then (k != 6) else false) = false := by
            unfold sqB at hk; simp at hk; rcases hk with rfl | rfl <;> rfl
          have dk2 : k = 5 ∨ k = 6 := by unfold sqB at hk; simpa using hk
          clear hk dk hdep
          cases n with
          | zero =>
            have hn : Hid (¬ (Dt.node k t l m).dep ≤ 0) := by rw [hdep2.out]; intro h; omega
            obtain ⟨⟨x0, x1, x2, x3⟩, ⟨x4, x5⟩, _, ⟨x7, x8⟩, _⟩ := two_set hR.out (.int .i64 0) (.int .i64 0)
            have hb3 : Hid (Below B w ((w2.setCell ⟨B + 1, 0, none⟩ (.int .i64 0)).setCell ⟨B + 1, 1, none⟩ (.int .i64 0))) := (HB2.out.setCell (Nat.le_succ _) _).setCell (Nat.le_succ _) _
            have dn : (((0 : Nat) : Int) == 0) = true := rfl
            refine dk2.elim (fun h => ?_) (fun h => ?_)
            · have d5 : (k != 5) = false := by rw [h]; rfl
              clear dk2 h
              go_wp2
              refine bodyPost_ret (v := .tuple #[.agg #[.int .i64 0, .int .i64 0], .bool false]) (by simp [results, Tryd.results34, go_sem, x7, x8]) rfl ?_
              exact ⟨.inr ⟨fun h => hn.out h.2, rfl⟩, by rw [hB]; exact hb3⟩
            · have d5 : (k != 5) = true := by rw [h]; rfl
              have d6 : (k != 6) = false := by rw [h]; rfl
              clear dk2 h
              go_wp2
              refine bodyPost_ret (v := .tuple #[.agg #[.int .i64 0, .int .i64 0], .bool false]) (by simp [results, Tryd.results34, go_sem, x7, x8]) rfl ?_
              exact ⟨.inr ⟨fun h => hn.out h.2, rfl⟩, by rw [hB]; exact hb3⟩
          | succ n =>
            have dn : ((n : Int) + 1 == 0) = false := by simp; omega
            obtain ⟨G, hG⟩ : ∃ G, w2.heap.size = G := ⟨_, rfl⟩
            have hG2 : B + 2 ≤ G := by rw [← hG]; exact hsz2.out
            obtain ⟨W3, hW3⟩ : ∃ W3, w2.alloc (.cells #[.int .i64 1, .int .i64 1] 66) = W3 := ⟨_, rfl⟩
            have HL0 : Hid (Below G w2 W3 ∧ W3.heap[G]? = some (.cells #[.int .i64 1, .int .i64 1] 66 (0, 0))) := by
              rw [← hW3]
              exact ⟨(Below.refl G w2).alloc (by omega) _, heap_alloc_at _ _ _ hG.symm⟩
            have v2 : W3.cell? ⟨B, 2, none⟩ = some (.slice a n1 c) := by
              rw [HL0.out.1.cell (by show B < G; omega)]; exact y2
            have v3 : W3.cell? ⟨B, 3, none⟩ = some (.slice b n2 c2) := by
              rw [HL0.out.1.cell (by show B < G; omega)]; exact y3
            have HV : Hid (∀ V, Below G w2 V → Below w.heap.size w V) := fun V h => by rw [hB]; exact HB2.out.trans (h.mono (by omega))
            have d56 : (k != 5) = false ∨ ((k != 5) = true ∧ (k != 6) = false) := by
              rcases dk2 with rfl | rfl
              · exact .inl rfl
              · exact .inr ⟨rfl, rfl⟩
            clear dk2
            have hI0 : ∀ V : World, (Instr.index 81 (.agg #[.slice a n1 c, .slice b n2 c2]) (.int .i64 0)).run Tryd.prog V = .ok (.slice a n1 c) V := fun _ => by kernel_rfl
            have hI1 : ∀ V : World, (Instr.index 81 (.agg #[.slice a n1 c, .slice b n2 c2]) (.int .i64 1)).run Tryd.prog V = .ok (.slice b n2 c2) V := fun _ => by kernel_rfl
            rcases d56 with d5 | ⟨d5, d6⟩
            all_goals
              go_wp2_with fail
              clear hW3
              go_loopw [35] (fun v wr => ∃ (i : Nat) (P : List Dt) (D S : Int), v = .int .i64 (i : Int) ∧ i ≤ 2 ∧ Hid ((i = 0 ∧ P = []) ∨ (i = 1 ∧ P = l) ∨ (i = 2 ∧ P = l ++ m)) ∧ Hid (Ls G n w2 P D S wr)) (fun v _ => 2 - (intOf v).toNat)
              case atStart => exact ⟨0, [], 1, 1, rfl, by omega, .inl ⟨rfl, rfl⟩, HL0.out.1, HL0.out.2, trivial, Nat.zero_le _, rfl, rfl⟩
              obtain ⟨i, P, D, S, rfl, hi, hP, HL⟩ := hrel
              rcases hP.out with ⟨rfl, eP⟩ | ⟨rfl, eP⟩ | ⟨rfl, eP⟩
              · rw [eP] at HL
                clear hP eP P
                rw [show (((0 : Nat)) : Int) = 0 from rfl]
                go_wp2_with fail
                go_loopw [40] (fun v wr => ∃ (j : Nat) (D S : Int), v = .int .i64 (j : Int) ∧ j ≤ n1 ∧ Hid (Ls G n w2 (l.take j) D S wr)) (fun v _ => n1 - (intOf v).toNat)
                case atStart => exact ⟨0, D, S, rfl, Nat.zero_le _, by simpa using HL⟩
                case round =>
                  clear HL
                  obtain ⟨j, D, S, rfl, hj, HL⟩ := hrel
                  by_cases hlt : j < n1
                  · have l1 : (j : Int) < (n1 : Int) := by omega
                    have l2 : (0 : Int) ≤ (j : Int) := by omega
                    have hjl : j < l.length := by rw [hn1]; exact hlt
                    obtain ⟨g, o, rfl, hX⟩ := ra (by omega)
                    obtain ⟨hbw, hgw, -, -, eD, eS⟩ := HL.out
                    have hw0 := HV.out wr hbw
                    have hXw : ∀ i, i < 4 → wr.cell? ⟨g, o + j * 4 + i, none⟩ = some (X j i) := fun i hi => (hw0.cell (World.block_lt_of_cell? w _ (hX j hjl i hi))).trans (hX j hjl i hi)
                    obtain ⟨ax, nx, cx, bx, mx, dx, e0, e1, e2, e3⟩ := (hl j hjl).form
                    have hvx : vx X j = .agg #[.int .i64 l[j].kd, .string l[j].tx, .slice ax nx cx, .slice bx mx dx] := by unfold vx; rw [e0, e1, e2, e3]
                    have hdj := hl j hjl
                    have hsz1 := Nat.lt_of_lt_of_le (siz_l k t l m j hjl) (Nat.le_of_lt_succ hN)
                    have hsz2' := Nat.le_trans (Nat.le_of_lt (siz_l k t l m j hjl)) hs
                    rw [hvx] at hdj
                    obtain ⟨x, hx⟩ : ∃ x, l[j] = x := ⟨_, rfl⟩
                    rw [hx] at hdj hsz1 hsz2' hvx e0 e1
                    have x0 : wr.cell? ⟨g, o + j * 4, none⟩ = some (X j 0) := hXw 0 (by decide)
                    have x1 := hXw 1 (by decide)
                    have x2 := hXw 2 (by decide)
                    have x3 := hXw 3 (by decide)
                    rw [e0] at x0
                    rw [e1] at x1
                    rw [e2] at x2
                    rw [e3] at x3
                    clear e0 e1 e2 e3 hvx
                    obtain ⟨V, hV⟩ : ∃ V, wr.alloc (.cells #[.int .i64 x.kd, .string x.tx, .slice ax nx cx, .slice bx mx dx] 42) = V := ⟨_, rfl⟩
                    have hbV : Below wr.heap.size wr V := by rw [← hV]; exact (Below.refl _ _).alloc (Nat.le_refl _) _
                    have hGw := (Array.getElem?_eq_some_iff.1 hgw).1
                    have hVn : V.heap[wr.heap.size]? = some (.cells #[.int .i64 x.kd, .string x.tx, .slice ax nx cx, .slice bx mx dx] 42 (0, 0)) := by rw [← hV]; exact heap_alloc_at _ _ _ rfl
                    obtain ⟨gv, hgv⟩ : ∃ gv, wr.heap.size = gv := ⟨_, rfl⟩
                    have p0 : V.cell? ⟨gv, 0, none⟩ = some (.int .i64 x.kd) := by rw [← hgv, cells_at hVn 0]; rfl
                    have p1 : V.cell? ⟨gv, 1, none⟩ = some (.string x.tx) := by rw [← hgv, cells_at hVn 1]; rfl
                    have p2 : V.cell? ⟨gv, 2, none⟩ = some (.slice ax nx cx) := by rw [← hgv, cells_at hVn 2]; rfl
                    have p3 : V.cell? ⟨gv, 3, none⟩ = some (.slice bx mx dx) := by rw [← hgv, cells_at hVn 3]; rfl
                    have HI : Hid (Calls Tryd.prog 34 #[.agg #[.int .i64 x.kd, .string x.tx, .slice ax nx cx, .slice bx mx dx], .int .i64 (n : Int)] V fun r w' => Hid (Msr x n r) ∧ Hid (Below V.heap.size V w')) := IH.out x _ n V hsz1 (hdj.under (hw0.trans (hbV.mono hw0.size))) hsz2' (Nat.le_of_succ_le hn)
                    have HbV : Hid (Below wr.heap.size wr V) := hbV
                    clear hVn hXw hw0 hbV hdj hsz1
                    have hSb : 1 ≤ S ∧ S ≤ 1048577 := by
                      have h9 : 1 + (sizL l + sizL m) ≤ 1048576 := by rw [← hsiz.out]; exact hs
                      have h8 := sizL_take l j
                      generalize sizL (l.take j) = s1 at eS h8
                      generalize sizL l = s2 at eS h8 h9
                      generalize sizL m = s3 at eS h8 h9
                      clear hs hN
                      omega
                    have hDb : 1 ≤ D ∧ D ≤ 65 := by
                      have h8 := HL.out.2.2.2.1
                      generalize depL (l.take j) = s1 at eD h8
                      clear hs hN hSb
                      omega
                    have hRw := hbw.block (B + 1) (by omega)
                    clear eD eS
                    go_wp2_with fail
                    refine HI.out.mono ?_
                    rintro r w3 ⟨hM, hb3⟩
                    have hw3 : Below wr.heap.size wr w3 := HbV.out.trans (hb3.out.mono HbV.out.size)
                    obtain ⟨g3, hG3⟩ : ∃ g3, w3.heap.size = g3 := ⟨_, rfl⟩
                    have hg3 : g3 ≠ G := by have := hw3.size; omega
                    obtain ⟨e, he⟩ : ∃ e : Int, (x.dep : Int) = e := ⟨_, rfl⟩
                    obtain ⟨z, hz⟩ : ∃ z : Int, (x.siz : Int) = z := ⟨_, rfl⟩
                    have hz0 : 0 ≤ z ∧ z ≤ 1048576 := by clear hs hN; omega
                    rcases hM.out with ⟨hxg, hxd, hr⟩ | ⟨hng, hr⟩
                    · rw [he, hz] at hr
                      subst hr
                      have he0 : 0 ≤ e ∧ e ≤ 64 := by clear hs hN; omega
                      obtain ⟨Q0, hQ0⟩ : ∃ Q0, w3.alloc (.cells #[.int .i64 e, .int .i64 z] 66) = Q0 := ⟨_, rfl⟩
                      have hQn : Q0.heap[g3]? = some (.cells #[.int .i64 e, .int .i64 z] 66 (0, 0)) := by rw [← hQ0]; exact heap_alloc_at _ _ _ hG3.symm
                      have hq0 : Below wr.heap.size wr Q0 := by rw [← hQ0]; exact hw3.alloc hw3.size _
                      have hgQ := (hq0.block G hGw).trans hgw
                      have u0 : Q0.cell? ⟨g3, 0, none⟩ = some (.int .i64 e) := by rw [cells_at hQn 0]; rfl
                      have HL' : Hid (Ls G n w2 (l.take j) D S wr) := HL
                      clear hw3 hgw hGw hM hRw hbw hsz2'
                      obtain ⟨⟨t0, t1, t2, t3⟩, ⟨t4, t5⟩, -, -, -⟩ := two_set hgQ (.int .i64 (max D (1 + e))) (.int .i64 (S + z))
                      have u1 : (Q0.setCell ⟨G, 0, none⟩ (.int .i64 (max D (1 + e)))).cell? ⟨g3, 1, none⟩ = some (.int .i64 z) := by rw [cells_at ((heap_set_other _ hg3 0 _).trans hQn) 1]; rfl
                      have HS : Hid (Ls G n w2 (l.take (j + 1)) (max D (1 + e)) (S + z) ((Q0.setCell ⟨G, 0, none⟩ (.int .i64 (max D (1 + e)))).setCell ⟨G, 1, none⟩ (.int .i64 (S + z)))) := by
                        have hh := HL.out.step hxg hxd hq0 (D' := max D (1 + e)) (S' := S + z) (by omega) (by omega)
                        rw [take_snoc _ _ hjl, hx]
                        exact hh
                      clear HL hgQ hQn hq0 hxg hxd hx he hz
                      go_wp2
                      go_roundw
                      case rel => exact ⟨j + 1, _, _, by go_num, by omega, HS⟩
                      case measure => simp [intOf]; omega
                    · subst hr
                      have hn : Hid (¬ ((Dt.node k t l m).good ∧ (Dt.node k t l m).dep ≤ n + 1)) := by
                        rintro ⟨h1, h2⟩
                        rw [hdep2.out] at h2
                        obtain ⟨-, h3, h4⟩ := hgood.out.1 h1
                        have h5 := goodL_mem h3 j hjl
                        have h6 := depL_mem (l := l) j hjl
                        rw [hx] at h5 h6
                        exact hng ⟨h5, by omega⟩
                      have hq0 : Below wr.heap.size wr (w3.alloc (.cells #[.int .i64 0, .int .i64 0] 66)) := hw3.alloc hw3.size _
                      have hR4 := (hq0.block (B + 1) (by omega)).trans (hRw.trans hR.out)
                      obtain ⟨⟨t0, t1, t2, t3⟩, ⟨t4, t5⟩, -, ⟨t7, t8⟩, -⟩ := two_set hR4 (.int .i64 0) (.int .i64 0)
                      have hb3 : Hid (Below B w (((w3.alloc (.cells #[.int .i64 0, .int .i64 0] 66)).setCell ⟨B + 1, 0, none⟩ (.int .i64 0)).setCell ⟨B + 1, 1, none⟩ (.int .i64 0))) := (((HB2.out.trans (hbw.mono (by omega))).trans (hq0.mono (by omega))).setCell (Nat.le_succ _) _).setCell (Nat.le_succ _) _
                      clear hR4 hq0 hng hM hw3 hRw hbw hgw hGw he hz hx hsz2'
                      go_wp2
                      refine bodyPost_ret (v := .tuple #[.agg #[.int .i64 0, .int .i64 0], .bool false]) (by simp [results, Tryd.results34, go_sem, t7, t8]) rfl ?_
                      exact ⟨.inr ⟨hn.out, rfl⟩, by rw [hB]; exact hb3⟩
                  · obtain rfl : j = n1 := by omega
                    have HE : Hid (Ls G n w2 (l) D S wr) := by have := HL.out; rw [← hn1, List.take_length] at this; exact this
                    clear HL
                    go_wp2
                    go_roundw
                    case rel => exact ⟨1, l, D, S, rfl, by omega, .inr (.inl ⟨rfl, rfl⟩), HE⟩
                    case measure => simp [intOf]
              · rw [eP] at HL
                clear hP eP P
                rw [show (((1 : Nat)) : Int) = 1 from rfl]
                go_wp2_with fail
                go_loopw [40] (fun v wr => ∃ (j : Nat) (D S : Int), v = .int .i64 (j : Int) ∧ j ≤ n2 ∧ Hid (Ls G n w2 (l ++ m.take j) D S wr)) (fun v _ => n2 - (intOf v).toNat)
                case atStart => exact ⟨0, D, S, rfl, Nat.zero_le _, by simpa using HL⟩
                case round =>
                  clear HL
                  obtain ⟨j, D, S, rfl, hj, HL⟩ := hrel
                  by_cases hlt : j < n2
                  · have l1 : (j : Int) < (n2 : Int) := by omega
                    have l2 : (0 : Int) ≤ (j : Int) := by omega
                    have hjl : j < m.length := by rw [hn2]; exact hlt
                    obtain ⟨g, o, rfl, hX⟩ := rb (by omega)
                    obtain ⟨hbw, hgw, -, -, eD, eS⟩ := HL.out
                    have hw0 := HV.out wr hbw
                    have hXw : ∀ i, i < 4 → wr.cell? ⟨g, o + j * 4 + i, none⟩ = some (Y j i) := fun i hi => (hw0.cell (World.block_lt_of_cell? w _ (hX j hjl i hi))).trans (hX j hjl i hi)
                    obtain ⟨ax, nx, cx, bx, mx, dx, e0, e1, e2, e3⟩ := (hm j hjl).form
                    have hvx : vx Y j = .agg #[.int .i64 m[j].kd, .string m[j].tx, .slice ax nx cx, .slice bx mx dx] := by unfold vx; rw [e0, e1, e2, e3]
                    have hdj := hm j hjl
                    have hsz1 := Nat.lt_of_lt_of_le (siz_m k t l m j hjl) (Nat.le_of_lt_succ hN)
                    have hsz2' := Nat.le_trans (Nat.le_of_lt (siz_m k t l m j hjl)) hs
                    rw [hvx] at hdj
                    obtain ⟨x, hx⟩ : ∃ x, m[j] = x := ⟨_, rfl⟩
                    rw [hx] at hdj hsz1 hsz2' hvx e0 e1
                    have x0 : wr.cell? ⟨g, o + j * 4, none⟩ = some (Y j 0) := hXw 0 (by decide)
                    have x1 := hXw 1 (by decide)
                    have x2 := hXw 2 (by decide)
                    have x3 := hXw 3 (by decide)
                    rw [e0] at x0
                    rw [e1] at x1
                    rw [e2] at x2
                    rw [e3] at x3
                    clear e0 e1 e2 e3 hvx
                    obtain ⟨V, hV⟩ : ∃ V, wr.alloc (.cells #[.int .i64 x.kd, .string x.tx, .slice ax nx cx, .slice bx mx dx] 42) = V := ⟨_, rfl⟩
                    have hbV : Below wr.heap.size wr V := by rw [← hV]; exact (Below.refl _ _).alloc (Nat.le_refl _) _
                    have hGw := (Array.getElem?_eq_some_iff.1 hgw).1
                    have hVn : V.heap[wr.heap.size]? = some (.cells #[.int .i64 x.kd, .string x.tx, .slice ax nx cx, .slice bx mx dx] 42 (0, 0)) := by rw [← hV]; exact heap_alloc_at _ _ _ rfl
                    obtain ⟨gv, hgv⟩ : ∃ gv, wr.heap.size = gv := ⟨_, rfl⟩
                    have p0 : V.cell? ⟨gv, 0, none⟩ = some (.int .i64 x.kd) := by rw [← hgv, cells_at hVn 0]; rfl
                    have p1 : V.cell? ⟨gv, 1, none⟩ = some (.string x.tx) := by rw [← hgv, cells_at hVn 1]; rfl
                    have p2 : V.cell? ⟨gv, 2, none⟩ = some (.slice ax nx cx) := by rw [← hgv, cells_at hVn 2]; rfl
                    have p3 : V.cell? ⟨gv, 3, none⟩ = some (.slice bx mx dx) := by rw [← hgv, cells_at hVn 3]; rfl
                    have HI : Hid (Calls Tryd.prog 34 #[.agg #[.int .i64 x.kd, .string x.tx, .slice ax nx cx, .slice bx mx dx], .int .i64 (n : Int)] V fun r w' => Hid (Msr x n r) ∧ Hid (Below V.heap.size V w')) := IH.out x _ n V hsz1 (hdj.under (hw0.trans (hbV.mono hw0.size))) hsz2' (Nat.le_of_succ_le hn)
                    have HbV : Hid (Below wr.heap.size wr V) := hbV
                    clear hVn hXw hw0 hbV hdj hsz1
                    have hSb : 1 ≤ S ∧ S ≤ 1048577 := by
                      have h9 : 1 + (sizL l + sizL m) ≤ 1048576 := by rw [← hsiz.out]; exact hs
                      have h8 := sizL_take m j
                      rw [sizL_append] at eS
                      generalize sizL (m.take j) = s1 at eS h8
                      generalize sizL l = s2 at eS h8 h9
                      generalize sizL m = s3 at eS h8 h9
                      clear hs hN
                      omega
                    have hDb : 1 ≤ D ∧ D ≤ 65 := by
                      have h8 := HL.out.2.2.2.1
                      generalize depL (l ++ m.take j) = s1 at eD h8
                      clear hs hN hSb
                      omega
                    have hRw := hbw.block (B + 1) (by omega)
                    clear eD eS
                    go_wp2_with fail
                    refine HI.out.mono ?_
                    rintro r w3 ⟨hM, hb3⟩
                    have hw3 : Below wr.heap.size wr w3 := HbV.out.trans (hb3.out.mono HbV.out.size)
                    obtain ⟨g3, hG3⟩ : ∃ g3, w3.heap.size = g3 := ⟨_, rfl⟩
                    have hg3 : g3 ≠ G := by have := hw3.size; omega
                    obtain ⟨e, he⟩ : ∃ e : Int, (x.dep : Int) = e := ⟨_, rfl⟩
                    obtain ⟨z, hz⟩ : ∃ z : Int, (x.siz : Int) = z := ⟨_, rfl⟩
                    have hz0 : 0 ≤ z ∧ z ≤ 1048576 := by clear hs hN; omega
                    rcases hM.out with ⟨hxg, hxd, hr⟩ | ⟨hng, hr⟩
                    · rw [he, hz] at hr
                      subst hr
                      have he0 : 0 ≤ e ∧ e ≤ 64 := by clear hs hN; omega
                      obtain ⟨Q0, hQ0⟩ : ∃ Q0, w3.alloc (.cells #[.int .i64 e, .int .i64 z] 66) = Q0 := ⟨_, rfl⟩
                      have hQn : Q0.heap[g3]? = some (.cells #[.int .i64 e, .int .i64 z] 66 (0, 0)) := by rw [← hQ0]; exact heap_alloc_at _ _ _ hG3.symm
                      have hq0 : Below wr.heap.size wr Q0 := by rw [← hQ0]; exact hw3.alloc hw3.size _
                      have hgQ := (hq0.block G hGw).trans hgw
                      have u0 : Q0.cell? ⟨g3, 0, none⟩ = some (.int .i64 e) := by rw [cells_at hQn 0]; rfl
                      have HL' : Hid (Ls G n w2 (l ++ m.take j) D S wr) := HL
                      clear hw3 hgw hGw hM hRw hbw hsz2'
                      obtain ⟨⟨t0, t1, t2, t3⟩, ⟨t4, t5⟩, -, -, -⟩ := two_set hgQ (.int .i64 (max D (1 + e))) (.int .i64 (S + z))
                      have u1 : (Q0.setCell ⟨G, 0, none⟩ (.int .i64 (max D (1 + e)))).cell? ⟨g3, 1, none⟩ = some (.int .i64 z) := by rw [cells_at ((heap_set_other _ hg3 0 _).trans hQn) 1]; rfl
                      have HS : Hid (Ls G n w2 (l ++ m.take (j + 1)) (max D (1 + e)) (S + z) ((Q0.setCell ⟨G, 0, none⟩ (.int .i64 (max D (1 + e)))).setCell ⟨G, 1, none⟩ (.int .i64 (S + z)))) := by
                        have hh := HL.out.step hxg hxd hq0 (D' := max D (1 + e)) (S' := S + z) (by omega) (by omega)
                        rw [take_snoc _ _ hjl, hx, ← List.append_assoc]
                        exact hh
                      clear HL hgQ hQn hq0 hxg hxd hx he hz
                      go_wp2
                      go_roundw
                      case rel => exact ⟨j + 1, _, _, by go_num, by omega, HS⟩
                      case measure => simp [intOf]; omega
                    · subst hr
                      have hn : Hid (¬ ((Dt.node k t l m).good ∧ (Dt.node k t l m).dep ≤ n + 1)) := by
                        rintro ⟨h1, h2⟩
                        rw [hdep2.out] at h2
                        obtain ⟨-, h3, h4⟩ := hgood.out.1 h1
                        have h5 := goodL_mem h4 j hjl
                        have h6 := depL_mem (l := m) j hjl
                        rw [hx] at h5 h6
                        exact hng ⟨h5, by omega⟩
                      have hq0 : Below wr.heap.size wr (w3.alloc (.cells #[.int .i64 0, .int .i64 0] 66)) := hw3.alloc hw3.size _
                      have hR4 := (hq0.block (B + 1) (by omega)).trans (hRw.trans hR.out)
                      obtain ⟨⟨t0, t1, t2, t3⟩, ⟨t4, t5⟩, -, ⟨t7, t8⟩, -⟩ := two_set hR4 (.int .i64 0) (.int .i64 0)
                      have hb3 : Hid (Below B w (((w3.alloc (.cells #[.int .i64 0, .int .i64 0] 66)).setCell ⟨B + 1, 0, none⟩ (.int .i64 0)).setCell ⟨B + 1, 1, none⟩ (.int .i64 0))) := (((HB2.out.trans (hbw.mono (by omega))).trans (hq0.mono (by omega))).setCell (Nat.le_succ _) _).setCell (Nat.le_succ _) _
                      clear hR4 hq0 hng hM hw3 hRw hbw hgw hGw he hz hx hsz2'
                      go_wp2
                      refine bodyPost_ret (v := .tuple #[.agg #[.int .i64 0, .int .i64 0], .bool false]) (by simp [results, Tryd.results34, go_sem, t7, t8]) rfl ?_
                      exact ⟨.inr ⟨hn.out, rfl⟩, by rw [hB]; exact hb3⟩
                  · obtain rfl : j = n2 := by omega
                    have HE : Hid (Ls G n w2 (l ++ m) D S wr) := by have := HL.out; rw [← hn2, List.take_length] at this; exact this
                    clear HL
                    go_wp2
                    go_roundw
                    case rel => exact ⟨2, l ++ m, D, S, rfl, by omega, .inr (.inr ⟨rfl, rfl⟩), HE⟩
                    case measure => simp [intOf]
              · rw [eP] at HL
                clear hP eP P
                obtain ⟨hb4, hg4, hgd4, hdp4, eD, eS⟩ := HL.out
                have c0 : wr.cell? ⟨G, 0, none⟩ = some (.int .i64 D) := by rw [cells_at hg4 0]; rfl
                have c1 : wr.cell? ⟨G, 1, none⟩ = some (.int .i64 S) := by rw [cells_at hg4 1]; rfl
                have hR4 := (hb4.block (B + 1) (by omega)).trans hR.out
                obtain ⟨⟨x0, x1, x2, x3⟩, ⟨x4, x5⟩, _, ⟨x7, x8⟩, _⟩ := two_set hR4 (.int .i64 D) (.int .i64 S)
                have hb3 : Hid (Below B w ((wr.setCell ⟨B + 1, 0, none⟩ (.int .i64 D)).setCell ⟨B + 1, 1, none⟩ (.int .i64 S))) := ((HB2.out.trans (hb4.mono (by omega))).setCell (Nat.le_succ _) _).setCell (Nat.le_succ _) _
                have hM : Hid (Msr (.node k t l m) (n + 1) (.returned (.tuple #[.agg #[.int .i64 D, .int .i64 S], .bool true]))) := by
                  rw [depL_append] at eD hdp4
                  rw [sizL_append] at eS
                  obtain ⟨g1, g2⟩ := (goodL_append _ _).1 hgd4
                  refine .inl ⟨hgood.out.2 ⟨hfit.out, g1, g2⟩, ?_, ?_⟩
                  · rw [hdep2.out]; omega
                  · rw [hdep2.out, hsiz.out, eD, eS]
                clear eD eS hR4 hg4 hb4
                go_wp2
                refine bodyPost_ret (v := .tuple #[.agg #[.int .i64 D, .int .i64 S], .bool true]) (by simp [results, Tryd.results34, go_sem, x7, x8]) rfl ?_
                exact ⟨hM, by rw [hB]; exact hb3⟩
end Go.Proofs.YtpjgdpfpgpaenaaDoor

namespace Go.Proofs.YtpjgdpfpgpaenaaDoor
open Go.RowKit
set_option linter.unusedVariables false

/-- A datum that may be. -/
def Dt.may (d : Dt) : Prop := d.good ∧ d.dep ≤ 64
theorem hid {p : Prop} (h : p) : Hid p := h
theorem DAt.shape {w : World} {d : Dt} {v : Value} (h : DAt w d v) : ∃ a n c b n2 c2, v = .agg #[.int .i64 d.kd, .string d.tx, .slice a n c, .slice b n2 c2] := by
  cases h with
  | mk k t l m a b c c2 X Y hl hm ra rb sz => exact ⟨a, _, c, b, _, c2, rfl⟩
/-- Measured in a box of one's own. -/
theorem dt_boxed {d : Dt} {a b : Option Addr} {n c n2 c2 : Nat} {w : World} (h : DAt w d (.agg #[.int .i64 d.kd, .string d.tx, .slice a n c, .slice b n2 c2])) (hs : d.siz ≤ 1048576) :
    Calls Tryd.prog 34 #[.agg #[.int .i64 d.kd, .string d.tx, .slice a n c, .slice b n2 c2], .int .i64 64] (w.alloc (.cells #[.int .i64 d.kd, .string d.tx, .slice a n c, .slice b n2 c2] 42)) fun r w' => Hid (Msr d 64 r) ∧ Hid (Below w.heap.size w w') := by
  have hb : Below w.heap.size w (w.alloc (.cells #[.int .i64 d.kd, .string d.tx, .slice a n c, .slice b n2 c2] 42)) := (Below.refl _ w).alloc (Nat.le_refl _) _
  refine (dt_measure (d.siz + 1) d _ 64 _ (Nat.lt_succ_self _) (h.under hb) hs (Nat.le_refl _)).mono ?_
  rintro r w1 ⟨h1, h2⟩
  exact ⟨h1, hb.trans (h2.out.mono (by rw [World.size_alloc]; omega))⟩
theorem dt_can {d : Dt} {v : Value} {w : World} (h : DAt w d v) (hs : d.siz ≤ 1048576) : Calls Tryd.prog 21 #[v] w fun e w' => Ans e d.may ∧ Hid (Below w.heap.size w w') := by
  obtain ⟨a, n, c, b, n2, c2, rfl⟩ := h.shape
  have HM := hid (dt_boxed h hs)
  clear h hs
  go_enter Tryd.func21, Tryd.ntmps21
  go_wp2_with fail
  refine HM.out.mono ?_
  rintro r w1 ⟨hM, hb⟩
  have HB : Hid (∀ o, Below w.heap.size w (w1.alloc o)) := fun o => hb.out.alloc hb.out.size _
  rcases hM.out with ⟨hg, hd, rfl⟩ | ⟨hn, rfl⟩
  · have hq : Hid (d.may) := ⟨hg, hd⟩
    clear hg hd
    go_wp2
    go_ret
    exact ⟨Ans.yes hq.out, HB.out _⟩
  · have hq : Hid (¬ d.may) := hn
    clear hn
    go_wp2
    go_ret
    exact ⟨Ans.no hq.out, HB.out _⟩
end Go.Proofs.YtpjgdpfpgpaenaaDoor
