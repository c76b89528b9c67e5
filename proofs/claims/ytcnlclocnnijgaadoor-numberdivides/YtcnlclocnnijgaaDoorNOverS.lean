/-
  Contract of a size's quotient and rest by another. Conditions: the divisor is not nought; at most nine hundred limbs each.
-/
import Derived.Test.YtcnlclocnnijgaaDoorNOverL
import Derived.Test.YtcnlclocnnijgaaDoorNInsert
import Derived.Test.YtcnlclocnnijgaaDoorNTimes
import Derived.Test.YtcnlclocnnijgaaDoorNMinus
import Derived.Test.YtcnlclocnnijgaaDoorNGuess
import Derived.Test.YtcnlclocnnijgaaDoorNWhole2
import Derived.Sort.CutIn
import Derived.Stop.RegionWithIn
namespace Go.Proofs.YtcnlclocnnijgaaDoor
open Go.RowKit Go.Shelf
set_option linter.unusedVariables false

/-- The quotient's row and box, the rest's box, the iterator's box. -/
structure Ovb (N L : Nat) (sv rv : Value) (f : Nat → Nat) (W : World) : Prop where
  hq : ∃ cur, W.heap[N]? = some (.cells cur 69 (0, 0)) ∧ cur.toList = (lst (fun i => (f i : Int)) L).map (Value.int .u64)
  hqb : W.heap[N + 1]? = some (.cells #[.slice (some ⟨N, 0, none⟩) L L] 46 (0, 0))
  hrb : W.heap[N + 1 + 1]? = some (.cells #[rv] 46 (0, 0))
  hs : W.heap[N + 1 + 1 + 1]? = some (.cells #[sv] 46 (0, 0))
theorem Ovb.kept {N L : Nat} {sv rv : Value} {f : Nat → Nat} {W W' : World} (h : Ovb N L sv rv f W) (k : CellsKept W W') : Ovb N L sv rv f W' := by
  obtain ⟨cur, h1, h2⟩ := h.hq
  exact ⟨⟨cur, k _ _ h1 rfl, h2⟩, k _ _ h.hqb rfl, k _ _ h.hrb rfl, k _ _ h.hs rfl⟩
theorem Ovb.lt {N L : Nat} {sv rv : Value} {f : Nat → Nat} {W : World} (h : Ovb N L sv rv f W) : N + 1 + 1 + 1 + 1 ≤ W.heap.size := (Array.getElem?_eq_some_iff.1 h.hs).1
theorem Ovb.below {N L : Nat} {sv rv : Value} {f : Nat → Nat} {W W' : World} (h : Ovb N L sv rv f W) (b : Below (N + 1 + 1 + 1 + 1) W W') : Ovb N L sv rv f W' := by
  obtain ⟨cur, h1, h2⟩ := h.hq
  exact ⟨⟨cur, (b.block N (by omega)).trans h1, h2⟩, (b.block _ (by omega)).trans h.hqb, (b.block _ (by omega)).trans h.hrb, (b.block _ (by omega)).trans h.hs⟩
theorem Ovb.rest {N L : Nat} {sv rv : Value} {f : Nat → Nat} {W : World} (h : Ovb N L sv rv f W) (rv' : Value) : Ovb N L sv rv' f (W.setCell ⟨N + 1 + 1, 0, none⟩ rv') := by
  obtain ⟨cur, h1, h2⟩ := h.hq
  refine ⟨⟨cur, (heap_set_other _ (by omega) _ _).trans h1, h2⟩, (heap_set_other _ (by omega) _ _).trans h.hqb, ?_, (heap_set_other _ (by omega) _ _).trans h.hs⟩
  rw [heap_setCell_same W (N + 1 + 1) 0 #[rv] 46 rv' h.hrb]
  rfl
theorem Ovb.put {N L : Nat} {sv rv : Value} {f : Nat → Nat} {W : World} (h : Ovb N L sv rv f W) (hL : L ≤ 1000000) (j : Nat) (hj : j < L) (q : Nat) : Ovb N L sv rv (fun i => if i = j then q else f i) (W.setCell ⟨N, j, none⟩ (.int .u64 (q : Int))) := by
  have o1 := row_own (B := N) (Nat.le_refl _) hL h.hq
  have o2 := (o1.set j hj (q : Int)).ext (g := fun i => (((if i = j then q else f i) : Nat) : Int)) (fun i hi => by
    by_cases e : i = j
    · simp [e]
    · simp [e])
  exact ⟨own_row o2, (heap_set_other _ (by omega) _ _).trans h.hqb, (heap_set_other _ (by omega) _ _).trans h.hrb, (heap_set_other _ (by omega) _ _).trans h.hs⟩
theorem Ovb.cells {N L : Nat} {sv rv : Value} {f : Nat → Nat} {W : World} (h : Ovb N L sv rv f W) :
    W.cell? ⟨N + 1, 0, none⟩ = some (.slice (some ⟨N, 0, none⟩) L L) ∧ W.cell? ⟨N + 1 + 1, 0, none⟩ = some rv ∧ W.frozen? ⟨N + 1 + 1, 0, none⟩ = false ∧ (∀ j, W.frozen? ⟨N, j, none⟩ = false) ∧ ∀ j, j < L → W.cell? ⟨N, j, none⟩ = some (.int .u64 (f j : Int)) := by
  obtain ⟨cur, h1, h2⟩ := h.hq
  refine ⟨by rw [cells_at h.hqb 0]; rfl, by rw [cells_at h.hrb 0]; rfl, cells_free h.hrb 0, fun j => cells_free h1 j, fun j hj => ?_⟩
  rw [cells_at h1 j, ← Array.getElem?_toList, h2, List.getElem?_map, lst_get _ _ _ hj]
  rfl

theorem OwS.kept {W W' : World} {B : Nat} {v : Value} {n : Nat} (h : OwS W B v n) (k : CellsKept W W') : OwS W' B v n := by
  refine ⟨⟨h.1.1, ?_⟩, h.2⟩
  rcases h.1.2 with h1 | ⟨b, cap, cur, h1, h2, h3, h4⟩
  · exact .inl h1
  · exact .inr ⟨b, cap, cur, h1, h2, k _ _ h3 rfl, h4⟩
theorem OwS.set {W : World} {B g i : Nat} {v u : Value} {n : Nat} (h : OwS W B v n) (hg : g < B) : OwS (W.setCell ⟨g, i, none⟩ u) B v n :=
  ⟨row_set h.1 (fun e => by have := (World.ownsRow.lt h.1 g e).1; omega) i u, h.2⟩
/-- A limb's own row, as a size ahead of its trimming. -/
theorem one_row {W : World} {B b q : Nat} (h : W.heap[b]? = some (.cells #[.int .u64 (q : Int)] 69 (0, 0))) (hB : B ≤ b) (hq : q < 1000000000) : OwN .u64 69 W B (.slice (some ⟨b, 0, none⟩) 1 1) 1 (fun i => (lb q i : Int)) := by
  refine row_own hB (by decide) ⟨_, h, ?_⟩
  have e : lb q 0 = q := by rw [lb_zero]; omega
  simp [lst, e]
theorem ln_one {q : Nat} (h0 : q ≠ 0) (h : q < 1000000000) : ln q = 1 := by
  rw [ln_pos h0, show q / 1000000000 = 0 by omega, ln_zero]
/-- A step of a round: what is no cells stays, blocks below N stay, and the iterator's box. -/
theorem Stp.set {N : Nat} {W : World} {g i : Nat} {v : Value} (hg : N ≤ g) (h3 : g ≠ N + 1 + 1 + 1) : Stp N (N + 1 + 1 + 1) W (W.setCell ⟨g, i, none⟩ v) :=
  ⟨fun B => (KeepsOthers.setCell _ _ _).from B, (Below.refl _ W).setCell (p := ⟨g, i, none⟩) hg v, heap_set_other _ (by omega) _ _⟩
theorem Stp.of_keeps {N : Nat} {W W' : World} (h : KeepsOthers W W') (b : Below (N + 1 + 1 + 1 + 1) W W') : Stp N (N + 1 + 1 + 1) W W' :=
  ⟨fun B => h.from B, b.mono (by omega), b.block _ (by omega)⟩
end Go.Proofs.YtcnlclocnnijgaaDoor
namespace Go.Proofs.YtcnlclocnnijgaaDoor
open Go.RowKit Go.Shelf
set_option linter.unusedVariables false
attribute [local go_sem] Oper.semAt_some

theorem wpIn_calm {F : Fence} {rm : Nat} {P : Program} {c : Code} {K : Act → World → Prop} {Q' : Exit → Act → World → Prop} {a : Act} {w : World} (h : c.wpIn F rm P (Exit.then K fun _ _ _ => False) a w) : c.wpIn F rm P (Exit.then K Q') a w := by
  refine wpIn_mono h ?_
  intro e a' w' hq
  cases e with
  | normal => exact hq
  | exit id => exact hq.elim
  | goto l => exact hq.elim
  | ret => exact hq.elim
  | panic ch => exact hq.elim
  | outgrown => exact hq.elim

theorem sCompareO (vs vt : Value) (n m : Nat) (w : World) (hs : Sz w vs n) (ht : Sz w vt m) :
    Calls Tryd.prog 57 #[vs, vt] w fun e w' => e = .returned (.int .i64 (cmpI n m)) ∧ Below w.heap.size w w' := by
  by_cases h : ln n = ln m
  · exact sCompare_eq vs vt n m w hs ht h
  · exact sCompare_ne vs vt n m w hs ht h

set_option maxRecDepth 100000 in
set_option maxHeartbeats 4000000 in
theorem over (vs vt : Value) (X Y : Nat) (w : World) (hs : Sz w vs X) (ht : Sz w vt Y) (hY : Y ≠ 0) (hl : ln X ≤ 900) (hl2 : ln Y ≤ 900) :
    Calls Tryd.prog 42 #[vs, vt] w fun e w' => ∃ q r, e = .returned (.tuple #[q, r]) ∧ OwS w' w.heap.size q (X / Y) ∧ OwS w' w.heap.size r (X % Y) ∧ Below w.heap.size w w' := by
  obtain ⟨k, hk⟩ : ∃ k, ln Y = k + 1 := ⟨ln Y - 1, by have := ln_pos hY; omega⟩
  have htop : lb Y k ≠ 0 := by have := lb_top hY; rwa [hk] at this
  have htl := lb_lt Y k
  obtain ⟨bo, d, rfl, k1, k2, k3, hcs⟩ := ht.open
  obtain ⟨g, rfl, gk⟩ : ∃ g, bo = some ⟨g, 0, none⟩ ∧ w.cell? ⟨g, k, none⟩ = some (.int .u64 (lb Y k : Int)) := by
    rcases hcs with h0 | ⟨g, e, hg⟩
    · omega
    · exact ⟨g, e, hg k (by omega)⟩
  obtain ⟨T, hT⟩ : ∃ T, lb Y k = T := ⟨_, rfl⟩
  rw [hT] at htop htl gk
  obtain ⟨s1, s2⟩ := scale_fits (Nat.pos_of_ne_zero htop) htl
  obtain ⟨K, hK⟩ : ∃ K, 1000000000 / (T + 1) = K := ⟨_, rfl⟩
  rw [hK] at s1 s2
  have hKi : (1000000000 : Int) / ((T : Int) + 1) = (K : Int) := by
    rw [← hK]
    simp
  have hgw : g < w.heap.size := World.block_lt_of_cell? w _ gk
  have gk1 : (w.alloc (.cells #[.slice (some ⟨g, 0, none⟩) (ln Y) d] 46)).cell? ⟨g, k, none⟩ = some (.int .u64 (T : Int)) := by
    rw [World.cell?_alloc_past (w := w) _ g k hgw]; exact gk
  have t1 : ¬ ((T : Int) + 1 = 0) := by omega
  have hlnK := ln_one (Nat.pos_iff_ne_zero.1 s1) s2
  -- the two products
  obtain ⟨W1, hW1⟩ : ∃ W1, (w.alloc (.cells #[.slice (some ⟨g, 0, none⟩) (ln Y) d] 46)).alloc (.cells #[.int .u64 (K : Int)] 69) = W1 := ⟨_, rfl⟩
  have b1 : Below w.heap.size w W1 := by rw [← hW1]; exact ((Below.refl _ w).alloc (Nat.le_refl _) _).alloc (by simp) _
  have hS1 : W1.heap.size = w.heap.size + 1 + 1 := by rw [← hW1]; simp
  have hA1 : W1.heap[w.heap.size]? = some (.cells #[.slice (some ⟨g, 0, none⟩) (ln Y) d] 46 (0, 0)) := by
    rw [← hW1, Below.heap_alloc _ _ _ (by simp)]
    exact heap_alloc_at _ _ _ rfl
  have hK1 : W1.heap[w.heap.size + 1]? = some (.cells #[.int .u64 (K : Int)] 69 (0, 0)) := by
    rw [← hW1]
    exact heap_alloc_at _ _ _ (by simp)
  have hSc : ∀ Wq, Below W1.heap.size W1 Wq → Sz Wq (.slice (some ⟨w.heap.size + 1, 0, none⟩) 1 1) K := fun Wq hb => by
    have e := (hb.block (w.heap.size + 1) (by omega)).trans hK1
    have o := one_row (B := 0) e (Nat.zero_le _) s2
    refine ⟨?_, by omega⟩
    rw [hlnK]
    exact o.rd
  have HP : Hid (∀ (v : Value) (Z : Nat), Sz W1 v Z → ln Z ≤ 900 → ∀ Wq, Below W1.heap.size W1 Wq → Calls Tryd.prog 61 #[v, .slice (some ⟨w.heap.size + 1, 0, none⟩) 1 1] Wq fun e w' => ∃ ao c, e = .returned (.slice ao (ln (Z * K)) c) ∧ OwS w' W1.heap.size (.slice ao (ln (Z * K)) c) (Z * K) ∧ Below W1.heap.size W1 w' ∧ ∀ u m, OwS Wq W1.heap.size u m → OwS w' W1.heap.size u m) := fun v Z hz hlz Wq hb =>
    (sTimes v _ Z K Wq (hz.below hb (Nat.le_refl _)) (hSc Wq hb) (by omega) (by omega)).mono fun e w' ⟨v', he, ho, hb'⟩ => by
      obtain ⟨ao, c, rfl, _⟩ := ho.sz.open
      exact ⟨ao, c, he, ho.mono hb.size, hb.trans (hb'.mono hb.size), fun u m hu => hu.below hb' (Nat.le_refl _)⟩
  have zX : Sz W1 vs X := hs.below b1 (Nat.le_refl _)
  have zY : Sz W1 (.slice (some ⟨g, 0, none⟩) (ln Y) d) Y := ht.below b1 (Nat.le_refl _)
  have HC : Hid (∀ Wq, Below W1.heap.size W1 Wq → Wq.cell? ⟨w.heap.size, 0, none⟩ = some (.slice (some ⟨g, 0, none⟩) (ln Y) d) ∧ Wq.frozen? ⟨w.heap.size, 0, none⟩ = false) := fun Wq hb => by
    have e := (hb.block w.heap.size (by omega)).trans hA1
    exact ⟨by rw [cells_at e 0]; rfl, cells_free e 0⟩
  have hB0 : Below W1.heap.size W1 W1.drew := blw_drewN 1 (Below.refl _ W1)
  have HD : Hid (∀ Wq v v', OwS Wq W1.heap.size v (X * K) → OwS Wq W1.heap.size v' (Y * K) → Below W1.heap.size W1 Wq → ∃ u', OwS (Wq.setCell ⟨w.heap.size, 0, none⟩ v') W1.heap.size v (X * K) ∧ OwS (Wq.setCell ⟨w.heap.size, 0, none⟩ v') W1.heap.size u' (Y * K) ∧ (Wq.setCell ⟨w.heap.size, 0, none⟩ v').heap[w.heap.size]? = some (.cells #[u'] 46 (0, 0)) ∧ (Wq.setCell ⟨w.heap.size, 0, none⟩ v').heap[w.heap.size + 1]? = some (.cells #[.int .u64 (K : Int)] 69 (0, 0)) ∧ Below w.heap.size w (Wq.setCell ⟨w.heap.size, 0, none⟩ v')) := fun Wq v v' h1 h2 h3 => by
    have e := (h3.block w.heap.size (by omega)).trans hA1
    refine ⟨v', h1.set (by omega), h2.set (by omega), ?_, ?_, (b1.trans (h3.mono (by omega))).setCell (p := ⟨w.heap.size, 0, none⟩) (Nat.le_refl _) v'⟩
    · rw [heap_setCell_same Wq w.heap.size 0 _ 46 v' e]; rfl
    · exact (heap_set_other _ (by omega) _ _).trans ((h3.block _ (by omega)).trans hK1)
  have hw1 : (w.alloc (.cells #[.slice (some ⟨g, 0, none⟩) (ln Y) d] 46)).alloc (.cells #[.int .u64 ((1000000000 : Int) / ((T : Int) + 1))] 69) = W1 := by rw [hKi]; exact hW1
  clear hs ht hcs gk hA1 hK1 hSc
  rw [hk] at *
  refine (callsIn_wide (n := 8)).1 ?_
  have hro : Fence.wide.round = none := rfl
  have h1' : 1 ≤ 8 := by decide
  refine callsIn_of_wp_marks Tryd.func42 rfl trivial ?_ hro
  simp only [Tryd.ntmps42, List.size_toArray, List.length_cons, List.length_nil, Nat.reduceAdd, Nat.reduceSub, Array.replicate_succ, Array.replicate_zero, List.push_toArray, List.append_toArray, List.nil_append, List.cons_append]
  gi_upto_region 2 with fail
  gi_cut [0] from 13 (fun s0 wc => ∃ u', OwS wc W1.heap.size s0 (X * K) ∧ OwS wc W1.heap.size u' (Y * K) ∧ wc.heap[w.heap.size]? = some (.cells #[u'] 46 (0, 0)) ∧ wc.heap[w.heap.size + 1]? = some (.cells #[.int .u64 (K : Int)] 69 (0, 0)) ∧ Below w.heap.size w wc)
  case first =>
    obtain ⟨c0, f0⟩ := HC.out _ hB0
    clear hw1 hW1
    refine wpIn_calm ?_
    gi_region_with (refine ⟨trivial, ?_⟩; gi_at_call 61; refine (callsIn_wide.2 (HP.out _ _ (by assumption) (by assumption) _ (by first | exact hB0 | assumption))).mono ?_; rintro e w2 ⟨ao, c, rfl, o1, b2, kp⟩; obtain ⟨c1, f1⟩ := HC.out _ b2)
    all_goals
      gi_wp2_with fail
      gi_meet
      exact HD.out _ _ _ (kp _ _ (by assumption)) o1 b2
  case rest =>
    obtain ⟨wz, hwz⟩ : ∃ wz, wz = wc := ⟨_, rfl⟩
    subst hwz
    obtain ⟨tv, oS, oT, hA2, hK2, bW⟩ := hcut
    have hD0 : Y * K ≠ 0 := Nat.mul_ne_zero hY (by omega)
    have hlS : ln (X * K) ≤ 901 := Nat.le_trans (ln_mul X K) (by omega)
    have hlD : ln (Y * K) ≤ 901 := Nat.le_trans (ln_mul Y K) (by omega)
    obtain ⟨e1, e2, e3⟩ := scaled X Y K s1
    obtain ⟨ao, c, rfl, h1, h2, h3, _⟩ := oS.sz.open
    obtain ⟨at', ct, rfl, _⟩ := oT.sz.open
    have l1 := oS.sz.lims
    have zD := oT.sz
    obtain ⟨S, hS⟩ : ∃ S, X * K = S := ⟨_, rfl⟩
    obtain ⟨D, hD⟩ : ∃ D, Y * K = D := ⟨_, rfl⟩
    rw [hS] at e1 e2 hlS oS h1 h3 l1 ⊢
    rw [hD] at e1 e2 hlD oT hD0 hA2 zD
    have hn := lt_pow_ln S
    obtain ⟨L, hL⟩ : ∃ L, ln S = L := ⟨_, rfl⟩
    rw [hL] at l1 h1 h3 hn hlS oS ⊢
    have hmk := make_size L (by omega)
    obtain ⟨MB, hMB⟩ : ∃ MB, madeCells #[.int .u64 0] L = MB := ⟨_, rfl⟩
    rw [hMB] at hmk
    have HMB : Hid (MB.toList = (lst (fun _ => 0) L).map (Value.int .u64)) := by rw [← hMB]; exact made_u .u64 L
    obtain ⟨lD, hlDe⟩ : ∃ lD, ln D = lD := ⟨_, rfl⟩
    rw [hlDe] at hA2 zD oT
    have hAw : w.heap.size < wz.heap.size := (Array.getElem?_eq_some_iff.1 hA2).1
    have hAw1 : w.heap.size + 1 < wz.heap.size := (Array.getElem?_eq_some_iff.1 hK2).1
    clear hw1 hW1 hL hMB HP HC HD zX zY hB0 gk1 hT hK hKi b1 hS
    gi_wp2_with (refine ⟨trivial, ?_⟩; gi_at_call 62; refine (back_in Fence.wide (8 - 1) trivial hro _ _ _ _).mono ?_; rintro e w' ⟨rfl, rfl⟩)
    have bN := Boxed.new (((wz.alloc (.cells MB 69)).alloc (.cells #[.slice (some ⟨wz.heap.size, 0, none⟩) L L] 46)).alloc (.cells #[.slice none 0 0] 46)) 46 (.slice ao L c)
    simp only [World.size_alloc] at bN
    have hB0 : Below wz.heap.size wz ((((wz.alloc (.cells MB 69)).alloc (.cells #[.slice (some ⟨wz.heap.size, 0, none⟩) L L] 46)).alloc (.cells #[.slice none 0 0] 46)).alloc (.cells #[.slice ao L c] 46)) := ((((Below.refl _ wz).alloc (Nat.le_refl _) _).alloc (by simp) _).alloc (by simp; omega) _).alloc (by simp; omega) _
    have hT0 : Ovb wz.heap.size L (.slice ao L c) (.slice none 0 0) (ovS S D L []).2 ((((wz.alloc (.cells MB 69)).alloc (.cells #[.slice (some ⟨wz.heap.size, 0, none⟩) L L] 46)).alloc (.cells #[.slice none 0 0] 46)).alloc (.cells #[.slice ao L c] 46)) := by
      refine ⟨⟨MB, ?_, HMB.out⟩, ?_, ?_, ?_⟩
      · rw [Below.heap_alloc _ _ _ (by first | (simp; done) | (simp; omega)), Below.heap_alloc _ _ _ (by first | (simp; done) | (simp; omega)), Below.heap_alloc _ _ _ (by simp)]
        exact heap_alloc_at _ _ _ rfl
      · rw [Below.heap_alloc _ _ _ (by first | (simp; done) | (simp; omega)), Below.heap_alloc _ _ _ (by simp)]
        exact heap_alloc_at _ _ _ (by simp)
      · rw [Below.heap_alloc _ _ _ (by simp)]
        exact heap_alloc_at _ _ _ (by simp)
      · exact heap_alloc_at _ _ _ (by simp)
    have hR0 : OwS ((((wz.alloc (.cells MB 69)).alloc (.cells #[.slice (some ⟨wz.heap.size, 0, none⟩) L L] 46)).alloc (.cells #[.slice none 0 0] 46)).alloc (.cells #[.slice ao L c] 46)) (wz.heap.size + 1 + 1 + 1 + 1) (.slice none 0 0) (ovS S D L []).1 := by
      refine ⟨?_, ?_⟩
      · show OwN _ _ _ _ _ (ln 0) _
        rw [ln_zero]; exact OwN.nil _ _ _ _ _
      · show ln 0 ≤ _
        rw [ln_zero]; exact Nat.zero_le _
    refine wpIn_rangeFunc_ownG hro h1' (gf := 79) (lb := #[.pointer (some ⟨wz.heap.size + 1 + 1 + 1, 0, none⟩)]) rfl trivial (enters_of Tryd.func79 (by kernel_rfl) rfl)
      (back_stops Fence.wide (8 - 1) trivial hro (by decide) (wz.heap.size + 1 + 1 + 1) wz.heap.size L c ao _ h3 h1 _ (by simp) (by simp; omega) bN.cell (l1.below hB0)) Kb.trans (Kb.put (by simp; omega) (by simp)) (Below.refl _ _) (fun _ => rfl)
      (fun pre W => (∃ rv, Ovb wz.heap.size L (.slice ao L c) rv (ovS S D L pre).2 W ∧ OwS W (wz.heap.size + 1 + 1 + 1 + 1) rv (ovS S D L pre).1) ∧ Below wz.heap.size wz W)
      (fun _ _ _ => False)
      (OwnFrom.and (fun s A B row hs hg hr => by
        have kc : CellsKept A B := fun k o hk ho => by
          refine (hg.block k (Array.getElem?_eq_some_iff.1 hk).1 (fun e => ?_)).trans hk
          obtain ⟨_, o', ho', hc⟩ := hr k e.symm
          rw [hk] at ho'
          cases ho'
          rw [ho] at hc
          cases hc
        obtain ⟨rv, q1, q2⟩ := hs
        exact ⟨rv, q1.kept kc, q2.kept kc⟩) (ownFrom_below (Nat.le_refl _) (by simp; omega)))
      (fun _ _ _ _ _ hs _ _ => hs)
      ⟨⟨_, hT0, hR0⟩, hB0⟩
      (fun x => { tmps := #[.slice ao L c, .slice (some ⟨g, 0, none⟩) (k + 1) d, undef, .pointer (some ⟨w.heap.size, 0, none⟩), .slice none 0 0, .slice none 0 0, .slice (some ⟨w.heap.size + 1, 0, none⟩) 1 1, .pointer (some ⟨wz.heap.size + 1, 0, none⟩), .pointer (some ⟨wz.heap.size + 1 + 1, 0, none⟩), .int .i64 (x.1 : Int), .int .u64 (lb S x.1 : Int), undef, undef, u13, u14, u15, u16, u17, u18, u19, u20, u21, u22, u23, u24, u25, u26, u27, .slice ao L c, .int .i64 (L : Int), .slice (some ⟨wz.heap.size, 0, none⟩) L L, .slice ao L c, .func (.func 79) #[] #[.pointer (some ⟨wz.heap.size + 1 + 1 + 1, 0, none⟩)], .int .i64 (x.1 : Int), .int .u64 (lb S x.1 : Int), u35, u36, u37, u38, u39, u40, u41, u42, u43, u44, u45, u46, u47, u48, u49, u50, u51, u52, u53, u54, u55, u56, u57, u58, u59, u60, u61, u62, u63, u64, u65, u66, u67, u68, u69, u70], defers := [] }) ?assign ?body ?done ?stop
    case assign =>
      intro l x W K hK
      gi_wp2
      exact hK
    case body =>
      rintro l pre x W ⟨⟨rv, hT, hR⟩, hB⟩ hlen
      obtain ⟨j, hj⟩ := x
      have hDp : 0 < D := Nat.pos_of_ne_zero hD0
      have hρ : (ovS S D L pre).1 < D := ovS_lt S D L hDp pre _ hDp
      have hlb := lb_lt S j
      have hsn := ovS_snoc S D L pre ⟨j, hj⟩
      have hT0' := hT0
      clear hT0 hR0 hT0'
      generalize ovS S D L pre = s at *
      obtain ⟨ρ, f⟩ := s
      dsimp only at hT hR hρ
      generalize hy : lb S j = y at *
      have hRlt : 1000000000 * ρ + y < 1000000000 * D := by omega
      have hlρ : ln ρ ≤ 901 := Nat.le_trans (ln_mono (Nat.le_of_lt hρ)) hlD
      have hRp : 1000000000 * ρ + y < 1000000000 ^ (ln ρ + 1) := cons_lt hlb (lt_pow_ln ρ)
      have hlc : ∀ i, lb (1000000000 * ρ + y) i = if i = 0 then y else lb ρ (i - 1) := fun i => lb_cons ρ y i hlb
      obtain ⟨R, hRe⟩ : ∃ R, 1000000000 * ρ + y = R := ⟨_, rfl⟩
      have hst : ovStep S D (ρ, f) j = (R % D, fun i => if i = j then R / D else f i) := by unfold ovStep; rw [hy]; show ((1000000000 * ρ + y) % D, _) = _; rw [hRe]
      rw [hst] at hsn
      rw [hRe] at hRlt hRp hlc
      have hlR : ln R ≤ 902 := Nat.le_trans (ln_le hRp) (by omega)
      have hNW := hT.lt
      obtain ⟨ra, rc, rfl, _⟩ := hR.sz.open
      obtain ⟨cQ, cR, fR, fQ, _⟩ := hT.cells
      have hAW : ∀ Wq, Below wz.heap.size wz Wq → Wq.cell? ⟨w.heap.size, 0, none⟩ = some (.slice at' lD ct) := fun Wq hb => by
        have e := (hb.block w.heap.size (by omega)).trans hA2
        rw [cells_at e 0]; rfl
      have HAW : Hid (∀ Wq, Below wz.heap.size wz Wq → Wq.cell? ⟨w.heap.size, 0, none⟩ = some (.slice at' lD ct)) := hAW
      have HZD : Hid (∀ Wq, Below wz.heap.size wz Wq → Sz Wq (.slice at' lD ct) D) := fun Wq hb => zD.below hb (Nat.le_refl _)
      have bA : Below W.heap.size W (W.alloc (.cells #[.int .u64 (y : Int)] 69)) := (Below.refl _ W).alloc (Nat.le_refl _) _
      have SA : Stp wz.heap.size (wz.heap.size + 1 + 1 + 1) W (W.alloc (.cells #[.int .u64 (y : Int)] 69)) := Stp.of_below bA (by omega) (by omega)
      have hTa : Ovb wz.heap.size L (.slice ao L c) (.slice ra (ln ρ) rc) f (W.alloc (.cells #[.int .u64 (y : Int)] 69)) := hT.kept (cellsKept_below bA)
      have hRa := hR.below bA (Nat.le_refl _)
      have C1 := insert0 (.slice ra (ln ρ) rc) (ln ρ) (fun i => (lb ρ i : Int)) y W.heap.size (wz.heap.size + 1 + 1 + 1 + 1) (W.alloc (.cells #[.int .u64 (y : Int)] 69)) hRa.1 (heap_alloc_at _ _ _ rfl) (fun e => by have := (World.ownsRow.lt hR.1 _ e).2; omega) (by omega) (by simp; omega)
      have HV : Hid (∀ v' W2, OwN .u64 69 W2 (wz.heap.size + 1 + 1 + 1 + 1) v' (ln ρ + 1) (fun i => if i = 0 then (y : Int) else (lb ρ (i - 1) : Int)) → Calls Tryd.prog 64 #[v'] W2 fun e w' => ∃ pa pc, e = .returned (.slice pa (ln R) pc) ∧ OwS W2 (wz.heap.size + 1 + 1 + 1 + 1) (.slice pa (ln R) pc) R ∧ w' = W2) := fun v' W2 h =>
        (trimmed v' (ln ρ + 1) R _ W2 (h.ext (fun i hi => by rw [hlc]; split <;> rfl)) hRp (by omega)).mono fun e w' ⟨v2, he, ho, hw⟩ => by
          obtain ⟨pa, pc, rfl, _⟩ := ho.sz.open
          exact ⟨pa, pc, he, ho, hw⟩
      clear hlen hT hR hRa hlc hRp hy hAW hst hRe
      gi_wp2_with fail
      refine ⟨trivial, (CallsIn.inRound l (callsIn_wide.2 C1)).mono ?_⟩
      rintro e W2 ⟨v1, rfl, o2, b2, kp2⟩
      have C2 := HV.out v1 W2 o2
      have hT2 := hTa.below b2
      have S2 := SA.trans (Stp.of_keeps kp2 b2)
      clear C1 o2 hTa b2 kp2 SA cR fR
      gi_wp2_with fail
      refine ⟨trivial, (CallsIn.inRound l (callsIn_wide.2 C2)).mono ?_⟩
      rintro e W2' ⟨pa, pc, rfl, o3, hw⟩
      obtain rfl : W2 = W2' := hw.symm
      clear hw C2 HV
      obtain ⟨_, cR, fR, _, _⟩ := hT2.cells
      obtain ⟨W3, hW3⟩ : ∃ W3, W2.setCell ⟨wz.heap.size + 1 + 1, 0, none⟩ (.slice pa (ln R) pc) = W3 := ⟨_, rfl⟩
      have hT3 : Ovb wz.heap.size L (.slice ao L c) (.slice pa (ln R) pc) f W3 := by rw [← hW3]; exact hT2.rest _
      have o4 : OwS W3 (wz.heap.size + 1 + 1 + 1 + 1) (.slice pa (ln R) pc) R := by rw [← hW3]; exact o3.set (by omega)
      have S3 : Stp wz.heap.size (wz.heap.size + 1 + 1 + 1) W W3 := S2.trans (by rw [← hW3]; exact Stp.set (by omega) (by omega))
      have B3 : Below wz.heap.size wz W3 := hB.trans S3.bel
      obtain ⟨cQ3, cR3, fR3, fQ3, _⟩ := hT3.cells
      have cA3 := HAW.out W3 B3
      have C3 := guess (.slice pa (ln R) pc) (.slice at' lD ct) R D W3 o4.sz (HZD.out W3 B3) hD0 (by omega)
      have hq1 := gs_ge hD0 hRlt
      have hq2 := gs_lt R D
      generalize hq : gs R D = q at *
      clear hq hT2 S2 o3 cQ fQ
      have hM : wz.heap.size + 1 + 1 + 1 + 1 ≤ W3.heap.size := hT3.lt
      -- the first part
      have hr10 : (W3.drew.alloc (.cells #[.int .u64 (q : Int)] 69)).heap[W3.heap.size]? = some (.cells #[.int .u64 (q : Int)] 69 (0, 0)) := heap_alloc_at _ _ _ rfl
      have bq : Below W3.heap.size W3 (W3.drew.alloc (.cells #[.int .u64 (q : Int)] 69)) := (blw_drewN 1 (Below.refl _ W3)).alloc (Nat.le_refl _) _
      have C4 : Calls Tryd.prog 64 #[.slice (some ⟨W3.heap.size, 0, none⟩) 1 1] (W3.drew.alloc (.cells #[.int .u64 (q : Int)] 69)) fun e w' => ∃ v', e = .returned v' ∧ OwS (W3.drew.alloc (.cells #[.int .u64 (q : Int)] 69)) W3.heap.size v' q ∧ w' = (W3.drew.alloc (.cells #[.int .u64 (q : Int)] 69)) :=
        trimmed _ 1 q W3.heap.size _ (one_row hr10 (Nat.le_refl _) hq2) (by simpa using hq2) (by decide)
      have HTm : Hid (∀ v', OwS (W3.drew.alloc (.cells #[.int .u64 (q : Int)] 69)) W3.heap.size v' q → Calls Tryd.prog 61 #[.slice at' lD ct, v'] (W3.drew.alloc (.cells #[.int .u64 (q : Int)] 69)) fun e w' => ∃ v, e = .returned v ∧ OwS w' W3.heap.size v (q * D) ∧ Below W3.heap.size W3 w') := fun v' h => by
        have hlq : ln q ≤ 1 := ln_le (by simpa using hq2)
        refine (sTimes _ v' D q _ (HZD.out _ (B3.trans (bq.mono (by omega)))) h.sz (by omega) (by omega)).mono fun e w' ⟨v, he, ho, hb⟩ => ?_
        rw [Nat.mul_comm] at ho
        exact ⟨v, he, ho.mono bq.size, bq.trans (hb.mono bq.size)⟩
      gi_wp2_with fail
      refine ⟨trivial, (CallsIn.inRound l (callsIn_wide.2 C3)).mono ?_⟩
      rintro e W3' ⟨rfl, hw⟩
      obtain rfl : W3 = W3' := hw.symm
      clear hw C3 hW3 cR fR
      gi_upto_region 10 with fail
      gi_cut [12] from 43 (fun s12 wx => OwS wx W3.heap.size s12 (q * D) ∧ Below W3.heap.size W3 wx)
      case first =>
        have cA4 : W3.drew.cell? ⟨w.heap.size, 0, none⟩ = some (.slice at' lD ct) := HAW.out _ (blw_drewN 1 B3)
        have cA5 := HAW.out _ (B3.trans (bq.mono (by omega)))
        have al : ∀ k o, ((W3.drewN k).alloc o).cell? ⟨w.heap.size, 0, none⟩ = some (.slice at' lD ct) := fun k o => HAW.out _ ((blw_drewN k B3).alloc (by show wz.heap.size ≤ W3.heap.size; omega) _)
        have al1 : ∀ o, ((W3.alloc o).drew).cell? ⟨w.heap.size, 0, none⟩ = some (.slice at' lD ct) := fun o => HAW.out _ (blw_drewN 1 (B3.alloc (by omega) _))
        refine wpIn_calm ?_
        gi_region_with (first
          | (refine ⟨trivial, ?_⟩; gi_at_call 64; refine (CallsIn.inRound l (callsIn_wide.2 C4)).mono ?_; rintro e w4 ⟨v4, rfl, o5, rfl⟩)
          | (refine ⟨trivial, ?_⟩; gi_at_call 61; refine (CallsIn.inRound l (callsIn_wide.2 (HTm.out _ (by assumption)))).mono ?_; rintro e w5 ⟨v5, rfl, o6, b6⟩))
        all_goals
          gi_wp2_with fail
          gi_meet
          exact ⟨o6, b6⟩
      case rest =>
        obtain ⟨oP, bP⟩ := hcut
        obtain ⟨pb, pd, rfl, _⟩ := oP.sz.open
        clear C4 HTm hr10 bq
        obtain ⟨M, hMe⟩ : ∃ M, W3.heap.size = M := ⟨_, rfl⟩
        rw [hMe] at hM oP bP
        have HW : Hid (∀ Wq, Below M W3 Wq → Ovb wz.heap.size L (.slice ao L c) (.slice pa (ln R) pc) f Wq ∧ OwS Wq (wz.heap.size + 1 + 1 + 1 + 1) (.slice pa (ln R) pc) R ∧ Below wz.heap.size wz Wq ∧ Stp wz.heap.size (wz.heap.size + 1 + 1 + 1) W Wq ∧ M ≤ Wq.heap.size) := fun Wq hb => by
          have hb' : Below W3.heap.size W3 Wq := by rw [hMe]; exact hb
          refine ⟨hT3.below (hb.mono hM), o4.below hb' (Nat.le_refl _), B3.trans (hb.mono (by omega)), S3.trans (Stp.of_below hb' (by omega) (by omega)), ?_⟩
          have := hb.size
          omega
        have hj0 : (0 : Int) ≤ (j : Int) := by omega
        have hj1 : (j : Int) < (L : Int) := by omega
        have hlm : ∀ m, m < 1000000000 → ln (m * D) ≤ 902 := fun m hm => by
          have h1 : ln m ≤ 1 := ln_le (by simpa using hm)
          exact Nat.le_trans (ln_mul m D) (by omega)
        clear hT3 o4 cQ3 cR3 fR3 fQ3 cA3 hMe
        gi_wp2_with fail
        gi_loopw [11, 12] (fun vq vp wr => ∃ (m : Nat) (xa : Option Addr) (xc : Nat), vq = .int .u64 (m : Int) ∧ vp = .slice xa (ln (m * D)) xc ∧ m < 1000000000 ∧ R / D ≤ m ∧ OwS wr M (.slice xa (ln (m * D)) xc) (m * D) ∧ Below M W3 wr) (fun vq _ _ => (intOf vq).toNat)
        case atStart => exact ⟨q, pb, pd, rfl, rfl, hq2, hq1, oP, bP⟩
        case round =>
          obtain ⟨m, xa, xc, rfl, rfl, hm9, hmq, oX, bX⟩ := hrel
          obtain ⟨hTx, oR, Bx, Sx, hMx⟩ := HW.out wr bX
          obtain ⟨cQx, cRx, fRx, fQx, cJ⟩ := hTx.cells
          have cAx := HAW.out wr Bx
          obtain ⟨pd1, pd2⟩ := part_down hDp hmq
          have CC := sCompareO (.slice xa (ln (m * D)) xc) (.slice pa (ln R) pc) (m * D) R wr oX.sz oR.sz
          by_cases hlt : R < m * D
          · obtain ⟨m0, m1, m2, m3⟩ := pd1 hlt
            rw [cmpI_gt (by omega)] at CC
            have HM : Hid (∀ W6, Below wr.heap.size wr W6 → Calls Tryd.prog 58 #[.slice xa (ln (m * D)) xc, .slice at' lD ct] W6 fun e w' => ∃ xa' xc', e = .returned (.slice xa' (ln ((m - 1) * D)) xc') ∧ OwS w' M (.slice xa' (ln ((m - 1) * D)) xc') ((m - 1) * D) ∧ Below M W3 w') := fun W6 h6 => by
              have b6' : Below M W3 W6 := bX.trans (h6.mono hMx)
              obtain ⟨_, _, B6, _, hM6⟩ := HW.out W6 b6'
              refine (sMinus _ _ (m * D) D W6 (oX.sz.below h6 (Nat.le_refl _)) (HZD.out W6 B6) (by have := hlm m hm9; omega) (by omega) m3).mono fun e w' ⟨v, he, ho, hb⟩ => ?_
              rw [m2] at ho
              obtain ⟨xa', xc', rfl, _⟩ := ho.sz.open
              exact ⟨xa', xc', he, ho.mono hM6, b6'.trans (hb.mono hM6)⟩
            have HB6 : Hid (∀ W6, Below wr.heap.size wr W6 → W6.cell? ⟨w.heap.size, 0, none⟩ = some (.slice at' lD ct)) := fun W6 h6 => HAW.out W6 (Bx.trans (h6.mono (by omega)))
            have i1 : (1 : Int) ≤ (m : Int) := by omega
            have i2 : (m : Int) < 1000000000 := by omega
            clear m2 m3 hlt pd1 pd2 cJ fQx hTx oR
            gi_wp2_with fail
            refine ⟨trivial, (CallsIn.inRound l (callsIn_wide.2 CC)).mono ?_⟩
            rintro e W6 ⟨rfl, b6⟩
            have CM := HM.out W6 b6
            have cA6 := HB6.out W6 b6
            clear CC HM HB6
            gi_wp2_with fail
            refine ⟨trivial, (CallsIn.inRound l (callsIn_wide.2 CM)).mono ?_⟩
            rintro e W7 ⟨xa', xc', rfl, o7, b7⟩
            clear CM
            gi_wp2_with fail
            go_roundw
            case rel => exact ⟨m - 1, xa', xc', congrArg (Value.int .u64) (by omega), rfl, by omega, m1, o7, b7⟩
            case measure => simp [intOf]; omega
          · obtain ⟨m1, m2⟩ := pd2 hlt
            have hz : ¬ (0 < cmpI ((m * D : Nat) : Int) (R : Int)) := by unfold cmpI; split <;> (try split) <;> omega
            generalize cmpI ((m * D : Nat) : Int) (R : Int) = z at *
            have HM : Hid (∀ W6, Below wr.heap.size wr W6 → Calls Tryd.prog 58 #[.slice pa (ln R) pc, .slice xa (ln (m * D)) xc] W6 fun e w' => ∃ xa' xc', e = .returned (.slice xa' (ln (R % D)) xc') ∧ OwS w' M (.slice xa' (ln (R % D)) xc') (R % D) ∧ Below M W3 w') := fun W6 h6 => by
              have b6' : Below M W3 W6 := bX.trans (h6.mono hMx)
              obtain ⟨_, _, B6, _, hM6⟩ := HW.out W6 b6'
              refine (sMinus _ _ R (m * D) W6 (oR.sz.below h6 (Nat.le_refl _)) (oX.sz.below h6 (Nat.le_refl _)) (by omega) (by have := hlm m hm9; omega) (by omega)).mono fun e w' ⟨v, he, ho, hb⟩ => ?_
              rw [← m2] at ho
              obtain ⟨xa', xc', rfl, _⟩ := ho.sz.open
              exact ⟨xa', xc', he, ho.mono hM6, b6'.trans (hb.mono hM6)⟩
            have HB6 : Hid (∀ W6, Below wr.heap.size wr W6 → W6.cell? ⟨wz.heap.size + 1 + 1, 0, none⟩ = some (.slice pa (ln R) pc)) := fun W6 h6 => (hTx.below (h6.mono (by omega))).cells.2.1
            have HC7 : Hid (∀ W7, Below M W3 W7 → W7.cell? ⟨wz.heap.size + 1 + 1, 0, none⟩ = some (.slice pa (ln R) pc) ∧ W7.frozen? ⟨wz.heap.size + 1 + 1, 0, none⟩ = false ∧ (∀ v, (W7.setCell ⟨wz.heap.size + 1 + 1, 0, none⟩ v).cell? ⟨wz.heap.size + 1, 0, none⟩ = some (.slice (some ⟨wz.heap.size, 0, none⟩) L L)) ∧ (∀ v, (W7.setCell ⟨wz.heap.size + 1 + 1, 0, none⟩ v).cell? ⟨wz.heap.size, j, none⟩ = some (.int .u64 (f j : Int))) ∧ (∀ v, (W7.setCell ⟨wz.heap.size + 1 + 1, 0, none⟩ v).frozen? ⟨wz.heap.size, j, none⟩ = false)) := fun W7 h7 => by
              obtain ⟨hT7, _⟩ := HW.out W7 h7
              obtain ⟨_, a2, a3, _, _⟩ := hT7.cells
              refine ⟨a2, a3, fun v => ?_, fun v => ?_, fun v => ?_⟩
              · exact (hT7.rest v).cells.1
              · exact (hT7.rest v).cells.2.2.2.2 j hj
              · exact (hT7.rest v).cells.2.2.2.1 j
            have HE : Hid (∀ W7 v, Below M W3 W7 → OwS W7 M v (R % D) → (∀ Bk, KeepsFrom Bk W ((W7.setCell ⟨wz.heap.size + 1 + 1, 0, none⟩ v).setCell ⟨wz.heap.size, j, none⟩ (.int .u64 (m : Int)))) ∧ Kb (wz.heap.size + 1 + 1 + 1) wz.heap.size W ((W7.setCell ⟨wz.heap.size + 1 + 1, 0, none⟩ v).setCell ⟨wz.heap.size, j, none⟩ (.int .u64 (m : Int))) ∧ (∃ rv, Ovb wz.heap.size L (.slice ao L c) rv (ovS S D L (pre ++ [⟨j, hj⟩])).2 ((W7.setCell ⟨wz.heap.size + 1 + 1, 0, none⟩ v).setCell ⟨wz.heap.size, j, none⟩ (.int .u64 (m : Int))) ∧ OwS ((W7.setCell ⟨wz.heap.size + 1 + 1, 0, none⟩ v).setCell ⟨wz.heap.size, j, none⟩ (.int .u64 (m : Int))) (wz.heap.size + 1 + 1 + 1 + 1) rv (ovS S D L (pre ++ [⟨j, hj⟩])).1) ∧ Below wz.heap.size wz ((W7.setCell ⟨wz.heap.size + 1 + 1, 0, none⟩ v).setCell ⟨wz.heap.size, j, none⟩ (.int .u64 (m : Int)))) := fun W7 v h7 ov => by
              obtain ⟨hT7, _, B7, S7, _⟩ := HW.out W7 h7
              have S8 : Stp wz.heap.size (wz.heap.size + 1 + 1 + 1) W ((W7.setCell ⟨wz.heap.size + 1 + 1, 0, none⟩ v).setCell ⟨wz.heap.size, j, none⟩ (.int .u64 (m : Int))) := (S7.trans (Stp.set (by omega) (by omega))).trans (Stp.set (by omega) (by omega))
              refine ⟨S8.keeps, ⟨S8.box, S8.bel⟩, ⟨v, ?_, ?_⟩, hB.trans S8.bel⟩
              · rw [hsn]
                have := (hT7.rest v).put (by omega) j hj m
                show Ovb _ _ _ _ (fun i => if i = j then R / D else f i) _
                rw [m1]
                exact this
              · rw [hsn]
                exact ((ov.mono (by omega : wz.heap.size + 1 + 1 + 1 + 1 ≤ M)).set (by omega)).set (by omega)
            clear m1 m2 hlt pd1 pd2 cJ fQx hTx oR cQx
            gi_wp2_with fail
            refine ⟨trivial, (CallsIn.inRound l (callsIn_wide.2 CC)).mono ?_⟩
            rintro e W6 ⟨rfl, b6⟩
            have CM := HM.out W6 b6
            have cR6 := HB6.out W6 b6
            clear CC HM HB6
            gi_wp2_with fail
            refine ⟨trivial, (CallsIn.inRound l (callsIn_wide.2 CM)).mono ?_⟩
            rintro e W7 ⟨xa', xc', rfl, o7, b7⟩
            have HX := HE.out W7 _ b7 o7
            obtain ⟨a1, a2, a3, a4, a5⟩ := HC7.out W7 b7
            clear CM HE HC7
            gi_wp2_with fail
            obtain ⟨x1, x2, x3⟩ := HX
            exact ⟨x1 _, x2, x3⟩
    case done =>
      rintro Dd ys W hDd rfl ⟨⟨rv, hT, hR⟩, hB⟩ hK
      have hDp : 0 < D := Nat.pos_of_ne_zero hD0
      obtain ⟨q1, q2⟩ := ovS_bk hn hDp L (Nat.le_refl _)
      rw [q1] at hR
      have o1 := (row_own (B := wz.heap.size) (Nat.le_refl _) (by omega) hT.hq).ext (g := fun i => (lb (S / D) i : Int)) (fun i hi => by rw [q2 i hi, if_pos (by omega)])
      rw [Nat.sub_self, Nat.pow_zero, Nat.div_one] at hR
      rw [e2] at hR
      rw [e1] at o1
      have hlt : X / Y < 1000000000 ^ L := by
        rw [← e1]
        exact Nat.lt_of_le_of_lt (Nat.div_le_self S D) hn
      have hlr : ln (X % Y * K) ≤ 902 := by
        refine Nat.le_trans (ln_mul _ _) ?_
        have : ln (X % Y) ≤ ln Y := ln_mono (Nat.le_of_lt (Nat.mod_lt _ (Nat.pos_of_ne_zero hY)))
        omega
      obtain ⟨ra, rc, rfl, _⟩ := hR.sz.open
      have hNW := hT.lt
      have HTr : Hid (∀ Wq, Below W.heap.size W Wq → Calls Tryd.prog 64 #[.slice (some ⟨wz.heap.size, 0, none⟩) L L] Wq fun e w' => ∃ v', e = .returned v' ∧ OwS Wq wz.heap.size v' (X / Y) ∧ w' = Wq) := fun Wq hb =>
        trimmed _ L (X / Y) wz.heap.size Wq (o1.below hb (Nat.le_refl _)) hlt (by omega)
      have HOv : Hid (∀ Wq, Below W.heap.size W Wq → Calls Tryd.prog 66 #[.slice ra (ln (X % Y * K)) rc, .int .u64 (K : Int)] Wq fun e w' => ∃ v', e = .returned v' ∧ OwS w' wz.heap.size v' (X % Y) ∧ Below W.heap.size W w' ∧ ∀ u m, OwS Wq wz.heap.size u m → OwS w' wz.heap.size u m) := fun Wq hb => by
        refine (overLimb _ (X % Y * K) K Wq (hR.sz.below hb (Nat.le_refl _)) (by omega) s1 s2).mono fun e w' ⟨v, he, ho, hb'⟩ => ?_
        rw [e3] at ho
        have hsz := hb.size
        exact ⟨v, he, ho.mono (by omega), hb.trans (hb'.mono hsz), fun u m hu => hu.below hb' (Nat.le_refl _)⟩
      have HC : Hid (∀ Wq, Below W.heap.size W Wq → Wq.cell? ⟨wz.heap.size + 1, 0, none⟩ = some (.slice (some ⟨wz.heap.size, 0, none⟩) L L) ∧ Wq.cell? ⟨wz.heap.size + 1 + 1, 0, none⟩ = some (.slice ra (ln (X % Y * K)) rc) ∧ Wq.cell? ⟨w.heap.size + 1, 0, none⟩ = some (.int .u64 (K : Int))) := fun Wq hb => by
        obtain ⟨a1, a2, _⟩ := (hT.below (hb.mono hNW)).cells
        refine ⟨a1, a2, ?_⟩
        have e := ((hB.trans (hb.mono (by omega))).block (w.heap.size + 1) (by omega)).trans hK2
        rw [cells_at e 0]; rfl
      have hB0' : Below W.heap.size W W.drew := blw_drewN 1 (Below.refl _ W)
      have hbw : Below w.heap.size w W := bW.trans (hB.mono (by omega))
      clear q1 q2 o1 hT hR hB0 hT0 hR0 bN
      gi_upto_region 16 with fail
      gi_cut [4, 5] from 13 (fun s4 s5 wx => OwS wx wz.heap.size s4 (X / Y) ∧ OwS wx wz.heap.size s5 (X % Y) ∧ Below W.heap.size W wx)
      case first =>
        obtain ⟨c1, c2, c3⟩ := HC.out _ hB0'
        refine wpIn_calm ?_
        gi_region_with (first
          | (refine ⟨trivial, ?_⟩; gi_at_call 64; refine (callsIn_wide.2 (HTr.out _ (by first | exact hB0' | assumption))).mono ?_; rintro e w4 ⟨v4, rfl, o5, rfl⟩)
          | (refine ⟨trivial, ?_⟩; gi_at_call 66; refine (callsIn_wide.2 (HOv.out _ (by first | exact hB0' | assumption))).mono ?_; rintro e w5 ⟨v5, rfl, o6, b6, k6⟩; obtain ⟨d1, d2, d3⟩ := HC.out _ b6))
        all_goals
          gi_wp2_with fail
          gi_meet
          exact ⟨by first | assumption | (refine k6 _ _ ?_; assumption), o6, b6⟩
      case rest =>
        obtain ⟨f1, f2, f3⟩ := hcut
        have hDl : Dd < W.heap.size := (Array.getElem?_eq_some_iff.1 hK).1
        have hK' : wc.heap[Dd]? = some (.deferred (some [])) := (f3.block Dd hDl).trans hK
        have hkc : CellsKept wc (wc.putObj Dd (.deferred none)) := fun k o hk ho => by
          rw [(grownBy_putObj' wc Dd (.deferred none)).block k (Array.getElem?_eq_some_iff.1 hk).1 (fun e => by cases e; rw [hK'] at hk; cases hk; cases ho)]
          exact hk
        have hA3 : w.heap.size ≤ wz.heap.size := by omega
        have HF : Hid (OwS (wc.putObj Dd (.deferred none)) w.heap.size u4 (X / Y) ∧ OwS (wc.putObj Dd (.deferred none)) w.heap.size u5 (X % Y) ∧ Below w.heap.size w (wc.putObj Dd (.deferred none))) :=
          ⟨(f1.kept hkc).mono hA3, (f2.kept hkc).mono hA3, (hbw.trans (f3.mono (by have := hbw.size; omega))).trans (belowK_b (w := w) (Nat.le_refl _) wc Dd _ _ (by simp at hDd; omega) hK' rfl rfl)⟩
        clear f1 f2 hkc
        gi_wp2_with fail
        refine ⟨by simp, .inl ⟨_, _, rfl, run_takeDeferred hK', ?_⟩⟩
        obtain ⟨g1, g2, g3⟩ := HF.out
        exact ⟨_, results_tmp2 rfl _ _ _, u4, u5, rfl, g1, g2, g3⟩
    case stop =>
      rintro D c pre W _ _ h _
      exact h.elim
end Go.Proofs.YtcnlclocnnijgaaDoor
