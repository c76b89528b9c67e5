/-
  Contract of a size's quotient by a limb. Conditions: the limb is not nought; at most a thousand limbs.
-/
import Derived.Test.YtcnlclocnnijgaaDoorNSText
import Derived.Test.YtcnlclocnnijgaaDoorNumDivB
import Derived.Test.YtcnlclocnnijgaaDoorNPlus
import Derived.Test.YtcnlclocnnijgaaDoorNCmpS
import Derived.BigRegionIn
namespace Go.Proofs.YtcnlclocnnijgaaDoor
open Go.RowKit Go.Shelf
set_option linter.unusedVariables false
attribute [local go_sem] Oper.semAt_some

/-- Rest and quotient after some places. -/
def ovStep (X y : Nat) (s : Nat × (Nat → Nat)) (j : Nat) : Nat × (Nat → Nat) := ((1000000000 * s.1 + lb X j) % y, fun i => if i = j then (1000000000 * s.1 + lb X j) / y else s.2 i)
def ovS (X y L : Nat) (pre : List { j : Nat // j < L }) : Nat × (Nat → Nat) := pre.foldl (fun s x => ovStep X y s x.1) (0, fun _ => 0)
theorem ovS_snoc (X y L : Nat) (pre : List { j : Nat // j < L }) (x : { j : Nat // j < L }) : ovS X y L (pre ++ [x]) = ovStep X y (ovS X y L pre) x.1 := by
  unfold ovS
  rw [List.foldl_append]; rfl
theorem ovS_lt (X y L : Nat) (hy : 0 < y) : ∀ (pre : List { j : Nat // j < L }) (s : Nat × (Nat → Nat)), s.1 < y → (pre.foldl (fun s x => ovStep X y s x.1) s).1 < y
  | [], _, h => h
  | x :: pre, s, _ => ovS_lt X y L hy pre _ (Nat.mod_lt _ hy)
theorem ovS_bk {X y L : Nat} (hX : X < 1000000000 ^ L) (hy : 0 < y) : ∀ (k : Nat) (h : k ≤ L), (ovS X y L (bk L k h)).1 = X / 1000000000 ^ (L - k) % y ∧ ∀ i, i < L → (ovS X y L (bk L k h)).2 i = if L - k ≤ i then lb (X / y) i else 0
  | 0, h => by
    constructor
    · show 0 = _
      rw [Nat.sub_zero, Nat.div_eq_of_lt hX, Nat.zero_mod]
    · intro i hi
      show 0 = _
      rw [if_neg (by omega)]
  | k + 1, h => by
    obtain ⟨h1, h2⟩ := ovS_bk hX hy k (by omega)
    have e : L - k = L - 1 - k + 1 := by omega
    obtain ⟨d1, d2, _⟩ := div_downB X y (L - 1 - k) hy
    rw [← e, ← h1] at d1 d2
    rw [bk, ovS_snoc]
    unfold ovStep
    refine ⟨?_, fun i hi => ?_⟩
    · show _ % y = _
      rw [d1, show L - (k + 1) = L - 1 - k by omega]
    · show (if i = L - 1 - k then _ else _) = _
      by_cases e1 : i = L - 1 - k
      · rw [if_pos e1, if_pos (by omega), e1, d2]
      · rw [if_neg e1, h2 i hi]
        by_cases e2 : L - k ≤ i
        · rw [if_pos e2, if_pos (by omega)]
        · rw [if_neg e2, if_neg (by omega)]

/-- The boxes and the quotient, as overLimb goes on. -/
structure Ov (A L : Nat) (sv : Value) (y : Nat) (s : Nat × (Nat → Nat)) (W : World) : Prop where
  ha : W.heap[A]? = some (.cells #[.int .u64 (y : Int)] 69 (0, 0))
  hq : ∃ cur, W.heap[A + 1]? = some (.cells cur 69 (0, 0)) ∧ cur.toList = (lst (fun i => (s.2 i : Int)) L).map (Value.int .u64)
  hqb : W.heap[A + 1 + 1]? = some (.cells #[.slice (some ⟨A + 1, 0, none⟩) L L] 46 (0, 0))
  hrb : W.heap[A + 1 + 1 + 1]? = some (.cells #[.int .u64 (s.1 : Int)] 69 (0, 0))
  hs : W.heap[A + 1 + 1 + 1 + 1]? = some (.cells #[sv] 46 (0, 0))
theorem Ov.kept {A L : Nat} {sv : Value} {y : Nat} {s : Nat × (Nat → Nat)} {W W' : World} (h : Ov A L sv y s W) (k : CellsKept W W') : Ov A L sv y s W' := by
  obtain ⟨cur, h1, h2⟩ := h.hq
  exact ⟨k _ _ h.ha rfl, ⟨cur, k _ _ h1 rfl, h2⟩, k _ _ h.hqb rfl, k _ _ h.hrb rfl, k _ _ h.hs rfl⟩

theorem row_own {W : World} {B Q L : Nat} {f : Nat → Int} (hB : B ≤ Q) (hL : L ≤ 1000000) (h : ∃ cur, W.heap[Q]? = some (.cells cur 69 (0, 0)) ∧ cur.toList = (lst f L).map (Value.int .u64)) : OwN .u64 69 W B (.slice (some ⟨Q, 0, none⟩) L L) L f := by
  obtain ⟨cur, h1, h2⟩ := h
  have hc : cur.size = L := by
    have := congrArg List.length h2
    simpa [lst_length] using this
  refine ⟨by simp [lst_length], .inr ⟨Q, L, cur, rfl, hB, h1, Nat.le_refl _, by unfold maxLen; omega, by omega, ?_⟩⟩
  rw [h2, List.take_of_length_le (by simp [lst_length])]
theorem own_row {W : World} {B Q L : Nat} {f : Nat → Int} (h : OwN .u64 69 W B (.slice (some ⟨Q, 0, none⟩) L L) L f) : ∃ cur, W.heap[Q]? = some (.cells cur 69 (0, 0)) ∧ cur.toList = (lst f L).map (Value.int .u64) := by
  rcases h.2 with ⟨h1, _⟩ | ⟨b', cap', cur, h1, h2, h3, h4, h5, h6, h7⟩
  · cases h1
  · cases h1
    refine ⟨cur, h3, ?_⟩
    rw [← h7, List.take_of_length_le (by rw [Array.length_toList]; omega)]

set_option maxRecDepth 100000 in
set_option maxHeartbeats 4000000 in
theorem overLimb (vs : Value) (X y : Nat) (w : World) (hs : Sz w vs X) (hl : ln X ≤ 1000) (hy : 0 < y) (hy9 : y < 1000000000) :
    Calls Tryd.prog 66 #[vs, .int .u64 (y : Int)] w fun e w' => ∃ v, e = .returned v ∧ OwS w' w.heap.size v (X / y) ∧ Below w.heap.size w w' := by
  obtain ⟨ao, c, rfl, h1, h2, h3, _⟩ := hs.open
  have l1 := hs.lims
  have hn := lt_pow_ln X
  obtain ⟨L, hL⟩ : ∃ L, ln X = L := ⟨_, rfl⟩
  rw [hL] at l1 h1 h3 hn hl
  rw [hL]
  have hmk := make_size L (by omega)
  obtain ⟨MB, hMB⟩ : ∃ MB, madeCells #[.int .u64 0] L = MB := ⟨_, rfl⟩
  rw [hMB] at hmk
  have HMB : Hid (MB.toList = (lst (fun _ => 0) L).map (Value.int .u64)) := by rw [← hMB]; exact made_u .u64 L
  clear hs hL hMB
  refine (callsIn_wide (n := 8)).1 ?_
  have hro : Fence.wide.round = none := rfl
  have h1' : 1 ≤ 8 := by decide
  refine callsIn_of_wp_marks Tryd.func66 rfl trivial ?_ hro
  simp only [Tryd.ntmps66, List.size_toArray, List.length_cons, List.length_nil, Nat.reduceAdd, Nat.reduceSub, Array.replicate_succ, Array.replicate_zero, List.push_toArray, List.append_toArray, List.nil_append, List.cons_append]
  gi_wp2_with (refine ⟨trivial, ?_⟩; gi_at_call 62; refine (back_in Fence.wide (8 - 1) trivial hro _ _ _ _).mono ?_; rintro e w' ⟨rfl, rfl⟩)
  have bN := Boxed.new ((((w.alloc (.cells #[.int .u64 (y : Int)] 69)).alloc (.cells MB 69)).alloc (.cells #[.slice (some ⟨w.heap.size + 1, 0, none⟩) L L] 46)).alloc (.cells #[.int .u64 0] 69)) 46 (.slice ao L c)
  simp only [World.size_alloc] at bN
  have hB0 : Below w.heap.size w (((((w.alloc (.cells #[.int .u64 (y : Int)] 69)).alloc (.cells MB 69)).alloc (.cells #[.slice (some ⟨w.heap.size + 1, 0, none⟩) L L] 46)).alloc (.cells #[.int .u64 0] 69)).alloc (.cells #[.slice ao L c] 46)) := (((((Below.refl _ w).alloc (Nat.le_refl _) _).alloc (by simp) _).alloc (by simp; omega) _).alloc (by simp; omega) _).alloc (by simp; omega) _
  have hT0 : Ov w.heap.size L (.slice ao L c) y (ovS X y L []) (((((w.alloc (.cells #[.int .u64 (y : Int)] 69)).alloc (.cells MB 69)).alloc (.cells #[.slice (some ⟨w.heap.size + 1, 0, none⟩) L L] 46)).alloc (.cells #[.int .u64 0] 69)).alloc (.cells #[.slice ao L c] 46)) := by
    refine ⟨?_, ⟨MB, ?_, HMB.out⟩, ?_, ?_, ?_⟩
    · rw [Below.heap_alloc _ _ _ (by first | (simp; done) | (simp; omega)), Below.heap_alloc _ _ _ (by first | (simp; done) | (simp; omega)), Below.heap_alloc _ _ _ (by first | (simp; done) | (simp; omega)), Below.heap_alloc _ _ _ (by simp)]
      exact heap_alloc_at _ _ _ rfl
    · rw [Below.heap_alloc _ _ _ (by first | (simp; done) | (simp; omega)), Below.heap_alloc _ _ _ (by first | (simp; done) | (simp; omega)), Below.heap_alloc _ _ _ (by simp)]
      exact heap_alloc_at _ _ _ (by simp)
    · rw [Below.heap_alloc _ _ _ (by first | (simp; done) | (simp; omega)), Below.heap_alloc _ _ _ (by simp)]
      exact heap_alloc_at _ _ _ (by simp)
    · rw [Below.heap_alloc _ _ _ (by simp)]
      exact heap_alloc_at _ _ _ (by simp)
    · exact heap_alloc_at _ _ _ (by simp)
  refine wpIn_rangeFunc_ownG hro h1' (gf := 79) (lb := #[.pointer (some ⟨w.heap.size + 1 + 1 + 1 + 1, 0, none⟩)]) rfl trivial (enters_of Tryd.func79 (by kernel_rfl) rfl)
    (back_stops Fence.wide (8 - 1) trivial hro (by decide) (w.heap.size + 1 + 1 + 1 + 1) w.heap.size L c ao _ h3 h1 _ (by simp) (by simp; omega) bN.cell (l1.below hB0)) Kb.trans (Kb.put (by simp; omega) (by simp)) (Below.refl _ _) (fun _ => rfl)
    (fun pre W => Ov w.heap.size L (.slice ao L c) y (ovS X y L pre) W ∧ Below w.heap.size w W)
    (fun _ _ _ => False)
    (OwnFrom.and (fun s A B row hs hg hr => hs.kept (fun k o hk ho => by
      refine (hg.block k (Array.getElem?_eq_some_iff.1 hk).1 (fun e => ?_)).trans hk
      obtain ⟨_, o', ho', hc⟩ := hr k e.symm
      rw [hk] at ho'
      cases ho'
      rw [ho] at hc
      cases hc)) (ownFrom_below (Nat.le_refl _) (by simp; omega)))
    (fun _ _ _ _ _ hs _ _ => hs)
    ⟨hT0, hB0⟩
    (fun x => { tmps := #[.slice ao L c, .int .u64 (y : Int), undef, .pointer (some ⟨w.heap.size, 0, none⟩), .slice none 0 0, .pointer (some ⟨w.heap.size + 1 + 1, 0, none⟩), .pointer (some ⟨w.heap.size + 1 + 1 + 1, 0, none⟩), .int .i64 (x.1 : Int), .int .u64 (lb X x.1 : Int), .slice ao L c, .int .i64 (L : Int), .slice (some ⟨w.heap.size + 1, 0, none⟩) L L, .slice ao L c, .func (.func 79) #[] #[.pointer (some ⟨w.heap.size + 1 + 1 + 1 + 1, 0, none⟩)], .int .i64 (x.1 : Int), .int .u64 (lb X x.1 : Int), undef, undef, undef, undef, undef, undef, undef, undef, undef, undef, undef, undef, undef, undef, undef], defers := [] }) ?assign ?body ?done ?stop
  case assign =>
    intro l x W K hK
    gi_wp2
    exact hK
  case body =>
    rintro l pre x W ⟨hT, hB⟩ hlen
    obtain ⟨j, hj⟩ := x
    have hρ : (ovS X y L pre).1 < y := ovS_lt X y L hy pre _ hy
    have hlb := lb_lt X j
    have hsn := ovS_snoc X y L pre ⟨j, hj⟩
    generalize ovS X y L pre = s at *
    obtain ⟨ρ, f⟩ := s
    obtain ⟨cur, hq1, hq2⟩ := hT.hq
    have hcs : cur.size = L := by
      have := congrArg List.length hq2
      simpa [lst_length] using this
    generalize hd : lb X j = d at *
    have cR : W.cell? ⟨w.heap.size + 1 + 1 + 1, 0, none⟩ = some (.int .u64 (ρ : Int)) := by rw [cells_at hT.hrb 0]; rfl
    have fR : W.frozen? ⟨w.heap.size + 1 + 1 + 1, 0, none⟩ = false := cells_free hT.hrb 0
    have cQ : W.cell? ⟨w.heap.size + 1, j, none⟩ = some cur[j] := by rw [cells_at hq1 j, Array.getElem?_eq_getElem (by omega)]
    have fQ : W.frozen? ⟨w.heap.size + 1, j, none⟩ = false := cells_free hq1 j
    have cA : W.cell? ⟨w.heap.size, 0, none⟩ = some (.int .u64 (y : Int)) := by rw [cells_at hT.ha 0]; rfl
    have cB : W.cell? ⟨w.heap.size + 1 + 1, 0, none⟩ = some (.slice (some ⟨w.heap.size + 1, 0, none⟩) L L) := by rw [cells_at hT.hqb 0]; rfl
    have a1 : ∀ z, (W.setCell ⟨w.heap.size + 1 + 1 + 1, 0, none⟩ z).cell? ⟨w.heap.size, 0, none⟩ = some (.int .u64 (y : Int)) := fun z => by rw [World.cell?_setCell_other _ _ _ _ (by first | (simp; done) | (simp; omega))]; exact cA
    have a2 : ∀ z, (W.setCell ⟨w.heap.size + 1 + 1 + 1, 0, none⟩ z).cell? ⟨w.heap.size + 1 + 1, 0, none⟩ = some (.slice (some ⟨w.heap.size + 1, 0, none⟩) L L) := fun z => by rw [World.cell?_setCell_other _ _ _ _ (by first | (simp; done) | (simp; omega))]; exact cB
    have a3 : ∀ z, (W.setCell ⟨w.heap.size + 1 + 1 + 1, 0, none⟩ z).cell? ⟨w.heap.size + 1, j, none⟩ = some cur[j] := fun z => by rw [World.cell?_setCell_other _ _ _ _ (by first | (simp; done) | (simp; omega))]; exact cQ
    have a4 : ∀ z, (W.setCell ⟨w.heap.size + 1 + 1 + 1, 0, none⟩ z).cell? ⟨w.heap.size + 1 + 1 + 1, 0, none⟩ = some z := fun z => World.cell?_setCell_same' _ _ _ (by rw [cR]; rfl)
    have b1 : ∀ z z', ((W.setCell ⟨w.heap.size + 1 + 1 + 1, 0, none⟩ z).setCell ⟨w.heap.size + 1, j, none⟩ z').cell? ⟨w.heap.size, 0, none⟩ = some (.int .u64 (y : Int)) := fun z z' => by rw [World.cell?_setCell_other _ _ _ _ (by first | (simp; done) | (simp; omega))]; exact a1 z
    have b2 : ∀ z z', ((W.setCell ⟨w.heap.size + 1 + 1 + 1, 0, none⟩ z).setCell ⟨w.heap.size + 1, j, none⟩ z').cell? ⟨w.heap.size + 1 + 1 + 1, 0, none⟩ = some z := fun z z' => by rw [World.cell?_setCell_other _ _ _ _ (by first | (simp; done) | (simp; omega))]; exact a4 z
    obtain ⟨R, hR⟩ : ∃ R, 1000000000 * ρ + d = R := ⟨_, rfl⟩
    have w1 : IntKind.u64.wrap ((ρ : Int) * 1000000000) = ((1000000000 * ρ : Nat) : Int) := by rw [IntKind.wrap_u64]; omega
    have w2 : IntKind.u64.wrap (((1000000000 * ρ : Nat) : Int) + (d : Int)) = (R : Int) := by rw [IntKind.wrap_u64]; omega
    have y0 : ¬ (y : Int) = 0 := by omega
    have j0 : (0 : Int) ≤ (j : Int) := by omega
    have j1 : (j : Int) < (L : Int) := by omega
    have hRi : ((1000000000 : Int) * (ρ : Int) + (d : Int)) = (R : Int) := by omega
    have HE : Hid (∀ W4 : World, W4.heap = (((W.setCell ⟨w.heap.size + 1 + 1 + 1, 0, none⟩ (.int .u64 ((1000000000 : Int) * (ρ : Int) + (d : Int)))).setCell ⟨w.heap.size + 1, j, none⟩ (.int .u64 (((1000000000 : Int) * (ρ : Int) + (d : Int)) / (y : Int)))).setCell ⟨w.heap.size + 1 + 1 + 1, 0, none⟩ (.int .u64 (((1000000000 : Int) * (ρ : Int) + (d : Int)) % (y : Int)))).heap → W4.os = W.os → W4.tape = W.tape → W4.output = W.output → KeepsFrom (((((w.alloc (.cells #[.int .u64 (y : Int)] 69)).alloc (.cells MB 69)).alloc (.cells #[.slice (some ⟨w.heap.size + 1, 0, none⟩) L L] 46)).alloc (.cells #[.int .u64 0] 69)).alloc (.cells #[.slice ao L c] 46)).heap.size W W4 ∧ Kb (w.heap.size + 1 + 1 + 1 + 1) w.heap.size W W4 ∧ Ov w.heap.size L (.slice ao L c) y (ovS X y L (pre ++ [⟨j, hj⟩])) W4 ∧ Below w.heap.size w W4) := fun W4 e1 e2 e3 e4 => by
      rw [hRi] at e1
      have kF : ∀ Bk, KeepsFrom Bk W (((W.setCell ⟨w.heap.size + 1 + 1 + 1, 0, none⟩ (.int .u64 (R : Int))).setCell ⟨w.heap.size + 1, j, none⟩ (.int .u64 ((R : Int) / (y : Int)))).setCell ⟨w.heap.size + 1 + 1 + 1, 0, none⟩ (.int .u64 ((R : Int) % (y : Int)))) := fun Bk => (((KeepsOthers.setCell _ _ _).from Bk).trans ((KeepsOthers.setCell _ _ _).from Bk)).trans ((KeepsOthers.setCell _ _ _).from Bk)
      have kB : Below w.heap.size W (((W.setCell ⟨w.heap.size + 1 + 1 + 1, 0, none⟩ (.int .u64 (R : Int))).setCell ⟨w.heap.size + 1, j, none⟩ (.int .u64 ((R : Int) / (y : Int)))).setCell ⟨w.heap.size + 1 + 1 + 1, 0, none⟩ (.int .u64 ((R : Int) % (y : Int)))) := ((((Below.refl _ W).setCell (p := ⟨w.heap.size + 1 + 1 + 1, 0, none⟩) (by show _ ≤ w.heap.size + 1 + 1 + 1; omega) _).setCell (p := ⟨w.heap.size + 1, j, none⟩) (by show _ ≤ w.heap.size + 1; omega) _).setCell (p := ⟨w.heap.size + 1 + 1 + 1, 0, none⟩) (by show _ ≤ w.heap.size + 1 + 1 + 1; omega) _)
      have kB4 : Below w.heap.size W W4 := ⟨e2, e3, e4, by rw [e1]; exact kB.size, fun k hk => by rw [e1]; exact kB.block k hk⟩
      have ot : ∀ k, k ≠ w.heap.size + 1 + 1 + 1 → k ≠ w.heap.size + 1 → W4.heap[k]? = W.heap[k]? := fun k n1 n2 => by rw [e1, heap_set_other _ n1, heap_set_other _ n2, heap_set_other _ n1]
      refine ⟨⟨by rw [e1]; exact (kF 0).size, fun k o hk h1 h2 => by rw [e1]; exact (kF 0).same k o (Nat.zero_le _) h1 h2⟩, ⟨ot _ (by omega) (by omega), kB4⟩, ?_, hB.trans kB4⟩
      rw [hsn]
      refine ⟨(ot _ (by omega) (by omega)).trans hT.ha, ?_, (ot _ (by omega) (by omega)).trans hT.hqb, ?_, (ot _ (by omega) (by omega)).trans hT.hs⟩
      · have o1 := row_own (B := w.heap.size) (by omega) (by omega) hT.hq
        have hk : (Value.slice (some ⟨w.heap.size + 1, 0, none⟩) L L).ownBlock ≠ some (w.heap.size + 1 + 1 + 1) := fun e => by injection e with e; simp at e
        have o2 : OwN .u64 69 (W.setCell ⟨w.heap.size + 1 + 1 + 1, 0, none⟩ (.int .u64 (R : Int))) w.heap.size (.slice (some ⟨w.heap.size + 1, 0, none⟩) L L) L (fun i => (f i : Int)) := row_set o1 hk _ _
        have o3 := o2.set j hj ((R : Int) / (y : Int))
        have o4 := OwN.ext (g := fun i => (((ovStep X y (ρ, f) j).2 i : Nat) : Int)) (row_heap (row_set o3 hk 0 (.int .u64 ((R : Int) % (y : Int)))) e1) (fun i hi => by
          show (if i = j then (R : Int) / (y : Int) else (f i : Int)) = (((if i = j then (1000000000 * ρ + lb X j) / y else f i) : Nat) : Int)
          rw [hd, hR]
          by_cases e : i = j
          · rw [if_pos e, if_pos e]; simp
          · rw [if_neg e, if_neg e])
        exact own_row o4
      · have r1 := heap_setCell_same W (w.heap.size + 1 + 1 + 1) 0 #[.int .u64 (ρ : Int)] 69 (.int .u64 (R : Int)) hT.hrb
        have r2 := (heap_set_other (W.setCell ⟨w.heap.size + 1 + 1 + 1, 0, none⟩ (.int .u64 (R : Int))) (g := w.heap.size + 1) (k := w.heap.size + 1 + 1 + 1) (by omega) j (.int .u64 ((R : Int) / (y : Int)))).trans r1
        have r3 := heap_setCell_same _ (w.heap.size + 1 + 1 + 1) 0 _ 69 (.int .u64 ((R : Int) % (y : Int))) r2
        rw [e1, r3]
        show some (Obj.cells #[.int .u64 ((R : Int) % (y : Int))] 69 (0, 0)) = some (Obj.cells #[.int .u64 ((((1000000000 * ρ + lb X j) % y : Nat)) : Int)] 69 (0, 0))
        rw [hd, hR]
        simp
    clear hq2 hT hB hsn hRi
    gi_wp2_with fail
    gi_region
    all_goals
      gi_wp2
      apply HE.out <;> rfl
  case done =>
    rintro D ys W hD rfl ⟨hT, hB⟩ hK
    obtain ⟨_, q2⟩ := ovS_bk hn hy L (Nat.le_refl _)
    have o1 := (row_own (B := w.heap.size) (by omega) (by omega) hT.hq).ext (g := fun i => (lb (X / y) i : Int)) (fun i hi => by rw [q2 i hi, if_pos (by omega)])
    have hlt : X / y < 1000000000 ^ L := Nat.lt_of_le_of_lt (Nat.div_le_self X y) hn
    have C5 := trimmed (.slice (some ⟨w.heap.size + 1, 0, none⟩) L L) L (X / y) w.heap.size W o1 hlt (by omega)
    have cB : W.cell? ⟨w.heap.size + 1 + 1, 0, none⟩ = some (.slice (some ⟨w.heap.size + 1, 0, none⟩) L L) := by rw [cells_at hT.hqb 0]; rfl
    clear q2 o1 hT
    gi_wp2_with fail
    refine ⟨trivial, (callsIn_wide.2 C5).mono ?_⟩
    rintro e W5 ⟨v', rfl, ho, hw⟩
    obtain rfl : W = W5 := hw.symm
    clear hw C5
    gi_wp2
    refine ⟨by simp, .inl ⟨_, _, rfl, run_takeDeferred hK, ?_⟩⟩
    refine ⟨_, results_tmp rfl _ _ _, v', rfl, ⟨?_, ho.2⟩, hB.trans (belowK_b (w := w) (Nat.le_refl _) W D _ _ (by simp at hD; omega) hK rfl rfl)⟩
    refine ⟨ho.1.1, ?_⟩
    rcases ho.1.2 with h | ⟨b, cap, cur, e1, e2, e3, e4⟩
    · exact .inl h
    · refine .inr ⟨b, cap, cur, e1, e2, ?_, e4⟩
      rw [(grownBy_putObj' W D (.deferred none)).block b (Array.getElem?_eq_some_iff.1 e3).1 (fun e => by cases e; rw [hK] at e3; cases e3)]
      exact e3
  case stop =>
    rintro D c pre W _ _ h _
    exact h.elim
end Go.Proofs.YtcnlclocnnijgaaDoor
