/-
  Contracts of cmp.Compare at int and at uint64, and of a size's compare. Condition: at most a million limbs each.
-/
import Derived.Test.YtcnlclocnnijgaaDoorNBack
namespace Go.Proofs.YtcnlclocnnijgaaDoor
open Go.RowKit Go.Shelf
set_option linter.unusedVariables false
attribute [local go_sem] Oper.semAt_some

set_option maxRecDepth 100000 in
theorem cmpInt (x y : Int) (w : World) : Calls Tryd.prog 77 #[.int .i64 x, .int .i64 y] w fun e w' => e = .returned (.int .i64 (cmpI x y)) ∧ w' = w := by
  have e1 : (x == x) = true := by simp
  have e2 : (y == y) = true := by simp
  rcases Int.lt_trichotomy x y with h | h | h
  · have HE : Hid (cmpI x y = -1) := cmpI_lt h
    go_enter Tryd.func77, Tryd.ntmps77
    go_wp2
    go_ret
    exact ⟨by rw [HE.out]; rfl, rfl⟩
  · have HE : Hid (cmpI x y = 0) := cmpI_eq h
    have h1 : ¬ x < y := by omega
    have h2 : ¬ y < x := by omega
    clear h
    go_enter Tryd.func77, Tryd.ntmps77
    go_wp2
    go_ret
    exact ⟨by rw [HE.out]; rfl, rfl⟩
  · have HE : Hid (cmpI x y = 1) := cmpI_gt h
    have h1 : ¬ x < y := by omega
    go_enter Tryd.func77, Tryd.ntmps77
    go_wp2
    go_ret
    exact ⟨by rw [HE.out]; rfl, rfl⟩
set_option maxRecDepth 100000 in
theorem cmpU (x y : Int) (w : World) : Calls Tryd.prog 78 #[.int .u64 x, .int .u64 y] w fun e w' => e = .returned (.int .i64 (cmpI x y)) ∧ w' = w := by
  have e1 : (x == x) = true := by simp
  have e2 : (y == y) = true := by simp
  rcases Int.lt_trichotomy x y with h | h | h
  · have HE : Hid (cmpI x y = -1) := cmpI_lt h
    go_enter Tryd.func78, Tryd.ntmps78
    go_wp2
    go_ret
    exact ⟨by rw [HE.out]; rfl, rfl⟩
  · have HE : Hid (cmpI x y = 0) := cmpI_eq h
    have h1 : ¬ x < y := by omega
    have h2 : ¬ y < x := by omega
    clear h
    go_enter Tryd.func78, Tryd.ntmps78
    go_wp2
    go_ret
    exact ⟨by rw [HE.out]; rfl, rfl⟩
  · have HE : Hid (cmpI x y = 1) := cmpI_gt h
    have h1 : ¬ x < y := by omega
    go_enter Tryd.func78, Tryd.ntmps78
    go_wp2
    go_ret
    exact ⟨by rw [HE.out]; rfl, rfl⟩

theorem bk_mem {L : Nat} : ∀ {k : Nat} (h : k ≤ L) {j : Nat} (hj : j < L), L - k ≤ j → (⟨j, hj⟩ : { j : Nat // j < L }) ∈ bk L k h
  | 0, _, j, hj, h2 => by omega
  | k + 1, h, j, hj, h2 => by
    rw [bk, List.mem_append]
    by_cases e : j = L - 1 - k
    · subst e; exact .inr (by simp)
    · exact .inl (bk_mem _ hj (by omega))
/-- Where all places from one on are the same, so is what is cut off there. -/
theorem tops {n m L : Nat} (hn : n < 1000000000 ^ L) (hm : m < 1000000000 ^ L) : ∀ (d i : Nat), i + d = L → (∀ j, i ≤ j → j < L → lb n j = lb m j) → n / 1000000000 ^ i = m / 1000000000 ^ i
  | 0, i, h, _ => by
    obtain rfl : i = L := by omega
    rw [Nat.div_eq_of_lt hn, Nat.div_eq_of_lt hm]
  | d + 1, i, h, hj => top_step (tops hn hm d (i + 1) (by omega) (fun j h1 h2 => hj j (by omega) h2)) (hj i (Nat.le_refl _) (by omega))
theorem cmp_ln {n m : Nat} (h : ln n ≠ ln m) : cmpI (ln n : Int) (ln m : Int) = cmpI (n : Int) (m : Int) := by
  rcases Nat.lt_or_gt_of_ne h with h | h
  · have := lt_of_ln h
    rw [cmpI_lt (by omega), cmpI_lt (by omega)]
  · have := lt_of_ln h
    rw [cmpI_gt (by omega), cmpI_gt (by omega)]
theorem cmp_top {n m i : Nat} (h : n / 1000000000 ^ (i + 1) = m / 1000000000 ^ (i + 1)) (h2 : lb n i ≠ lb m i) : cmpI (lb n i : Int) (lb m i : Int) = cmpI (n : Int) (m : Int) := by
  rcases Nat.lt_or_gt_of_ne h2 with h3 | h3
  · have := lt_of_top h h3
    rw [cmpI_lt (by omega), cmpI_lt (by omega)]
  · have := lt_of_top h.symm h3
    rw [cmpI_gt (by omega), cmpI_gt (by omega)]
theorem Sz.lims {w : World} {ao : Option Addr} {c n : Nat} (h : Sz w (.slice ao (ln n) c) n) : Lims w.heap.size w ao (ln n) (fun i => (lb n i : Int)) := fun j hj => by
  obtain ⟨ao', c', e, _, _, _, hr⟩ := h.open
  cases e
  rcases hr with h0 | ⟨g, e, hg⟩
  · omega
  · exact ⟨g, e, World.block_lt_of_cell? w _ (hg j hj), hg j hj⟩

set_option maxRecDepth 100000 in
set_option maxHeartbeats 2000000 in
theorem sCompare_ne (vs vt : Value) (n m : Nat) (w : World) (hs : Sz w vs n) (ht : Sz w vt m) (hne : ln n ≠ ln m) :
    Calls Tryd.prog 57 #[vs, vt] w fun e w' => e = .returned (.int .i64 (cmpI n m)) ∧ Below w.heap.size w w' := by
  obtain ⟨ao, c, rfl, h1, h2, h3, _⟩ := hs.open
  obtain ⟨bo, d, rfl, k1, k2, k3, _⟩ := ht.open
  have HE : Hid (cmpI (ln n : Int) (ln m : Int) = cmpI (n : Int) (m : Int)) := cmp_ln hne
  have e1 : ((ln n : Int) == (ln m : Int)) = false := by rw [beq_eq_false_iff_ne]; omega
  clear hs ht hne
  go_enter Tryd.func57, Tryd.ntmps57
  go_wp2_with fail
  refine (cmpInt _ _ _).mono ?_
  rintro e w1 ⟨rfl, hw⟩
  rw [HE.out]
  subst hw
  have HB : Hid (∀ p q : Obj, Below w.heap.size w ((w.alloc p).alloc q)) := fun p q => ((Below.refl _ w).alloc (Nat.le_refl _) p).alloc (by simp) q
  go_wp2
  refine bodyPost_ret (v := .int .i64 (cmpI n m)) (by simp [results, Tryd.results57, go_sem]) rfl ⟨rfl, HB.out _ _⟩

/-- At all these places the two are the same. -/
def AllEq (n m L : Nat) (pre : List { j : Nat // j < L }) : Prop := ∀ p ∈ pre, lb n p.1 = lb m p.1
theorem AllEq.snoc {n m L : Nat} {pre : List { j : Nat // j < L }} (h : AllEq n m L pre) {x : { j : Nat // j < L }} (e : lb n x.1 = lb m x.1) : AllEq n m L (pre ++ [x]) := fun p hp => (List.mem_append.1 hp).elim (h p) (fun e' => by rw [List.mem_singleton] at e'; rw [e']; exact e)
/-- They part at the last of these places. -/
def Parted (n m L : Nat) (pre : List { j : Nat // j < L }) (z : Int) : Prop := ∃ ini last, pre = ini ++ [last] ∧ AllEq n m L ini ∧ lb n last.1 ≠ lb m last.1 ∧ z = cmpI (lb n last.1) (lb m last.1)
theorem Parted.cmp {n m L k : Nat} (hn : n < 1000000000 ^ L) (hm : m < 1000000000 ^ L) {hk : k ≤ L} {z : Int} (h : Parted n m L (bk L k hk) z) : z = cmpI (n : Int) (m : Int) := by
  obtain ⟨ini, last, e1, e2, e3, rfl⟩ := h
  cases k with
  | zero => simp [bk] at e1
  | succ k' =>
    rw [bk] at e1
    obtain ⟨rfl, e5⟩ := List.append_inj' e1 rfl
    have e6 : last.1 = L - 1 - k' := by
      have := List.singleton_inj.1 e5
      rw [← this]
    rw [e6] at e3 ⊢
    exact cmp_top (tops hn hm k' (L - 1 - k' + 1) (by omega) (fun j h1 h2 => e2 ⟨j, h2⟩ (bk_mem _ h2 (by omega)))) e3

set_option maxRecDepth 100000 in
set_option maxHeartbeats 2000000 in
theorem sCompare_eq (vs vt : Value) (n m : Nat) (w : World) (hs : Sz w vs n) (ht : Sz w vt m) (hne : ln n = ln m) :
    Calls Tryd.prog 57 #[vs, vt] w fun e w' => e = .returned (.int .i64 (cmpI n m)) ∧ Below w.heap.size w w' := by
  obtain ⟨ao, c, rfl, h1, h2, h3, _⟩ := hs.open
  obtain ⟨bo, d, rfl, k1, k2, k3, _⟩ := ht.open
  have l1 := hs.lims
  have l2 := ht.lims
  have hn := lt_pow_ln n
  have hm := lt_pow_ln m
  rw [← hne] at l2 k1 k3 hm
  obtain ⟨L, hL⟩ : ∃ L, ln n = L := ⟨_, rfl⟩
  rw [hL] at l1 l2 h1 h3 k1 k3 hn hm
  rw [← hne, hL]
  clear hs ht hne hL
  refine (callsIn_wide (n := 8)).1 ?_
  have hro : Fence.wide.round = none := rfl
  have h1' : 1 ≤ 8 := by decide
  refine callsIn_of_wp_marks Tryd.func57 rfl trivial ?_ hro
  simp only [Tryd.ntmps57, List.size_toArray, List.length_cons, List.length_nil, Nat.reduceAdd, Nat.reduceSub, Array.replicate_succ, Array.replicate_zero, List.push_toArray, List.append_toArray, List.nil_append, List.cons_append]
  gi_wp2_with (refine ⟨trivial, ?_⟩; gi_at_call 62; refine (back_in Fence.wide (8 - 1) trivial hro _ _ _ _).mono ?_; rintro e w' ⟨rfl, rfl⟩)
  have bT := Boxed.new w 46 (.slice bo L d)
  have bR := Boxed.new (w.alloc (.cells #[.slice bo L d] 46)) 3 (.int .i64 0)
  have bN := Boxed.new ((w.alloc (.cells #[.slice bo L d] 46)).alloc (.cells #[.int .i64 0] 3)) 46 (.slice ao L c)
  simp only [World.size_alloc] at bR bN
  have hB0 : Below w.heap.size w (((w.alloc (.cells #[.slice bo L d] 46)).alloc (.cells #[.int .i64 0] 3)).alloc (.cells #[.slice ao L c] 46)) := (((Below.refl _ w).alloc (Nat.le_refl _) _).alloc (by simp) _).alloc (by simp; omega) _
  refine wpIn_rangeFunc_ownG hro h1' (gf := 79) (lb := #[.pointer (some ⟨w.heap.size + 1 + 1, 0, none⟩)]) rfl trivial (enters_of Tryd.func79 (by kernel_rfl) rfl)
    (back_stops Fence.wide (8 - 1) trivial hro (by decide) (w.heap.size + 1 + 1) w.heap.size L c ao _ h3 h1 _ (by simp) (by simp; omega) bN.cell (l1.below hB0)) Kb.trans (Kb.put (by simp; omega) (by simp)) (Below.refl _ _) (fun _ => rfl)
    (fun pre W => (AllEq n m L pre ∧ W.cell? ⟨w.heap.size, 0, none⟩ = some (.slice bo L d) ∧ W.cell? ⟨w.heap.size + 1, 0, none⟩ = some (.int .i64 0) ∧ W.frozen? ⟨w.heap.size + 1, 0, none⟩ = false) ∧ Below w.heap.size w W)
    (fun c pre W => (c = .ret ∧ ∃ z, Parted n m L pre z ∧ W.cell? ⟨w.heap.size + 1, 0, none⟩ = some (.int .i64 z)) ∧ Below w.heap.size w W)
    (OwnFrom.and (Own.from (fun s A B row hs hg hr => ⟨hs.1, cell_kept hs.2.1 hg hr, cell_kept hs.2.2.1 hg hr, (frozen_kept hs.2.2.1 hg hr).trans hs.2.2.2⟩) _) (ownFrom_below (Nat.le_refl _) (by simp; omega)))
    (fun c => OwnFrom.and (Own.from (fun s A B row hs hg hr => by obtain ⟨hc, z, e1, e4⟩ := hs; exact ⟨hc, z, e1, cell_kept e4 hg hr⟩) _) (ownFrom_below (Nat.le_refl _) (by simp; omega)))
    ⟨⟨(fun p hp => nomatch hp), ((bT.alloc _).alloc _).cell, (bR.alloc _).cell, (bR.alloc _).frozen⟩, hB0⟩
    (fun x => { tmps := #[.slice ao L c, .slice bo L d, undef, .pointer (some ⟨w.heap.size, 0, none⟩), .pointer (some ⟨w.heap.size + 1, 0, none⟩), .int .i64 (x.1 : Int), .int .u64 (lb n x.1 : Int), .slice ao L c, .int .i64 (L : Int), .slice bo L d, .int .i64 (L : Int), .bool false, undef, undef, undef, undef, undef, .slice ao L c, .func (.func 79) #[] #[.pointer (some ⟨w.heap.size + 1 + 1, 0, none⟩)], .int .i64 (x.1 : Int), .int .u64 (lb n x.1 : Int), undef, undef, undef, undef, undef, undef, undef, undef, undef, undef, undef, undef], defers := [] }) ?assign ?body ?done ?stop
  case assign =>
    intro l x W K hK
    gi_wp2
    exact hK
  case body =>
    rintro l pre x W ⟨⟨hp, hct, hcr, hfr⟩, hB⟩ _
    obtain ⟨j, hj⟩ := x
    obtain ⟨g, rfl, hg, hcx⟩ := (l2.below hB) j hj
    have hj0 : (0 : Int) ≤ (j : Int) := by omega
    have hj1 : (j : Int) < (L : Int) := by omega
    by_cases e : lb n j = lb m j
    · have e1 : ((lb n j : Int) == (lb m j : Int)) = true := by rw [e]; simp
      have HE : Hid (lb n j = lb m j) := e
      clear e
      gi_wp2
      exact ⟨KeepsFrom.refl _ _, Kb.refl _ _ _, ⟨hp.snoc HE.out, hct, hcr, hfr⟩, hB⟩
    · have e1 : ((lb n j : Int) == (lb m j : Int)) = false := by rw [beq_eq_false_iff_ne]; omega
      have HE : Hid (lb n j ≠ lb m j) := e
      clear e
      gi_wp2_with (refine ⟨trivial, ?_⟩; gi_at_call 78; refine (CallsIn.inRound l (callsIn_wide.2 (cmpU _ _ _))).mono ?_; rintro e w' ⟨rfl, hw⟩; subst hw)
      exact ⟨(KeepsOthers.setCell _ _ _).from _, ⟨rfl, _, ⟨pre, ⟨j, hj⟩, rfl, hp, HE.out, rfl⟩, World.cell?_setCell_same' _ _ _ (by rw [hcr]; rfl)⟩, hB.setCell (p := ⟨w.heap.size + 1, 0, none⟩) (by simp) _⟩
  case done =>
    rintro D ys W hD rfl ⟨⟨hne, _, hcr, hfr⟩, hB⟩ hK
    have HE : Hid (cmpI (n : Int) (m : Int) = 0) := cmpI_eq (by
      have := tops hn hm L 0 (by omega) (fun j _ h2 => hne ⟨j, h2⟩ (bk_mem _ h2 (by omega)))
      simp at this
      omega)
    gi_wp2
    have hK' := (KeepsOthers.setCell W ⟨w.heap.size + 1, 0, none⟩ (.int .i64 0)).same D _ hK rfl
    refine ⟨by simp, .inl ⟨_, _, rfl, run_takeDeferred hK', ?_⟩⟩
    have hc5 := cell_kept (World.cell?_setCell_same' W ⟨w.heap.size + 1, 0, none⟩ (.int .i64 0) (by rw [hcr]; rfl)) (grownBy_putObj' _ D (.deferred none)) (fun r e => by cases e; exact ⟨_, hK', rfl⟩)
    refine ⟨.int .i64 0, ?_, by rw [HE.out], (hB.setCell (p := ⟨w.heap.size + 1, 0, none⟩) (by simp) _).trans (belowK_b (w := w) (Nat.le_refl _) _ D _ _ (by simp at hD; omega) hK' rfl rfl)⟩
    simp [results, Tryd.f57, go_sem, hc5]
  case stop =>
    rintro D c pre W hD ⟨k, hk, rfl⟩ ⟨⟨rfl, z, e1, hcr⟩, hB⟩ hK
    obtain rfl := e1.cmp hn hm
    gi_wp2
    refine ⟨by simp, .inl ⟨_, _, rfl, run_takeDeferred hK, ?_⟩⟩
    have hc5 := cell_kept hcr (grownBy_putObj' _ D (.deferred none)) (fun r e => by cases e; exact ⟨_, hK, rfl⟩)
    refine ⟨.int .i64 (cmpI n m), ?_, rfl, hB.trans (belowK_b (w := w) (Nat.le_refl _) W D _ _ (by simp at hD; omega) hK rfl rfl)⟩
    simp [results, Tryd.f57, go_sem, hc5]
end Go.Proofs.YtcnlclocnnijgaaDoor
