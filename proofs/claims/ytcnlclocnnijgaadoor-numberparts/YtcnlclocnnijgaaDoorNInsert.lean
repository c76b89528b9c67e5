/-
  Contract of slices.Insert of one limb ahead of an own row, where the row must grow; the three ways together. Condition: at most ten thousand limbs.
-/
import Derived.Test.YtcnlclocnnijgaaDoorNPlus
import Derived.Shelf.Spec.SlicesInsertGrow
import Derived.RangeFuncCalls
namespace Go.Proofs.YtcnlclocnnijgaaDoor
open Go.RowKit
set_option linter.unusedVariables false

theorem row_cell {w : World} {B b c N j : Nat} {t : TypeId} {xs : List Value} {y : Value} (h : w.ownsRow B t 1 (.slice (some ⟨b, 0, none⟩) N c) N xs) (hj : j < N) : (w.setCell ⟨b, j, none⟩ y).ownsRow B t 1 (.slice (some ⟨b, 0, none⟩) N c) N (xs.set j y) := by
  refine ⟨by simpa using h.1, .inr ?_⟩
  rcases h.2 with ⟨h1, _⟩ | ⟨b', cap', cur, h1, h2, h3, h4, h5, h6, h7⟩
  · cases h1
  · cases h1
    refine ⟨b, c, _, rfl, h2, heap_setCell_same w b j cur t _ h3, h4, h5, by simpa using h6, ?_⟩
    rw [← h7]
    apply List.ext_getElem?
    intro i
    simp only [Nat.mul_one, List.getElem?_take, List.getElem?_set]
    by_cases hi : i < N
    · rw [if_pos hi]
      by_cases e : j = i
      · subst e
        have hc : j < cur.size := by rw [h6]; omega
        simp [hc]
        omega
      · simp [e, hi]
    · rw [if_neg hi]
      by_cases e : j = i
      · omega
      · simp [e, hi]
theorem row_cells {B b c N : Nat} {t : TypeId} : ∀ (ys : List Value) (o : Nat) (w : World) (xs : List Value), w.ownsRow B t 1 (.slice (some ⟨b, 0, none⟩) N c) N xs → o + ys.length ≤ N → (w.setCells b o ys).ownsRow B t 1 (.slice (some ⟨b, 0, none⟩) N c) N (xs.take o ++ ys ++ xs.drop (o + ys.length))
  | [], o, w, xs, h, _ => by simpa [World.setCells] using h
  | y :: ys, o, w, xs, h, ho => by
    simp only [List.length_cons] at ho
    have hl : xs.length = N := by have := h.1; omega
    have h1 := row_cells ys (o + 1) (w.setCell ⟨b, o, none⟩ y) (xs.set o y) (row_cell h (by omega)) (by omega)
    rw [World.setCells]
    have e : xs.take o ++ (y :: ys) ++ xs.drop (o + (y :: ys).length) = (xs.set o y).take (o + 1) ++ ys ++ (xs.set o y).drop (o + 1 + ys.length) := by
      rw [List.drop_set_of_lt (by omega), List.take_succ_eq_append_getElem (by simp; omega)]
      simp [List.take_set, List.length_cons, Nat.add_assoc, Nat.add_comm 1]
      rw [List.set_eq_of_length_le (by simp; omega)]
    rw [e]
    exact h1
theorem app45 (ty : TypeId) (ao : Option Addr) (l c : Nat) (x : Value) (w : World) : (Builtin.append_ #[46, 45] ty #[.slice ao l c, x]).run Tryd.prog w = (Builtin.append_ #[46, 46] ty #[.slice ao l c, x]).run Tryd.prog w := by
  obtain ⟨i0, hi, hz0, hz1, hz2⟩ := info_parts infoU
  simp [Builtin.append_, run_underlying Tryd.underlying46, run_underlying Tryd.underlying45, sizeOf, typeInfo, hi]

theorem own_cells {w : World} {B n : Nat} {v : Value} {f : Nat → Int} (h : OwN .u64 69 w B v n f) (j : Nat) (o : Obj) (hj : v.ownBlock = some j) (ho : w.heap[j]? = some o) : o.isCells = true := by
  rcases h.2 with ⟨rfl, _⟩ | ⟨b, cap, cur, rfl, _, h3, _⟩
  · cases hj
  · cases hj
    rw [h3] at ho
    cases ho
    rfl
theorem keeps_cells {b : Nat} : ∀ (ys : List Value) (o : Nat) (w : World), KeepsOthers w (w.setCells b o ys)
  | [], _, w => KeepsOthers.refl w
  | y :: ys, o, w => by
    rw [World.setCells]
    exact (KeepsOthers.setCell w _ _).trans (keeps_cells ys (o + 1) _)
theorem keeps_heap {w A B : World} (h : KeepsOthers w A) (e : B.heap = A.heap) : KeepsOthers w B := ⟨by rw [e]; exact h.size, fun k o hk ho => by rw [e]; exact h.same k o hk ho⟩

set_option maxRecDepth 100000 in
set_option maxHeartbeats 4000000 in
theorem insert_none (v : Value) (f : Nat → Int) (x : Int) (vb B : Nat) (w : World) (ho : OwN .u64 69 w B v 0 f) (hv : w.heap[vb]? = some (.cells #[.int .u64 x] 69 (0, 0))) (hB : B ≤ w.heap.size) :
    Calls Tryd.prog 63 #[v, .int .i64 0, .slice (some ⟨vb, 0, none⟩) 1 1] w fun e w' => ∃ v', e = .returned v' ∧ OwN .u64 69 w' B v' 1 (fun i => if i = 0 then x else f (i - 1)) ∧ Below B w w' ∧ KeepsOthers w w' := by
  obtain ⟨i0, hi, hz0, hz1, hz2⟩ := info_parts infoU
  have hcell : w.cell? ⟨vb, 0, none⟩ = some (.int .u64 x) := by rw [cells_at hv 0]; rfl
  have hrun : ∀ ty, ∃ v' w', (Builtin.append_ #[46, 46] ty #[v, .slice (some ⟨vb, 0, none⟩) 1 1]).run Tryd.prog w = .ok v' w' ∧ w'.ownsRow B 69 1 v' (0 + 1) ((lst f 0).map (Value.int .u64) ++ [.int .u64 x]) ∧ w.grownBy w' v.ownBlock ∧ (v' = .slice none 0 0 ↔ v = .slice none 0 0 ∧ 1 = 0) := fun ty =>
    run_append_own w B 46 ty 69 i0 (.int .u64 0) 1 8 Tryd.underlying46 hi hz0 hz1 hz2 rfl (by decide) v 0 _ ho ⟨vb, 0, none⟩ 1 1 [.int .u64 x] rfl (fun j u hj => by
      cases j with
      | zero => simp at hj; subst hj; exact hcell
      | succ j => simp at hj) (by intro u hu; simp at hu; subst hu; rfl) (by unfold maxLen; omega) (by omega) hB
  obtain ⟨v', w', r1, r2, r3, _⟩ := hrun 46
  have HE : Hid (OwN .u64 69 w' B v' 1 (fun i => if i = 0 then x else f (i - 1)) ∧ Below B w w' ∧ KeepsOthers w w') := by
    refine ⟨?_, (Below.refl B w).grown r3 hB (fun q hq => (World.ownsRow.lt ho q hq).1), KeepsOthers.of_grownBy r3 (own_cells ho)⟩
    unfold OwN
    have e : (lst (fun i => if i = 0 then x else f (i - 1)) 1).map (Value.int .u64) = [.int .u64 x] := by simp [lst]
    rw [e]
    simpa [lst] using r2
  rcases ho.open with ⟨rfl, _⟩ | ⟨b, c, rfl, q1, q2, q3, q4⟩
  · rw [← app45] at r1
    clear ho hrun r2 r3
    go_enter Tryd.func63, Tryd.ntmps63
    go_wp2_with (at_builtin; refine Lib.wpList_append_run _ rfl _ _ _ _ rfl _ _ rfl rfl _ _ r1 ?_)
    go_ret
    exact ⟨_, rfl, HE.out⟩
  · rw [← app45] at r1
    clear ho hrun r2 r3
    go_enter Tryd.func63, Tryd.ntmps63
    go_wp2_with (at_builtin; refine Lib.wpList_append_run _ rfl _ _ _ _ rfl _ _ rfl rfl _ _ r1 ?_)
    all_goals
      go_ret
      exact ⟨_, rfl, HE.out⟩

theorem below_cells {B b : Nat} {w : World} : ∀ (ys : List Value) (o : Nat) (w' : World), Below B w w' → B ≤ b → Below B w (w'.setCells b o ys)
  | [], _, _, h, _ => h
  | y :: ys, o, w', h, hb => by
    rw [World.setCells]
    exact below_cells ys (o + 1) _ (h.setCell (p := ⟨b, o, none⟩) hb y) hb
theorem u64one : (Tryd.prog.info? 69).map (·.size) = some 1 := by kernel_rfl
theorem u64size : ∀ w, (Go.sizeOf 69).run Tryd.prog w = .ok 1 w := fun w => by
  obtain ⟨i0, hi, hz0, hz1, hz2⟩ := info_parts infoU
  simp [Go.sizeOf, typeInfo, hi, hz1]
/-- The row with one more ahead, as a list. -/
theorem ahead_row {w : World} {B b c n : Nat} {f : Nat → Int} {x : Int} (h : w.ownsRow B 69 1 (.slice (some ⟨b, 0, none⟩) (n + 1) c) (n + 1) (.int .u64 x :: (lst f n).map (Value.int .u64))) : OwN .u64 69 w B (.slice (some ⟨b, 0, none⟩) (n + 1) c) (n + 1) (fun i => if i = 0 then x else f (i - 1)) := by
  unfold OwN
  have e : (lst (fun i => if i = 0 then x else f (i - 1)) (n + 1)).map (Value.int .u64) = .int .u64 x :: (lst f n).map (Value.int .u64) := by
    apply List.ext_getElem?
    intro i
    cases i with
    | zero => rw [List.getElem?_map, lst_get _ _ 0 (by omega)]; simp
    | succ i =>
      rw [List.getElem?_map, List.getElem?_cons_succ, List.getElem?_map]
      by_cases hi : i < n
      · rw [lst_get _ _ _ (by omega), lst_get _ _ _ hi]; simp
      · rw [List.getElem?_eq_none (by rw [lst_length]; omega), List.getElem?_eq_none (by rw [lst_length]; omega)]
  rw [e]
  exact h

set_option maxRecDepth 100000 in
set_option maxHeartbeats 4000000 in
theorem insert_shift (b c n : Nat) (f : Nat → Int) (x : Int) (vb B : Nat) (w : World) (ho : OwN .u64 69 w B (.slice (some ⟨b, 0, none⟩) n c) n f) (hv : w.heap[vb]? = some (.cells #[.int .u64 x] 69 (0, 0))) (hvb : vb ≠ b) (hn0 : 0 < n) (hroom : n + 1 ≤ c) (hn : n ≤ 10000) :
    Calls Tryd.prog 63 #[.slice (some ⟨b, 0, none⟩) n c, .int .i64 0, .slice (some ⟨vb, 0, none⟩) 1 1] w fun e w' => ∃ v', e = .returned v' ∧ OwN .u64 69 w' B v' (n + 1) (fun i => if i = 0 then x else f (i - 1)) ∧ Below B w w' ∧ KeepsOthers w w' := by
  have hcell : w.cell? ⟨vb, 0, none⟩ = some (.int .u64 x) := by rw [cells_at hv 0]; rfl
  obtain ⟨cs, hcs⟩ : ∃ cs, (lst f n).map (Value.int .u64) = cs := ⟨_, rfl⟩
  have hcl : cs.length = n := by rw [← hcs]; simp [lst_length]
  have h1c : ∀ v ∈ cs, v.oneCell' = true := fun v hv => by
    rw [← hcs, List.mem_map] at hv
    obtain ⟨_, _, rfl⟩ := hv
    rfl
  have hO : w.ownsRow B 69 1 (.slice (some ⟨b, 0, none⟩) n c) n cs := by rw [← hcs]; exact ho
  obtain ⟨cur, h3, h2, h5, h6, h7⟩ : ∃ cur, w.heap[b]? = some (.cells cur 69 (0, 0)) ∧ B ≤ b ∧ c ≤ maxLen ∧ cur.size = c * 1 ∧ cur.toList.take (n * 1) = cs := by
    rcases hO.2 with ⟨h1, _⟩ | ⟨b', cap', cur, h1, h2, h3, h4, h5, h6, h7⟩
    · cases h1
    · cases h1; exact ⟨cur, h3, h2, h5, h6, h7⟩
  unfold maxLen at h5
  have hcsz : cur.size = c := by omega
  have hat : ∀ j, w.cell? ⟨b, j, none⟩ = cur[j]? := fun j => cells_at h3 j
  have hsp : ∀ j, j < n + 1 → (w.cell? ⟨b, j, none⟩).isSome = true := fun j hj => by rw [hat, Array.getElem?_eq_getElem (by omega)]; rfl
  have hfz : ∀ j, w.frozen? ⟨b, j, none⟩ = false := fun j => cells_free h3 j
  have hget : ∀ j v, cs[j]? = some v → w.cell? ⟨b, j, none⟩ = some v := fun j v hj => by
    have hjn : j < n := by rw [← hcl]; exact (List.getElem?_eq_some_iff.1 hj).1
    rw [hat, ← Array.getElem?_toList]
    rw [← h7, List.getElem?_take, if_pos (by omega)] at hj
    exact hj
  have hsa : w.shape? vb = some (69, 1) := by simp [World.shape?, hv]
  have hsb : w.shape? b = some (69, c) := by simp [World.shape?, h3, hcsz]
  have hov : ∀ lb cb, (callFunc 80 #[.slice (some ⟨vb, 0, none⟩) 1 1, .slice (some ⟨b, 1, none⟩) lb cb]).run Tryd.prog w = .ok (.value (.bool false)) w := fun lb cb => by
    rw [run_callFunc_extern Tryd.func80 (by kernel_rfl) (by kernel_rfl) (by kernel_rfl) (e := Extern.SlicesOverlaps.overlaps #[45, 45] #[4]) (by kernel_rfl),
      Lib.run_overlaps_apart w 45 4 69 Tryd.underlying45 1 u64size ⟨vb, 0, none⟩ ⟨b, 1, none⟩ 1 1 lb cb hvb 69 69 1 c hsa hsb (by omega) (cells_free hv 0) (cells_free hv 1)]
    rfl
  have hcp1 : ∀ ty dc sc, (Builtin.copy_ #[46, 46] ty #[.slice (some ⟨b, 1, none⟩) n dc, .slice (some ⟨b, 0, none⟩) (n + 1) sc]).run Tryd.prog w.drew = .ok (goInt cs.length) (w.drew.setCells b 1 cs) := fun ty dc sc =>
    run_copy_cells w.drew _ _ ty 69 b 1 n dc ⟨b, 0, none⟩ (n + 1) sc cs Tryd.underlying46 u64one (by rw [hcl]; simp only [Nat.min_def]; split <;> omega)
      (fun j v hj => by rw [Addr.add_lit, Nat.zero_add]; exact hget j v hj)
      (fun j hj => hsp _ (by omega)) (fun j hj => hfz _) h1c
  obtain ⟨W1, hW1⟩ : ∃ W1, W1 = w.drew.setCells b 1 cs := ⟨_, rfl⟩
  have hsp1 : ∀ k, k < n + 1 → (W1.cell? ⟨b, k, none⟩).isSome = true := fun k hk => by
    rw [hW1]
    exact isSome_setCells b cs 1 w.drew (fun j hj => hsp (1 + j) (by omega)) k (hsp k hk)
  have hcp2 : ∀ (W : World), (∀ x, W.cell? x = W1.cell? x) → (∀ x, W.frozen? x = W1.frozen? x) → ∀ ty dc, (Builtin.copy_ #[46, 45] ty #[.slice (some ⟨b, 0, none⟩) (n + 1) dc, .slice (some ⟨vb, 0, none⟩) 1 1]).run Tryd.prog W = .ok (goInt [Value.int .u64 x].length) (W.setCells b 0 [.int .u64 x]) := fun W hWc hWf ty dc =>
    run_copy_cells W _ _ ty 69 b 0 (n + 1) dc ⟨vb, 0, none⟩ 1 1 [.int .u64 x] Tryd.underlying46 u64one (by simp only [Nat.min_def]; split <;> simp_all <;> omega)
      (fun j v hj => by
        cases j with
        | zero =>
          simp at hj
          subst hj
          rw [Addr.add_lit, hWc, hW1, World.cell?_setCells_out b _ _ _ _ (fun h _ => absurd h hvb)]
          exact hcell
        | succ j => simp at hj)
      (fun j hj => by rw [hWc]; exact hsp1 _ (by simp at hj; omega)) (fun j hj => by rw [hWf, hW1, World.frozen?_setCells]; exact hfz _) (by intro u hu; simp at hu; subst hu; rfl)
  have HE : Hid (∀ wf : World, wf.heap = ((w.drew.setCells b 1 cs).setCells b 0 [.int .u64 x]).heap → wf.os = ((w.drew.setCells b 1 cs).setCells b 0 [.int .u64 x]).os → wf.tape = ((w.drew.setCells b 1 cs).setCells b 0 [.int .u64 x]).tape → wf.output = ((w.drew.setCells b 1 cs).setCells b 0 [.int .u64 x]).output → OwN .u64 69 wf B (.slice (some ⟨b, 0, none⟩) (n + 1) c) (n + 1) (fun i => if i = 0 then x else f (i - 1)) ∧ Below B w wf ∧ KeepsOthers w wf) := fun wf e1 e2 e3 e4 => by
    have r0 : w.drew.ownsRow B 69 1 (.slice (some ⟨b, 0, none⟩) (n + 1) c) (n + 1) (cur.toList.take (n + 1)) := ⟨by simp; omega, .inr ⟨b, c, cur, rfl, h2, h3, hroom, by unfold maxLen; omega, by omega, by simp⟩⟩
    have r1 := row_cells cs 1 _ _ r0 (by omega)
    have r2 := row_cells [.int .u64 x] 0 _ _ r1 (by simp)
    have hne : ∃ y rest, cur.toList.take (n + 1) = y :: rest := by
      cases hq : cur.toList.take (n + 1) with
      | nil =>
        have := congrArg List.length hq
        rw [List.length_take, Array.length_toList] at this
        simp only [List.length_nil] at this
        omega
      | cons y rest => exact ⟨y, rest, rfl⟩
    obtain ⟨y, rest, hyr⟩ := hne
    have hlr : rest.length = n := by
      have := congrArg List.length hyr
      rw [List.length_take, Array.length_toList] at this
      simp only [List.length_cons] at this
      omega
    rw [hyr] at r2
    have el : (List.take 0 (List.take 1 (y :: rest) ++ cs ++ List.drop (1 + cs.length) (y :: rest)) ++ [Value.int .u64 x] ++ List.drop (0 + [Value.int .u64 x].length) (List.take 1 (y :: rest) ++ cs ++ List.drop (1 + cs.length) (y :: rest))) = .int .u64 x :: cs := by
      have : List.drop cs.length rest = [] := List.drop_eq_nil_of_le (by omega)
      simp [Nat.add_comm 1, this]
    rw [el] at r2
    refine ⟨ahead_row (by rw [hcs]; exact row_heap r2 e1), ?_, keeps_heap (((KeepsOthers.drew w).trans (keeps_cells _ _ _)).trans (keeps_cells _ _ _)) e1⟩
    have kb : Below B w ((w.drew.setCells b 1 cs).setCells b 0 [.int .u64 x]) := below_cells _ _ _ (below_cells _ _ _ (blw_drewN 1 (Below.refl B w)) h2) h2
    exact ⟨e2.trans kb.os, e3.trans kb.tape, e4.trans kb.output, by rw [e1]; exact kb.size, fun k hk => by rw [e1]; exact kb.block k hk⟩
  rw [← hW1] at hcp1
  have hw1 : IntKind.i64.wrap 1 = 1 := by rw [IntKind.wrap_i64]; omega
  have hb9 : (0 : Int) ≤ (n : Int) + 1 := by omega
  have hb2 : ¬ (c = 1) := by omega
  have hb4 : ¬ (c = 0) := by omega
  have hb5 : (1 : Int) ≤ (n : Int) + 1 := by omega
  have hb6 : ¬ ((c : Int) < (n : Int) + 1) := by omega
  have hb7 : ¬ ((0 : Int) = (n : Int)) := by omega
  have hb8 : (n : Int) + 1 ≤ (c : Int) := by omega
  clear ho hO hat hsp hsa hsb hget h7 h6
  go_enter Tryd.func63, Tryd.ntmps63
  go_wp2_with (simp only [hov])
  go_region_law (refine step_copy_runI rfl _ _ 46 46 rfl _ _ (by simp [Act.eval, Act.put]) (by simp [Act.eval, Act.put]) (hcp1 _ _ _) ?_)
  go_wp2_with (at_builtin; refine wpList_copy_runI _ rfl _ _ 46 45 rfl _ _ rfl rfl (hcp2 _ (fun _ => rfl) (fun _ => rfl) _ _) ?_)
  go_ret
  subst hW1
  exact ⟨_, rfl, HE.out _ rfl rfl rfl rfl⟩
end Go.Proofs.YtcnlclocnnijgaaDoor
namespace Go.Proofs.YtcnlclocnnijgaaDoor
open Go.RowKit
set_option linter.unusedVariables false

set_option maxRecDepth 100000 in
set_option maxHeartbeats 4000000 in
theorem insert_grow (b c n : Nat) (f : Nat → Int) (x : Int) (vb B : Nat) (w : World) (ho : OwN .u64 69 w B (.slice (some ⟨b, 0, none⟩) n c) n f) (hv : w.heap[vb]? = some (.cells #[.int .u64 x] 69 (0, 0))) (hn0 : 0 < n) (hroom : c < n + 1) (hn : n ≤ 10000) (hB : B ≤ w.heap.size) :
    Calls Tryd.prog 63 #[.slice (some ⟨b, 0, none⟩) n c, .int .i64 0, .slice (some ⟨vb, 0, none⟩) 1 1] w fun e w' => ∃ v', e = .returned v' ∧ OwN .u64 69 w' B v' (n + 1) (fun i => if i = 0 then x else f (i - 1)) ∧ Below B w w' ∧ KeepsOthers w w' := by
  obtain ⟨i0, hi, hz0, hz1, hz2⟩ := info_parts infoU
  have hcell : w.cell? ⟨vb, 0, none⟩ = some (.int .u64 x) := by rw [cells_at hv 0]; rfl
  have hvw : vb < w.heap.size := (Array.getElem?_eq_some_iff.1 hv).1
  obtain ⟨cs, hcs⟩ : ∃ cs, (lst f n).map (Value.int .u64) = cs := ⟨_, rfl⟩
  have hcl : cs.length = n := by rw [← hcs]; simp [lst_length]
  have h1c : ∀ v ∈ cs, v.oneCell' = true := fun v hv => by
    rw [← hcs, List.mem_map] at hv
    obtain ⟨_, _, rfl⟩ := hv
    rfl
  have hget : ∀ j v, cs[j]? = some v → w.cell? ⟨b, j, none⟩ = some v := fun j v hj => by
    have hjn : j < n := by rw [← hcl]; exact (List.getElem?_eq_some_iff.1 hj).1
    rw [← hcs, List.getElem?_map, lst_get _ _ _ hjn] at hj
    rw [ho.cellF j hjn]
    simpa using hj
  have hbw : b < w.heap.size := World.block_lt_of_cell? w _ (hget 0 _ (List.getElem?_eq_getElem (by omega)))
  have hnc : n ≤ c := by
    rcases ho.open with ⟨h1, _⟩ | ⟨b', c', h1, _, _, h3, _⟩
    · cases h1
    · cases h1; exact h3
  have hcn : c = n := by omega
  have hold : (Builtin.firstCells i0.size 0 (.slice (some ⟨b, 0, none⟩) 0 c)).run Tryd.prog w.drew = .ok ([] : List Value).toArray w.drew := by
    rw [hz1]
    exact run_firstCells_some w.drew 1 0 ⟨b, 0, none⟩ 0 c [] rfl (fun j v hj => by simp at hj)
  obtain ⟨G, hG⟩ : ∃ G, G = grownCap w (n + 1) c 69 := ⟨_, rfl⟩
  obtain ⟨ROW, hROW⟩ : ∃ ROW : Array Value, ROW = ([] : List Value).toArray ++ Builtin.zeroCells (Value.int .u64 0).cells (n + 1) ++ Builtin.zeroCells (Value.int .u64 0).cells (G - (n + 1)) := ⟨_, rfl⟩
  have hrz : ∀ ty, (Builtin.append_ #[46, 3] ty #[.slice (some ⟨b, 0, none⟩) 0 c, .int .i64 ((n : Int) + 1)]).run Tryd.prog w = .ok (.slice (some ⟨w.heap.size, 0, none⟩) (n + 1) G) (w.drew.alloc (.cells ROW 69)) := fun ty => by
    have h := Lib.run_append_grow_zeros w 46 3 ty 69 i0 _ .i64 .i64 Tryd.underlying46 Tryd.underlying3 hi hz0 (some ⟨b, 0, none⟩) 0 c [] hold (n + 1) (by omega) (by omega) (by omega) (by omega) (by rw [hz2]; omega) (by rw [hz2, Nat.zero_add]; exact growslice_fits hroom (by omega))
    rw [Nat.zero_add, ← hG, ← hROW, show ((n + 1 : Nat) : Int) = (n : Int) + 1 by omega] at h
    exact h
  have hGn : n + 1 ≤ G := by rw [hG]; exact grownCap_ge w _ _ _
  have hG63 : G ≤ 9223372036854775807 := by
    have := grownCap_le_maxLen w (n + 1) c 69 (by unfold maxLen; omega)
    rw [← hG] at this
    unfold maxLen at this
    omega
  have hRs : ROW.size = G := by
    rw [hROW]
    simp [Builtin.zeroCells, Value.cells]
    omega
  obtain ⟨W1, hW1⟩ : ∃ W1, W1 = w.drew.alloc (.cells ROW 69) := ⟨_, rfl⟩
  have hN : ∀ j, j < n + 1 → (W1.cell? ⟨w.heap.size, j, none⟩).isSome = true := fun j hj => by
    rw [hW1, World.cell?_alloc_at (w := w.drew) ROW _ w.heap.size j rfl, Array.getElem?_eq_getElem (by omega)]; rfl
  have hNf : ∀ j, W1.frozen? ⟨w.heap.size, j, none⟩ = false := fun j => by rw [hW1]; exact World.frozen?_alloc_at (w := w.drew) ROW _ w.heap.size j rfl
  have hOb : ∀ j v, w.cell? ⟨b, j, none⟩ = some v → W1.cell? ⟨b, j, none⟩ = some v := fun j v h => by rw [hW1, World.cell?_alloc_past (w := w.drew) _ b j hbw]; exact h
  have hOv : W1.cell? ⟨vb, 0, none⟩ = some (.int .u64 x) := by rw [hW1, World.cell?_alloc_past (w := w.drew) _ vb 0 hvw]; exact hcell
  have hcpA : ∀ (W : World), (∀ x, W.cell? x = W1.cell? x) → (∀ x, W.frozen? x = W1.frozen? x) → ∀ ty dc, (Builtin.copy_ #[46, 45] ty #[.slice (some ⟨w.heap.size, 0, none⟩) (n + 1) dc, .slice (some ⟨vb, 0, none⟩) 1 1]).run Tryd.prog W = .ok (goInt [Value.int .u64 x].length) (W.setCells w.heap.size 0 [.int .u64 x]) := fun W hWc hWf ty dc =>
    run_copy_cells W _ _ ty 69 w.heap.size 0 (n + 1) dc ⟨vb, 0, none⟩ 1 1 [.int .u64 x] Tryd.underlying46 u64one (by simp only [Nat.min_def]; split <;> simp_all <;> omega)
      (fun j v hj => by
        cases j with
        | zero => simp at hj; subst hj; rw [Addr.add_lit, hWc]; exact hOv
        | succ j => simp at hj)
      (fun j hj => by rw [hWc]; exact hN _ (by simp at hj; omega)) (fun j hj => by rw [hWf]; exact hNf _) (by intro u hu; simp at hu; subst hu; rfl)
  have hbN : b ≠ w.heap.size := by omega
  have hcpB : ∀ (W : World), (∀ y, W.cell? y = (W1.setCells w.heap.size 0 [.int .u64 x]).cell? y) → (∀ y, W.frozen? y = (W1.setCells w.heap.size 0 [.int .u64 x]).frozen? y) → ∀ ty dc sc, (Builtin.copy_ #[46, 46] ty #[.slice (some ⟨w.heap.size, 1, none⟩) n dc, .slice (some ⟨b, 0, none⟩) n sc]).run Tryd.prog W = .ok (goInt cs.length) (W.setCells w.heap.size 1 cs) := fun W hWc hWf ty dc sc =>
    run_copy_cells W _ _ ty 69 w.heap.size 1 n dc ⟨b, 0, none⟩ n sc cs Tryd.underlying46 u64one (by rw [hcl]; simp only [Nat.min_def]; split <;> omega)
      (fun j v hj => by
        rw [Addr.add_lit, Nat.zero_add, hWc, World.cell?_setCells_out _ _ _ _ _ (fun h _ => absurd h hbN)]
        exact hOb _ v (hget j v hj))
      (fun j hj => by rw [hWc]; exact isSome_setCells _ _ _ _ (fun t ht => hN _ (by simp at ht; omega)) _ (hN _ (by omega)))
      (fun j hj => by rw [hWf, World.frozen?_setCells]; exact hNf _) h1c
  have HE : Hid (∀ W2 : World, W2.heap = W1.heap → W2.os = w.os → W2.tape = w.tape → W2.output = w.output → OwN .u64 69 ((W2.setCells w.heap.size 0 [.int .u64 x]).setCells w.heap.size 1 cs) B (.slice (some ⟨w.heap.size, 0, none⟩) (n + 1) G) (n + 1) (fun i => if i = 0 then x else f (i - 1)) ∧ Below B w ((W2.setCells w.heap.size 0 [.int .u64 x]).setCells w.heap.size 1 cs) ∧ KeepsOthers w ((W2.setCells w.heap.size 0 [.int .u64 x]).setCells w.heap.size 1 cs)) := fun W2 e1 e2 e3 e4 => by
    have hW1h : W2.heap[w.heap.size]? = some (.cells ROW 69 (0, 0)) := by rw [e1, hW1]; exact heap_alloc_at w.drew _ _ rfl
    have r0 : W2.ownsRow B 69 1 (.slice (some ⟨w.heap.size, 0, none⟩) (n + 1) G) (n + 1) (ROW.toList.take (n + 1)) := ⟨by simp; omega, .inr ⟨w.heap.size, G, ROW, rfl, hB, hW1h, hGn, by unfold maxLen; omega, by omega, by simp⟩⟩
    have r1 := row_cells [.int .u64 x] 0 _ _ r0 (by simp)
    have r2 := row_cells cs 1 _ _ r1 (by omega)
    have hlen : (ROW.toList.take (n + 1)).length = n + 1 := by rw [List.length_take, Array.length_toList]; omega
    have el : (List.take 1 (List.take 0 (ROW.toList.take (n + 1)) ++ [Value.int .u64 x] ++ List.drop (0 + [Value.int .u64 x].length) (ROW.toList.take (n + 1))) ++ cs ++ List.drop (1 + cs.length) (List.take 0 (ROW.toList.take (n + 1)) ++ [Value.int .u64 x] ++ List.drop (0 + [Value.int .u64 x].length) (ROW.toList.take (n + 1)))) = .int .u64 x :: cs := by
      generalize ROW.toList.take (n + 1) = L at *
      have : List.drop (1 + cs.length) ([Value.int .u64 x] ++ List.drop 1 L) = [] := List.drop_eq_nil_of_le (by simp; omega)
      simp at this ⊢
      exact this
    rw [el] at r2
    have k1 : Below B w W1 := by
      rw [hW1]
      exact (blw_drewN 1 (Below.refl B w)).alloc hB _
    have k2 : Below B w W2 := ⟨e2, e3, e4, by rw [e1]; exact k1.size, fun k hk => by rw [e1]; exact k1.block k hk⟩
    have k3 : KeepsOthers w W2 := keeps_heap (by rw [hW1]; exact (KeepsOthers.drew w).trans (KeepsOthers.alloc _ _)) e1
    exact ⟨ahead_row (by rw [hcs]; exact r2), below_cells _ _ _ (below_cells _ _ _ k2 hB) hB, (k3.trans (keeps_cells _ _ _)).trans (keeps_cells _ _ _)⟩
  subst hW1
  have hE1 : ∀ x, ((w.alloc (.cells ROW 69)).drew).cell? x = (w.drew.alloc (.cells ROW 69)).cell? x := fun x => rfl
  have hE2 : ∀ x, ((w.alloc (.cells ROW 69)).drew).frozen? x = (w.drew.alloc (.cells ROW 69)).frozen? x := fun x => rfl
  have hF1 : ∀ y, (((w.alloc (.cells ROW 69)).drew.setCells w.heap.size 0 [.int .u64 x]).drew).cell? y = ((w.drew.alloc (.cells ROW 69)).setCells w.heap.size 0 [.int .u64 x]).cell? y := fun y => rfl
  have hF2 : ∀ y, (((w.alloc (.cells ROW 69)).drew.setCells w.heap.size 0 [.int .u64 x]).drew).frozen? y = ((w.drew.alloc (.cells ROW 69)).setCells w.heap.size 0 [.int .u64 x]).frozen? y := fun y => rfl
  have hw1 : IntKind.i64.wrap 1 = 1 := by rw [IntKind.wrap_i64]; omega
  have hb9 : (0 : Int) ≤ (n : Int) + 1 := by omega
  have hb5 : (1 : Int) ≤ (n : Int) + 1 := by omega
  have hb6 : (c : Int) < (n : Int) + 1 := by omega
  have hb7 : ¬ ((0 : Int) = (n : Int)) := by omega
  have hg1 : ¬ (G = 1) := by omega
  have hg0 : ¬ (G = 0) := by omega
  have hc0 : ¬ (c = 0) := by omega
  have hc9 : (0 : Int) ≤ (c : Int) := by omega
  clear ho hget hold hROW hRs hcn hnc hG hN hNf hOb hOv
  go_enter Tryd.func63, Tryd.ntmps63
  go_wp2_with (first
    | (at_builtin; refine Lib.wpList_append_run _ rfl _ _ _ _ rfl _ _ rfl rfl _ _ (hrz _) ?_)
    | (at_builtin; refine wpList_copy_runI _ rfl _ _ 46 45 rfl _ _ rfl rfl (hcpA _ hE1 hE2 _ _) ?_))
  go_region_law (refine step_copy_runI rfl _ _ 46 46 rfl (.slice (some ⟨w.heap.size, 1, none⟩) n (G - 1)) (.slice (some ⟨b, 0, none⟩) n c) (by simp [Act.eval, Act.put]) (by simp [Act.eval, Act.put]) (hcpB _ hF1 hF2 3 (G - 1) c) ?_)
  go_wp2
  go_ret
  rw [drew_setCells]
  exact ⟨_, rfl, HE.out _ rfl rfl rfl rfl⟩

/-- One limb ahead of an own row, whichever way it goes. -/
theorem insert0 (v : Value) (n : Nat) (f : Nat → Int) (x : Int) (vb B : Nat) (w : World) (ho : OwN .u64 69 w B v n f) (hv : w.heap[vb]? = some (.cells #[.int .u64 x] 69 (0, 0))) (hvb : v.ownBlock ≠ some vb) (hn : n ≤ 10000) (hB : B ≤ w.heap.size) :
    Calls Tryd.prog 63 #[v, .int .i64 0, .slice (some ⟨vb, 0, none⟩) 1 1] w fun e w' => ∃ v', e = .returned v' ∧ OwN .u64 69 w' B v' (n + 1) (fun i => if i = 0 then x else f (i - 1)) ∧ Below B w w' ∧ KeepsOthers w w' := by
  rcases Nat.eq_zero_or_pos n with rfl | hn0
  · exact insert_none v f x vb B w ho hv hB
  · rcases ho.open with ⟨_, e⟩ | ⟨b, c, rfl, _, _, h3, _⟩
    · omega
    · by_cases hroom : n + 1 ≤ c
      · exact insert_shift b c n f x vb B w ho hv (fun e => hvb (by rw [e]; rfl)) hn0 hroom hn
      · exact insert_grow b c n f x vb B w ho hv hn0 (by omega) hn hB
end Go.Proofs.YtcnlclocnnijgaaDoor
