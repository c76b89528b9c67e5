/-
  Contract of slices.Insert of one limb ahead of an own row, where the row must grow; the three ways together. Condition: at most ten thousand limbs.
-/
import Derived.Test.YtcnlclocnnijgaaDoorNIns
namespace Go.Proofs.YtcnlclocnnijgaaDoor
open Go.RowKit
set_option linter.unusedVariables false

set_option maxRecDepth 100000 in
set_option maxHeartbeats 4000000 in
theorem insert_grow (b c n : Nat) (f : Nat → Int) (x : Int) (vb B : Nat) (w : World) (ho : OwN .u64 69 w B (.slice (some ⟨b, 0, none⟩) n c) n f) (hv : w.heap[vb]? = some (.cells #[.int .u64 x] 69 (0, 0))) (hn0 : 0 < n) (hroom : c < n + 1) (hn : n ≤ 10000) (hB : B ≤ w.heap.size) :
    Calls Tryd.prog 63 #[.slice (some ⟨b, 0, none⟩) n c, .int .i64 0, .slice (some ⟨vb, 0, none⟩) 1 1] w fun e w' => ∃ v', e = .returned v' ∧ OwN .u64 69 w' B v' (n + 1) (fun i => if i = 0 then x else f (i - 1)) ∧ Below B w w' ∧ KeepsOthers w w' := by
  obtain ⟨i0, hi, hz0, hz1, hz2⟩ := info_parts infoU
  have hcell : w.cell? ⟨vb, 0, none⟩ = some (.int .u64 x) := by rw [cells_at hv 0]; rfl
  have hvw : vb < w.heap.size := (Array.getElem?_eq_some_iff.1 hv).1
  obtain ⟨cs, hcs⟩ : ∃ cs, (lst f n).map (Value.int .u64) = cs := ⟨_, rfl⟩
  have hcl : cs.length = n := by rw [← hcs]; simp [lst_length]
  have h1c : ∀ v ∈ cs, v.oneCell' = true := fun v hv => by
    rw [← hcs, List.mem_map] at hv
    obtain ⟨_, _, rfl⟩ := hv
    rfl
  have hget : ∀ j v, cs[j]? = some v → w.cell? ⟨b, j, none⟩ = some v := fun j v hj => by
    have hjn : j < n := by rw [← hcl]; exact (List.getElem?_eq_some_iff.1 hj).1
    rw [← hcs, List.getElem?_map, lst_get _ _ _ hjn] at hj
    rw [ho.cellF j hjn]
    simpa using hj
  have hbw : b < w.heap.size := World.block_lt_of_cell? w _ (hget 0 _ (List.getElem?_eq_getElem (by omega)))
  have hnc : n ≤ c := by
    rcases ho.open with ⟨h1, _⟩ | ⟨b', c', h1, _, _, h3, _⟩
    · cases h1
    · cases h1; exact h3
  have hcn : c = n := by omega
  have hold : (Builtin.firstCells i0.size 0 (.slice (some ⟨b, 0, none⟩) 0 c)).run Tryd.prog w.drew = .ok ([] : List Value).toArray w.drew := by
    rw [hz1]
    exact run_firstCells_some w.drew 1 0 ⟨b, 0, none⟩ 0 c [] rfl (fun j v hj => by simp at hj)
  obtain ⟨G, hG⟩ : ∃ G, G = grownCap w (n + 1) c 69 := ⟨_, rfl⟩
  obtain ⟨ROW, hROW⟩ : ∃ ROW : Array Value, ROW = ([] : List Value).toArray ++ Builtin.zeroCells (Value.int .u64 0).cells (n + 1) ++ Builtin.zeroCells (Value.int .u64 0).cells (G - (n + 1)) := ⟨_, rfl⟩
  have hrz : ∀ ty, (Builtin.append_ #[46, 3] ty #[.slice (some ⟨b, 0, none⟩) 0 c, .int .i64 ((n : Int) + 1)]).run Tryd.prog w = .ok (.slice (some ⟨w.heap.size, 0, none⟩) (n + 1) G) (w.drew.alloc (.cells ROW 69)) := fun ty => by
    have h := Lib.run_append_grow_zeros w 46 3 ty 69 i0 _ .i64 .i64 Tryd.underlying46 Tryd.underlying3 hi hz0 (some ⟨b, 0, none⟩) 0 c [] hold (n + 1) (by omega) (by omega) (by omega) (by omega) (by rw [hz2]; omega) (by rw [hz2, Nat.zero_add]; exact growslice_fits hroom (by omega))
    rw [Nat.zero_add, ← hG, ← hROW, show ((n + 1 : Nat) : Int) = (n : Int) + 1 by omega] at h
    exact h
  have hGn : n + 1 ≤ G := by rw [hG]; exact grownCap_ge w _ _ _
  have hG63 : G ≤ 9223372036854775807 := by
    have := grownCap_le_maxLen w (n + 1) c 69 (by unfold maxLen; omega)
    rw [← hG] at this
    unfold maxLen at this
    omega
  have hRs : ROW.size = G := by
    rw [hROW]
    simp [Builtin.zeroCells, Value.cells]
    omega
  obtain ⟨W1, hW1⟩ : ∃ W1, W1 = w.drew.alloc (.cells ROW 69) := ⟨_, rfl⟩
  have hN : ∀ j, j < n + 1 → (W1.cell? ⟨w.heap.size, j, none⟩).isSome = true := fun j hj => by
    rw [hW1, World.cell?_alloc_at (w := w.drew) ROW _ w.heap.size j rfl, Array.getElem?_eq_getElem (by omega)]; rfl
  have hNf : ∀ j, W1.frozen? ⟨w.heap.size, j, none⟩ = false := fun j => by rw [hW1]; exact World.frozen?_alloc_at (w := w.drew) ROW _ w.heap.size j rfl
  have hOb : ∀ j v, w.cell? ⟨b, j, none⟩ = some v → W1.cell? ⟨b, j, none⟩ = some v := fun j v h => by rw [hW1, World.cell?_alloc_past (w := w.drew) _ b j hbw]; exact h
  have hOv : W1.cell? ⟨vb, 0, none⟩ = some (.int .u64 x) := by rw [hW1, World.cell?_alloc_past (w := w.drew) _ vb 0 hvw]; exact hcell
  have hcpA : ∀ (W : World), (∀ x, W.cell? x = W1.cell? x) → (∀ x, W.frozen? x = W1.frozen? x) → ∀ ty dc, (Builtin.copy_ #[46, 45] ty #[.slice (some ⟨w.heap.size, 0, none⟩) (n + 1) dc, .slice (some ⟨vb, 0, none⟩) 1 1]).run Tryd.prog W = .ok (goInt [Value.int .u64 x].length) (W.setCells w.heap.size 0 [.int .u64 x]) := fun W hWc hWf ty dc =>
    run_copy_cells W _ _ ty 69 w.heap.size 0 (n + 1) dc ⟨vb, 0, none⟩ 1 1 [.int .u64 x] Tryd.underlying46 u64one (by simp only [Nat.min_def]; split <;> simp_all <;> omega)
      (fun j v hj => by
        cases j with
        | zero => simp at hj; subst hj; rw [Addr.add_lit, hWc]; exact hOv
        | succ j => simp at hj)
      (fun j hj => by rw [hWc]; exact hN _ (by simp at hj; omega)) (fun j hj => by rw [hWf]; exact hNf _) (by intro u hu; simp at hu; subst hu; rfl)
  have hbN : b ≠ w.heap.size := by omega
  have hcpB : ∀ (W : World), (∀ y, W.cell? y = (W1.setCells w.heap.size 0 [.int .u64 x]).cell? y) → (∀ y, W.frozen? y = (W1.setCells w.heap.size 0 [.int .u64 x]).frozen? y) → ∀ ty dc sc, (Builtin.copy_ #[46, 46] ty #[.slice (some ⟨w.heap.size, 1, none⟩) n dc, .slice (some ⟨b, 0, none⟩) n sc]).run Tryd.prog W = .ok (goInt cs.length) (W.setCells w.heap.size 1 cs) := fun W hWc hWf ty dc sc =>
    run_copy_cells W _ _ ty 69 w.heap.size 1 n dc ⟨b, 0, none⟩ n sc cs Tryd.underlying46 u64one (by rw [hcl]; simp only [Nat.min_def]; split <;> omega)
      (fun j v hj => by
        rw [Addr.add_lit, Nat.zero_add, hWc, World.cell?_setCells_out _ _ _ _ _ (fun h _ => absurd h hbN)]
        exact hOb _ v (hget j v hj))
      (fun j hj => by rw [hWc]; exact isSome_setCells _ _ _ _ (fun t ht => hN _ (by simp at ht; omega)) _ (hN _ (by omega)))
      (fun j hj => by rw [hWf, World.frozen?_setCells]; exact hNf _) h1c
  have HE : Hid (∀ W2 : World, W2.heap = W1.heap → W2.os = w.os → W2.tape = w.tape → W2.output = w.output → OwN .u64 69 ((W2.setCells w.heap.size 0 [.int .u64 x]).setCells w.heap.size 1 cs) B (.slice (some ⟨w.heap.size, 0, none⟩) (n + 1) G) (n + 1) (fun i => if i = 0 then x else f (i - 1)) ∧ Below B w ((W2.setCells w.heap.size 0 [.int .u64 x]).setCells w.heap.size 1 cs) ∧ KeepsOthers w ((W2.setCells w.heap.size 0 [.int .u64 x]).setCells w.heap.size 1 cs)) := fun W2 e1 e2 e3 e4 => by
    have hW1h : W2.heap[w.heap.size]? = some (.cells ROW 69 (0, 0)) := by rw [e1, hW1]; exact heap_alloc_at w.drew _ _ rfl
    have r0 : W2.ownsRow B 69 1 (.slice (some ⟨w.heap.size, 0, none⟩) (n + 1) G) (n + 1) (ROW.toList.take (n + 1)) := ⟨by simp; omega, .inr ⟨w.heap.size, G, ROW, rfl, hB, hW1h, hGn, by unfold maxLen; omega, by omega, by simp⟩⟩
    have r1 := row_cells [.int .u64 x] 0 _ _ r0 (by simp)
    have r2 := row_cells cs 1 _ _ r1 (by omega)
    have hlen : (ROW.toList.take (n + 1)).length = n + 1 := by rw [List.length_take, Array.length_toList]; omega
    have el : (List.take 1 (List.take 0 (ROW.toList.take (n + 1)) ++ [Value.int .u64 x] ++ List.drop (0 + [Value.int .u64 x].length) (ROW.toList.take (n + 1))) ++ cs ++ List.drop (1 + cs.length) (List.take 0 (ROW.toList.take (n + 1)) ++ [Value.int .u64 x] ++ List.drop (0 + [Value.int .u64 x].length) (ROW.toList.take (n + 1)))) = .int .u64 x :: cs := by
      generalize ROW.toList.take (n + 1) = L at *
      have : List.drop (1 + cs.length) ([Value.int .u64 x] ++ List.drop 1 L) = [] := List.drop_eq_nil_of_le (by simp; omega)
      simp at this ⊢
      exact this
    rw [el] at r2
    have k1 : Below B w W1 := by
      rw [hW1]
      exact (blw_drewN 1 (Below.refl B w)).alloc hB _
    have k2 : Below B w W2 := ⟨e2, e3, e4, by rw [e1]; exact k1.size, fun k hk => by rw [e1]; exact k1.block k hk⟩
    have k3 : KeepsOthers w W2 := keeps_heap (by rw [hW1]; exact (KeepsOthers.drew w).trans (KeepsOthers.alloc _ _)) e1
    exact ⟨ahead_row (by rw [hcs]; exact r2), below_cells _ _ _ (below_cells _ _ _ k2 hB) hB, (k3.trans (keeps_cells _ _ _)).trans (keeps_cells _ _ _)⟩
  subst hW1
  have hE1 : ∀ x, ((w.alloc (.cells ROW 69)).drew).cell? x = (w.drew.alloc (.cells ROW 69)).cell? x := fun x => rfl
  have hE2 : ∀ x, ((w.alloc (.cells ROW 69)).drew).frozen? x = (w.drew.alloc (.cells ROW 69)).frozen? x := fun x => rfl
  have hF1 : ∀ y, (((w.alloc (.cells ROW 69)).drew.setCells w.heap.size 0 [.int .u64 x]).drew).cell? y = ((w.drew.alloc (.cells ROW 69)).setCells w.heap.size 0 [.int .u64 x]).cell? y := fun y => rfl
  have hF2 : ∀ y, (((w.alloc (.cells ROW 69)).drew.setCells w.heap.size 0 [.int .u64 x]).drew).frozen? y = ((w.drew.alloc (.cells ROW 69)).setCells w.heap.size 0 [.int .u64 x]).frozen? y := fun y => rfl
  have hw1 : IntKind.i64.wrap 1 = 1 := by rw [IntKind.wrap_i64]; omega
  have hb9 : (0 : Int) ≤ (n : Int) + 1 := by omega
  have hb5 : (1 : Int) ≤ (n : Int) + 1 := by omega
  have hb6 : (c : Int) < (n : Int) + 1 := by omega
  have hb7 : ¬ ((0 : Int) = (n : Int)) := by omega
  have hg1 : ¬ (G = 1) := by omega
  have hg0 : ¬ (G = 0) := by omega
  have hc0 : ¬ (c = 0) := by omega
  have hc9 : (0 : Int) ≤ (c : Int) := by omega
  clear ho hget hold hROW hRs hcn hnc hG hN hNf hOb hOv
  go_enter Tryd.func63, Tryd.ntmps63
  go_wp2_with (first
    | (at_builtin; refine Lib.wpList_append_run _ rfl _ _ _ _ rfl _ _ rfl rfl _ _ (hrz _) ?_)
    | (at_builtin; refine wpList_copy_runI _ rfl _ _ 46 45 rfl _ _ rfl rfl (hcpA _ hE1 hE2 _ _) ?_))
  go_region_law (refine step_copy_runI rfl _ _ 46 46 rfl (.slice (some ⟨w.heap.size, 1, none⟩) n (G - 1)) (.slice (some ⟨b, 0, none⟩) n c) (by simp [Act.eval, Act.put]) (by simp [Act.eval, Act.put]) (hcpB _ hF1 hF2 3 (G - 1) c) ?_)
  go_wp2
  go_ret
  rw [drew_setCells]
  exact ⟨_, rfl, HE.out _ rfl rfl rfl rfl⟩

/-- One limb ahead of an own row, whichever way it goes. -/
theorem insert0 (v : Value) (n : Nat) (f : Nat → Int) (x : Int) (vb B : Nat) (w : World) (ho : OwN .u64 69 w B v n f) (hv : w.heap[vb]? = some (.cells #[.int .u64 x] 69 (0, 0))) (hvb : v.ownBlock ≠ some vb) (hn : n ≤ 10000) (hB : B ≤ w.heap.size) :
    Calls Tryd.prog 63 #[v, .int .i64 0, .slice (some ⟨vb, 0, none⟩) 1 1] w fun e w' => ∃ v', e = .returned v' ∧ OwN .u64 69 w' B v' (n + 1) (fun i => if i = 0 then x else f (i - 1)) ∧ Below B w w' ∧ KeepsOthers w w' := by
  rcases Nat.eq_zero_or_pos n with rfl | hn0
  · exact insert_none v f x vb B w ho hv hB
  · rcases ho.open with ⟨_, e⟩ | ⟨b, c, rfl, _, _, h3, _⟩
    · omega
    · by_cases hroom : n + 1 ≤ c
      · exact insert_shift b c n f x vb B w ho hv (fun e => hvb (by rw [e]; rfl)) hn0 hroom hn
      · exact insert_grow b c n f x vb B w ho hv hn0 (by omega) hn hB
end Go.Proofs.YtcnlclocnnijgaaDoor
