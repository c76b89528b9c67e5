/-
  slices.Collect(slices.Chunk(tail, 1400)): a new row of the tail's chunks. Condition: at most a million bytes.
-/
import Derived.Test.YtdcclfnbpckioaaGreatDoorSpK
import Derived.Test.YtdcclfnbpckioaaGreatDoorHpM
namespace Go.Proofs.YtdcclfnbpckioaaGreatDoor
open Go.RowKit Go.Shelf
set_option linter.unusedVariables false
attribute [local go_sem] Oper.semAt_some

theorem infoB : (Tryz.prog.info? 22).map (fun i => (i.zero, i.size, i.bytes)) = some (some (.slice none 0 0), 1, 24) := by kernel_rfl
/-- A chunk's value. -/
def ckV (g tl j : Nat) : Value := .slice (some ⟨g, j * 1400, none⟩) (ckL tl j) (ckL tl j)
/-- Between two rounds: the box holds a row of what has come so far. -/
structure Cx (w : World) (g tl N : Nat) (pre : List { j : Nat // j < N }) (W : World) : Prop where
  box : ∃ v, W.heap[w.heap.size]? = some (.cells #[v] 42 (0, 0)) ∧ W.ownsRow w.heap.size 22 1 v pre.length (pre.map (fun x => ckV g tl x.1))
  bel : Below w.heap.size w W

theorem row_ne {W : World} {base : Nat} {e : TypeId} {size : Nat} {v : Value} {k : Nat} {xs : List Value} (h : W.ownsRow base e size v k xs) {j : Nat} {o : Obj} (hj : W.heap[j]? = some o) (hno : ∀ cur, o ≠ .cells cur e (0, 0)) : v.ownBlock ≠ some j := by
  rcases h.2 with ⟨rfl, _⟩ | ⟨g, cap, cur, rfl, _, hgb, _⟩
  · exact fun e => by cases e
  · intro e'
    obtain rfl : g = j := Option.some.inj e'
    rw [hgb] at hj
    cases hj
    exact hno cur rfl
theorem row_cells {W : World} {base : Nat} {e : TypeId} {size : Nat} {v : Value} {k : Nat} {xs : List Value} (h : W.ownsRow base e size v k xs) {j : Nat} {o : Obj} (hj : W.heap[j]? = some o) (hno : o.isCells = false) : v.ownBlock ≠ some j :=
  row_ne h hj (fun cur e => by subst e; cases hno)
theorem own_slice {W : World} {base : Nat} {e : TypeId} {size : Nat} {v : Value} {k : Nat} {xs : List Value} (h : W.ownsRow base e size v k xs) : ∃ a c, v = .slice a k c := by
  rcases h.2 with ⟨rfl, h0⟩ | ⟨g, cap, cur, rfl, _⟩
  · rw [h0]; exact ⟨_, _, rfl⟩
  · exact ⟨_, _, rfl⟩
theorem Cx.step {w W w3 : World} {g tl N : Nat} {pre : List { j : Nat // j < N }} {x : { j : Nat // j < N }} {v v' : Value} {o : Obj} (hv : W.heap[w.heap.size]? = some (.cells #[v] 42 (0, 0))) (hrow : W.ownsRow w.heap.size 22 1 v pre.length (pre.map (fun x => ckV g tl x.1))) (hB : Below w.heap.size w W)
    (hg3 : (W.alloc o).grownBy w3 v.ownBlock) (ho : w3.ownsRow w.heap.size 22 1 v' (pre.length + 1) (pre.map (fun x => ckV g tl x.1) ++ [ckV g tl x.1])) :
    w3.cell? ⟨w.heap.size, 0, none⟩ = some v ∧ w3.frozen? ⟨w.heap.size, 0, none⟩ = false ∧ Hid (KeepsFrom (w.heap.size + 1) W (w3.setCell ⟨w.heap.size, 0, none⟩ v') ∧ Below w.heap.size W (w3.setCell ⟨w.heap.size, 0, none⟩ v') ∧ Cx w g tl N (pre ++ [x]) (w3.setCell ⟨w.heap.size, 0, none⟩ v')) := by
  have hlt : w.heap.size < W.heap.size := (Array.getElem?_eq_some_iff.1 hv).1
  have hsz : (W.alloc o).heap.size = W.heap.size + 1 := by simp
  have n1 : v.ownBlock ≠ some w.heap.size := row_ne hrow hv (fun cur e => by cases e)
  have hv3 : w3.heap[w.heap.size]? = some (.cells #[v] 42 (0, 0)) := (hg3.block _ (by omega) (fun e => n1 e.symm)).trans ((Below.heap_alloc _ _ _ hlt).trans hv)
  have n2 : v'.ownBlock ≠ some w.heap.size := row_ne ho hv3 (fun cur e => by cases e)
  have hv4 := heap_set_at (i := 0) hv3 v'
  have hb3 : Below w.heap.size W w3 := ((Below.refl w.heap.size W).alloc hB.size o).grown hg3 (by omega) (fun k e => (hrow.lt k e).1)
  have hb4 : Below w.heap.size W (w3.setCell ⟨w.heap.size, 0, none⟩ v') := hb3.setCell (p := ⟨w.heap.size, 0, none⟩) (Nat.le_refl _) _
  refine ⟨by rw [cells_at hv3 0]; rfl, cells_free hv3 0, ⟨hb4.size, fun k ob hk h1 h2 => ?_⟩, hb4, ⟨v', hv4, ?_⟩, hB.trans hb4⟩
  · have hkl : k < W.heap.size := (Array.getElem?_eq_some_iff.1 h1).1
    have e1 : w3.heap[k]? = some ob := (hg3.block k (by omega) (fun e => row_cells hrow h1 h2 e.symm)).trans ((Below.heap_alloc _ _ _ hkl).trans h1)
    rw [Below.heap_setCell _ _ _ _ (by show k ≠ w.heap.size; omega)]
    exact e1
  · have := row_set ho n2 0 v'
    simpa using this

set_option maxRecDepth 100000 in
set_option maxHeartbeats 1000000 in
attribute [local irreducible] ckL in
theorem appendSeqC (w : World) (Bs Bn g tl c N : Nat) (hN : tl ≤ N * 1400) (hN2 : N * 1400 < tl + 1400) (hL : tl ≤ 1000000) (hcap : tl ≤ c) (ag : Option Addr) (hag : 0 < tl → ag = some ⟨g, 0, none⟩) (hBs : Bs < w.heap.size) (hBn : Bn < w.heap.size)
    (hs : w.cell? ⟨Bs, 0, none⟩ = some (.slice ag tl c)) (hb : w.cell? ⟨Bn, 0, none⟩ = some (.int .i64 1400)) :
    Calls Tryz.prog 35 #[.slice none 0 0, .func (.func 36) #[] #[.pointer (some ⟨Bs, 0, none⟩), .pointer (some ⟨Bn, 0, none⟩)]] w fun e w' => ∃ v, e = .returned v ∧ w'.ownsRow w.heap.size 22 1 v N ((cks N N (Nat.le_refl _)).map (fun x => ckV g tl x.1)) ∧ Below w.heap.size w w' := by
  obtain ⟨i0, hi0, hz0, hz1, hz2⟩ := info_parts infoB
  refine (callsIn_wide (n := 8)).1 ?_
  have hro : Fence.wide.round = none := rfl
  have h1' : 1 ≤ 8 := by decide
  refine callsIn_of_wp_marks Tryz.func35 rfl trivial ?_ hro
  simp only [Tryz.ntmps35, List.size_toArray, List.length_cons, List.length_nil, Nat.reduceAdd, Nat.reduceSub, Array.replicate_succ, Array.replicate_zero, List.push_toArray, List.append_toArray, List.nil_append, List.cons_append]
  gi_wp2
  have bA := Boxed.new w 42 (.slice none 0 0)
  have hB0 : Below w.heap.size w (w.alloc (.cells #[.slice none 0 0] 42)) := (Below.refl _ w).alloc (Nat.le_refl _) _
  refine wpIn_rangeFunc_ownG hro h1' (gf := 36) (lb := #[.pointer (some ⟨Bs, 0, none⟩), .pointer (some ⟨Bn, 0, none⟩)]) rfl trivial (enters_of Tryz.func36 (by kernel_rfl) rfl)
    (chunk_stops Fence.wide (8 - 1) trivial hro (by decide) Bs Bn g tl c N hN hN2 hL hcap ag hag w hBs hBn hs hb) Below.trans (belowK_b (by simp)) hB0 (fun _ => rfl)
    (fun pre W => Cx w g tl N pre W)
    (fun _ _ _ => False)
    (fun s A B row hs hg hr => ?own)
    (fun _ _ _ _ _ hs _ _ => hs)
    ⟨⟨_, bA, ⟨rfl, .inl ⟨rfl, rfl⟩⟩⟩, hB0⟩
    (fun x => { tmps := #[.slice none 0 0, .func (.func 36) #[] #[.pointer (some ⟨Bs, 0, none⟩), .pointer (some ⟨Bn, 0, none⟩)], .pointer (some ⟨w.heap.size, 0, none⟩), undef, .slice none 0 0, .slice (some ⟨g, x.1 * 1400, none⟩) (ckL tl x.1) (ckL tl x.1), .func (.func 36) #[] #[.pointer (some ⟨Bs, 0, none⟩), .pointer (some ⟨Bn, 0, none⟩)], .slice (some ⟨g, x.1 * 1400, none⟩) (ckL tl x.1) (ckL tl x.1), undef, undef, undef, undef, undef], defers := [] }) ?assign ?body ?done ?stop
  case own =>
    obtain ⟨⟨v, hv, hrow⟩, hB⟩ := hs
    refine ⟨⟨v, (hg.block _ (Array.getElem?_eq_some_iff.1 hv).1 (fun e => ?_)).trans hv, hrow.kept hg ?_⟩, ownFrom_below (β := Unit) (Nat.le_refl _) (by simp) () A B row hB hg hr⟩
    · obtain ⟨_, o', ho', hc⟩ := hr _ e.symm
      rw [hv] at ho'
      cases ho'
      cases hc
    · by_cases e : v.ownBlock = row
      · cases hk : v.ownBlock with
        | none => exact .inl rfl
        | some k =>
          obtain ⟨_, o', ho', hc⟩ := hr k (by rw [← e, hk])
          exact absurd hk (row_cells hrow ho' hc)
      · exact .inr e
  case assign =>
    intro l x W K hK
    gi_wp2
    exact hK
  case body =>
    rintro l pre x W ⟨⟨v, hv, hrow⟩, hB⟩ hlen
    have HS : Hid (∀ (o : Obj) (w3 : World) (v' : Value), (W.alloc o).grownBy w3 v.ownBlock → w3.ownsRow w.heap.size 22 1 v' (pre.length + 1) (pre.map (fun x => ckV g tl x.1) ++ [.slice (some ⟨g, x.1 * 1400, none⟩) (ckL tl x.1) (ckL tl x.1)]) → w3.cell? ⟨w.heap.size, 0, none⟩ = some v ∧ w3.frozen? ⟨w.heap.size, 0, none⟩ = false ∧ Hid (KeepsFrom (w.heap.size + 1) W (w3.setCell ⟨w.heap.size, 0, none⟩ v') ∧ Below w.heap.size W (w3.setCell ⟨w.heap.size, 0, none⟩ v') ∧ Cx w g tl N (pre ++ [x]) (w3.setCell ⟨w.heap.size, 0, none⟩ v'))) := fun o w3 v' h1 h2 => Cx.step hv hrow hB h1 h2
    have hc : W.cell? ⟨w.heap.size, 0, none⟩ = some v := by rw [cells_at hv 0]; rfl
    have HRw : Hid (∀ o, (W.alloc o).ownsRow w.heap.size 22 1 v pre.length (pre.map (fun x => ckV g tl x.1))) := fun o => hrow.alloc o
    have HSz : Hid (w.heap.size ≤ W.heap.size + 1) := (by have := hB.size; omega : w.heap.size ≤ W.heap.size + 1)
    have hNb : N ≤ 10000 := by omega
    clear hv hrow hB
    gi_wp2_with (gi_at_builtin; refine wpListIn_append_own (W.alloc (.cells #[.slice (some ⟨g, x.1 * 1400, none⟩) (ckL tl x.1) (ckL tl x.1)] 22)) rfl _ _ 42 rfl w.heap.size 22 i0 (.slice none 0 0) 1 24 Tryz.underlying42 hi0 hz0 hz1 hz2 rfl (by decide) v pre.length (pre.map (fun x => ckV g tl x.1)) rfl (HRw.out (.cells #[.slice (some ⟨g, x.1 * 1400, none⟩) (ckL tl x.1) (ckL tl x.1)] 22)) ⟨W.heap.size, 0, none⟩ 1 1 [.slice (some ⟨g, x.1 * 1400, none⟩) (ckL tl x.1) (ckL tl x.1)] rfl rfl (cell_one_new _ _ _) (by simp [Value.oneCell']) (by unfold maxLen; omega) (by omega) (by simpa using HSz.out) ?_; intro v' w3 ho3 hg3 hnil3; obtain ⟨hc3, hf3, HE⟩ := HS.out _ w3 v' hg3 ho3; clear hg3 hnil3; obtain ⟨a3, c3, hv3⟩ : ∃ a3 c3, v' = .slice a3 (pre.length + 1) c3 := own_slice ho3; subst hv3; clear ho3)
    have hE := HE.out
    refine ⟨?_, hE.2.1, hE.2.2⟩
    rw [World.size_alloc]
    exact hE.1
  case done =>
    rintro D ys W hD rfl ⟨⟨v, hv, hrow⟩, hB⟩ hK
    have hc : W.cell? ⟨w.heap.size, 0, none⟩ = some v := by rw [cells_at hv 0]; rfl
    rw [cks_length] at hrow
    obtain ⟨a3, c3, rfl⟩ := own_slice hrow
    have hD' : w.heap.size ≤ D := by rw [World.size_alloc] at hD; omega
    have hnb := row_cells hrow hK rfl
    clear hv
    gi_wp2
    refine ⟨by simp, .inl ⟨_, _, rfl, run_takeDeferred hK, ?_⟩⟩
    exact ⟨_, results_tmp rfl _ _ _, _, rfl, hrow.kept (grownBy_putObj' W D _) (.inr hnb), hB.trans (belowK_b (w := w) (Nat.le_refl _) W D _ _ hD' hK rfl rfl)⟩
  case stop =>
    rintro D c pre W _ _ h _
    exact h.elim
set_option maxHeartbeats 1000000 in
theorem collectC (w : World) (Bs Bn g tl c N : Nat) (hN : tl ≤ N * 1400) (hN2 : N * 1400 < tl + 1400) (hL : tl ≤ 1000000) (hcap : tl ≤ c) (ag : Option Addr) (hag : 0 < tl → ag = some ⟨g, 0, none⟩) (hBs : Bs < w.heap.size) (hBn : Bn < w.heap.size)
    (hs : w.cell? ⟨Bs, 0, none⟩ = some (.slice ag tl c)) (hb : w.cell? ⟨Bn, 0, none⟩ = some (.int .i64 1400)) :
    Calls Tryz.prog 18 #[.func (.func 36) #[] #[.pointer (some ⟨Bs, 0, none⟩), .pointer (some ⟨Bn, 0, none⟩)]] w fun e w' => ∃ v, e = .returned v ∧ w'.ownsRow w.heap.size 22 1 v N ((cks N N (Nat.le_refl _)).map (fun x => ckV g tl x.1)) ∧ Below w.heap.size w w' := by
  have CA := appendSeqC w Bs Bn g tl c N hN hN2 hL hcap ag hag hBs hBn hs hb
  go_enter Tryz.func18, Tryz.ntmps18
  go_wp2_with fail
  refine CA.mono ?_
  rintro e w' ⟨v, rfl, ho, hb⟩
  obtain ⟨a3, c3, rfl⟩ := own_slice ho
  go_wp2
  go_ret
  exact ⟨_, rfl, ho, hb⟩
set_option maxHeartbeats 1000000 in
/-- slices.Chunk(s, 1400), as a plain call. -/
theorem chunkC (a : Option Addr) (len cap : Nat) (w : World) :
    Calls Tryz.prog 19 #[.slice a len cap, .int .i64 1400] w fun e w' => e = .returned (.func (.func 36) #[] #[.pointer (some ⟨w.heap.size, 0, none⟩), .pointer (some ⟨w.heap.size + 1, 0, none⟩)]) ∧ w' = (w.alloc (.cells #[.slice a len cap] 22)).alloc (.cells #[.int .i64 1400] 3) :=
  (callsIn_wide (n := 8)).1 (chunk_in Fence.wide 8 trivial rfl a len cap w)
/-- The row of a tail's chunks, as save wants it. -/
theorem cks_get (N : Nat) : ∀ (k : Nat) (h : k ≤ N) (j : Nat) (hj : j < k), (cks N k h)[j]? = some ⟨j, Nat.lt_of_lt_of_le hj h⟩
  | 0, _, j, hj => by omega
  | k + 1, h, j, hj => by
    rw [cks]
    by_cases e : j < k
    · rw [List.getElem?_append_left (by rw [cks_length]; exact e)]
      exact cks_get N k (by omega) j e
    · obtain rfl : j = k := by omega
      rw [List.getElem?_append_right (by rw [cks_length]; exact Nat.le_refl _), cks_length, Nat.sub_self]
      rfl
end Go.Proofs.YtdcclfnbpckioaaGreatDoor
