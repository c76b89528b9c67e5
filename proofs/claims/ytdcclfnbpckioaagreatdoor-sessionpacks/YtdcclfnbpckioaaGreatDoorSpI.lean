/-
  Cache and Root on both sides.
-/
import Derived.Test.YtdcclfnbpckioaaGreatDoorSpH
import Derived.Test.YtdcclfnbpckioaaGreatDoorNrF
namespace Go.Proofs.YtdcclfnbpckioaaGreatDoor
open Go.RowKit Go.Shelf
set_option linter.unusedVariables false
set_option maxRecDepth 100000
set_option maxHeartbeats 2000000

/-- One byte ahead of a text. -/
def pre (b : UInt8) (s : ByteArray) : List UInt8 := b :: s.data.toList
theorem pre_eq (b : UInt8) (s : ByteArray) : (⟨#[b]⟩ ++ s : ByteArray) = ⟨(pre b s).toArray⟩ := by
  apply ByteArray.ext
  simp [pre]
theorem j_rkey (s : ByteArray) (hs : s.size ≤ 140737488355328) (w : World) : Calls Tryz.prog 28 #[.string s] w fun e w' => e = .returned (.string ⟨(pre 114 s).toArray⟩) ∧ w' = w := by
  rw [← pre_eq]
  go_enter Tryz.func28, Tryz.ntmps28
  go_wp2
  go_ret
  exact ⟨rfl, rfl⟩
theorem j_vkey (s : ByteArray) (hs : s.size ≤ 140737488355328) (w : World) : Calls Tryz.prog 31 #[.string s] w fun e w' => e = .returned (.string ⟨(pre 118 s).toArray⟩) ∧ w' = w := by
  rw [← pre_eq]
  go_enter Tryz.func31, Tryz.ntmps31
  go_wp2
  go_ret
  exact ⟨rfl, rfl⟩
def rpb (id : ByteArray) (st se wy : Int) (t : ByteArray) : Obj := .cells #[.string id, .int .i64 st, .int .i64 se, .int .i64 wy, .string t] 24
def cchK (id : ByteArray) (st se wy : Int) (t : ByteArray) : List UInt8 := if repE id st se wy t = 0 then pre 114 id else []
def cchB (id : ByteArray) (st se wy : Int) (t : ByteArray) : List Int := if repE id st se wy t = 0 then repB id st se wy t else []
theorem j_cache (id : ByteArray) (st se wy : Int) (t : ByteArray) (hs : id.size ≤ 140737488355328) (w : World) (ht : Tab w) : Calls Tryz.prog 9 #[.agg #[.string id, .int .i64 st, .int .i64 se, .int .i64 wy, .string t]] w (ChO w (cchK id st se wy t) (cchB id st se wy t) (repE id st se wy t)) := by
  have hb1 : Below w.heap.size w (w.alloc (rpb id st se wy t)) := (Below.refl _ w).alloc (Nat.le_refl _) _
  have hb0 : Below w.heap.size w ((w.alloc (rpb id st se wy t)).alloc zc) := hb1.alloc hb1.size _
  have hs1 : (w.alloc (rpb id st se wy t)).heap.size = w.heap.size + 1 := World.size_alloc ..
  have hnew : ((w.alloc (rpb id st se wy t)).alloc zc).heap[w.heap.size + 1]? = some zc := heap_alloc_at _ zc _ hs1.symm
  have hold : ((w.alloc (rpb id st se wy t)).alloc zc).heap[w.heap.size]? = some (rpb id st se wy t) := by
    rw [Below.heap_alloc _ _ _ (by rw [hs1]; omega)]
    exact heap_alloc_at w _ _ rfl
  have HP := n_rep id st se wy t ((w.alloc (rpb id st se wy t)).alloc zc) (ht.below hb0 (Nat.le_refl _))
  have HS : Hid (∀ w2 v, Own w2 ((w.alloc (rpb id st se wy t)).alloc zc).heap.size v (repB id st se wy t) → Below ((w.alloc (rpb id st se wy t)).alloc zc).heap.size ((w.alloc (rpb id st se wy t)).alloc zc) w2 → w2.heap[w.heap.size + 1]? = some (.cells #[.string ⟨#[]⟩, .slice none 0 0, .bool false] 31 (0, 0)) ∧ w2.heap[w.heap.size]? = some (.cells #[.string id, .int .i64 st, .int .i64 se, .int .i64 wy, .string t] 24 (0, 0)) ∧ Own w2 w.heap.size v (repB id st se wy t) ∧ Below w.heap.size w w2) := fun w2 v q1 q2 => by
    have hs : w.heap.size + 1 < ((w.alloc (rpb id st se wy t)).alloc zc).heap.size := by rw [World.size_alloc, hs1]; omega
    refine ⟨(q2.block _ hs).trans hnew, (q2.block _ (by omega)).trans hold, q1.mono hb0.size, hb0.trans (q2.mono hb0.size)⟩
  unfold zc rpb at HP HS
  clear hb0 hnew hold hb1 hs1 ht
  by_cases h0 : repE id st se wy t = 0
  · have hE : Hid (cchK id st se wy t = pre 114 id ∧ cchB id st se wy t = repB id st se wy t) := ⟨if_pos h0, if_pos h0⟩
    rw [h0] at HP ⊢
    have hpe := pre_eq 114 id
    clear h0
    go_enter Tryz.func9, Tryz.ntmps9
    go_wp2_with first
      | (go_at_call 27; refine HP.mono ?_; clear HP; rintro e w2 ⟨v, rfl, q1, q2⟩; obtain ⟨g1, g0, g2, g3⟩ := HS.out w2 v q1 q2; clear q1 q2 HS; obtain ⟨a2, m2, c2, rfl⟩ := own_sl g2; have t0 := cells_at g1 0; have t1 := cells_at g1 1; have t2 := cells_at g1 2; have t3 := cells_at g0 0; simp at t0 t1 t2 t3; have f0 := cells_free g1 0; have f1 := cells_free g1 1; have f2 := cells_free g1 2)
      | (go_at_call 28; refine (j_rkey id hs _).mono ?_; rintro e w4 ⟨rfl, hz⟩; rw [hz]; clear hz)
    all_goals try rw [hpe]
    obtain ⟨y1, y2, y3⟩ := set3 (k := .string ⟨(pre 114 id).toArray⟩) (b := .bool false) g1 g2 (by decide)
    refine bodyPost_ret (v := .tuple #[chg (pre 114 id) (.slice a2 m2 c2), .int .i64 0]) (by simp [results, Tryz.results9, go_sem, cell_of y1]; rfl) rfl ?_
    obtain ⟨q2, q3⟩ := hE.out
    rw [q2, q3]
    exact ⟨_, rfl, y2, g3.trans (y3.below (by omega))⟩
  · have hE : Hid (cchK id st se wy t = [] ∧ cchB id st se wy t = []) := ⟨if_neg h0, if_neg h0⟩
    have d0 : (repE id st se wy t == 0) = false := by simpa using h0
    obtain ⟨er, her⟩ : ∃ er, repE id st se wy t = er := ⟨_, rfl⟩
    rw [her] at HP d0 ⊢
    clear h0 her
    go_enter Tryz.func9, Tryz.ntmps9
    go_wp2_with (go_at_call 27; refine HP.mono ?_; clear HP; rintro e w2 ⟨v, rfl, q1, q2⟩; obtain ⟨g1, g0, g2, g3⟩ := HS.out w2 v q1 q2; clear q1 q2 HS; obtain ⟨a2, m2, c2, rfl⟩ := own_sl g2; have t0 := cells_at g1 0; have t1 := cells_at g1 1; have t2 := cells_at g1 2; have t3 := cells_at g0 0; simp at t0 t1 t2 t3; have f0 := cells_free g1 0; have f1 := cells_free g1 1; have f2 := cells_free g1 2)
    obtain ⟨y1, y2, y3⟩ := set3 (k := .string ⟨#[]⟩) (b := .bool false) g1 (own_nil w2 w.heap.size) (by decide)
    refine bodyPost_ret (v := .tuple #[chg [] (.slice none 0 0), .int .i64 er]) (by simp [results, Tryz.results9, go_sem, cell_of y1]; rfl) rfl ?_
    obtain ⟨q2, q3⟩ := hE.out
    rw [q2, q3]
    exact ⟨_, rfl, y2, g3.trans (y3.below (by omega))⟩
theorem z_cache (id : ByteArray) (st se wy : Int) (t : ByteArray) (hs : id.size ≤ 140737488355328) (w : World) : Calls Tryz.prog 10 #[.agg #[.string id, .int .i64 st, .int .i64 se, .int .i64 wy, .string t]] w (ChO w (cchK id st se wy t) (cchB id st se wy t) (repE id st se wy t)) := by
  have hb1 : Below w.heap.size w (w.alloc (rpb id st se wy t)) := (Below.refl _ w).alloc (Nat.le_refl _) _
  have hb0 : Below w.heap.size w ((w.alloc (rpb id st se wy t)).alloc zc) := hb1.alloc hb1.size _
  have hs1 : (w.alloc (rpb id st se wy t)).heap.size = w.heap.size + 1 := World.size_alloc ..
  have hnew : ((w.alloc (rpb id st se wy t)).alloc zc).heap[w.heap.size + 1]? = some zc := heap_alloc_at _ zc _ hs1.symm
  have hold : ((w.alloc (rpb id st se wy t)).alloc zc).heap[w.heap.size]? = some (rpb id st se wy t) := by
    rw [Below.heap_alloc _ _ _ (by rw [hs1]; omega)]
    exact heap_alloc_at w _ _ rfl
  have HP := x_rep id st se wy t ((w.alloc (rpb id st se wy t)).alloc zc)
  have HS : Hid (∀ w2 v, Own w2 ((w.alloc (rpb id st se wy t)).alloc zc).heap.size v (repB id st se wy t) → Below ((w.alloc (rpb id st se wy t)).alloc zc).heap.size ((w.alloc (rpb id st se wy t)).alloc zc) w2 → w2.heap[w.heap.size + 1]? = some (.cells #[.string ⟨#[]⟩, .slice none 0 0, .bool false] 31 (0, 0)) ∧ w2.heap[w.heap.size]? = some (.cells #[.string id, .int .i64 st, .int .i64 se, .int .i64 wy, .string t] 24 (0, 0)) ∧ Own w2 w.heap.size v (repB id st se wy t) ∧ Below w.heap.size w w2) := fun w2 v q1 q2 => by
    have hs : w.heap.size + 1 < ((w.alloc (rpb id st se wy t)).alloc zc).heap.size := by rw [World.size_alloc, hs1]; omega
    refine ⟨(q2.block _ hs).trans hnew, (q2.block _ (by omega)).trans hold, q1.mono hb0.size, hb0.trans (q2.mono hb0.size)⟩
  unfold zc rpb at HP HS
  clear hb0 hnew hold hb1 hs1
  by_cases h0 : repE id st se wy t = 0
  · have hE : Hid (cchK id st se wy t = pre 114 id ∧ cchB id st se wy t = repB id st se wy t) := ⟨if_pos h0, if_pos h0⟩
    rw [h0] at HP ⊢
    have hpe := pre_eq 114 id
    clear h0
    go_enter Tryz.func10, Tryz.ntmps10
    go_wp2_with first
      | (go_at_call 29; refine HP.mono ?_; clear HP; rintro e w2 ⟨v, rfl, q1, q2⟩; obtain ⟨g1, g0, g2, g3⟩ := HS.out w2 v q1 q2; clear q1 q2 HS; obtain ⟨a2, m2, c2, rfl⟩ := own_sl g2; have t0 := cells_at g1 0; have t1 := cells_at g1 1; have t2 := cells_at g1 2; have t3 := cells_at g0 0; simp at t0 t1 t2 t3; have f0 := cells_free g1 0; have f1 := cells_free g1 1; have f2 := cells_free g1 2)
      | (go_at_call 28; refine (j_rkey id hs _).mono ?_; rintro e w4 ⟨rfl, hz⟩; rw [hz]; clear hz)
    all_goals try rw [hpe]
    obtain ⟨y1, y2, y3⟩ := set3 (k := .string ⟨(pre 114 id).toArray⟩) (b := .bool false) g1 g2 (by decide)
    refine bodyPost_ret (v := .tuple #[chg (pre 114 id) (.slice a2 m2 c2), .int .i64 0]) (by simp [results, Tryz.results10, go_sem, cell_of y1]; rfl) rfl ?_
    obtain ⟨q2, q3⟩ := hE.out
    rw [q2, q3]
    exact ⟨_, rfl, y2, g3.trans (y3.below (by omega))⟩
  · have hE : Hid (cchK id st se wy t = [] ∧ cchB id st se wy t = []) := ⟨if_neg h0, if_neg h0⟩
    have d0 : (repE id st se wy t == 0) = false := by simpa using h0
    obtain ⟨er, her⟩ : ∃ er, repE id st se wy t = er := ⟨_, rfl⟩
    rw [her] at HP d0 ⊢
    clear h0 her
    go_enter Tryz.func10, Tryz.ntmps10
    go_wp2_with (go_at_call 29; refine HP.mono ?_; clear HP; rintro e w2 ⟨v, rfl, q1, q2⟩; obtain ⟨g1, g0, g2, g3⟩ := HS.out w2 v q1 q2; clear q1 q2 HS; obtain ⟨a2, m2, c2, rfl⟩ := own_sl g2; have t0 := cells_at g1 0; have t1 := cells_at g1 1; have t2 := cells_at g1 2; have t3 := cells_at g0 0; simp at t0 t1 t2 t3; have f0 := cells_free g1 0; have f1 := cells_free g1 1; have f2 := cells_free g1 2)
    obtain ⟨y1, y2, y3⟩ := set3 (k := .string ⟨#[]⟩) (b := .bool false) g1 (own_nil w2 w.heap.size) (by decide)
    refine bodyPost_ret (v := .tuple #[chg [] (.slice none 0 0), .int .i64 er]) (by simp [results, Tryz.results10, go_sem, cell_of y1]; rfl) rfl ?_
    obtain ⟨q2, q3⟩ := hE.out
    rw [q2, q3]
    exact ⟨_, rfl, y2, g3.trans (y3.below (by omega))⟩
end Go.Proofs.YtdcclfnbpckioaaGreatDoor
