/-
  Count on both sides; changes that are told, with their bytes.
-/
import Derived.Test.YtdcclfnbpckioaaGreatDoorSpG
namespace Go.Proofs.YtdcclfnbpckioaaGreatDoor
open Go.RowKit Go.Shelf
set_option linter.unusedVariables false
set_option maxRecDepth 100000
set_option maxHeartbeats 2000000

def chg (ky : List UInt8) (v : Value) : Value := .agg #[.string ⟨ky.toArray⟩, v, .bool false]
/-- A change and an error are told. -/
def ChO (w : World) (ky : List UInt8) (xs : List Int) (er : Int) (e : Ending) (w' : World) : Prop := ∃ v, e = .returned (.tuple #[chg ky v, .int .i64 er]) ∧ Own w' w.heap.size v xs ∧ Below w.heap.size w w'
def zc : Obj := .cells #[.string ⟨#[]⟩, .slice none 0 0, .bool false] 31
theorem set3 {w : World} {g B : Nat} {u0 u1 u2 k b v : Value} {T : TypeId} {xs : List Int} (h : w.heap[g]? = some (.cells #[u0, u1, u2] T (0, 0))) (ho : Own w B v xs) (hT : T ≠ 5) :
    (((w.setCell ⟨g, 0, none⟩ k).setCell ⟨g, 1, none⟩ v).setCell ⟨g, 2, none⟩ b).heap[g]? = some (.cells #[k, v, b] T (0, 0)) ∧ Own (((w.setCell ⟨g, 0, none⟩ k).setCell ⟨g, 1, none⟩ v).setCell ⟨g, 2, none⟩ b) B v xs ∧ Only g w (((w.setCell ⟨g, 0, none⟩ k).setCell ⟨g, 1, none⟩ v).setCell ⟨g, 2, none⟩ b) := by
  have hne := ho.off h hT
  exact ⟨heap_set_at (heap_set_at (heap_set_at h k) v) b, row_set (row_set (row_set ho hne 0 k) hne 1 v) hne 2 b, (((Only.refl g w).setCell rfl _).setCell rfl _).setCell rfl _⟩
def cntE (z : Int) : Int := if 1 ≤ z ∧ z ≤ 10000 then 0 else 1
def cntK (z : Int) : List UInt8 := if 1 ≤ z ∧ z ≤ 10000 then [110] else []
def cntB (z : Int) : List Int := if 1 ≤ z ∧ z ≤ 10000 then putB z.toNat else []
theorem j_next (n : Int) (w : World) : Calls Tryz.prog 24 #[.int .i64 n] w fun e w' => e = .returned (.bool (decide (1 ≤ n) && decide (n ≤ 10000))) ∧ w' = w := by
  by_cases h : 1 ≤ n
  · go_enter Tryz.func24, Tryz.ntmps24
    go_wp2
    go_ret
    exact ⟨by simp [h], rfl⟩
  · have h' : decide (1 ≤ n) = false := by simp; omega
    go_enter Tryz.func24, Tryz.ntmps24
    go_wp2
    go_ret
    exact ⟨by simp, rfl⟩
theorem j_count (z : Int) (w : World) : Calls Tryz.prog 7 #[.int .i64 z] w (ChO w (cntK z) (cntB z) (cntE z)) := by
  have hb0 : Below w.heap.size w (w.alloc zc) := (Below.refl _ w).alloc (Nat.le_refl _) _
  have hnew : (w.alloc zc).heap[w.heap.size]? = some zc := heap_alloc_at w zc _ rfl
  have HI := j_next z (w.alloc zc)
  by_cases h1 : 1 ≤ z ∧ z ≤ 10000
  · have hE : Hid (cntE z = 0 ∧ cntK z = [110] ∧ cntB z = putB z.toNat) := ⟨if_pos h1, if_pos h1, if_pos h1⟩
    have hd : (decide (1 ≤ z) && decide (z ≤ 10000)) = true := by simpa using h1
    rw [hd] at HI
    have HP := wPut none 0 0 (fun _ => 0) z (w.alloc zc) (by omega) (From.none0 _ _) (fun _ => rfl) (by omega)
    have HS : Hid (∀ w2 v, Own w2 (w.alloc zc).heap.size v (lst (fun _ => 0) 0 ++ putB z.toNat) → Below (w.alloc zc).heap.size (w.alloc zc) w2 → w2.heap[w.heap.size]? = some (.cells #[.string ⟨#[]⟩, .slice none 0 0, .bool false] 31 (0, 0)) ∧ Own w2 w.heap.size v (putB z.toNat) ∧ Below w.heap.size w w2 ∧ w.heap.size < w2.heap.size) := fun w2 v q1 q2 => by
      have hs : w.heap.size < (w.alloc zc).heap.size := by rw [World.size_alloc]; omega
      refine ⟨(q2.block _ hs).trans hnew, q1.mono hb0.size, hb0.trans (q2.mono hb0.size), Nat.lt_of_lt_of_le hs q2.size⟩
    unfold zc at HI HP HS
    clear hb0 hnew hd h1
    go_enter Tryz.func7, Tryz.ntmps7
    go_wp2_with first
      | (go_at_call 25; refine HP.mono ?_; clear HP; rintro e w2 ⟨v, rfl, q1, q2⟩; obtain ⟨g1, g2, g3, g4⟩ := HS.out w2 v q1 q2; clear q1 q2 HS; obtain ⟨a2, m2, c2, rfl⟩ := own_sl g2; have t0 := cells_at g1 0; have t1 := cells_at g1 1; have t2 := cells_at g1 2; simp at t0 t1 t2; have f0 := cells_free g1 0; have f1 := cells_free g1 1; have f2 := cells_free g1 2)
      | (go_at_call 24; refine HI.mono ?_; clear HI; rintro e w1 ⟨rfl, hz⟩; rw [hz]; clear hz)
    obtain ⟨y1, y2, y3⟩ := set3 (k := .string ⟨#[110]⟩) (b := .bool false) g1 g2 (by decide)
    refine bodyPost_ret (v := .tuple #[chg [110] (.slice a2 m2 c2), .int .i64 0]) (by simp [results, Tryz.results7, go_sem, cell_of y1]; rfl) rfl ?_
    obtain ⟨q1, q2, q3⟩ := hE.out
    rw [q1, q2, q3]
    exact ⟨_, rfl, y2, g3.trans (y3.below (Nat.le_refl _))⟩
  · have hE : Hid (cntE z = 1 ∧ cntK z = [] ∧ cntB z = []) := ⟨if_neg h1, if_neg h1, if_neg h1⟩
    have hd : (decide (1 ≤ z) && decide (z ≤ 10000)) = false := by simpa using h1
    rw [hd] at HI
    have HB : Hid (Below w.heap.size w (w.alloc zc) ∧ (w.alloc zc).heap[w.heap.size]? = some zc) := ⟨hb0, hnew⟩
    unfold zc at HI HB
    clear hb0 hnew hd h1
    go_enter Tryz.func7, Tryz.ntmps7
    go_wp2_with (go_at_call 24; refine HI.mono ?_; clear HI; rintro e w1 ⟨rfl, hz⟩; rw [hz]; clear hz)
    refine bodyPost_ret (v := .tuple #[chg [] (.slice none 0 0), .int .i64 1]) (by simp [results, Tryz.results7, go_sem, cell_of HB.out.2]; rfl) rfl ?_
    obtain ⟨q1, q2, q3⟩ := hE.out
    rw [q1, q2, q3]
    exact ⟨_, rfl, own_nil _ _, HB.out.1⟩
theorem z_count (z : Int) (w : World) : Calls Tryz.prog 8 #[.int .i64 z] w (ChO w (cntK z) (cntB z) (cntE z)) := by
  have hb0 : Below w.heap.size w (w.alloc zc) := (Below.refl _ w).alloc (Nat.le_refl _) _
  have hnew : (w.alloc zc).heap[w.heap.size]? = some zc := heap_alloc_at w zc _ rfl
  by_cases h1 : 1 ≤ z ∧ z ≤ 10000
  · have hE : Hid (cntE z = 0 ∧ cntK z = [110] ∧ cntB z = putB z.toNat) := ⟨if_pos h1, if_pos h1, if_pos h1⟩
    have d1 : decide (z < 1) = false := by simp; omega
    have d2 : decide (10000 < z) = false := by simp; omega
    have HP := xPut none 0 0 (fun _ => 0) z (w.alloc zc) (by omega) (From.none0 _ _) (fun _ => rfl) (by omega)
    have HS : Hid (∀ w2 v, Own w2 (w.alloc zc).heap.size v (lst (fun _ => 0) 0 ++ putB z.toNat) → Below (w.alloc zc).heap.size (w.alloc zc) w2 → w2.heap[w.heap.size]? = some (.cells #[.string ⟨#[]⟩, .slice none 0 0, .bool false] 31 (0, 0)) ∧ Own w2 w.heap.size v (putB z.toNat) ∧ Below w.heap.size w w2 ∧ w.heap.size < w2.heap.size) := fun w2 v q1 q2 => by
      have hs : w.heap.size < (w.alloc zc).heap.size := by rw [World.size_alloc]; omega
      refine ⟨(q2.block _ hs).trans hnew, q1.mono hb0.size, hb0.trans (q2.mono hb0.size), Nat.lt_of_lt_of_le hs q2.size⟩
    unfold zc at HP HS
    clear hb0 hnew h1
    go_enter Tryz.func8, Tryz.ntmps8
    go_wp2_with (go_at_call 26; refine HP.mono ?_; clear HP; rintro e w2 ⟨v, rfl, q1, q2⟩; obtain ⟨g1, g2, g3, g4⟩ := HS.out w2 v q1 q2; clear q1 q2 HS; obtain ⟨a2, m2, c2, rfl⟩ := own_sl g2; have t0 := cells_at g1 0; have t1 := cells_at g1 1; have t2 := cells_at g1 2; simp at t0 t1 t2; have f0 := cells_free g1 0; have f1 := cells_free g1 1; have f2 := cells_free g1 2)
    obtain ⟨y1, y2, y3⟩ := set3 (k := .string ⟨#[110]⟩) (b := .bool false) g1 g2 (by decide)
    refine bodyPost_ret (v := .tuple #[chg [110] (.slice a2 m2 c2), .int .i64 0]) (by simp [results, Tryz.results8, go_sem, cell_of y1]; rfl) rfl ?_
    obtain ⟨q1, q2, q3⟩ := hE.out
    rw [q1, q2, q3]
    exact ⟨_, rfl, y2, g3.trans (y3.below (Nat.le_refl _))⟩
  · have hE : Hid (cntE z = 1 ∧ cntK z = [] ∧ cntB z = []) := ⟨if_neg h1, if_neg h1, if_neg h1⟩
    have HB : Hid (Below w.heap.size w (w.alloc zc) ∧ (w.alloc zc).heap[w.heap.size]? = some zc) := ⟨hb0, hnew⟩
    unfold zc at HB
    clear hb0 hnew
    by_cases h2 : z < 1
    · have d1 : decide (z < 1) = true := by simpa using h2
      clear h1 h2
      go_enter Tryz.func8, Tryz.ntmps8
      go_wp2
      refine bodyPost_ret (v := .tuple #[chg [] (.slice none 0 0), .int .i64 1]) (by simp [results, Tryz.results8, go_sem, cell_of HB.out.2]; rfl) rfl ?_
      obtain ⟨q1, q2, q3⟩ := hE.out
      rw [q1, q2, q3]
      exact ⟨_, rfl, own_nil _ _, HB.out.1⟩
    · have d1 : decide (z < 1) = false := by simpa using h2
      have d2 : decide (10000 < z) = true := by simp; omega
      clear h1 h2
      go_enter Tryz.func8, Tryz.ntmps8
      go_wp2
      refine bodyPost_ret (v := .tuple #[chg [] (.slice none 0 0), .int .i64 1]) (by simp [results, Tryz.results8, go_sem, cell_of HB.out.2]; rfl) rfl ?_
      obtain ⟨q1, q2, q3⟩ := hE.out
      rw [q1, q2, q3]
      exact ⟨_, rfl, own_nil _ _, HB.out.1⟩
end Go.Proofs.YtdcclfnbpckioaaGreatDoor
