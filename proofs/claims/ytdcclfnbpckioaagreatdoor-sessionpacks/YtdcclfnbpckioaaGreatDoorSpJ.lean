/-
  Root on both sides.
-/
import Derived.Test.YtdcclfnbpckioaaGreatDoorSpI
namespace Go.Proofs.YtdcclfnbpckioaaGreatDoor
open Go.RowKit Go.Shelf
set_option linter.unusedVariables false
set_option maxRecDepth 100000
set_option maxHeartbeats 2000000

def isR (s : ByteArray) : Bool := decide (1 ≤ s.size) && decide (s.size ≤ 11)
theorem j_isroot (s : ByteArray) (hs : s.size ≤ 140737488355328) (w : World) : Calls Tryz.prog 30 #[.string s] w fun e w' => e = .returned (.bool (isR s)) ∧ w' = w := by
  by_cases h : s.size = 0
  · have hl : s.toList = [] := by
      rw [ByteArray.toList_eq]
      exact List.eq_nil_of_length_eq_zero (by rw [Array.length_toList]; exact h)
    have hE : Hid (isR s = false) := by
      show isR s = false
      unfold isR
      rw [h]
      rfl
    go_enter Tryz.func30, Tryz.ntmps30
    go_wp2
    go_ret
    exact ⟨by rw [hE.out]; rfl, rfl⟩
  · have hl0 : s.toList ≠ [] := fun e => by
      rw [ByteArray.toList_eq] at e
      exact h (by have := congrArg List.length e; rw [Array.length_toList] at this; exact this)
    have hl : s.toList.isEmpty = false := by simpa using hl0
    clear hl0
    have hE : Hid (isR s = decide ((s.size : Int) ≤ 11)) := by
      show isR s = _
      unfold isR
      rw [show decide (1 ≤ s.size) = true by simp; omega, Bool.true_and]
      congr 1
      simp
      omega
    go_enter Tryz.func30, Tryz.ntmps30
    go_wp2
    go_ret
    exact ⟨by rw [hE.out]; try rfl, rfl⟩
theorem z_isname (s : ByteArray) (hs : s.size ≤ 140737488355328) (w : World) : Calls Tryz.prog 32 #[.string s] w fun e w' => e = .returned (.bool (isR s)) ∧ w' = w := by
  by_cases h : 1 ≤ s.size
  · have d1 : decide ((1 : Int) ≤ (s.size : Int)) = true := by simp; omega
    have hE : Hid (isR s = decide ((s.size : Int) ≤ 11)) := by
      show isR s = _
      unfold isR
      rw [show decide (1 ≤ s.size) = true by simp; omega, Bool.true_and]
      congr 1
      simp
      omega
    go_enter Tryz.func32, Tryz.ntmps32
    go_wp2
    go_ret
    exact ⟨by rw [hE.out]; try rfl, rfl⟩
  · have d1 : decide ((1 : Int) ≤ (s.size : Int)) = false := by simp; omega
    have hE : Hid (isR s = false) := by
      show isR s = false
      unfold isR
      rw [show decide (1 ≤ s.size) = false from decide_eq_false h]
      rfl
    go_enter Tryz.func32, Tryz.ntmps32
    go_wp2
    go_ret
    exact ⟨by rw [hE.out]; try rfl, rfl⟩
def rtE (s : ByteArray) (n : Nat) : Int := if isR s then (if n ≤ 1500 then 0 else 4) else 6
def rtK (s : ByteArray) (n : Nat) : List UInt8 := if isR s ∧ n ≤ 1500 then pre 118 s else []
def rtB (s : ByteArray) (f : Nat → Int) (n : Nat) : List Int := if isR s ∧ n ≤ 1500 then lst f n else []
theorem j_root (s : ByteArray) (hs : s.size ≤ 140737488355328) (ao : Option Addr) (n c : Nat) (f : Nat → Int) (w : World) (hn : n ≤ 140737488355328) (hf : From w ao n f) : Calls Tryz.prog 11 #[.string s, .slice ao n c] w (ChO w (rtK s n) (rtB s f n) (rtE s n)) := by
  have hb0 : Below w.heap.size w (w.alloc zc) := (Below.refl _ w).alloc (Nat.le_refl _) _
  have hnew : (w.alloc zc).heap[w.heap.size]? = some zc := heap_alloc_at w zc _ rfl
  have HI := j_isroot s hs (w.alloc zc)
  have HB : Hid (Below w.heap.size w (w.alloc zc) ∧ (w.alloc zc).heap[w.heap.size]? = some zc) := ⟨hb0, hnew⟩
  by_cases h1 : isR s = true
  · rw [h1] at HI
    by_cases h2 : n ≤ 1500
    · have hE : Hid (rtE s n = 0 ∧ rtK s n = pre 118 s ∧ rtB s f n = lst f n) := ⟨by rw [rtE, if_pos h1, if_pos h2], if_pos ⟨h1, h2⟩, if_pos ⟨h1, h2⟩⟩
      have d2 : decide ((1500 : Int) < (n : Int)) = false := by simp; omega
      have HP := clone ao n c f (w.alloc zc) hn (hf.alloc _)
      have HS : Hid (∀ w2 v, Own w2 (w.alloc zc).heap.size v (lst f n) → Below (w.alloc zc).heap.size (w.alloc zc) w2 → w2.heap[w.heap.size]? = some (.cells #[.string ⟨#[]⟩, .slice none 0 0, .bool false] 31 (0, 0)) ∧ Own w2 w.heap.size v (lst f n) ∧ Below w.heap.size w w2) := fun w2 v q1 q2 => by
        have hs : w.heap.size < (w.alloc zc).heap.size := by rw [World.size_alloc]; omega
        refine ⟨(q2.block _ hs).trans hnew, q1.mono hb0.size, hb0.trans (q2.mono hb0.size)⟩
      unfold zc at HI HP HS
      clear hb0 hnew h1 h2 hf HB
      go_enter Tryz.func11, Tryz.ntmps11
      go_wp2_with first
        | (go_at_call 4; refine HP.mono ?_; clear HP; rintro e w2 ⟨v, rfl, q1, q2⟩; obtain ⟨g1, g2, g3⟩ := HS.out w2 v q1 q2; clear q1 q2 HS; obtain ⟨a2, m2, c2, rfl⟩ := own_sl g2; have t0 := cells_at g1 0; have t1 := cells_at g1 1; have t2 := cells_at g1 2; simp at t0 t1 t2; have f0 := cells_free g1 0; have f1 := cells_free g1 1; have f2 := cells_free g1 2)
        | (go_at_call 31; refine (j_vkey s hs _).mono ?_; rintro e w4 ⟨rfl, hz⟩; rw [hz]; clear hz)
        | (go_at_call 30; refine HI.mono ?_; clear HI; rintro e w1 ⟨rfl, hz⟩; rw [hz]; clear hz)
      obtain ⟨y1, y2, y3⟩ := set3 (k := .string ⟨(pre 118 s).toArray⟩) (b := .bool false) g1 g2 (by decide)
      refine bodyPost_ret (v := .tuple #[chg (pre 118 s) (.slice a2 m2 c2), .int .i64 0]) (by simp [results, Tryz.results11, go_sem, cell_of y1]; rfl) rfl ?_
      obtain ⟨q1, q2, q3⟩ := hE.out
      rw [q1, q2, q3]
      exact ⟨_, rfl, y2, g3.trans (y3.below (Nat.le_refl _))⟩
    · have hE : Hid (rtE s n = 4 ∧ rtK s n = [] ∧ rtB s f n = []) := ⟨by rw [rtE, if_pos h1, if_neg h2], if_neg (fun h => h2 h.2), if_neg (fun h => h2 h.2)⟩
      have d2 : decide ((1500 : Int) < (n : Int)) = true := by simp; omega
      unfold zc at HI HB
      clear hb0 hnew h1 h2 hf
      go_enter Tryz.func11, Tryz.ntmps11
      go_wp2_with (go_at_call 30; refine HI.mono ?_; clear HI; rintro e w1 ⟨rfl, hz⟩; rw [hz]; clear hz)
      refine bodyPost_ret (v := .tuple #[chg [] (.slice none 0 0), .int .i64 4]) (by simp [results, Tryz.results11, go_sem, cell_of HB.out.2]; rfl) rfl ?_
      obtain ⟨q1, q2, q3⟩ := hE.out
      rw [q1, q2, q3]
      exact ⟨_, rfl, own_nil _ _, HB.out.1⟩
  · have h1 : isR s = false := by simpa using h1
    rw [h1] at HI
    have hE : Hid (rtE s n = 6 ∧ rtK s n = [] ∧ rtB s f n = []) := ⟨by rw [rtE, if_neg (by simp [h1])], if_neg (by simp [h1]), if_neg (by simp [h1])⟩
    unfold zc at HI HB
    clear hb0 hnew h1 hf
    go_enter Tryz.func11, Tryz.ntmps11
    go_wp2_with (go_at_call 30; refine HI.mono ?_; clear HI; rintro e w1 ⟨rfl, hz⟩; rw [hz]; clear hz)
    refine bodyPost_ret (v := .tuple #[chg [] (.slice none 0 0), .int .i64 6]) (by simp [results, Tryz.results11, go_sem, cell_of HB.out.2]; rfl) rfl ?_
    obtain ⟨q1, q2, q3⟩ := hE.out
    rw [q1, q2, q3]
    exact ⟨_, rfl, own_nil _ _, HB.out.1⟩
theorem z_root (s : ByteArray) (hs : s.size ≤ 140737488355328) (ao : Option Addr) (n c : Nat) (f : Nat → Int) (w : World) (hn : n ≤ 140737488355328) (hf : From w ao n f) (h0 : ao = none → c = 0) : Calls Tryz.prog 12 #[.string s, .slice ao n c] w (ChO w (rtK s n) (rtB s f n) (rtE s n)) := by
  have hb0 : Below w.heap.size w (w.alloc zc) := (Below.refl _ w).alloc (Nat.le_refl _) _
  have hnew : (w.alloc zc).heap[w.heap.size]? = some zc := heap_alloc_at w zc _ rfl
  have HI := z_isname s hs (w.alloc zc)
  have HB : Hid (Below w.heap.size w (w.alloc zc) ∧ (w.alloc zc).heap[w.heap.size]? = some zc) := ⟨hb0, hnew⟩
  by_cases h1 : isR s = true
  · rw [h1] at HI
    by_cases h2 : n ≤ 1500
    · have hE : Hid (rtE s n = 0 ∧ rtK s n = pre 118 s ∧ rtB s f n = lst f n) := ⟨by rw [rtE, if_pos h1, if_pos h2], if_pos ⟨h1, h2⟩, if_pos ⟨h1, h2⟩⟩
      have d2 : decide ((1500 : Int) < (n : Int)) = false := by simp; omega
      have hb1 : Below w.heap.size w ((w.alloc zc).alloc (.cells #[] 5)) := hb0.alloc hb0.size _
      have hsz : (w.alloc zc).heap.size = w.heap.size + 1 := World.size_alloc ..
      have hmo : Own ((w.alloc zc).alloc (.cells #[] 5)) (w.heap.size + 1) (.slice (some ⟨w.heap.size + 1, 0, none⟩) 0 0) [] := by
        have := World.ownsRow_made (w.alloc zc) #[] 0 (Nat.le_refl _) (Nat.zero_le _) rfl (base := (w.alloc zc).heap.size) (e := 5) (size := 1)
        rw [hsz] at this
        exact this
      have HF : Hid (From ((w.alloc zc).alloc (.cells #[] 5)) ao n f) := (hf.alloc _).alloc _
      have HS : Hid (∀ w2 v, Own w2 (w.heap.size + 1) v (lst f n) → Below (w.heap.size + 1) ((w.alloc zc).alloc (.cells #[] 5)) w2 → w2.heap[w.heap.size]? = some (.cells #[.string ⟨#[]⟩, .slice none 0 0, .bool false] 31 (0, 0)) ∧ Own w2 w.heap.size v (lst f n) ∧ Below w.heap.size w w2) := fun w2 v q1 q2 => by
        have h3 : ((w.alloc zc).alloc (.cells #[] 5)).heap[w.heap.size]? = some zc := by
          rw [Below.heap_alloc _ _ _ (by rw [hsz]; omega)]
          exact hnew
        refine ⟨(q2.block _ (by omega)).trans h3, q1.mono (by omega), hb1.trans (q2.mono (by omega))⟩
      have hpe := pre_eq 118 s
      unfold zc at HI HF HS hmo
      clear hb0 hb1 hnew h1 h2 hf HB hsz
      go_enter Tryz.func12, Tryz.ntmps12
      go_wp2_with first
        | (at_builtin; refine wpList_app rfl _ _ rfl (w.heap.size + 1) _ [] rfl hmo ao n c f rfl HF.out ?q1 ?q2 ?q3 ?_)
        | (go_at_call 32; refine HI.mono ?_; clear HI; rintro e w1 ⟨rfl, hz⟩; rw [hz]; clear hz)
      try (case q1 => exact h0)
      try (case q2 => simp; try omega)
      try (case q3 => simp)
      intro v w2 q1 q2
      try rw [List.nil_append] at q1
      obtain ⟨g1, g2, g3⟩ := HS.out w2 v q1 q2
      clear q1 q2 HS
      obtain ⟨a2, m2, c2, rfl⟩ := own_sl g2
      have t0 := cells_at g1 0
      have t1 := cells_at g1 1
      have t2 := cells_at g1 2
      simp at t0 t1 t2
      have f0 := cells_free g1 0
      have f1 := cells_free g1 1
      have f2 := cells_free g1 2
      go_wp2
      all_goals try rw [hpe]
      obtain ⟨y1, y2, y3⟩ := set3 (k := .string ⟨(pre 118 s).toArray⟩) (b := .bool false) g1 g2 (by decide)
      refine bodyPost_ret (v := .tuple #[chg (pre 118 s) (.slice a2 m2 c2), .int .i64 0]) (by simp [results, Tryz.results12, go_sem, cell_of y1]; rfl) rfl ?_
      obtain ⟨q1, q2, q3⟩ := hE.out
      rw [q1, q2, q3]
      exact ⟨_, rfl, y2, g3.trans (y3.below (Nat.le_refl _))⟩
    · have hE : Hid (rtE s n = 4 ∧ rtK s n = [] ∧ rtB s f n = []) := ⟨by rw [rtE, if_pos h1, if_neg h2], if_neg (fun h => h2 h.2), if_neg (fun h => h2 h.2)⟩
      have d2 : decide ((1500 : Int) < (n : Int)) = true := by simp; omega
      unfold zc at HI HB
      clear hb0 hnew h1 h2 hf h0
      go_enter Tryz.func12, Tryz.ntmps12
      go_wp2_with (go_at_call 32; refine HI.mono ?_; clear HI; rintro e w1 ⟨rfl, hz⟩; rw [hz]; clear hz)
      refine bodyPost_ret (v := .tuple #[chg [] (.slice none 0 0), .int .i64 4]) (by simp [results, Tryz.results12, go_sem, cell_of HB.out.2]; rfl) rfl ?_
      obtain ⟨q1, q2, q3⟩ := hE.out
      rw [q1, q2, q3]
      exact ⟨_, rfl, own_nil _ _, HB.out.1⟩
  · have h1 : isR s = false := by simpa using h1
    rw [h1] at HI
    have hE : Hid (rtE s n = 6 ∧ rtK s n = [] ∧ rtB s f n = []) := ⟨by rw [rtE, if_neg (by simp [h1])], if_neg (by simp [h1]), if_neg (by simp [h1])⟩
    unfold zc at HI HB
    clear hb0 hnew h1 hf h0
    go_enter Tryz.func12, Tryz.ntmps12
    go_wp2_with (go_at_call 32; refine HI.mono ?_; clear HI; rintro e w1 ⟨rfl, hz⟩; rw [hz]; clear hz)
    refine bodyPost_ret (v := .tuple #[chg [] (.slice none 0 0), .int .i64 6]) (by simp [results, Tryz.results12, go_sem, cell_of HB.out.2]; rfl) rfl ?_
    obtain ⟨q1, q2, q3⟩ := hE.out
    rw [q1, q2, q3]
    exact ⟨_, rfl, own_nil _ _, HB.out.1⟩
end Go.Proofs.YtdcclfnbpckioaaGreatDoor
