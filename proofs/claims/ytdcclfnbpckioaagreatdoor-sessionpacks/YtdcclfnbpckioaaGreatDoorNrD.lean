/-
  Which replies may be: the program's way, and the document's. Printed by tools/mkmayr.py.
-/
import Derived.Test.YtdcclfnbpckioaaGreatDoorNqD
namespace Go.Proofs.YtdcclfnbpckioaaGreatDoor
open Go.RowKit
set_option linter.unusedVariables false

def mayR (id : ByteArray) (st se wy : Int) (t : ByteArray) : Bool := isIdB id && decide (t.size ≤ 1000 ∧ ((st = 1 ∧ se = 0 ∧ wy = 0) ∨ (st = 2 ∧ se = 0 ∧ 1 ≤ wy ∧ wy ≤ 999 ∧ t.size = 0) ∨ (st = 3 ∧ 1 ≤ se ∧ se ≤ 9999 ∧ wy = 0)))
theorem isEmpty_yes {s : ByteArray} (h : s.size = 0) : s.toList.isEmpty = true := by
  cases e : s.toList with
  | nil => rfl
  | cons a l => have := str_len s; rw [e] at this; simp at this; omega
set_option maxHeartbeats 4000000 in
theorem n_mayR (id : ByteArray) (st se wy : Int) (t : ByteArray) (w : World) :
    Calls Tryz.prog 42 #[.agg #[.string id, .int .i64 st, .int .i64 se, .int .i64 wy, .string t]] w fun e w' => e = .returned (.bool (mayR id st se wy t)) ∧ Below w.heap.size w w' := by
  obtain ⟨W, hW⟩ : ∃ W, W = w.alloc (.cells #[.string id, .int .i64 st, .int .i64 se, .int .i64 wy, .string t] 24) := ⟨_, rfl⟩
  have hb0 : Below w.heap.size w W := by rw [hW]; exact (Below.refl _ w).alloc (Nat.le_refl _) _
  have HS : Hid (∀ wq, Below W.heap.size W wq → wq.cell? ⟨w.heap.size, 1, none⟩ = some (.int .i64 st) ∧ wq.cell? ⟨w.heap.size, 2, none⟩ = some (.int .i64 se) ∧ wq.cell? ⟨w.heap.size, 3, none⟩ = some (.int .i64 wy) ∧ wq.cell? ⟨w.heap.size, 4, none⟩ = some (.string t) ∧ Hid (Below w.heap.size w wq)) := fun wq hq => by
    have e : wq.heap[w.heap.size]? = some (.cells #[.string id, .int .i64 st, .int .i64 se, .int .i64 wy, .string t] 24 (0, 0)) := by
      rw [hq.block _ (by rw [hW]; simp), hW]
      exact heap_new _ _ _ rfl
    exact ⟨cell_of e 1, cell_of e 2, cell_of e 3, cell_of e 4, hb0.trans (hq.mono hb0.size)⟩
  have HI : Calls Tryz.prog 50 #[.string id] W fun e w' => e = .returned (.bool (isIdB id)) ∧ Below W.heap.size W w' := n_isID id W
  clear hb0
  cases hid : isIdB id with
  | false =>
    rw [hid] at HI
    have hm : mayR id st se wy t = false := by simp [mayR, hid]
    rw [hm]
    clear hm hid
    go_enter Tryz.func42, Tryz.ntmps42
    go_wp2_with (go_at_call 50; (try rw [← hW]); refine HI.mono ?_; rintro e w2 ⟨rfl, hb⟩; obtain ⟨s1, s2, s3, s4, s5⟩ := HS.out w2 hb)
    go_ret
    exact ⟨rfl, s5.out⟩
  | true =>
    rw [hid] at HI
    by_cases ht : 1000 < t.size
    · have hm : mayR id st se wy t = false := by
        simp only [mayR, hid, Bool.true_and, decide_eq_false_iff_not]; omega
      have ht' : (1000 : Int) < (t.size : Int) := by omega
      rw [hm]
      clear hm hid
      go_enter Tryz.func42, Tryz.ntmps42
      go_wp2_with (go_at_call 50; (try rw [← hW]); refine HI.mono ?_; rintro e w2 ⟨rfl, hb⟩; obtain ⟨s1, s2, s3, s4, s5⟩ := HS.out w2 hb)
      go_ret
      exact ⟨rfl, s5.out⟩
    have ht' : decide ((1000 : Int) < (t.size : Int)) = false := by simp; omega
    by_cases c0 : st = 1
    · by_cases c1 : se = 0
      · by_cases c2 : wy = 0
        · have q1 : (st == 1) = true := by simp; omega
          have q2 : (se == 0) = true := by simp; omega
          have q3 : (wy == 0) = true := by simp; omega
          have hm : mayR id st se wy t = true := by
            simp only [mayR, hid, Bool.true_and, decide_eq_true_eq]; omega
          rw [hm]
          clear hm hid ht c0 c1 c2
          go_enter Tryz.func42, Tryz.ntmps42
          go_wp2_with (go_at_call 50; (try rw [← hW]); refine HI.mono ?_; rintro e w2 ⟨rfl, hb⟩; obtain ⟨s1, s2, s3, s4, s5⟩ := HS.out w2 hb)
          go_ret
          exact ⟨rfl, s5.out⟩
        · have q1 : (st == 1) = true := by simp; omega
          have q2 : (se == 0) = true := by simp; omega
          have q3 : (wy == 0) = false := by simp; omega
          have hm : mayR id st se wy t = false := by
            simp only [mayR, hid, Bool.true_and, decide_eq_false_iff_not]; omega
          rw [hm]
          clear hm hid ht c0 c1 c2
          go_enter Tryz.func42, Tryz.ntmps42
          go_wp2_with (go_at_call 50; (try rw [← hW]); refine HI.mono ?_; rintro e w2 ⟨rfl, hb⟩; obtain ⟨s1, s2, s3, s4, s5⟩ := HS.out w2 hb)
          go_ret
          exact ⟨rfl, s5.out⟩
      · have q1 : (st == 1) = true := by simp; omega
        have q2 : (se == 0) = false := by simp; omega
        have hm : mayR id st se wy t = false := by
          simp only [mayR, hid, Bool.true_and, decide_eq_false_iff_not]; omega
        rw [hm]
        clear hm hid ht c0 c1
        go_enter Tryz.func42, Tryz.ntmps42
        go_wp2_with (go_at_call 50; (try rw [← hW]); refine HI.mono ?_; rintro e w2 ⟨rfl, hb⟩; obtain ⟨s1, s2, s3, s4, s5⟩ := HS.out w2 hb)
        go_ret
        exact ⟨rfl, s5.out⟩
    · by_cases c1 : st = 2
      · by_cases c2 : se = 0
        · by_cases c3 : (1 ≤ wy ∧ wy ≤ 999)
          · by_cases c4 : t.size = 0
            · have q1 : (st == 1) = false := by simp; omega
              have q2 : (st == 2) = true := by simp; omega
              have q3 : (se == 0) = true := by simp; omega
              have hE : t.toList.isEmpty = true := isEmpty_yes (by omega)
              have HF := fun w => n_from1 wy 999 w
              rw [show (decide (1 ≤ wy) && decide (wy ≤ 999)) = true by simp; omega] at HF
              have hm : mayR id st se wy t = true := by
                simp only [mayR, hid, Bool.true_and, decide_eq_true_eq]; omega
              rw [hm]
              clear hm hid ht c0 c1 c2 c3 c4
              go_enter Tryz.func42, Tryz.ntmps42
              go_wp2_with (first | (go_at_call 50; (try rw [← hW]); refine HI.mono ?_; rintro e w2 ⟨rfl, hb⟩; obtain ⟨s1, s2, s3, s4, s5⟩ := HS.out w2 hb) | (go_at_call 51; refine (HF _).mono ?_; rintro e w3 ⟨rfl, rfl⟩))
              go_ret
              exact ⟨rfl, s5.out⟩
            · have q1 : (st == 1) = false := by simp; omega
              have q2 : (st == 2) = true := by simp; omega
              have q3 : (se == 0) = true := by simp; omega
              have hE : t.toList.isEmpty = false := isEmpty_no (by omega)
              have HF := fun w => n_from1 wy 999 w
              rw [show (decide (1 ≤ wy) && decide (wy ≤ 999)) = true by simp; omega] at HF
              have hm : mayR id st se wy t = false := by
                simp only [mayR, hid, Bool.true_and, decide_eq_false_iff_not]; omega
              rw [hm]
              clear hm hid ht c0 c1 c2 c3 c4
              go_enter Tryz.func42, Tryz.ntmps42
              go_wp2_with (first | (go_at_call 50; (try rw [← hW]); refine HI.mono ?_; rintro e w2 ⟨rfl, hb⟩; obtain ⟨s1, s2, s3, s4, s5⟩ := HS.out w2 hb) | (go_at_call 51; refine (HF _).mono ?_; rintro e w3 ⟨rfl, rfl⟩))
              go_ret
              exact ⟨rfl, s5.out⟩
          · have q1 : (st == 1) = false := by simp; omega
            have q2 : (st == 2) = true := by simp; omega
            have q3 : (se == 0) = true := by simp; omega
            have HF := fun w => n_from1 wy 999 w
            rw [show (decide (1 ≤ wy) && decide (wy ≤ 999)) = false by rw [Bool.eq_false_iff]; simp; omega] at HF
            have hm : mayR id st se wy t = false := by
              simp only [mayR, hid, Bool.true_and, decide_eq_false_iff_not]; omega
            rw [hm]
            clear hm hid ht c0 c1 c2 c3
            go_enter Tryz.func42, Tryz.ntmps42
            go_wp2_with (first | (go_at_call 50; (try rw [← hW]); refine HI.mono ?_; rintro e w2 ⟨rfl, hb⟩; obtain ⟨s1, s2, s3, s4, s5⟩ := HS.out w2 hb) | (go_at_call 51; refine (HF _).mono ?_; rintro e w3 ⟨rfl, rfl⟩))
            go_ret
            exact ⟨rfl, s5.out⟩
        · have q1 : (st == 1) = false := by simp; omega
          have q2 : (st == 2) = true := by simp; omega
          have q3 : (se == 0) = false := by simp; omega
          have hm : mayR id st se wy t = false := by
            simp only [mayR, hid, Bool.true_and, decide_eq_false_iff_not]; omega
          rw [hm]
          clear hm hid ht c0 c1 c2
          go_enter Tryz.func42, Tryz.ntmps42
          go_wp2_with (go_at_call 50; (try rw [← hW]); refine HI.mono ?_; rintro e w2 ⟨rfl, hb⟩; obtain ⟨s1, s2, s3, s4, s5⟩ := HS.out w2 hb)
          go_ret
          exact ⟨rfl, s5.out⟩
      · by_cases c2 : st = 3
        · by_cases c3 : (1 ≤ se ∧ se ≤ 9999)
          · by_cases c4 : wy = 0
            · have q1 : (st == 1) = false := by simp; omega
              have q2 : (st == 2) = false := by simp; omega
              have q3 : (st == 3) = true := by simp; omega
              have q4 : (wy == 0) = true := by simp; omega
              have HF := fun w => n_from1 se 9999 w
              rw [show (decide (1 ≤ se) && decide (se ≤ 9999)) = true by simp; omega] at HF
              have hm : mayR id st se wy t = true := by
                simp only [mayR, hid, Bool.true_and, decide_eq_true_eq]; omega
              rw [hm]
              clear hm hid ht c0 c1 c2 c3 c4
              go_enter Tryz.func42, Tryz.ntmps42
              go_wp2_with (first | (go_at_call 50; (try rw [← hW]); refine HI.mono ?_; rintro e w2 ⟨rfl, hb⟩; obtain ⟨s1, s2, s3, s4, s5⟩ := HS.out w2 hb) | (go_at_call 51; refine (HF _).mono ?_; rintro e w3 ⟨rfl, rfl⟩))
              go_ret
              exact ⟨rfl, s5.out⟩
            · have q1 : (st == 1) = false := by simp; omega
              have q2 : (st == 2) = false := by simp; omega
              have q3 : (st == 3) = true := by simp; omega
              have q4 : (wy == 0) = false := by simp; omega
              have HF := fun w => n_from1 se 9999 w
              rw [show (decide (1 ≤ se) && decide (se ≤ 9999)) = true by simp; omega] at HF
              have hm : mayR id st se wy t = false := by
                simp only [mayR, hid, Bool.true_and, decide_eq_false_iff_not]; omega
              rw [hm]
              clear hm hid ht c0 c1 c2 c3 c4
              go_enter Tryz.func42, Tryz.ntmps42
              go_wp2_with (first | (go_at_call 50; (try rw [← hW]); refine HI.mono ?_; rintro e w2 ⟨rfl, hb⟩; obtain ⟨s1, s2, s3, s4, s5⟩ := HS.out w2 hb) | (go_at_call 51; refine (HF _).mono ?_; rintro e w3 ⟨rfl, rfl⟩))
              go_ret
              exact ⟨rfl, s5.out⟩
          · have q1 : (st == 1) = false := by simp; omega
            have q2 : (st == 2) = false := by simp; omega
            have q3 : (st == 3) = true := by simp; omega
            have HF := fun w => n_from1 se 9999 w
            rw [show (decide (1 ≤ se) && decide (se ≤ 9999)) = false by rw [Bool.eq_false_iff]; simp; omega] at HF
            have hm : mayR id st se wy t = false := by
              simp only [mayR, hid, Bool.true_and, decide_eq_false_iff_not]; omega
            rw [hm]
            clear hm hid ht c0 c1 c2 c3
            go_enter Tryz.func42, Tryz.ntmps42
            go_wp2_with (first | (go_at_call 50; (try rw [← hW]); refine HI.mono ?_; rintro e w2 ⟨rfl, hb⟩; obtain ⟨s1, s2, s3, s4, s5⟩ := HS.out w2 hb) | (go_at_call 51; refine (HF _).mono ?_; rintro e w3 ⟨rfl, rfl⟩))
            go_ret
            exact ⟨rfl, s5.out⟩
        · have q1 : (st == 1) = false := by simp; omega
          have q2 : (st == 2) = false := by simp; omega
          have q3 : (st == 3) = false := by simp; omega
          have hm : mayR id st se wy t = false := by
            simp only [mayR, hid, Bool.true_and, decide_eq_false_iff_not]; omega
          rw [hm]
          clear hm hid ht c0 c1 c2
          go_enter Tryz.func42, Tryz.ntmps42
          go_wp2_with (go_at_call 50; (try rw [← hW]); refine HI.mono ?_; rintro e w2 ⟨rfl, hb⟩; obtain ⟨s1, s2, s3, s4, s5⟩ := HS.out w2 hb)
          go_ret
          exact ⟨rfl, s5.out⟩
set_option maxHeartbeats 4000000 in
theorem x_mayR (id : ByteArray) (st se wy : Int) (t : ByteArray) (w : World) :
    Calls Tryz.prog 45 #[.agg #[.string id, .int .i64 st, .int .i64 se, .int .i64 wy, .string t]] w fun e w' => e = .returned (.bool (mayR id st se wy t)) ∧ Below w.heap.size w w' := by
  obtain ⟨W, hW⟩ : ∃ W, W = w.alloc (.cells #[.string id, .int .i64 st, .int .i64 se, .int .i64 wy, .string t] 24) := ⟨_, rfl⟩
  have hb0 : Below w.heap.size w W := by rw [hW]; exact (Below.refl _ w).alloc (Nat.le_refl _) _
  have HS : Hid (∀ wq, Below W.heap.size W wq → wq.cell? ⟨w.heap.size, 1, none⟩ = some (.int .i64 st) ∧ wq.cell? ⟨w.heap.size, 2, none⟩ = some (.int .i64 se) ∧ wq.cell? ⟨w.heap.size, 3, none⟩ = some (.int .i64 wy) ∧ wq.cell? ⟨w.heap.size, 4, none⟩ = some (.string t) ∧ Hid (Below w.heap.size w wq)) := fun wq hq => by
    have e : wq.heap[w.heap.size]? = some (.cells #[.string id, .int .i64 st, .int .i64 se, .int .i64 wy, .string t] 24 (0, 0)) := by
      rw [hq.block _ (by rw [hW]; simp), hW]
      exact heap_new _ _ _ rfl
    exact ⟨cell_of e 1, cell_of e 2, cell_of e 3, cell_of e 4, hb0.trans (hq.mono hb0.size)⟩
  have HI : Calls Tryz.prog 57 #[.string id] W fun e w' => e = .returned (.bool (isIdB id)) ∧ Below W.heap.size W w' := (x_isID id W).mono fun e w' h => ⟨h.1, by rw [h.2]; exact Below.refl _ _⟩
  clear hb0
  cases hid : isIdB id with
  | false =>
    rw [hid] at HI
    have hm : mayR id st se wy t = false := by simp [mayR, hid]
    rw [hm]
    clear hm hid
    go_enter Tryz.func45, Tryz.ntmps45
    go_wp2_with (go_at_call 57; (try rw [← hW]); refine HI.mono ?_; rintro e w2 ⟨rfl, hb⟩; obtain ⟨s1, s2, s3, s4, s5⟩ := HS.out w2 hb)
    go_ret
    exact ⟨rfl, s5.out⟩
  | true =>
    rw [hid] at HI
    by_cases ht : 1000 < t.size
    · have hm : mayR id st se wy t = false := by
        simp only [mayR, hid, Bool.true_and, decide_eq_false_iff_not]; omega
      have ht' : (1000 : Int) < (t.size : Int) := by omega
      rw [hm]
      clear hm hid
      go_enter Tryz.func45, Tryz.ntmps45
      go_wp2_with (go_at_call 57; (try rw [← hW]); refine HI.mono ?_; rintro e w2 ⟨rfl, hb⟩; obtain ⟨s1, s2, s3, s4, s5⟩ := HS.out w2 hb)
      go_ret
      exact ⟨rfl, s5.out⟩
    have ht' : decide ((1000 : Int) < (t.size : Int)) = false := by simp; omega
    by_cases c0 : st = 1
    · by_cases c1 : se = 0
      · by_cases c2 : wy = 0
        · have q1 : (st == 1) = true := by simp; omega
          have q2 : (se == 0) = true := by simp; omega
          have q3 : (wy == 0) = true := by simp; omega
          have hm : mayR id st se wy t = true := by
            simp only [mayR, hid, Bool.true_and, decide_eq_true_eq]; omega
          rw [hm]
          clear hm hid ht c0 c1 c2
          go_enter Tryz.func45, Tryz.ntmps45
          go_wp2_with (go_at_call 57; (try rw [← hW]); refine HI.mono ?_; rintro e w2 ⟨rfl, hb⟩; obtain ⟨s1, s2, s3, s4, s5⟩ := HS.out w2 hb)
          go_ret
          exact ⟨rfl, s5.out⟩
        · have q1 : (st == 1) = true := by simp; omega
          have q2 : (se == 0) = true := by simp; omega
          have q3 : (wy == 0) = false := by simp; omega
          have hm : mayR id st se wy t = false := by
            simp only [mayR, hid, Bool.true_and, decide_eq_false_iff_not]; omega
          rw [hm]
          clear hm hid ht c0 c1 c2
          go_enter Tryz.func45, Tryz.ntmps45
          go_wp2_with (go_at_call 57; (try rw [← hW]); refine HI.mono ?_; rintro e w2 ⟨rfl, hb⟩; obtain ⟨s1, s2, s3, s4, s5⟩ := HS.out w2 hb)
          go_ret
          exact ⟨rfl, s5.out⟩
      · have q1 : (st == 1) = true := by simp; omega
        have q2 : (se == 0) = false := by simp; omega
        have hm : mayR id st se wy t = false := by
          simp only [mayR, hid, Bool.true_and, decide_eq_false_iff_not]; omega
        rw [hm]
        clear hm hid ht c0 c1
        go_enter Tryz.func45, Tryz.ntmps45
        go_wp2_with (go_at_call 57; (try rw [← hW]); refine HI.mono ?_; rintro e w2 ⟨rfl, hb⟩; obtain ⟨s1, s2, s3, s4, s5⟩ := HS.out w2 hb)
        go_ret
        exact ⟨rfl, s5.out⟩
    · by_cases c1 : st = 2
      · by_cases c2 : se = 0
        · by_cases c3 : 1 ≤ wy
          · by_cases c4 : wy ≤ 999
            · by_cases c5 : t.size = 0
              · have q1 : (st == 1) = false := by simp; omega
                have q2 : (st == 2) = true := by simp; omega
                have q3 : (se == 0) = true := by simp; omega
                have q4 : 1 ≤ wy := by omega
                have q5 : wy ≤ 999 := by omega
                have hE : t.toList.isEmpty = true := isEmpty_yes (by omega)
                have hm : mayR id st se wy t = true := by
                  simp only [mayR, hid, Bool.true_and, decide_eq_true_eq]; omega
                rw [hm]
                clear hm hid ht c0 c1 c2 c3 c4 c5
                go_enter Tryz.func45, Tryz.ntmps45
                go_wp2_with (go_at_call 57; (try rw [← hW]); refine HI.mono ?_; rintro e w2 ⟨rfl, hb⟩; obtain ⟨s1, s2, s3, s4, s5⟩ := HS.out w2 hb)
                go_ret
                exact ⟨rfl, s5.out⟩
              · have q1 : (st == 1) = false := by simp; omega
                have q2 : (st == 2) = true := by simp; omega
                have q3 : (se == 0) = true := by simp; omega
                have q4 : 1 ≤ wy := by omega
                have q5 : wy ≤ 999 := by omega
                have hE : t.toList.isEmpty = false := isEmpty_no (by omega)
                have hm : mayR id st se wy t = false := by
                  simp only [mayR, hid, Bool.true_and, decide_eq_false_iff_not]; omega
                rw [hm]
                clear hm hid ht c0 c1 c2 c3 c4 c5
                go_enter Tryz.func45, Tryz.ntmps45
                go_wp2_with (go_at_call 57; (try rw [← hW]); refine HI.mono ?_; rintro e w2 ⟨rfl, hb⟩; obtain ⟨s1, s2, s3, s4, s5⟩ := HS.out w2 hb)
                go_ret
                exact ⟨rfl, s5.out⟩
            · have q1 : (st == 1) = false := by simp; omega
              have q2 : (st == 2) = true := by simp; omega
              have q3 : (se == 0) = true := by simp; omega
              have q4 : 1 ≤ wy := by omega
              have q5 : decide (wy ≤ 999) = false := by simp; omega
              have hm : mayR id st se wy t = false := by
                simp only [mayR, hid, Bool.true_and, decide_eq_false_iff_not]; omega
              rw [hm]
              clear hm hid ht c0 c1 c2 c3 c4
              go_enter Tryz.func45, Tryz.ntmps45
              go_wp2_with (go_at_call 57; (try rw [← hW]); refine HI.mono ?_; rintro e w2 ⟨rfl, hb⟩; obtain ⟨s1, s2, s3, s4, s5⟩ := HS.out w2 hb)
              go_ret
              exact ⟨rfl, s5.out⟩
          · have q1 : (st == 1) = false := by simp; omega
            have q2 : (st == 2) = true := by simp; omega
            have q3 : (se == 0) = true := by simp; omega
            have q4 : decide (1 ≤ wy) = false := by simp; omega
            have hm : mayR id st se wy t = false := by
              simp only [mayR, hid, Bool.true_and, decide_eq_false_iff_not]; omega
            rw [hm]
            clear hm hid ht c0 c1 c2 c3
            go_enter Tryz.func45, Tryz.ntmps45
            go_wp2_with (go_at_call 57; (try rw [← hW]); refine HI.mono ?_; rintro e w2 ⟨rfl, hb⟩; obtain ⟨s1, s2, s3, s4, s5⟩ := HS.out w2 hb)
            go_ret
            exact ⟨rfl, s5.out⟩
        · have q1 : (st == 1) = false := by simp; omega
          have q2 : (st == 2) = true := by simp; omega
          have q3 : (se == 0) = false := by simp; omega
          have hm : mayR id st se wy t = false := by
            simp only [mayR, hid, Bool.true_and, decide_eq_false_iff_not]; omega
          rw [hm]
          clear hm hid ht c0 c1 c2
          go_enter Tryz.func45, Tryz.ntmps45
          go_wp2_with (go_at_call 57; (try rw [← hW]); refine HI.mono ?_; rintro e w2 ⟨rfl, hb⟩; obtain ⟨s1, s2, s3, s4, s5⟩ := HS.out w2 hb)
          go_ret
          exact ⟨rfl, s5.out⟩
      · by_cases c2 : st = 3
        · by_cases c3 : 1 ≤ se
          · by_cases c4 : se ≤ 9999
            · by_cases c5 : wy = 0
              · have q1 : (st == 1) = false := by simp; omega
                have q2 : (st == 2) = false := by simp; omega
                have q3 : (st == 3) = true := by simp; omega
                have q4 : 1 ≤ se := by omega
                have q5 : se ≤ 9999 := by omega
                have q6 : (wy == 0) = true := by simp; omega
                have hm : mayR id st se wy t = true := by
                  simp only [mayR, hid, Bool.true_and, decide_eq_true_eq]; omega
                rw [hm]
                clear hm hid ht c0 c1 c2 c3 c4 c5
                go_enter Tryz.func45, Tryz.ntmps45
                go_wp2_with (go_at_call 57; (try rw [← hW]); refine HI.mono ?_; rintro e w2 ⟨rfl, hb⟩; obtain ⟨s1, s2, s3, s4, s5⟩ := HS.out w2 hb)
                go_ret
                exact ⟨rfl, s5.out⟩
              · have q1 : (st == 1) = false := by simp; omega
                have q2 : (st == 2) = false := by simp; omega
                have q3 : (st == 3) = true := by simp; omega
                have q4 : 1 ≤ se := by omega
                have q5 : se ≤ 9999 := by omega
                have q6 : (wy == 0) = false := by simp; omega
                have hm : mayR id st se wy t = false := by
                  simp only [mayR, hid, Bool.true_and, decide_eq_false_iff_not]; omega
                rw [hm]
                clear hm hid ht c0 c1 c2 c3 c4 c5
                go_enter Tryz.func45, Tryz.ntmps45
                go_wp2_with (go_at_call 57; (try rw [← hW]); refine HI.mono ?_; rintro e w2 ⟨rfl, hb⟩; obtain ⟨s1, s2, s3, s4, s5⟩ := HS.out w2 hb)
                go_ret
                exact ⟨rfl, s5.out⟩
            · have q1 : (st == 1) = false := by simp; omega
              have q2 : (st == 2) = false := by simp; omega
              have q3 : (st == 3) = true := by simp; omega
              have q4 : 1 ≤ se := by omega
              have q5 : decide (se ≤ 9999) = false := by simp; omega
              have hm : mayR id st se wy t = false := by
                simp only [mayR, hid, Bool.true_and, decide_eq_false_iff_not]; omega
              rw [hm]
              clear hm hid ht c0 c1 c2 c3 c4
              go_enter Tryz.func45, Tryz.ntmps45
              go_wp2_with (go_at_call 57; (try rw [← hW]); refine HI.mono ?_; rintro e w2 ⟨rfl, hb⟩; obtain ⟨s1, s2, s3, s4, s5⟩ := HS.out w2 hb)
              go_ret
              exact ⟨rfl, s5.out⟩
          · have q1 : (st == 1) = false := by simp; omega
            have q2 : (st == 2) = false := by simp; omega
            have q3 : (st == 3) = true := by simp; omega
            have q4 : decide (1 ≤ se) = false := by simp; omega
            have hm : mayR id st se wy t = false := by
              simp only [mayR, hid, Bool.true_and, decide_eq_false_iff_not]; omega
            rw [hm]
            clear hm hid ht c0 c1 c2 c3
            go_enter Tryz.func45, Tryz.ntmps45
            go_wp2_with (go_at_call 57; (try rw [← hW]); refine HI.mono ?_; rintro e w2 ⟨rfl, hb⟩; obtain ⟨s1, s2, s3, s4, s5⟩ := HS.out w2 hb)
            go_ret
            exact ⟨rfl, s5.out⟩
        · have q1 : (st == 1) = false := by simp; omega
          have q2 : (st == 2) = false := by simp; omega
          have q3 : (st == 3) = false := by simp; omega
          have hm : mayR id st se wy t = false := by
            simp only [mayR, hid, Bool.true_and, decide_eq_false_iff_not]; omega
          rw [hm]
          clear hm hid ht c0 c1 c2
          go_enter Tryz.func45, Tryz.ntmps45
          go_wp2_with (go_at_call 57; (try rw [← hW]); refine HI.mono ?_; rintro e w2 ⟨rfl, hb⟩; obtain ⟨s1, s2, s3, s4, s5⟩ := HS.out w2 hb)
          go_ret
          exact ⟨rfl, s5.out⟩
end Go.Proofs.YtdcclfnbpckioaaGreatDoor
