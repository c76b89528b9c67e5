/-
  Which requests may be: the program's way, and the document's.
-/
import Derived.Test.YtbpolfoagmehhaaDoorNqC
namespace Go.Proofs.YtbpolfoagmehhaaDoor
open Go.RowKit
set_option linter.unusedVariables false

def mayB (id : ByteArray) (k se : Int) (t : ByteArray) : Bool := isIdB id && (decide (t.size ≤ 1200) && ((decide (k = 1) && decide (se = 0)) || (decide (k = 2) && (decide (1 ≤ se) && decide (se ≤ 9999)))))

theorem n_from1 (n m : Int) (w : World) : Calls Tryd.prog 32 #[.int .i64 n, .int .i64 m] w fun e w' => e = .returned (.bool (decide (1 ≤ n) && decide (n ≤ m))) ∧ w' = w := by
  by_cases h : 1 ≤ n
  · go_enter Tryd.func32, Tryd.ntmps32
    go_wp2
    go_ret
    exact ⟨by simp [h], rfl⟩
  · have h' : decide (1 ≤ n) = false := by simp; omega
    go_enter Tryd.func32, Tryd.ntmps32
    go_wp2
    go_ret
    exact ⟨by simp, rfl⟩
theorem eql_no {a b : Int} (h : ¬ a = b) : (a == b) = false := by simpa using h
set_option maxHeartbeats 2000000 in
theorem n_may (id : ByteArray) (k se : Int) (t : ByteArray) (w : World) :
    Calls Tryd.prog 17 #[.agg #[.string id, .int .i64 k, .int .i64 se, .string t]] w fun e w' => e = .returned (.bool (mayB id k se t)) ∧ Below w.heap.size w w' := by
  obtain ⟨W, hW⟩ : ∃ W, W = w.alloc (.cells #[.string id, .int .i64 k, .int .i64 se, .string t] 23) := ⟨_, rfl⟩
  have hb0 : Below w.heap.size w W := by rw [hW]; exact (Below.refl _ w).alloc (Nat.le_refl _) _
  have HS : Hid (∀ wq, Below W.heap.size W wq → wq.cell? ⟨w.heap.size, 1, none⟩ = some (.int .i64 k) ∧ wq.cell? ⟨w.heap.size, 2, none⟩ = some (.int .i64 se) ∧ wq.cell? ⟨w.heap.size, 3, none⟩ = some (.string t) ∧ Below w.heap.size w wq) := fun wq hq => by
    have e : wq.heap[w.heap.size]? = some (.cells #[.string id, .int .i64 k, .int .i64 se, .string t] 23 (0, 0)) := by
      rw [hq.block _ (by rw [hW]; simp), hW]
      exact heap_new _ _ _ rfl
    exact ⟨cell_of e 1, cell_of e 2, cell_of e 3, hb0.trans (hq.mono hb0.size)⟩
  have HI := n_isID id W
  cases hid : isIdB id with
  | false =>
    rw [hid] at HI
    have hm : mayB id k se t = false := by simp [mayB, hid]
    rw [hm]
    clear hm hid
    go_enter Tryd.func17, Tryd.ntmps17
    go_wp2_with (go_at_call 11; (try rw [← hW]); refine HI.mono ?_; rintro e w2 ⟨rfl, hb⟩)
    go_ret
    exact ⟨rfl, (HS.out w2 hb).2.2.2⟩
  | true =>
    rw [hid] at HI
    by_cases ht : 1200 < t.size
    · have hm : mayB id k se t = false := by simp [mayB]; omega
      have ht' : (1200 : Int) < (t.size : Int) := by omega
      rw [hm]
      clear hm hid
      go_enter Tryd.func17, Tryd.ntmps17
      go_wp2_with (go_at_call 11; (try rw [← hW]); refine HI.mono ?_; rintro e w2 ⟨rfl, hb⟩; obtain ⟨s1, s2, s3, s4⟩ := HS.out w2 hb)
      go_ret
      exact ⟨rfl, s4⟩
    have ht' : decide ((1200 : Int) < (t.size : Int)) = false := by simp; omega
    by_cases hk1 : k = 1
    · subst hk1
      have hm : mayB id 1 se t = (se == 0) := by
        have h12 : t.size ≤ 1200 := by omega
        rw [Bool.eq_iff_iff]
        simp [mayB, hid, h12]
      rw [hm]
      clear hm hid
      go_enter Tryd.func17, Tryd.ntmps17
      go_wp2_with (go_at_call 11; (try rw [← hW]); refine HI.mono ?_; rintro e w2 ⟨rfl, hb⟩; obtain ⟨s1, s2, s3, s4⟩ := HS.out w2 hb)
      go_ret
      exact ⟨rfl, s4⟩
    have hk1' := eql_no hk1
    by_cases hk2 : k = 2
    · subst hk2
      have hm : mayB id 2 se t = (decide (1 ≤ se) && decide (se ≤ 9999)) := by
        have h12 : t.size ≤ 1200 := by omega
        rw [Bool.eq_iff_iff]
        simp [mayB, hid, h12]
      rw [hm]
      clear hm hid hk1 hk1'
      go_enter Tryd.func17, Tryd.ntmps17
      go_wp2_with (first | (go_at_call 11; (try rw [← hW]); refine HI.mono ?_; rintro e w2 ⟨rfl, hb⟩; obtain ⟨s1, s2, s3, s4⟩ := HS.out w2 hb) | (go_at_call 32; refine (n_from1 _ _ _).mono ?_; rintro e w3 ⟨rfl, rfl⟩))
      go_ret
      exact ⟨rfl, s4⟩
    have hk2' := eql_no hk2
    have hm : mayB id k se t = false := by simp [mayB, hk1, hk2]
    rw [hm]
    clear hm hid hk1 hk2
    go_enter Tryd.func17, Tryd.ntmps17
    go_wp2_with (go_at_call 11; (try rw [← hW]); refine HI.mono ?_; rintro e w2 ⟨rfl, hb⟩; obtain ⟨s1, s2, s3, s4⟩ := HS.out w2 hb)
    go_ret
    exact ⟨rfl, s4⟩
set_option maxHeartbeats 2000000 in
theorem x_may (id : ByteArray) (k se : Int) (t : ByteArray) (w : World) :
    Calls Tryd.prog 20 #[.agg #[.string id, .int .i64 k, .int .i64 se, .string t]] w fun e w' => e = .returned (.bool (mayB id k se t)) ∧ Below w.heap.size w w' := by
  obtain ⟨W, hW⟩ : ∃ W, W = w.alloc (.cells #[.string id, .int .i64 k, .int .i64 se, .string t] 23) := ⟨_, rfl⟩
  have hb0 : Below w.heap.size w W := by rw [hW]; exact (Below.refl _ w).alloc (Nat.le_refl _) _
  have HS : Hid (∀ wq, Below W.heap.size W wq → wq.cell? ⟨w.heap.size, 1, none⟩ = some (.int .i64 k) ∧ wq.cell? ⟨w.heap.size, 2, none⟩ = some (.int .i64 se) ∧ wq.cell? ⟨w.heap.size, 3, none⟩ = some (.string t) ∧ Below w.heap.size w wq) := fun wq hq => by
    have e : wq.heap[w.heap.size]? = some (.cells #[.string id, .int .i64 k, .int .i64 se, .string t] 23 (0, 0)) := by
      rw [hq.block _ (by rw [hW]; simp), hW]
      exact heap_new _ _ _ rfl
    exact ⟨cell_of e 1, cell_of e 2, cell_of e 3, hb0.trans (hq.mono hb0.size)⟩
  have HI := x_isID id W
  cases hid : isIdB id with
  | false =>
    rw [hid] at HI
    have hm : mayB id k se t = false := by simp [mayB, hid]
    rw [hm]
    clear hm hid
    go_enter Tryd.func20, Tryd.ntmps20
    go_wp2_with (go_at_call 12; (try rw [← hW]); refine HI.mono ?_; rintro e w2 ⟨rfl, rfl⟩)
    go_ret
    exact ⟨rfl, (Below.refl _ w).alloc (Nat.le_refl _) _⟩
  | true =>
    rw [hid] at HI
    by_cases ht : 1200 < t.size
    · skip
      have hm : mayB id k se t = false := by simp [mayB]; omega
      have ht' : (1200 : Int) < (t.size : Int) := by omega
      rw [hm]
      clear hm hid
      go_enter Tryd.func20, Tryd.ntmps20
      go_wp2_with (go_at_call 12; (try rw [← hW]); refine HI.mono ?_; rintro e w2 ⟨rfl, rfl⟩; obtain ⟨s1, s2, s3, s4⟩ := HS.out _ (Below.refl _ _))
      go_ret
      exact ⟨rfl, (Below.refl _ w).alloc (Nat.le_refl _) _⟩
    have ht' : decide ((1200 : Int) < (t.size : Int)) = false := by simp; omega
    have h12 : t.size ≤ 1200 := by omega
    by_cases hk1 : k = 1
    · subst hk1
      by_cases hs0 : se = 0
      · subst hs0
        have hm : mayB id 1 0 t = true := by simp [mayB, hid, h12]
        rw [hm]
        clear hm hid
        go_enter Tryd.func20, Tryd.ntmps20
        go_wp2_with (go_at_call 12; (try rw [← hW]); refine HI.mono ?_; rintro e w2 ⟨rfl, rfl⟩; obtain ⟨s1, s2, s3, s4⟩ := HS.out _ (Below.refl _ _))
        go_ret
        exact ⟨rfl, (Below.refl _ w).alloc (Nat.le_refl _) _⟩
      · have hs0' := eql_no hs0
        have hm : mayB id 1 se t = false := by simp [mayB, hs0]
        rw [hm]
        clear hm hid hs0
        go_enter Tryd.func20, Tryd.ntmps20
        go_wp2_with (go_at_call 12; (try rw [← hW]); refine HI.mono ?_; rintro e w2 ⟨rfl, rfl⟩; obtain ⟨s1, s2, s3, s4⟩ := HS.out _ (Below.refl _ _))
        go_ret
        exact ⟨rfl, (Below.refl _ w).alloc (Nat.le_refl _) _⟩
    have hk1' := eql_no hk1
    by_cases hk2 : k = 2
    · subst hk2
      by_cases hs1 : 1 ≤ se
      · by_cases hs9 : se ≤ 9999
        · have hm : mayB id 2 se t = true := by simp [mayB, hid, h12, hs1, hs9]
          rw [hm]
          clear hm hid hk1
          go_enter Tryd.func20, Tryd.ntmps20
          go_wp2_with (go_at_call 12; (try rw [← hW]); refine HI.mono ?_; rintro e w2 ⟨rfl, rfl⟩; obtain ⟨s1, s2, s3, s4⟩ := HS.out _ (Below.refl _ _))
          go_ret
          exact ⟨rfl, (Below.refl _ w).alloc (Nat.le_refl _) _⟩
        · have hs9' : decide (se ≤ 9999) = false := by simp; omega
          have hm : mayB id 2 se t = false := by simp [mayB]; omega
          rw [hm]
          clear hm hid hk1 hs9
          go_enter Tryd.func20, Tryd.ntmps20
          go_wp2_with (go_at_call 12; (try rw [← hW]); refine HI.mono ?_; rintro e w2 ⟨rfl, rfl⟩; obtain ⟨s1, s2, s3, s4⟩ := HS.out _ (Below.refl _ _))
          go_ret
          exact ⟨rfl, (Below.refl _ w).alloc (Nat.le_refl _) _⟩
      · have hs1' : decide (1 ≤ se) = false := by simp; omega
        have hm : mayB id 2 se t = false := by simp [mayB]; omega
        rw [hm]
        clear hm hid hk1 hs1
        go_enter Tryd.func20, Tryd.ntmps20
        go_wp2_with (go_at_call 12; (try rw [← hW]); refine HI.mono ?_; rintro e w2 ⟨rfl, rfl⟩; obtain ⟨s1, s2, s3, s4⟩ := HS.out _ (Below.refl _ _))
        go_ret
        exact ⟨rfl, (Below.refl _ w).alloc (Nat.le_refl _) _⟩
    have hk2' := eql_no hk2
    have hm : mayB id k se t = false := by simp [mayB, hk1, hk2]
    rw [hm]
    clear hm hid hk1 hk2
    go_enter Tryd.func20, Tryd.ntmps20
    go_wp2_with (go_at_call 12; (try rw [← hW]); refine HI.mono ?_; rintro e w2 ⟨rfl, rfl⟩; obtain ⟨s1, s2, s3, s4⟩ := HS.out _ (Below.refl _ _))
    go_ret
    exact ⟨rfl, (Below.refl _ w).alloc (Nat.le_refl _) _⟩
end Go.Proofs.YtbpolfoagmehhaaDoor
