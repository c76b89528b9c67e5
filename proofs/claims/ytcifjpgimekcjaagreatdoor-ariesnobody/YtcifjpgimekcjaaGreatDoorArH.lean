/-
  AriesNobody: the law's walk.
-/
import Derived.Test.YtcifjpgimekcjaaGreatDoorArG
namespace Go.Proofs.YtcifjpgimekcjaaGreatDoor
open Go.RowKit
set_option linter.unusedVariables false
set_option maxRecDepth 100000
set_option maxHeartbeats 2000000

/-- Two pointers that lead to nothing that a call made. -/
theorem two_miss {w wq : World} {t1 t2 : TypeId} (hb : Below ((w.alloc (.cells #[.pointer none] t1)).alloc (.cells #[.pointer none, .pointer (some ⟨w.heap.size, 0, none⟩)] t2)).heap.size ((w.alloc (.cells #[.pointer none] t1)).alloc (.cells #[.pointer none, .pointer (some ⟨w.heap.size, 0, none⟩)] t2)) wq) (k : Nat) (hk : k < 2) :
    ∃ P, wq.cell? ⟨w.heap.size + 1, k, none⟩ = some P ∧ Miss wq P := by
  have y1 : ((w.alloc (.cells #[.pointer none] t1)).alloc (.cells #[.pointer none, .pointer (some ⟨w.heap.size, 0, none⟩)] t2)).heap[w.heap.size + 1]? = some (.cells #[.pointer none, .pointer (some ⟨w.heap.size, 0, none⟩)] t2 (0, 0)) := heap_alloc_at _ _ _ (World.size_alloc ..).symm
  have y2 : ((w.alloc (.cells #[.pointer none] t1)).alloc (.cells #[.pointer none, .pointer (some ⟨w.heap.size, 0, none⟩)] t2)).heap[w.heap.size]? = some (.cells #[.pointer none] t1 (0, 0)) := by
    rw [Below.heap_alloc _ _ _ (by rw [World.size_alloc]; omega)]
    exact heap_alloc_at _ _ _ rfl
  have z1 := (hb.block _ (Array.getElem?_eq_some_iff.1 y1).1).trans y1
  have z2 := (hb.block _ (Array.getElem?_eq_some_iff.1 y2).1).trans y2
  have e : k = 0 ∨ k = 1 := by omega
  rcases e with rfl | rfl
  · exact ⟨_, cells_at z1 0, .inl rfl⟩
  · exact ⟨_, cells_at z1 1, .inr ⟨_, rfl, cells_at z2 0⟩⟩
theorem nobody_walk (t pg : Int) (w : World) : Calls Tryz.prog 3 #[.int .i64 t, .int .i64 pg] w fun e w' => e = .returned (.bool true) ∧ Below w.heap.size w w' := by
  have HT : Hid (∀ (W wq : World) (t1 t2 : TypeId), Below ((W.alloc (.cells #[.pointer none] t1)).alloc (.cells #[.pointer none, .pointer (some ⟨W.heap.size, 0, none⟩)] t2)).heap.size ((W.alloc (.cells #[.pointer none] t1)).alloc (.cells #[.pointer none, .pointer (some ⟨W.heap.size, 0, none⟩)] t2)) wq → ∀ k, k < 2 → ∃ P, wq.cell? ⟨W.heap.size + 1, k, none⟩ = some P ∧ Miss wq P) := fun W wq t1 t2 hb k hk => two_miss hb k hk
  have HB0 : Hid (∀ o1 o2, Below w.heap.size w ((w.alloc o1).alloc o2)) := fun o1 o2 => ((Below.refl _ w).alloc (Nat.le_refl _) o1).alloc (by rw [World.size_alloc]; omega) o2
  go_enter Tryz.func3, Tryz.ntmps3
  go_wp2
  go_loopw [19] (fun i wr => ∃ k : Nat, k ≤ 2 ∧ i = .int .i64 (k : Int) ∧ Hid (Below ((w.alloc (.cells #[.pointer none] 25)).alloc (.cells #[.pointer none, .pointer (some ⟨w.heap.size, 0, none⟩)] 22)).heap.size ((w.alloc (.cells #[.pointer none] 25)).alloc (.cells #[.pointer none, .pointer (some ⟨w.heap.size, 0, none⟩)] 22)) wr)) (fun i _ => 2 - (intOf i).toNat)
  case atStart => exact ⟨0, by omega, rfl, Below.refl _ _⟩
  case round =>
    obtain ⟨k, hk, rfl, HB⟩ := hrel
    by_cases hlt : k < 2
    · have hlt' : (k : Int) < 2 := by omega
      have hk0 : (0 : Int) ≤ (k : Int) := by omega
      obtain ⟨P, hc, hM⟩ := HT.out w wr 25 22 HB.out k hlt
      have HM : Hid (Miss wr P) := hM
      have HMa : Hid (∀ o, Miss (wr.alloc o) P) := fun o => hM.below ((Below.refl _ wr).alloc (Nat.le_refl _) o)
      have HBa : Hid (∀ o, Below ((w.alloc (.cells #[.pointer none] 25)).alloc (.cells #[.pointer none, .pointer (some ⟨w.heap.size, 0, none⟩)] 22)).heap.size ((w.alloc (.cells #[.pointer none] 25)).alloc (.cells #[.pointer none, .pointer (some ⟨w.heap.size, 0, none⟩)] 22)) (wr.alloc o)) := fun o => HB.out.alloc HB.out.size o
      clear hM HT
      go_wp2_with first
        | (go_at_call 4; refine (mBegin P _ HM.out).mono ?_; rintro e w1 ⟨rfl, hw⟩; rw [hw]; clear hw)
        | (go_at_call 5; refine (mRead P _ _ _ HM.out).mono ?_; rintro e w1 ⟨rfl, hw⟩; rw [hw]; clear hw)
        | (go_at_call 6; refine (mWrite P _ _ _ _ _ (HMa.out _)).mono ?_; rintro e w1 ⟨rfl, hw⟩; rw [hw]; clear hw)
        | (go_at_call 7; refine (mCommit P _ _ (HMa.out _)).mono ?_; rintro e w1 ⟨rfl, hw⟩; rw [hw]; clear hw)
        | (go_at_call 8; refine (mAbort P _ _ (HMa.out _)).mono ?_; rintro e w1 ⟨rfl, hw⟩; rw [hw]; clear hw)
        | (go_at_call 9; refine (mCheck P _ (HMa.out _)).mono ?_; rintro e w1 ⟨rfl, hw⟩; rw [hw]; clear hw)
        | (go_at_call 10; refine (mPages P _ (HMa.out _)).mono ?_; rintro e w1 ⟨rfl, hw⟩; rw [hw]; clear hw)
        | (go_at_call 11; refine (mRecords P _ (HMa.out _)).mono ?_; rintro e w1 ⟨rfl, hw⟩; rw [hw]; clear hw)
        | (go_at_call 12; refine (mActive P _ (HMa.out _)).mono ?_; rintro e w1 ⟨rfl, hw⟩; rw [hw]; clear hw)
      go_roundw
      case rel => exact ⟨k + 1, by omega, by first | rfl | go_num, HBa.out _⟩
      case measure => simp [intOf]; omega
    · have hge : ¬ (k : Int) < 2 := by omega
      have HBw : Hid (Below w.heap.size w wr) := (HB0.out _ _).trans (HB.out.mono (HB0.out _ _).size)
      obtain ⟨W5, hW5⟩ : ∃ W5, W5 = wr := ⟨_, rfl⟩
      rw [← hW5] at HBw ⊢
      clear HB HB0 hW5 hlt
      go_wp2
      go_loopw [94] (fun i wz => ∃ j : Nat, j ≤ 2 ∧ i = .int .i64 (j : Int) ∧ Hid (Below ((W5.alloc (.cells #[.pointer none] 42)).alloc (.cells #[.pointer none, .pointer (some ⟨W5.heap.size, 0, none⟩)] 39)).heap.size ((W5.alloc (.cells #[.pointer none] 42)).alloc (.cells #[.pointer none, .pointer (some ⟨W5.heap.size, 0, none⟩)] 39)) wz)) (fun i _ => 2 - (intOf i).toNat)
      case atStart => exact ⟨0, by omega, rfl, Below.refl _ _⟩
      case round =>
        obtain ⟨j, hj, rfl, HB⟩ := hrel
        by_cases hlt : j < 2
        · have hlt' : (j : Int) < 2 := by omega
          have hj0 : (0 : Int) ≤ (j : Int) := by omega
          obtain ⟨P, hc, hM⟩ := HT.out W5 wr 42 39 HB.out j hlt
          have HO := openNo P 4 4 4 wr hM
          clear hM HT
          go_wp2_with (go_at_call 13; refine HO.mono ?_; rintro e w1 ⟨rfl, hw⟩; rw [hw]; clear hw)
          go_roundw
          case rel => exact ⟨j + 1, by omega, by first | rfl | go_num, HB.out⟩
          case measure => simp [intOf]; omega
        · have hge2 : ¬ (j : Int) < 2 := by omega
          have hbw : Below w.heap.size w wr := by
            have h5 := HBw.out
            have h6 : Below W5.heap.size W5 ((W5.alloc (.cells #[.pointer none] 42)).alloc (.cells #[.pointer none, .pointer (some ⟨W5.heap.size, 0, none⟩)] 39)) := ((Below.refl _ W5).alloc (Nat.le_refl _) _).alloc (by rw [World.size_alloc]; omega) _
            exact (h5.trans (h6.mono h5.size)).trans (HB.out.mono (Nat.le_trans h5.size h6.size))
          have HZ := beginZ wr
          clear HB HT HBw
          go_wp2_with (go_at_call 14; refine HZ.mono ?_; clear HZ; rintro e w1 ⟨Bq, rfl, hb1⟩)
          go_ret
          exact ⟨rfl, hbw.trans (hb1.mono hbw.size)⟩
end Go.Proofs.YtcifjpgimekcjaaGreatDoor
