/-
  Sizes: slices of limbs of nine digits, the lowest first. Contracts of trimmed, limb and readSize. Conditions: at most a million limbs.
-/
import Derived.Test.YtcnlclocnnijgaaDoorNCmp
namespace Go.Proofs.YtcnlclocnnijgaaDoor
open Go.RowKit
set_option linter.unusedVariables false

/-- The slice is the size n, in memory from block B on. -/
def OwS (w : World) (B : Nat) (v : Value) (n : Nat) : Prop := OwN .u64 69 w B v (ln n) (fun i => (lb n i : Int)) ∧ ln n ≤ 1000000
/-- The slice is the size n, wherever it lies. -/
def Sz (w : World) (v : Value) (n : Nat) : Prop := Rd .u64 w v (ln n) (fun i => (lb n i : Int)) ∧ ln n ≤ 1000000
theorem OwS.sz {w : World} {B : Nat} {v : Value} {n : Nat} (h : OwS w B v n) : Sz w v n := ⟨h.1.rd, h.2⟩
theorem OwS.below {w w' : World} {B B' : Nat} {v : Value} {n : Nat} (h : OwS w B v n) (hb : Below B' w w') (hB : w.heap.size ≤ B') : OwS w' B v n := ⟨h.1.below hb hB, h.2⟩
theorem OwS.mono {w : World} {B B' : Nat} {v : Value} {n : Nat} (h : OwS w B v n) (hB : B' ≤ B) : OwS w B' v n := ⟨h.1.mono hB, h.2⟩
theorem Sz.below {w w' : World} {B : Nat} {v : Value} {n : Nat} (h : Sz w v n) (hb : Below B w w') (hB : w.heap.size ≤ B) : Sz w' v n := ⟨h.1.below hb hB, h.2⟩
theorem Sz.open {w : World} {v : Value} {n : Nat} (h : Sz w v n) : ∃ ao c, v = .slice ao (ln n) c ∧ ln n ≤ c ∧ c ≤ 9223372036854775807 ∧ ln n ≤ 1000000 ∧ (ln n = 0 ∨ ∃ g, ao = some ⟨g, 0, none⟩ ∧ ∀ i, i < ln n → w.cell? ⟨g, i, none⟩ = some (.int .u64 (lb n i : Int))) := by
  obtain ⟨⟨ao, c, h1, h2, h3, h4⟩, h5⟩ := h
  exact ⟨ao, c, h1, h2, h3, h5, h4⟩

set_option maxRecDepth 100000 in
set_option maxHeartbeats 1000000 in
theorem trimmed (v : Value) (m n B : Nat) (w : World) (h : OwN .u64 69 w B v m (fun i => (lb n i : Int))) (hn : n < 1000000000 ^ m) (hm : m ≤ 1000000) :
    Calls Tryd.prog 64 #[v] w fun e w' => ∃ v', e = .returned v' ∧ OwS w B v' n ∧ w' = w := by
  have hl := ln_le hn
  rcases h.open with ⟨rfl, rfl⟩ | ⟨g, c, rfl, q1, q2, q3, q4⟩
  · obtain h0 : n = 0 := by simpa using hn
    have HO : Hid (OwS w B (.slice none 0 0) n) := by
      subst h0
      refine ⟨?_, by rw [ln_zero]; omega⟩
      rw [ln_zero]
      exact OwN.nil _ _ _ _ _
    clear h hn h0 hl
    go_enter Tryd.func64, Tryd.ntmps64
    go_wp2
    refine wp_loop_rounds 1 ?_
    rw [rounds_succ]
    go_wp2
    go_ret
    exact ⟨_, rfl, HO.out, rfl⟩
  · have HO : Hid (∀ k, k ≤ m → OwN .u64 69 w B (.slice (some ⟨g, 0, none⟩) k c) k (fun i => (lb n i : Int))) := fun k hk => h.take hk
    have HC : Hid (∀ k, k < m → w.cell? ⟨g, k, none⟩ = some (.int .u64 (lb n k : Int))) := fun k hk => h.cellF k hk
    clear h hn
    go_enter Tryd.func64, Tryd.ntmps64
    go_wp2
    go_loopw [0] (fun x wr => ∃ k : Nat, ln n ≤ k ∧ k ≤ m ∧ x = .slice (some ⟨g, 0, none⟩) k c ∧ wr = w) (fun x _ => (match x with | .slice _ k _ => k | _ => 0))
    case atStart => exact ⟨m, hl, Nat.le_refl _, rfl, rfl⟩
    case round =>
      obtain ⟨k, hk1, hk2, rfl, hw⟩ := hrel
      obtain rfl : w = wr := hw.symm
      clear hw
      cases k with
      | zero =>
        have HE : Hid (OwS w B (.slice (some ⟨g, 0, none⟩) 0 c) n) := by
          have e : ln n = 0 := by omega
          refine ⟨?_, by omega⟩
          rw [e]
          exact HO.out 0 (by omega)
        clear hk1 hk2
        go_wp2
        go_ret
        exact ⟨_, rfl, HE.out, rfl⟩
      | succ j =>
        have hc := HC.out j (by omega)
        have hj : (0 : Int) < (j : Int) + 1 := by omega
        have hj2 : j ≤ 1000000 := by omega
        have hjc : j + 1 ≤ c := by omega
        by_cases e : lb n j = 0
        · have hk3 : ln n ≤ j := by
            by_cases e2 : ln n = j + 1
            · exfalso
              have hne : n ≠ 0 := fun e3 => by rw [e3, ln_zero] at e2; omega
              have := lb_top hne
              rw [e2] at this
              exact this e
            · omega
          rw [e] at hc
          have hc2 : w.cell? ⟨g, j, none⟩ = some (.int .u64 0) := hc
          clear hc e hk1
          go_wp2
          go_roundw
          case rel => exact ⟨j, hk3, by omega, by first | rfl | go_num, by first | trivial | rfl⟩
          case measure => simp
        · have hk3 : ln n = j + 1 := by
            by_cases e2 : ln n ≤ j
            · exact absurd (lb_out e2) e
            · omega
          have e3 : ((lb n j : Int) == 0) = false := by rw [beq_eq_false_iff_ne]; omega
          have HE : Hid (OwS w B (.slice (some ⟨g, 0, none⟩) (j + 1) c) n) := by
            refine ⟨?_, by omega⟩
            rw [hk3]
            exact HO.out (j + 1) (by omega)
          clear hk1 hk3 e
          go_wp2
          go_ret
          exact ⟨_, rfl, HE.out, rfl⟩

set_option maxRecDepth 100000 in
theorem sLimb (v : Value) (n i : Nat) (w : World) (h : Sz w v n) (hi : i ≤ 9223372036854775807) :
    Calls Tryd.prog 76 #[v, .int .i64 (i : Int)] w fun e w' => e = .returned (.int .u64 (lb n i : Int)) ∧ w' = w := by
  obtain ⟨ao, c, rfl, h1, h2, h3, hr⟩ := h.open
  by_cases hlt : i < ln n
  · rcases hr with h0 | ⟨g, rfl, hg⟩
    · omega
    · have g1 := hg i hlt
      have g2 : (i : Int) < (ln n : Int) := by omega
      clear hg h
      go_enter Tryd.func76, Tryd.ntmps76
      go_wp2
      go_ret
      exact ⟨rfl, rfl⟩
  · have g2 : ¬ (i : Int) < (ln n : Int) := by omega
    have g3 : (lb n i : Int) = 0 := by rw [lb_out (by omega)]; rfl
    rw [g3]
    clear hr g3 h
    go_enter Tryd.func76, Tryd.ntmps76
    go_wp2
    go_ret
    exact ⟨rfl, rfl⟩
end Go.Proofs.YtcnlclocnnijgaaDoor
