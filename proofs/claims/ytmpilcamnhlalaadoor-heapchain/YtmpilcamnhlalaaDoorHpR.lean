/-
  slices.Reverse of words of one's own.
-/
import Derived.Test.YtmpilcamnhlalaaDoorHpG
namespace Go.Proofs.YtmpilcamnhlalaaDoor
open Go.RowKit
set_option linter.unusedVariables false

def lstW (f : Nat → Int) (n : Nat) : List Value := (List.range n).map (fun i => Value.int .i64 (f i))
theorem lstW_length (f : Nat → Int) (n : Nat) : (lstW f n).length = n := by simp [lstW]
theorem lstW_get (f : Nat → Int) (n i : Nat) (h : i < n) : (lstW f n)[i]? = some (.int .i64 (f i)) := by simp [lstW, h]
theorem lstW_ext {f g : Nat → Int} {n : Nat} (h : ∀ i, i < n → f i = g i) : lstW f n = lstW g n := by
  unfold lstW
  apply List.map_congr_left
  intro i hi
  rw [h i (List.mem_range.1 hi)]
theorem lstW_snoc (f : Nat → Int) (n : Nat) : lstW f n ++ [.int .i64 (f n)] = lstW f (n + 1) := by simp [lstW, List.range_succ]
theorem lstW_set (f : Nat → Int) (n i : Nat) (z : Int) : (lstW f n).set i (.int .i64 z) = lstW (fun q => if q = i then z else f q) n := by
  apply List.ext_getElem?
  intro j
  by_cases hj : j < n
  · rw [lstW_get _ _ _ hj]
    by_cases e : j = i
    · subst e
      rw [List.getElem?_set_self (by rw [lstW_length]; exact hj), if_pos rfl]
    · rw [List.getElem?_set_ne (by omega), lstW_get _ _ _ hj, if_neg e]
  · rw [List.getElem?_eq_none (by rw [List.length_set, lstW_length]; omega), List.getElem?_eq_none (by rw [lstW_length]; omega)]
theorem row_put {w : World} {B g c n : Nat} {e : TypeId} {xs : List Value} (h : w.ownsRow B e 1 (.slice (some ⟨g, 0, none⟩) n c) n xs) (i : Nat) (hi : i < n) (u : Value) : (w.setCell ⟨g, i, none⟩ u).ownsRow B e 1 (.slice (some ⟨g, 0, none⟩) n c) n (xs.set i u) := by
  refine ⟨by rw [List.length_set]; exact h.1, ?_⟩
  rcases h.2 with ⟨e0, _⟩ | ⟨g', cap, cur, e0, h2, h3, h4, h5, h6, h7⟩
  · cases e0
  · cases e0
    refine .inr ⟨g, c, _, rfl, h2, heap_set_at h3 u, h4, h5, by simpa using h6, ?_⟩
    rw [Array.toList_setIfInBounds, List.take_set, h7]
theorem row_free {w : World} {B g c n : Nat} {e : TypeId} {xs : List Value} (h : w.ownsRow B e 1 (.slice (some ⟨g, 0, none⟩) n c) n xs) (i : Nat) : w.frozen? ⟨g, i, none⟩ = false := by
  rcases h.2 with ⟨e0, _⟩ | ⟨g', cap, cur, e0, h2, h3, _⟩
  · cases e0
  · cases e0
    exact cells_free h3 i
theorem row_cell {w : World} {B g c n : Nat} {f : Nat → Int} {e : TypeId} (h : w.ownsRow B e 1 (.slice (some ⟨g, 0, none⟩) n c) n (lstW f n)) (i : Nat) (hi : i < n) : w.cell? ⟨g, i, none⟩ = some (.int .i64 (f i)) := by
  have := World.ownsRow.cells (g := g) h rfl i _ (lstW_get f n i hi)
  rw [Addr.add_lit, Nat.zero_add] at this
  exact this
/-- A row whose first and last k words are turned. -/
def rvt (f : Nat → Int) (n k : Nat) : Nat → Int := fun q => if q < k ∨ n - k ≤ q then f (n - 1 - q) else f q

set_option maxRecDepth 100000 in
set_option maxHeartbeats 2000000 in
theorem h_rev (B n c : Nat) (a : Option Addr) (f : Nat → Int) (w : World) (ho : w.ownsRow B 28 1 (.slice a n c) n (lstW f n)) (hn : n ≤ 1000) : Calls Tryd.prog 12 #[.slice a n c] w fun r w' => r = .returned (.tuple #[]) ∧ Hid (w'.ownsRow B 28 1 (.slice a n c) n (lstW (fun i => f (n - 1 - i)) n) ∧ Part (fun q => (Value.slice a n c).ownBlock = some q) w w') := by
  have hn' : (n : Int) ≤ 1000 := by omega
  have HO : Hid (w.ownsRow B 28 1 (.slice a n c) n (lstW (rvt f n 0) n)) := by
    rw [show lstW (rvt f n 0) n = lstW f n from lstW_ext (fun i hi => by unfold rvt; rw [if_neg (by omega)])]
    exact ho
  clear ho
  go_enter Tryd.func12, Tryd.ntmps12
  go_wp2
  go_loopw [2, 3] (fun s2 s3 wr => ∃ k : Nat, 2 * k ≤ n + 1 ∧ s2 = .int .i64 (k : Int) ∧ s3 = .int .i64 ((n : Int) - 1 - (k : Int)) ∧ Hid (wr.ownsRow B 28 1 (.slice a n c) n (lstW (rvt f n k) n) ∧ Part (fun q => (Value.slice a n c).ownBlock = some q) w wr)) (fun i _ _ => n - (intOf i).toNat)
  case atStart => exact ⟨0, by omega, rfl, by simp, HO.out, Part.refl _ _⟩
  case round =>
    obtain ⟨k, hk, rfl, rfl, HR⟩ := hrel
    by_cases hlt : 2 * k + 1 < n
    · have hlt' : (k : Int) < (n : Int) - 1 - (k : Int) := by omega
      obtain ⟨g, rfl⟩ : ∃ g, a = some ⟨g, 0, none⟩ := by
        rcases HR.out.1.2 with ⟨e0, h0⟩ | ⟨g', cap, cur, e0, _⟩
        · omega
        · cases e0; exact ⟨g', rfl⟩
      obtain ⟨j, hj⟩ : ∃ j : Nat, n - 1 - k = j := ⟨_, rfl⟩
      have ej : (n : Int) - 1 - (k : Int) = (j : Int) := by omega
      rw [ej] at hlt' ⊢
      have c1 := row_cell HR.out.1 k (by omega)
      have c2 := row_cell HR.out.1 j (by omega)
      have e1 : rvt f n k k = f k := by unfold rvt; rw [if_neg (by omega)]
      have e2 : rvt f n k j = f j := by unfold rvt; rw [if_neg (by omega)]
      rw [e1] at c1
      rw [e2] at c2
      have f1 := row_free HR.out.1 k
      have f2 := row_free HR.out.1 j
      have l1 : (k : Int) < (n : Int) := by omega
      have l2 : (j : Int) < (n : Int) := by omega
      have l3 : (0 : Int) ≤ (k : Int) := by omega
      have l4 : (0 : Int) ≤ (j : Int) := by omega
      have l5 : ¬ k = j := by omega
      have l6 : ¬ j = k := by omega
      clear e1 e2
      go_wp2_with fail
      go_region
      have HN : Hid (((wr.setCell ⟨g, k, none⟩ (.int .i64 (f j))).setCell ⟨g, j, none⟩ (.int .i64 (f k))).ownsRow B 28 1 (.slice (some ⟨g, 0, none⟩) n c) n (lstW (rvt f n (k + 1)) n) ∧ Part (fun q => (Value.slice (some ⟨g, 0, none⟩) n c).ownBlock = some q) w ((wr.setCell ⟨g, k, none⟩ (.int .i64 (f j))).setCell ⟨g, j, none⟩ (.int .i64 (f k)))) := by
        have r2 := row_put (row_put HR.out.1 k (by omega) (.int .i64 (f j))) j (by omega) (.int .i64 (f k))
        rw [lstW_set, lstW_set] at r2
        refine ⟨?_, (HR.out.2.setCell (p := ⟨g, k, none⟩) (fun _ => rfl) _).setCell (p := ⟨g, j, none⟩) (fun _ => rfl) _⟩
        rw [show lstW (rvt f n (k + 1)) n = _ from lstW_ext (fun q hq => ?_)]
        · exact r2
        · unfold rvt
          by_cases q1 : q = j
          · rw [if_pos q1, if_pos (by omega)]
            congr 1
            omega
          · rw [if_neg q1]
            by_cases q2 : q = k
            · rw [if_pos q2, if_pos (by omega)]
              congr 1
              omega
            · rw [if_neg q2]
              by_cases q3 : q < k ∨ n - k ≤ q
              · rw [if_pos q3, if_pos (by omega)]
              · rw [if_neg q3, if_neg (by omega)]
      clear c1 c2 f1 f2 HR
      go_wp2
      go_roundw
      case rel => exact ⟨k + 1, by omega, by go_num, by rw [← ej]; go_num, row_heap HN.out.1 rfl, HN.out.2.drewN 1⟩
      case measure => simp [intOf]; omega
    · have hge : ¬ (k : Int) < (n : Int) - 1 - (k : Int) := by omega
      have HR2 : Hid (wr.ownsRow B 28 1 (.slice a n c) n (lstW (fun i => f (n - 1 - i)) n) ∧ Part (fun q => (Value.slice a n c).ownBlock = some q) w wr) := by
        refine ⟨?_, HR.out.2⟩
        rw [show lstW (fun i => f (n - 1 - i)) n = lstW (rvt f n k) n from lstW_ext (fun i hi => by
          unfold rvt
          by_cases h : i < k ∨ n - k ≤ i
          · rw [if_pos h]
          · rw [if_neg h, show n - 1 - i = i by omega])]
        exact HR.out.1
      clear HR
      go_wp2
      go_end0
      exact ⟨rfl, HR2⟩
end Go.Proofs.YtmpilcamnhlalaaDoor
