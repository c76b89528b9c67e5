/-
  slices.Backward over a size: contract of its iterator: the limbs with their places, the last one first. Condition: at most a million limbs.
-/
import Derived.RangeFuncBox
import Derived.RangeFuncLeaves
import Derived.RangeFuncNested
import Derived.RangeFuncCalls
import Derived.Shelf.Abstract
import Derived.WalkKit
import Derived.OwnWalkIn
import Derived.TacticsInMore
import Derived.LoopNIn
import Derived.LoopIn
import Derived.Test.YtcnlclocnnijgaaDoorNTrim
namespace Go.Proofs.YtcnlclocnnijgaaDoor
open Go.RowKit Go.Shelf
set_option linter.unusedVariables false
attribute [local go_sem] Oper.semAt_some

/-- The places below L, the last first, so many of them. -/
def bk (L : Nat) : (k : Nat) → k ≤ L → List { j : Nat // j < L }
  | 0, _ => []
  | k + 1, h => bk L k (by omega) ++ [⟨L - 1 - k, by omega⟩]
theorem bk_length (L : Nat) : ∀ (k : Nat) (h : k ≤ L), (bk L k h).length = k
  | 0, _ => rfl
  | k + 1, h => by rw [bk, List.length_append, bk_length L k]; rfl
/-- What a round keeps: the box of the slice, and what lay below. -/
def Kb (Bs n₀ : Nat) (A B : World) : Prop := B.heap[Bs]? = A.heap[Bs]? ∧ Below n₀ A B
theorem Kb.refl (Bs n₀ : Nat) (A : World) : Kb Bs n₀ A A := ⟨rfl, Below.refl _ _⟩
theorem Kb.trans {Bs n₀ : Nat} {A B C : World} (h : Kb Bs n₀ A B) (k : Kb Bs n₀ B C) : Kb Bs n₀ A C := ⟨k.1.trans h.1, h.2.trans k.2⟩
theorem Kb.put {Bs n₀ : Nat} {w : World} (hn : n₀ ≤ w.heap.size) (hB : Bs < w.heap.size) (W : World) (l : Nat) (o o' : Obj) (hl : w.heap.size ≤ l) (h : W.heap[l]? = some o) (h1 : o.isCells = false) (h2 : o.isWalk = false) : Kb Bs n₀ W (W.putObj l o') :=
  ⟨(belowK_b (n₀ := w.heap.size) (w := w) (Nat.le_refl _) W l o o' hl h h1 h2).block Bs hB, belowK_b hn W l o o' hl h h1 h2⟩
theorem Kb.cell {Bs n₀ : Nat} {A B : World} (h : Kb Bs n₀ A B) (i : Nat) : B.cell? ⟨Bs, i, none⟩ = A.cell? ⟨Bs, i, none⟩ := World.cell?_of_block (w := A) h.1

/-- A slice of limbs, in a block below n₀. -/
def Lims (n₀ : Nat) (W : World) (ao : Option Addr) (L : Nat) (f : Nat → Int) : Prop := ∀ j, j < L → ∃ g, ao = some ⟨g, 0, none⟩ ∧ g < n₀ ∧ W.cell? ⟨g, j, none⟩ = some (.int .u64 (f j))
theorem Lims.below {n₀ : Nat} {A B : World} {ao : Option Addr} {L : Nat} {f : Nat → Int} (h : Lims n₀ A ao L f) (hb : Below n₀ A B) : Lims n₀ B ao L f := fun j hj => by
  obtain ⟨g, e, hg, hc⟩ := h j hj
  exact ⟨g, e, hg, (hb.cell (p := ⟨g, j, none⟩) hg).trans hc⟩

set_option maxRecDepth 100000 in
set_option maxHeartbeats 2000000 in
theorem back1_in (F : Fence) (n : Nat) (hF : F.fn 79) (hro : F.round = none) (hn : 1 ≤ n) (l Bs n₀ L cap : Nat) (ao : Option Addr) (f : Nat → Int) (hL : L ≤ 1000000) (hcap : L ≤ cap) (J Jx : List { j : Nat // j < L } → World → Prop)
    (hY : ∀ pre x W, J pre W → pre.length < L → YieldAt F (n - 1) Tryd.prog l #[.int .i64 ((x : { j : Nat // j < L }).1 : Int), .int .u64 (f x.1)] W fun e W' =>
      (e = .returned (.bool true) ∧ J (pre ++ [x]) W' ∧ Kb Bs n₀ W W') ∨ (e = .returned (.bool false) ∧ Jx (pre ++ [x]) W'))
    (W : World) (hBs : W.cell? ⟨Bs, 0, none⟩ = some (.slice ao L cap)) (hc : Lims n₀ W ao L f) (h0 : J [] W) :
    CallsIn F n Tryd.prog 79 #[.func (.yield l) #[] #[], .pointer (some ⟨Bs, 0, none⟩)] W fun e W' => (∃ v, e = .returned v) ∧
      ((∃ ys, ys = bk L L (Nat.le_refl _) ∧ J ys W') ∨ (∃ pre, (∃ k, ∃ h : k ≤ L, pre = bk L k h) ∧ Jx pre W')) := by
  refine callsIn_of_wp Tryd.func79 rfl hF ?_ hro
  simp only [Tryd.ntmps79, List.size_toArray, List.length_cons, List.length_nil, Nat.reduceAdd, Nat.reduceSub, Array.replicate_succ, Array.replicate_zero, List.push_toArray, List.append_toArray, List.nil_append, List.cons_append]
  gi_wp2
  gi_loopw [3] (fun i wr => ∃ (k : Nat) (hk : k ≤ L) (z : Int), i = .int .i64 z ∧ z = (L : Int) - 1 - (k : Int) ∧ J (bk L k hk) wr ∧ Kb Bs n₀ W wr)
    (fun i _ => (intOf i + 1).toNat)
  case atStart => exact ⟨0, Nat.zero_le _, _, rfl, by omega, h0, Kb.refl _ _ _⟩
  case round =>
    obtain ⟨k, hk, z, rfl, hz, hJs, hnx⟩ := hrel
    have hBs' : wr.cell? ⟨Bs, 0, none⟩ = some (.slice ao L cap) := (hnx.cell 0).trans hBs
    by_cases hlt : k < L
    · obtain ⟨j, hj⟩ : ∃ j, j = L - 1 - k := ⟨_, rfl⟩
      have hjL : j < L := by omega
      obtain rfl : z = (j : Int) := by omega
      have Hbk : Hid (bk L (k + 1) hlt = bk L k hk ++ [⟨j, hjL⟩]) := by subst hj; rfl
      obtain ⟨fn, tmps, assign, body, hy, hR⟩ := hY _ ⟨j, hjL⟩ wr hJs (by rw [bk_length]; exact hlt)
      dsimp only at hy
      obtain ⟨g, rfl, hg, hcx⟩ := (hc.below hnx.2) j hjL
      have hj0 : (0 : Int) ≤ (j : Int) := by omega
      have hj1 : (j : Int) < (L : Int) := by omega
      have Hk : Hid ((j : Int) - 1 = (L : Int) - 1 - ((k + 1 : Nat) : Int)) := (by omega : (j : Int) - 1 = (L : Int) - 1 - ((k + 1 : Nat) : Int))
      clear hz hj hBs
      gi_wp2
      refine hR.mono ?_
      rintro e W3 (⟨rfl, hJ3, hk3⟩ | ⟨rfl, hJx3⟩)
      · gi_wp2
        go_roundw
        case rel => exact ⟨k + 1, hlt, (j : Int) - 1, by first | rfl | go_num, Hk.out, by rw [Hbk.out]; exact hJ3, hnx.trans hk3⟩
        case measure => simp [intOf]
      · gi_wp2
        refine bodyPost_ret (results_none rfl _ _ _) rfl ?_
        exact ⟨⟨_, rfl⟩, .inr ⟨_, ⟨k + 1, hlt, Hbk.out.symm⟩, hJx3⟩⟩
    · obtain rfl : k = L := by omega
      obtain rfl : z = -1 := by omega
      clear hz
      gi_wp2
      go_end0
      exact ⟨⟨_, rfl⟩, .inl ⟨_, rfl, hJs⟩⟩

set_option maxHeartbeats 1000000 in
/-- slices.Backward(s): the slice is boxed; the function value captures the box. -/
theorem back_in (F : Fence) (n : Nat) (hF : F.fn 62) (hro : F.round = none) (a : Option Addr) (len cap : Nat) (w : World) :
    CallsIn F n Tryd.prog 62 #[.slice a len cap] w fun e w' => e = .returned (.func (.func 79) #[] #[.pointer (some ⟨w.heap.size, 0, none⟩)]) ∧ w' = w.alloc (.cells #[.slice a len cap] 46) := by
  refine callsIn_of_wp Tryd.func62 rfl hF ?_ hro
  simp only [Tryd.ntmps62, List.size_toArray, List.length_cons, List.length_nil, Nat.reduceAdd, Nat.reduceSub, Array.replicate_succ, Array.replicate_zero, List.push_toArray, List.append_toArray, List.nil_append, List.cons_append]
  gi_wp2
  go_ret
  exact ⟨rfl, rfl⟩

/-- What slices.Backward hands back: the places and limbs, the last first. -/
theorem back_stops (F : Fence) (n : Nat) (hF : F.fn 79) (hro : F.round = none) (hn : 1 ≤ n) (Bs n₀ L cap : Nat) (ao : Option Addr) (f : Nat → Int) (hL : L ≤ 1000000) (hcap : L ≤ cap) (w : World) (hBs : Bs < w.heap.size) (hn₀ : n₀ ≤ w.heap.size)
    (hc : w.cell? ⟨Bs, 0, none⟩ = some (.slice ao L cap)) (hI : Lims n₀ w ao L f) :
    SeqStopsK F n Tryd.prog 79 #[.pointer (some ⟨Bs, 0, none⟩)] (fun x : { j : Nat // j < L } => #[Value.int .i64 (x.1 : Int), Value.int .u64 (f x.1)]) (Kb Bs n₀) (fun ys => ys = bk L L (Nat.le_refl _))
      (fun pre => ∃ k, ∃ h : k ≤ L, pre = bk L k h) L w := fun l J Jx W hW _ _ hY h0 => by
  have hc' := (hW.cell (p := ⟨Bs, 0, none⟩) hBs).trans hc
  exact back1_in F n hF hro hn l Bs n₀ L cap ao f hL hcap J Jx hY W hc' (hI.below (hW.mono hn₀)) h0
end Go.Proofs.YtcnlclocnnijgaaDoor
