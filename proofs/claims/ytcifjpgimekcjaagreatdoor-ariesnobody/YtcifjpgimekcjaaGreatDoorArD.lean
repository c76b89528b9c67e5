/-
  Iterators that hand out nothing: maps.Keys over an empty map, slices.Backward over none; what Collect and Sorted make of them.
-/
import Derived.RangeFuncBox
import Derived.RangeFuncLeaves
import Derived.RangeFuncNested
import Derived.RangeFuncCalls
import Derived.Shelf.Abstract
import Derived.WalkKit
import Derived.OwnWalkIn
import Derived.TacticsInMore
import Derived.LoopNIn
import Derived.LoopIn
import Derived.BigRegionIn
import Derived.Stop.RegionWithIn
import Derived.Sort.CutIn
import Derived.Maps.OwnSet
import Derived.Maps.OwnIn
import Derived.Maps.Range
import Derived.Maps.RangeWalk
import Derived.Sort.KeysCollected
import Derived.Sort.MapsRangeIn
import Derived.Sort.OwnSorted
import Derived.Test.YtcifjpgimekcjaaGreatDoorArC
namespace Go.Proofs.YtcifjpgimekcjaaGreatDoor
open Go.RowKit Go.Shelf Go.Maps Go.Sort
set_option linter.unusedVariables false
set_option maxRecDepth 100000
set_option maxHeartbeats 2000000
attribute [local go_sem] Oper.semAt_some

def idR (v : Value) : Option (DataW Value × List MemPlace) := some (.held v, [])
/-- Block b is a map without entries. -/
def Em (w : World) (b : Nat) : Prop := w.ownsMap Tryz.prog 3 idR b 0 (.map [])
theorem law3 : Keyed Tryz.prog 3 := int_keyed Tryz.underlying3
theorem Em.made (w : World) : Em (w.alloc (.map #[] 0)) w.heap.size := World.ownsMap_made w _ _ _
theorem Em.lt {w : World} {b : Nat} (h : Em w b) : b < w.heap.size := World.ownsMap.lt h
theorem Em.heap {w w' : World} {b : Nat} (h : Em w b) (hh : w'.heap[b]? = w.heap[b]?) : Em w' b := by
  obtain ⟨es, clock, hb, rest⟩ := h
  exact ⟨es, clock, by rw [hh]; exact hb, rest⟩
theorem Em.below {w w' : World} {b : Nat} (h : Em w b) (hb : Below w.heap.size w w') : Em w' b := h.heap (hb.block _ h.lt)
abbrev No := { j : Nat // j < 0 }
theorem no_nil : ∀ xs : List No, xs = []
  | [] => rfl
  | x :: _ => absurd x.2 (Nat.not_lt_zero _)
theorem keys1_in (n : Nat) (hn : 1 ≤ n) (l Bx b : Nat) (J Jx : List No → World → Prop) (W : World) (hJ : AbidesFrom W.heap.size J) (hBx : W.heap[Bx]? = some (.cells #[.map (some b)] 186 (0, 0))) (hM : Em W b) (h0 : J [] W) :
    CallsIn Fence.wide n Tryz.prog 151 #[.func (.yield l) #[] #[], .pointer (some ⟨Bx, 0, none⟩)] W fun e W' => (∃ v, e = .returned v) ∧ ((∃ ys, ys = [] ∧ J ys W') ∨ (∃ pre, False ∧ Jx pre W')) := by
  have hro : Fence.wide.round = none := rfl
  have hbc : W.cell? ⟨Bx, 0, none⟩ = some (.map (some b)) := by rw [cells_at hBx 0]; rfl
  refine callsIn_of_wp Tryz.func151 rfl trivial ?_ hro
  simp only [Tryz.ntmps151, List.size_toArray, List.length_cons, List.length_nil, Nat.reduceAdd, Nat.reduceSub, Array.replicate_succ, Array.replicate_zero, List.push_toArray, List.append_toArray, List.nil_append, List.cons_append]
  gi_wp2_with (first
    | (gi_at_range; refine wpListIn_range_own _ rfl _ 186 rfl 3 63 law3 Tryz.underlying186 _ b 0 _ rfl hM ?_; intro w0 hrg0 hg0 hs0)
    | gi_in)
  have hJ0 : J [] w0 := hJ [] W w0 none h0 hg0 (fun r e => by cases e)
  go_frame
  gi_loopw [6] (fun u wr => wr = w0) (fun _ _ => 0)
  case atStart => exact rfl
  case round =>
    obtain rfl := hrel
    gi_wp2_with (first
      | (gi_at_next; refine wpListIn_next_ranges _ rfl _ rfl 3 law3 idR (Value.int .i64) (fun v : Value => v) (fun key kl hk => by obtain ⟨x, hx, _⟩ := Maps.keyOf_int_inv Tryz.underlying3 hk; exact ⟨x, hx⟩) (fun v y hv => ⟨v, rfl⟩) b W.heap.size 0 _ _ _ rfl hrg0 ?_ ?_)
      | gi_in)
    · intro hc0 hl0
      gi_wp2
      go_end0
      exact ⟨⟨_, rfl⟩, .inl ⟨[], rfl, hJ0⟩⟩
    · intro x c kl y1 y2 w' cnt' hk hlt
      have hlt : false = true := hlt
      cases hlt
theorem keys_stops (n : Nat) (hn : 1 ≤ n) (Bx b : Nat) (w : World) (hBx : w.heap[Bx]? = some (.cells #[.map (some b)] 186 (0, 0))) (hM : Em w b) :
    SeqStopsK Fence.wide n Tryz.prog 151 #[.pointer (some ⟨Bx, 0, none⟩)] (fun x : No => #[Value.int .i64 0]) (Below w.heap.size) (fun ys => ys = []) (fun pre => False) 0 w := fun l J Jx W hW hA _ hY h0 => by
  have hl : Bx < w.heap.size := (Array.getElem?_eq_some_iff.1 hBx).1
  refine (keys1_in n hn l Bx b J Jx W hA ((hW.block Bx hl).trans hBx) (hM.below hW) h0).mono ?_
  rintro e W' ⟨h1, h2 | ⟨_, h2, _⟩⟩
  · exact ⟨h1, .inl h2⟩
  · exact h2.elim
/-- slices.AppendSeq of none, and of what hands out nothing. -/
theorem appSeqE (Bx b : Nat) (w : World) (hBx : w.heap[Bx]? = some (.cells #[.map (some b)] 186 (0, 0))) (hM : Em w b) :
    Calls Tryz.prog 170 #[.slice none 0 0, .func (.func 151) #[] #[.pointer (some ⟨Bx, 0, none⟩)]] w fun e w' => e = .returned (.slice none 0 0) ∧ Below w.heap.size w w' := by
  refine (callsIn_wide (n := 8)).1 ?_
  have hro : Fence.wide.round = none := rfl
  have h1' : 1 ≤ 8 := by decide
  refine callsIn_of_wp_marks Tryz.func170 rfl trivial ?_ hro
  simp only [Tryz.ntmps170, List.size_toArray, List.length_cons, List.length_nil, Nat.reduceAdd, Nat.reduceSub, Array.replicate_succ, Array.replicate_zero, List.push_toArray, List.append_toArray, List.nil_append, List.cons_append]
  gi_wp2
  have bA := Boxed.new w 37 (.slice none 0 0)
  have hB0 : Below w.heap.size w (w.alloc (.cells #[.slice none 0 0] 37)) := (Below.refl _ w).alloc (Nat.le_refl _) _
  refine wpIn_rangeFunc_ownG hro h1' (gf := 151) (lb := #[.pointer (some ⟨Bx, 0, none⟩)]) rfl trivial (enters_of Tryz.func151 (by kernel_rfl) rfl)
    (keys_stops (8 - 1) (by decide) Bx b w hBx hM) Below.trans (belowK_b (by simp)) hB0 (fun _ => rfl)
    (fun _ W => W.heap[w.heap.size]? = some (.cells #[.slice none 0 0] 37 (0, 0)) ∧ Below w.heap.size w W)
    (fun _ _ _ => False)
    (fun s A B row hs hg hr => ?own)
    (fun _ _ _ _ _ hs _ _ => hs)
    ⟨bA, hB0⟩
    (fun x => { tmps := #[], defers := [] }) ?assign ?body ?done ?stop
  case own =>
    obtain ⟨hv, hB⟩ := hs
    refine ⟨(hg.block _ (Array.getElem?_eq_some_iff.1 hv).1 (fun e => ?_)).trans hv, ownFrom_below (β := Unit) (Nat.le_refl _) (by simp) () A B row hB hg hr⟩
    obtain ⟨_, o', ho', hc⟩ := hr _ e.symm
    rw [hv] at ho'
    cases ho'
    cases hc
  case assign =>
    intro l x
    exact absurd x.2 (Nat.not_lt_zero _)
  case body =>
    intro l pre x
    exact absurd x.2 (Nat.not_lt_zero _)
  case done =>
    rintro D ys W hD rfl ⟨hv, hB⟩ hK
    have hc : W.cell? ⟨w.heap.size, 0, none⟩ = some (.slice none 0 0) := by rw [cells_at hv 0]; rfl
    have hD' : w.heap.size ≤ D := by rw [World.size_alloc] at hD; omega
    clear hv
    gi_wp2
    refine ⟨by simp, .inl ⟨_, _, rfl, run_takeDeferred hK, ?_⟩⟩
    exact ⟨_, results_tmp rfl _ _ _, rfl, hB.trans (belowK_b (w := w) (Nat.le_refl _) W D _ _ hD' hK rfl rfl)⟩
  case stop =>
    rintro D c pre W _ _ h _
    exact h.elim
theorem collE (Bx b : Nat) (w : World) (hBx : w.heap[Bx]? = some (.cells #[.map (some b)] 186 (0, 0))) (hM : Em w b) :
    Calls Tryz.prog 149 #[.func (.func 151) #[] #[.pointer (some ⟨Bx, 0, none⟩)]] w fun e w' => e = .returned (.slice none 0 0) ∧ Below w.heap.size w w' := by
  have CA := appSeqE Bx b w hBx hM
  clear hBx hM
  go_enter Tryz.func149, Tryz.ntmps149
  go_wp2_with (go_at_call 170; refine CA.mono ?_; rintro e w' ⟨rfl, hb⟩)
  go_ret
  exact ⟨rfl, hb⟩
theorem sortE (Bx b : Nat) (w : World) (hBx : w.heap[Bx]? = some (.cells #[.map (some b)] 186 (0, 0))) (hM : Em w b) :
    Calls Tryz.prog 125 #[.func (.func 151) #[] #[.pointer (some ⟨Bx, 0, none⟩)]] w fun e w' => e = .returned (.slice none 0 0) ∧ Below w.heap.size w w' := by
  have CA := collE Bx b w hBx hM
  clear hBx hM
  go_enter Tryz.func125, Tryz.ntmps125
  go_wp2_with first
    | (go_at_call 149; refine CA.mono ?_; clear CA; rintro e w' ⟨rfl, hb⟩)
    | (go_at_call 150; refine (k_sort _).mono ?_; rintro e w2 ⟨rfl, hw⟩; rw [hw]; clear hw)
  go_ret
  exact ⟨rfl, hb⟩
theorem keysE (b : Nat) (w : World) : Calls Tryz.prog 126 #[.map (some b)] w fun e w' => e = .returned (.func (.func 151) #[] #[.pointer (some ⟨w.heap.size, 0, none⟩)]) ∧ w' = w.alloc (.cells #[.map (some b)] 186) := by
  go_enter Tryz.func126, Tryz.ntmps126
  go_wp2
  go_ret
  exact ⟨rfl, rfl⟩
end Go.Proofs.YtcifjpgimekcjaaGreatDoor
