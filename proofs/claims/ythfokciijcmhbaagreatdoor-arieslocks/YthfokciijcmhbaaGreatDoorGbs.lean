/-
  Iterators that hand out nothing: maps.Keys over an empty map, slices.Backward over none; what Collect and Sorted make of them.
  losers over no record.
  A new pool over a new disk and a new log: disk.New, log.Open, pool.New.
-/
import Derived.RangeFuncBox
import Derived.RangeFuncLeaves
import Derived.RangeFuncNested
import Derived.RangeFuncCalls
import Derived.Shelf.Abstract
import Derived.WalkKit
import Derived.OwnWalkIn
import Derived.TacticsInMore
import Derived.LoopNIn
import Derived.LoopIn
import Derived.BigRegionIn
import Derived.Stop.RegionWithIn
import Derived.Sort.CutIn
import Derived.Maps.OwnSet
import Derived.Maps.OwnIn
import Derived.Maps.Range
import Derived.Maps.RangeWalk
import Derived.Sort.KeysCollected
import Derived.Sort.MapsRangeIn
import Derived.Sort.OwnSorted
import Derived.Test.YthfokciijcmhbaaGreatDoorGbr
import Derived.Test.YthfokciijcmhbaaGreatDoorGbb
namespace Go.Proofs.YthfokciijcmhbaaGreatDoor
open Go.RowKit Go.Shelf Go.Maps Go.Sort
set_option linter.unusedVariables false
set_option maxRecDepth 100000
set_option maxHeartbeats 2000000
attribute [local go_sem] Oper.semAt_some

def idN (v : Value) : Option (DataW Value × List MemPlace) := some (.held v, [])
/-- Block b is a map without entries. -/
def Em (w : World) (b : Nat) : Prop := w.ownsMap Tryz.prog 3 idN b 0 (.map [])
theorem law3 : Keyed Tryz.prog 3 := int_keyed Tryz.underlying3
theorem Em.made (w : World) : Em (w.alloc (.map #[] 0)) w.heap.size := World.ownsMap_made w _ _ _
theorem Em.lt {w : World} {b : Nat} (h : Em w b) : b < w.heap.size := World.ownsMap.lt h
theorem Em.heap {w w' : World} {b : Nat} (h : Em w b) (hh : w'.heap[b]? = w.heap[b]?) : Em w' b := by
  obtain ⟨es, clock, hb, rest⟩ := h
  exact ⟨es, clock, by rw [hh]; exact hb, rest⟩
theorem Em.below {w w' : World} {b : Nat} (h : Em w b) (hb : Below w.heap.size w w') : Em w' b := h.heap (hb.block _ h.lt)
abbrev No := { j : Nat // j < 0 }
theorem no_nil : ∀ xs : List No, xs = []
  | [] => rfl
  | x :: _ => absurd x.2 (Nat.not_lt_zero _)
theorem keys1_in (n : Nat) (hn : 1 ≤ n) (l Bx b : Nat) (J Jx : List No → World → Prop) (W : World) (hJ : AbidesFrom W.heap.size J) (hBx : W.heap[Bx]? = some (.cells #[.map (some b)] 190 (0, 0))) (hM : Em W b) (h0 : J [] W) :
    CallsIn Fence.wide n Tryz.prog 149 #[.func (.yield l) #[] #[], .pointer (some ⟨Bx, 0, none⟩)] W fun e W' => (∃ v, e = .returned v) ∧ ((∃ ys, ys = [] ∧ J ys W') ∨ (∃ pre, False ∧ Jx pre W')) := by
  have hro : Fence.wide.round = none := rfl
  have hbc : W.cell? ⟨Bx, 0, none⟩ = some (.map (some b)) := by rw [cells_at hBx 0]; rfl
  refine callsIn_of_wp Tryz.func149 rfl trivial ?_ hro
  simp only [Tryz.ntmps149, List.size_toArray, List.length_cons, List.length_nil, Nat.reduceAdd, Nat.reduceSub, Array.replicate_succ, Array.replicate_zero, List.push_toArray, List.append_toArray, List.nil_append, List.cons_append]
  gi_wp2_with (first
    | (gi_at_range; refine wpListIn_range_own _ rfl _ 190 rfl 3 92 law3 Tryz.underlying190 _ b 0 _ rfl hM ?_; intro w0 hrg0 hg0 hs0)
    | gi_in)
  have hJ0 : J [] w0 := hJ [] W w0 none h0 hg0 (fun r e => by cases e)
  go_frame
  gi_loopw [6] (fun u wr => wr = w0) (fun _ _ => 0)
  case atStart => exact rfl
  case round =>
    obtain rfl := hrel
    gi_wp2_with (first
      | (gi_at_next; refine wpListIn_next_ranges _ rfl _ rfl 3 law3 idN (Value.int .i64) (fun v : Value => v) (fun key kl hk => by obtain ⟨x, hx, _⟩ := Maps.keyOf_int_inv Tryz.underlying3 hk; exact ⟨x, hx⟩) (fun v y hv => ⟨v, rfl⟩) b W.heap.size 0 _ _ _ rfl hrg0 ?_ ?_)
      | gi_in)
    · intro hc0 hl0
      gi_wp2
      go_end0
      exact ⟨⟨_, rfl⟩, .inl ⟨[], rfl, hJ0⟩⟩
    · intro x c kl y1 y2 w' cnt' hk hlt
      have hlt : false = true := hlt
      cases hlt
theorem keys_stops (n : Nat) (hn : 1 ≤ n) (Bx b : Nat) (w : World) (hBx : w.heap[Bx]? = some (.cells #[.map (some b)] 190 (0, 0))) (hM : Em w b) :
    SeqStopsK Fence.wide n Tryz.prog 149 #[.pointer (some ⟨Bx, 0, none⟩)] (fun x : No => #[Value.int .i64 0]) (Below w.heap.size) (fun ys => ys = []) (fun pre => False) 0 w := fun l J Jx W hW hA _ hY h0 => by
  have hl : Bx < w.heap.size := (Array.getElem?_eq_some_iff.1 hBx).1
  refine (keys1_in n hn l Bx b J Jx W hA ((hW.block Bx hl).trans hBx) (hM.below hW) h0).mono ?_
  rintro e W' ⟨h1, h2 | ⟨_, h2, _⟩⟩
  · exact ⟨h1, .inl h2⟩
  · exact h2.elim
/-- slices.AppendSeq of none, and of what hands out nothing. -/
theorem appSeqE (Bx b : Nat) (w : World) (hBx : w.heap[Bx]? = some (.cells #[.map (some b)] 190 (0, 0))) (hM : Em w b) :
    Calls Tryz.prog 165 #[.slice none 0 0, .func (.func 149) #[] #[.pointer (some ⟨Bx, 0, none⟩)]] w fun e w' => e = .returned (.slice none 0 0) ∧ Below w.heap.size w w' := by
  refine (callsIn_wide (n := 8)).1 ?_
  have hro : Fence.wide.round = none := rfl
  have h1' : 1 ≤ 8 := by decide
  refine callsIn_of_wp_marks Tryz.func165 rfl trivial ?_ hro
  simp only [Tryz.ntmps165, List.size_toArray, List.length_cons, List.length_nil, Nat.reduceAdd, Nat.reduceSub, Array.replicate_succ, Array.replicate_zero, List.push_toArray, List.append_toArray, List.nil_append, List.cons_append]
  gi_wp2
  have bA := Boxed.new w 26 (.slice none 0 0)
  have hB0 : Below w.heap.size w (w.alloc (.cells #[.slice none 0 0] 26)) := (Below.refl _ w).alloc (Nat.le_refl _) _
  refine wpIn_rangeFunc_ownG hro h1' (gf := 149) (lb := #[.pointer (some ⟨Bx, 0, none⟩)]) rfl trivial (enters_of Tryz.func149 (by kernel_rfl) rfl)
    (keys_stops (8 - 1) (by decide) Bx b w hBx hM) Below.trans (belowK_b (by simp)) hB0 (fun _ => rfl)
    (fun _ W => W.heap[w.heap.size]? = some (.cells #[.slice none 0 0] 26 (0, 0)) ∧ Below w.heap.size w W)
    (fun _ _ _ => False)
    (fun s A B row hs hg hr => ?own)
    (fun _ _ _ _ _ hs _ _ => hs)
    ⟨bA, hB0⟩
    (fun x => { tmps := #[], defers := [] }) ?assign ?body ?done ?stop
  case own =>
    obtain ⟨hv, hB⟩ := hs
    refine ⟨(hg.block _ (Array.getElem?_eq_some_iff.1 hv).1 (fun e => ?_)).trans hv, ownFrom_below (β := Unit) (Nat.le_refl _) (by simp) () A B row hB hg hr⟩
    obtain ⟨_, o', ho', hc⟩ := hr _ e.symm
    rw [hv] at ho'
    cases ho'
    cases hc
  case assign =>
    intro l x
    exact absurd x.2 (Nat.not_lt_zero _)
  case body =>
    intro l pre x
    exact absurd x.2 (Nat.not_lt_zero _)
  case done =>
    rintro D ys W hD rfl ⟨hv, hB⟩ hK
    have hc : W.cell? ⟨w.heap.size, 0, none⟩ = some (.slice none 0 0) := by rw [cells_at hv 0]; rfl
    have hD' : w.heap.size ≤ D := by rw [World.size_alloc] at hD; omega
    clear hv
    gi_wp2
    refine ⟨by simp, .inl ⟨_, _, rfl, run_takeDeferred hK, ?_⟩⟩
    exact ⟨_, results_tmp rfl _ _ _, rfl, hB.trans (belowK_b (w := w) (Nat.le_refl _) W D _ _ hD' hK rfl rfl)⟩
  case stop =>
    rintro D c pre W _ _ h _
    exact h.elim
theorem collE (Bx b : Nat) (w : World) (hBx : w.heap[Bx]? = some (.cells #[.map (some b)] 190 (0, 0))) (hM : Em w b) :
    Calls Tryz.prog 147 #[.func (.func 149) #[] #[.pointer (some ⟨Bx, 0, none⟩)]] w fun e w' => e = .returned (.slice none 0 0) ∧ Below w.heap.size w w' := by
  have CA := appSeqE Bx b w hBx hM
  clear hBx hM
  go_enter Tryz.func147, Tryz.ntmps147
  go_wp2_with (go_at_call 165; refine CA.mono ?_; rintro e w' ⟨rfl, hb⟩)
  go_ret
  exact ⟨rfl, hb⟩
theorem sortE (Bx b : Nat) (w : World) (hBx : w.heap[Bx]? = some (.cells #[.map (some b)] 190 (0, 0))) (hM : Em w b) :
    Calls Tryz.prog 110 #[.func (.func 149) #[] #[.pointer (some ⟨Bx, 0, none⟩)]] w fun e w' => e = .returned (.slice none 0 0) ∧ Below w.heap.size w w' := by
  have CA := collE Bx b w hBx hM
  clear hBx hM
  go_enter Tryz.func110, Tryz.ntmps110
  go_wp2_with first
    | (go_at_call 147; refine CA.mono ?_; clear CA; rintro e w' ⟨rfl, hb⟩)
    | (go_at_call 148; refine (k_sort _).mono ?_; rintro e w2 ⟨rfl, hw⟩; rw [hw]; clear hw)
  go_ret
  exact ⟨rfl, hb⟩
theorem keysE (b : Nat) (w : World) : Calls Tryz.prog 111 #[.map (some b)] w fun e w' => e = .returned (.func (.func 149) #[] #[.pointer (some ⟨w.heap.size, 0, none⟩)]) ∧ w' = w.alloc (.cells #[.map (some b)] 190) := by
  go_enter Tryz.func111, Tryz.ntmps111
  go_wp2
  go_ret
  exact ⟨rfl, rfl⟩
end Go.Proofs.YthfokciijcmhbaaGreatDoor

namespace Go.Proofs.YthfokciijcmhbaaGreatDoor
open Go.RowKit Go.Shelf Go.Maps Go.Sort
set_option linter.unusedVariables false
set_option maxRecDepth 100000
set_option maxHeartbeats 2000000
attribute [local go_sem] Oper.semAt_some

theorem back1_in (n : Nat) (hn : 1 ≤ n) (l Bx : Nat) (J Jx : List No → World → Prop) (W : World) (hBx : W.heap[Bx]? = some (.cells #[.slice none 0 0] 26 (0, 0))) (h0 : J [] W) :
    CallsIn Fence.wide n Tryz.prog 150 #[.func (.yield l) #[] #[], .pointer (some ⟨Bx, 0, none⟩)] W fun e W' => (∃ v, e = .returned v) ∧ ((∃ ys, ys = [] ∧ J ys W') ∨ (∃ pre, False ∧ Jx pre W')) := by
  have hro : Fence.wide.round = none := rfl
  have hbc : W.cell? ⟨Bx, 0, none⟩ = some (.slice none 0 0) := by rw [cells_at hBx 0]; rfl
  refine callsIn_of_wp Tryz.func150 rfl trivial ?_ hro
  simp only [Tryz.ntmps150, List.size_toArray, List.length_cons, List.length_nil, Nat.reduceAdd, Nat.reduceSub, Array.replicate_succ, Array.replicate_zero, List.push_toArray, List.append_toArray, List.nil_append, List.cons_append]
  gi_wp2
  gi_loopw [3] (fun i wr => i = .int .i64 (-1) ∧ wr = W) (fun _ _ => 0)
  case atStart => exact ⟨by first | rfl | go_num, rfl⟩
  case round =>
    obtain ⟨rfl, rfl⟩ := hrel
    gi_wp2
    go_end0
    exact ⟨⟨_, rfl⟩, .inl ⟨[], rfl, h0⟩⟩
theorem back_stops (n : Nat) (hn : 1 ≤ n) (Bx : Nat) (w : World) (hBx : w.heap[Bx]? = some (.cells #[.slice none 0 0] 26 (0, 0))) :
    SeqStopsK Fence.wide n Tryz.prog 150 #[.pointer (some ⟨Bx, 0, none⟩)] (fun x : No => #[Value.int .i64 0, Value.int .i64 0]) (Below w.heap.size) (fun ys => ys = []) (fun pre => False) 0 w := fun l J Jx W hW hA _ hY h0 => by
  have hl : Bx < w.heap.size := (Array.getElem?_eq_some_iff.1 hBx).1
  refine (back1_in n hn l Bx J Jx W ((hW.block Bx hl).trans hBx) h0).mono ?_
  rintro e W' ⟨h1, h2 | ⟨_, h2, _⟩⟩
  · exact ⟨h1, .inl h2⟩
  · exact h2.elim
theorem backE (w : World) : Calls Tryz.prog 112 #[.slice none 0 0] w fun e w' => e = .returned (.func (.func 150) #[] #[.pointer (some ⟨w.heap.size, 0, none⟩)]) ∧ w' = w.alloc (.cells #[.slice none 0 0] 26) := by
  go_enter Tryz.func112, Tryz.ntmps112
  go_wp2
  go_ret
  exact ⟨rfl, rfl⟩
theorem losersE (s : Value) (w : World) : Calls Tryz.prog 73 #[s, .slice none 0 0] w fun e w' => e = .returned (.slice none 0 0) ∧ Below w.heap.size w w' := by
  have HT := takZ s w
  have hmm := @run_makeMap Tryz.prog
  refine (callsIn_wide (n := 8)).1 ?_
  have hro : Fence.wide.round = none := rfl
  have h1' : 1 ≤ 8 := by decide
  refine callsIn_of_wp_marks Tryz.func73 rfl trivial ?_ hro
  simp only [Tryz.ntmps73, List.size_toArray, List.length_cons, List.length_nil, Nat.reduceAdd, Nat.reduceSub, Array.replicate_succ, Array.replicate_zero, List.push_toArray, List.append_toArray, List.nil_append, List.cons_append]
  gi_wp2_with (refine ⟨trivial, ?_⟩; gi_at_call 109; refine (callsIn_wide.2 HT).mono ?_; clear HT; rintro e w1 ⟨v1, rfl, hb1⟩)
  obtain ⟨W3, hW3⟩ : ∃ W3, W3 = (w1.alloc (.map #[] 0)).alloc (.cells #[.map (some w1.heap.size)] 190) := ⟨_, rfl⟩
  have hb2 : Below w1.heap.size w1 (w1.alloc (.map #[] 0)) := (Below.refl _ w1).alloc (Nat.le_refl _) _
  have hb3 : Below (w1.alloc (.map #[] 0)).heap.size (w1.alloc (.map #[] 0)) W3 := by rw [hW3]; exact (Below.refl _ _).alloc (Nat.le_refl _) _
  have hE3 : Em W3 w1.heap.size := (Em.made w1).below hb3
  have hB3 : Below w.heap.size w W3 := (hb1.trans (hb2.mono hb1.size)).trans (hb3.mono (Nat.le_trans hb1.size hb2.size))
  have hx3 : W3.heap[w1.heap.size + 1]? = some (.cells #[.map (some w1.heap.size)] 190 (0, 0)) := by rw [hW3]; exact heap_alloc_at _ _ _ (World.size_alloc ..).symm
  have hc3 : W3.cell? ⟨w1.heap.size + 1, 0, none⟩ = some (.map (some w1.heap.size)) := by rw [cells_at hx3 0]; rfl
  rw [← hW3]
  have HK := keysE w1.heap.size W3
  obtain ⟨W4, hW4⟩ : ∃ W4, W4 = W3.alloc (.cells #[.map (some w1.heap.size)] 190) := ⟨_, rfl⟩
  have hb4 : Below W3.heap.size W3 W4 := by rw [hW4]; exact (Below.refl _ _).alloc (Nat.le_refl _) _
  have hx4 : W4.heap[W3.heap.size]? = some (.cells #[.map (some w1.heap.size)] 190 (0, 0)) := by rw [hW4]; exact heap_alloc_at _ _ _ rfl
  have HS := sortE W3.heap.size w1.heap.size W4 hx4 (hE3.below hb4)
  have HB4 : Hid (Below w.heap.size w W4) := hB3.trans (hb4.mono hB3.size)
  rw [← hW4] at HK
  clear hW3 hb2 hb3 hE3 hx3 hW4 hb4 hx4 hb1
  gi_loopw [21] (fun i wr => i = .int .i64 0 ∧ wr = W3) (fun _ _ => 0)
  case atStart => exact ⟨rfl, rfl⟩
  case round =>
    obtain ⟨rfl, rfl⟩ := hrel
    gi_wp2
    gi_loopw [64] (fun i wr2 => i = .int .i64 0 ∧ wr2 = wr) (fun _ _ => 0)
    case atStart => exact ⟨rfl, rfl⟩
    case round =>
      obtain ⟨rfl, rfl⟩ := hrel
      gi_wp2_with (first
        | (refine ⟨trivial, ?_⟩; gi_at_call 111; refine (callsIn_wide.2 HK).mono ?_; clear HK; rintro e w5 ⟨rfl, hw⟩; rw [hw]; clear hw)
        | (refine ⟨trivial, ?_⟩; gi_at_call 110; refine (callsIn_wide.2 HS).mono ?_; clear HS; rintro e w6 ⟨rfl, hb6⟩)
        | (refine ⟨trivial, ?_⟩; gi_at_call 112; refine (callsIn_wide.2 (backE _)).mono ?_; rintro e w7 ⟨rfl, hw⟩; rw [hw]; clear hw))
      obtain ⟨W8, hW8⟩ : ∃ W8, W8 = (w6.alloc (.cells #[.slice none 0 0] 86)).alloc (.cells #[.slice none 0 0] 26) := ⟨_, rfl⟩
      have hb8 : Below w6.heap.size w6 W8 := by rw [hW8]; exact ((Below.refl _ w6).alloc (Nat.le_refl _) _).alloc (by rw [World.size_alloc]; omega) _
      have hB6 : Below w.heap.size w w6 := HB4.out.trans (hb6.mono HB4.out.size)
      have hB8 : Below w.heap.size w W8 := hB6.trans (hb8.mono hB6.size)
      have hx8 : W8.heap[w6.heap.size + 1]? = some (.cells #[.slice none 0 0] 26 (0, 0)) := by rw [hW8]; exact heap_alloc_at _ _ _ (World.size_alloc ..).symm
      have hl8 : W8.heap[w6.heap.size]? = some (.cells #[.slice none 0 0] 86 (0, 0)) := by
        rw [hW8, Below.heap_alloc _ _ _ (by rw [World.size_alloc]; omega)]
        exact heap_alloc_at _ _ _ rfl
      have hs8 : w6.heap.size < W8.heap.size := by rw [hW8, World.size_alloc, World.size_alloc]; omega
      rw [← hW8]
      clear hW8 hb8 hb6 hc3 hB3
      refine wpIn_rangeFunc_ownG hro h1' (gf := 150) (lb := #[.pointer (some ⟨w6.heap.size + 1, 0, none⟩)]) rfl trivial (enters_of Tryz.func150 (by kernel_rfl) rfl)
        (back_stops (8 - 1) (by decide) (w6.heap.size + 1) W8 hx8) Below.trans (belowK_b (Nat.le_refl _)) (Below.refl _ _) (fun _ => rfl)
        (fun _ W => W.heap[w6.heap.size]? = some (.cells #[.slice none 0 0] 86 (0, 0)) ∧ Below w.heap.size w W)
        (fun _ _ _ => False)
        (fun s A B row hs hg hr => ?own)
        (fun _ _ _ _ _ hs _ _ => hs)
        ⟨hl8, hB8⟩
        (fun x => { tmps := #[], defers := [] }) ?assign ?body ?done ?stop
      case own =>
        obtain ⟨hv, hB⟩ := hs
        refine ⟨(hg.block _ (Array.getElem?_eq_some_iff.1 hv).1 (fun e => ?_)).trans hv, ownFrom_below (β := Unit) (Nat.le_refl _) (hB8.size) () A B row hB hg hr⟩
        obtain ⟨_, o', ho', hc⟩ := hr _ e.symm
        rw [hv] at ho'
        cases ho'
        cases hc
      case assign =>
        intro l x
        exact absurd x.2 (Nat.not_lt_zero _)
      case body =>
        intro l pre x
        exact absurd x.2 (Nat.not_lt_zero _)
      case done =>
        rintro D ys W hD rfl ⟨hv, hB⟩ hK
        have hc : W.cell? ⟨w6.heap.size, 0, none⟩ = some (.slice none 0 0) := by rw [cells_at hv 0]; rfl
        have hD' : w.heap.size ≤ D := Nat.le_trans hB8.size hD
        clear hv hx8 hl8
        gi_wp2
        refine ⟨by simp, .inl ⟨_, _, rfl, run_takeDeferred hK, ?_⟩⟩
        exact ⟨_, results_tmp rfl _ _ _, rfl, hB.trans (belowK_b (w := w) (Nat.le_refl _) W D _ _ hD' hK rfl rfl)⟩
      case stop =>
        rintro D c pre W _ _ h _
        exact h.elim
end Go.Proofs.YthfokciijcmhbaaGreatDoor

namespace Go.Proofs.YthfokciijcmhbaaGreatDoor
open Go.RowKit
set_option linter.unusedVariables false

theorem has_zero : Has (from0 (fun _ => 0) 0) 40 0 0 := by
  refine ⟨0, by decide, Taken.nil _, .inr (.inr (fun N u hr => ?_))⟩
  have h := hr.eq 0 (by decide)
  exact absurd h (by
    show ¬ ((0 : Int) = lsec 0 N u _ 0)
    unfold lsec
    rw [sec_head _ _ _ _ _ (by decide)]
    exact (by decide : ¬ ((0 : Int) = 76)))
theorem parsed_zero {f : Nat → Int} {R : List (Nat × Nat)} {size : Nat} (h : Parsed f 0 R size) : R = [] ∧ size = 0 := by
  have h1 := h.1.le
  have h2 := h.1.len
  exact ⟨List.length_eq_zero_iff.1 (by omega), by omega⟩
/-- No buffer. -/
def X0 : Nat → Bf := fun _ => ⟨0, 0, 0, 0, 0, .slice none 0 0⟩
/-- A new log over a new disk of 46 sectors: all that New asks for. -/
structure Nl (A : Ax) (w0 w : World) (D L T : Nat) (F : Nat → Prop) (vt : Value) (e : Nat → Int) : Prop where
  sd : Sd w D F 46 0 e
  lp : Lp A w L T D F 0 0 vt
  tab : Tab w
  t0 : Tab w0
  low : ∀ k, F k → w0.heap.size ≤ k
  lt : ∀ k, F k → k < w.heap.size
  lT : w0.heap.size ≤ T ∧ w0.heap.size ≤ L
  lV : ∀ k, vt.ownBlock = some k → w0.heap.size ≤ k ∧ k < w.heap.size ∧ k ≠ L
  zero : ∀ p, p < 6 → ∀ i, i < 128 → e ((40 + p) * 128 + i) = 0
  bel : Below w0.heap.size w0 w
theorem Nl.new {w0 w : World} {D L T bf : Nat} {F : Nat → Prop} {vt : Value} {e : Nat → Int} (A : Ax) (k : Nl A w0 w D L T F vt e) (hb : bf ≤ 5) (o o2 : Obj) (ho : o = stO 0 D L 40 6 bf (.slice none 0 0)) (ho2 : o2 = .cells #[.pointer (some ⟨w.heap.size, 0, none⟩)] 145) : Pw w0.heap.size A ((w.alloc o).alloc o2) (fun b => F b ∨ b = T ∨ vt.ownBlock = some b ∨ b = w.heap.size) w.heap.size 0 D L bf 0 X0 0 e 0 0 (fun _ => 0) (fun _ _ => 0) ∧ Below w.heap.size w ((w.alloc o).alloc o2) := by
  subst ho ho2
  have e1 : ((w.alloc (stO 0 D L 40 6 bf (.slice none 0 0))).alloc (.cells #[.pointer (some ⟨w.heap.size, 0, none⟩)] 145)).heap[w.heap.size]? = some (stO 0 D L 40 6 bf (.slice none 0 0)) := by
    rw [((Below.refl (w.alloc (stO 0 D L 40 6 bf (.slice none 0 0))).heap.size (w.alloc (stO 0 D L 40 6 bf (.slice none 0 0)))).alloc (Nat.le_refl _) _).block w.heap.size (by simp)]
    exact heap_alloc_at _ _ _ rfl
  have e2 : ((w.alloc (stO 0 D L 40 6 bf (.slice none 0 0))).alloc (.cells #[.pointer (some ⟨w.heap.size, 0, none⟩)] 145)).heap[w.heap.size + 1]? = some (.cells #[.pointer (some ⟨w.heap.size, 0, none⟩)] 145) := heap_alloc_at _ _ _ (by simp)
  have bel : Below w.heap.size w ((w.alloc (stO 0 D L 40 6 bf (.slice none 0 0))).alloc (.cells #[.pointer (some ⟨w.heap.size, 0, none⟩)] 145)) := ((Below.refl _ w).alloc (Nat.le_refl _) _).trans ((Below.refl _ _).alloc (by simp) _)
  have hsz : ((w.alloc (stO 0 D L 40 6 bf (.slice none 0 0))).alloc (.cells #[.pointer (some ⟨w.heap.size, 0, none⟩)] 145)).heap.size = w.heap.size + 1 + 1 := by simp
  obtain ⟨q, place, tl, f, g1, g2, _⟩ := k.lp.lay
  have hL := (Array.getElem?_eq_some_iff.1 g1.hL).1
  have hT := (Array.getElem?_eq_some_iff.1 g1.hT).1
  have htl := k.tab.lt
  have hpz : ∀ p, p < 6 → Pgs e p 0 (fun _ => 0) := fun p hp => .inl ⟨rfl, k.zero p hp, fun _ _ => rfl⟩
  have ht0 := k.t0.lt
  refine ⟨⟨⟨⟨_, e1, ⟨rfl, .inl ⟨rfl, rfl⟩⟩⟩, fun j hj => absurd hj (by omega), fun i j hi => absurd hi (by omega), by omega, k.bel.size⟩, ⟨T, F, vt, k.sd.below bel, k.lp.part (G := fun _ => False) (Part.ofBelow bel) id id (fun _ _ h => h), fun b h => .inl h, .inr (.inl rfl), fun b h => .inr (.inr (.inl h))⟩, .inr (.inr (.inr rfl)), k.tab.below bel (Nat.le_refl _), ⟨?_, ?_, ?_⟩, fun b hb => ?_, e2, fun j hj => absurd hj (by omega), fun j b hj => absurd hj (by omega), fun j hj => absurd hj (by omega), fun p hp _ => hpz p hp, fun i j hi => absurd hi (by omega), fun p i => ⟨Int.le_refl _, by decide⟩, fun p => by decide, fun p hp => ⟨0, _, hpz p hp, fun _ => Nat.le_refl _⟩, fun _ p => Nat.le_refl _, ⟨by omega, hb⟩, fun j hj => absurd hj (by omega), ht0⟩, bel⟩
  · rintro (h | h | h | h)
    · have := k.low _ h; omega
    · have := k.lT.1; omega
    · have := (k.lV _ h).1; omega
    · omega
  · rintro (h | h | h | h)
    · have := k.lt _ h; omega
    · omega
    · have := (k.lV _ h).2.1; omega
    · omega
  · rintro (h | h | h | h)
    · exact k.lp.nL h
    · exact k.lp.ne h
    · exact (k.lV _ h).2.2 rfl
    · omega
  · rw [hsz]
    rcases hb with h | h | h | h
    · have := k.lt _ h; omega
    · omega
    · have := (k.lV _ h).2.1; omega
    · omega
theorem row_none {W : World} {base : Nat} {e : TypeId} {size : Nat} {v : Value} {xs : List Value} (h : W.ownsRow base e size v 0 xs) : ∃ a c, v = .slice a 0 c := by
  rcases h.2 with ⟨rfl, h0⟩ | ⟨g, cap, cur, rfl, _⟩
  · exact ⟨_, _, rfl⟩
  · exact ⟨_, _, rfl⟩
/-- disk.New(46). -/
theorem n_disk (w0 : World) (ht : Tab w0) : Calls Tryz.prog 37 #[.int .i64 46] w0 fun r w' => ∃ D, r = .returned (.tuple #[.pointer (some ⟨D, 0, none⟩), .int .i64 0]) ∧ Hid (Sd w' D (fun k => w0.heap.size ≤ k ∧ k < w'.heap.size) 46 0 (fun _ => 0) ∧ Below w0.heap.size w0 w' ∧ Tab w' ∧ Tab w0) :=
  (dkNew 46 (by decide) (by decide) w0).mono fun r w' ⟨D, hr, hd, hb⟩ => ⟨D, hr, hd.sd, hb, ht.below hb (Nat.le_refl _), ht⟩
/-- log.Open over it. -/
theorem n_log (pr : Prop) {w0 w : World} {D : Nat} (h : Sd w D (fun k => w0.heap.size ≤ k ∧ k < w.heap.size) 46 0 (fun _ => 0) ∧ Below w0.heap.size w0 w ∧ Tab w ∧ Tab w0) : Calls Tryz.prog 45 #[.pointer (some ⟨D, 0, none⟩), .int .i64 0, .int .i64 40] w fun r w' => ∃ L a c, r = .returned (.tuple #[.pointer (some ⟨L, 0, none⟩), .slice a 0 c, .int .i64 0]) ∧ Hid (∃ T F vt e, Nl ⟨pr, 0⟩ w0 w' D L T F vt e) := by
  obtain ⟨hs, hb, ht, ht0⟩ := h
  have l0 := ht0.lt
  have hbs := hb.size
  refine (openL D 46 0 40 _ (fun _ => 0) w hs (by decide) (by decide) ht (fun h => by omega)).mono fun r w' ⟨L, v, first, tot, size, R, hr, ho⟩ => ?_
  obtain ⟨rfl, rfl⟩ := ho.has.uniq has_zero
  obtain ⟨rfl, rfl⟩ := parsed_zero ho.prs
  obtain ⟨T, vt, Ar, C, e', p, q, k1, k2, k3, k4, kR, _, _, k5, k6, k7, k8, k9, k10⟩ := ho.lay
  have hpt := ho.part
  have hFw : ∀ k, ((w0.heap.size ≤ k ∧ k < w.heap.size) ∨ (p ≤ k ∧ k < q)) → w0.heap.size ≤ k ∧ k < q := fun k h => by omega
  have hT := (Array.getElem?_eq_some_iff.1 k1.hT).1
  have hL := (Array.getElem?_eq_some_iff.1 k1.hL).1
  obtain ⟨av, cv, hv⟩ := row_none kR.own
  rw [hv] at hr
  refine ⟨L, av, cv, hr, T, _, vt, e', k3, ⟨⟨q, 0, 0, _, k1, k2, fun i => ⟨Int.le_refl _, show (0 : Int) ≤ 255 by decide⟩, by show 0 * 112 + 0 ≤ 0; decide, by show 0 ≤ 4480; decide, fun h => absurd rfl h⟩, k9, fun h => by have := (hFw _ h).2; omega, fun h => by have := (hFw _ h).2; omega, fun b hb' h => ?_, Nat.le_refl _⟩, ht.partG hpt (fun h => by omega), ht0, fun b h => (hFw b h).1, fun b h => by have := (hFw b h).2; omega, ⟨by omega, by omega⟩, fun b hb' => ?_, fun p hp i hi => ?_, hb.trans (hpt.below (fun b h => h.1) hbs)⟩
  · have := (World.ownsRow.lt k2 _ hb').1
    have := (hFw _ h).2
    omega
  · have := World.ownsRow.lt k2 _ hb'
    exact ⟨by omega, by omega, (k10 b hb').1⟩
  · exact k4.2 _ (.inr (by omega))
set_option maxRecDepth 100000 in
set_option maxHeartbeats 2000000 in
/-- pool.New over both. -/
theorem n_pool (A : Ax) {w0 w : World} {D L bf : Nat} (h : ∃ T F vt e, Nl A w0 w D L T F vt e) (h1 : 1 ≤ bf) (h5 : bf ≤ 5) : Calls Tryz.prog 46 #[.pointer (some ⟨D, 0, none⟩), .pointer (some ⟨L, 0, none⟩), .int .i64 40, .int .i64 6, .int .i64 (bf : Int)] w fun r w' => ∃ S, r = .returned (.tuple #[.pointer (some ⟨S + 1, 0, none⟩), .int .i64 0]) ∧ Hid (∃ P e, Pw w0.heap.size A w' P S 0 D L bf 0 X0 0 e 0 0 (fun _ => 0) (fun _ _ => 0) ∧ (∀ b, P b → w0.heap.size ≤ b) ∧ w0.heap.size ≤ S ∧ Below w0.heap.size w0 w') := by
  obtain ⟨T, F, vt, e, k⟩ := h
  have HS : Hid (Calls Tryz.prog 65 #[.pointer (some ⟨D, 0, none⟩)] w fun e w' => e = .returned (.int .i64 46) ∧ w' = w) := sdSectors D 46 0 F e w k.sd
  have HL : Hid (Calls Tryz.prog 70 #[.pointer (some ⟨L, 0, none⟩)] w fun r w' => r = .returned (.int .i64 1) ∧ w' = w) := by
    obtain ⟨q, place, tl, f, g1, _⟩ := k.lp.lay
    exact lFirst L T 1 w (by rw [cells_at g1.hL 0]; rfl) (by rw [cells_at g1.hT 3]; rfl)
  have HN : Hid (∀ o o2, o = stO 0 D L 40 6 bf (.slice none 0 0) → o2 = Obj.cells #[.pointer (some ⟨w.heap.size, 0, none⟩)] 145 → ∃ P e, Pw w0.heap.size A ((w.alloc o).alloc o2) P w.heap.size 0 D L bf 0 X0 0 e 0 0 (fun _ => 0) (fun _ _ => 0) ∧ (∀ b, P b → w0.heap.size ≤ b) ∧ w0.heap.size ≤ w.heap.size ∧ Below w0.heap.size w0 ((w.alloc o).alloc o2)) := fun o o2 ho ho2 => by
    obtain ⟨j1, j2⟩ := k.new A h5 o o2 ho ho2
    have hs := k.bel.size
    refine ⟨_, e, j1, ?_, hs, k.bel.trans (j2.mono hs)⟩
    rintro b (h | h | h | h)
    · exact k.low b h
    · have := k.lT.1; omega
    · exact (k.lV b h).1
    · omega
  have d1 : decide ((bf : Int) < 1) = false := decide_eq_false (by omega)
  have d2 : decide ((64 : Int) < (bf : Int)) = false := decide_eq_false (by omega)
  clear k
  go_enter Tryz.func46, Tryz.ntmps46
  go_wp2_with fail
  refine HS.out.mono ?_
  rintro r w1 ⟨rfl, hw⟩
  obtain rfl : w = w1 := hw.symm
  clear hw
  go_wp2_with fail
  refine HL.out.mono ?_
  rintro r w1 ⟨rfl, hw⟩
  obtain rfl : w = w1 := hw.symm
  clear hw
  go_wp2_with fail
  refine HS.out.mono ?_
  rintro r w1 ⟨rfl, hw⟩
  obtain rfl : w = w1 := hw.symm
  clear hw
  go_wp2
  go_ret2
  exact ⟨w.heap.size, by simp, HN.out _ _ rfl rfl⟩
end Go.Proofs.YthfokciijcmhbaaGreatDoor
