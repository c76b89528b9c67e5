/-
  losers over no record.
-/
import Derived.Test.YtcifjpgimekcjaaGreatDoorArD
namespace Go.Proofs.YtcifjpgimekcjaaGreatDoor
open Go.RowKit Go.Shelf Go.Maps Go.Sort
set_option linter.unusedVariables false
set_option maxRecDepth 100000
set_option maxHeartbeats 2000000
attribute [local go_sem] Oper.semAt_some

theorem back1_in (n : Nat) (hn : 1 ≤ n) (l Bx : Nat) (J Jx : List No → World → Prop) (W : World) (hBx : W.heap[Bx]? = some (.cells #[.slice none 0 0] 37 (0, 0))) (h0 : J [] W) :
    CallsIn Fence.wide n Tryz.prog 152 #[.func (.yield l) #[] #[], .pointer (some ⟨Bx, 0, none⟩)] W fun e W' => (∃ v, e = .returned v) ∧ ((∃ ys, ys = [] ∧ J ys W') ∨ (∃ pre, False ∧ Jx pre W')) := by
  have hro : Fence.wide.round = none := rfl
  have hbc : W.cell? ⟨Bx, 0, none⟩ = some (.slice none 0 0) := by rw [cells_at hBx 0]; rfl
  refine callsIn_of_wp Tryz.func152 rfl trivial ?_ hro
  simp only [Tryz.ntmps152, List.size_toArray, List.length_cons, List.length_nil, Nat.reduceAdd, Nat.reduceSub, Array.replicate_succ, Array.replicate_zero, List.push_toArray, List.append_toArray, List.nil_append, List.cons_append]
  gi_wp2
  gi_loopw [3] (fun i wr => i = .int .i64 (-1) ∧ wr = W) (fun _ _ => 0)
  case atStart => exact ⟨by first | rfl | go_num, rfl⟩
  case round =>
    obtain ⟨rfl, rfl⟩ := hrel
    gi_wp2
    go_end0
    exact ⟨⟨_, rfl⟩, .inl ⟨[], rfl, h0⟩⟩
theorem back_stops (n : Nat) (hn : 1 ≤ n) (Bx : Nat) (w : World) (hBx : w.heap[Bx]? = some (.cells #[.slice none 0 0] 37 (0, 0))) :
    SeqStopsK Fence.wide n Tryz.prog 152 #[.pointer (some ⟨Bx, 0, none⟩)] (fun x : No => #[Value.int .i64 0, Value.int .i64 0]) (Below w.heap.size) (fun ys => ys = []) (fun pre => False) 0 w := fun l J Jx W hW hA _ hY h0 => by
  have hl : Bx < w.heap.size := (Array.getElem?_eq_some_iff.1 hBx).1
  refine (back1_in n hn l Bx J Jx W ((hW.block Bx hl).trans hBx) h0).mono ?_
  rintro e W' ⟨h1, h2 | ⟨_, h2, _⟩⟩
  · exact ⟨h1, .inl h2⟩
  · exact h2.elim
theorem backE (w : World) : Calls Tryz.prog 127 #[.slice none 0 0] w fun e w' => e = .returned (.func (.func 152) #[] #[.pointer (some ⟨w.heap.size, 0, none⟩)]) ∧ w' = w.alloc (.cells #[.slice none 0 0] 37) := by
  go_enter Tryz.func127, Tryz.ntmps127
  go_wp2
  go_ret
  exact ⟨rfl, rfl⟩
theorem losersE (s : Value) (w : World) : Calls Tryz.prog 85 #[s, .slice none 0 0] w fun e w' => e = .returned (.slice none 0 0) ∧ Below w.heap.size w w' := by
  have HT := takZ s w
  have hmm := @run_makeMap Tryz.prog
  refine (callsIn_wide (n := 8)).1 ?_
  have hro : Fence.wide.round = none := rfl
  have h1' : 1 ≤ 8 := by decide
  refine callsIn_of_wp_marks Tryz.func85 rfl trivial ?_ hro
  simp only [Tryz.ntmps85, List.size_toArray, List.length_cons, List.length_nil, Nat.reduceAdd, Nat.reduceSub, Array.replicate_succ, Array.replicate_zero, List.push_toArray, List.append_toArray, List.nil_append, List.cons_append]
  gi_wp2_with (refine ⟨trivial, ?_⟩; gi_at_call 124; refine (callsIn_wide.2 HT).mono ?_; clear HT; rintro e w1 ⟨v1, rfl, hb1⟩)
  obtain ⟨W3, hW3⟩ : ∃ W3, W3 = (w1.alloc (.map #[] 0)).alloc (.cells #[.map (some w1.heap.size)] 186) := ⟨_, rfl⟩
  have hb2 : Below w1.heap.size w1 (w1.alloc (.map #[] 0)) := (Below.refl _ w1).alloc (Nat.le_refl _) _
  have hb3 : Below (w1.alloc (.map #[] 0)).heap.size (w1.alloc (.map #[] 0)) W3 := by rw [hW3]; exact (Below.refl _ _).alloc (Nat.le_refl _) _
  have hE3 : Em W3 w1.heap.size := (Em.made w1).below hb3
  have hB3 : Below w.heap.size w W3 := (hb1.trans (hb2.mono hb1.size)).trans (hb3.mono (Nat.le_trans hb1.size hb2.size))
  have hx3 : W3.heap[w1.heap.size + 1]? = some (.cells #[.map (some w1.heap.size)] 186 (0, 0)) := by rw [hW3]; exact heap_alloc_at _ _ _ (World.size_alloc ..).symm
  have hc3 : W3.cell? ⟨w1.heap.size + 1, 0, none⟩ = some (.map (some w1.heap.size)) := by rw [cells_at hx3 0]; rfl
  rw [← hW3]
  have HK := keysE w1.heap.size W3
  obtain ⟨W4, hW4⟩ : ∃ W4, W4 = W3.alloc (.cells #[.map (some w1.heap.size)] 186) := ⟨_, rfl⟩
  have hb4 : Below W3.heap.size W3 W4 := by rw [hW4]; exact (Below.refl _ _).alloc (Nat.le_refl _) _
  have hx4 : W4.heap[W3.heap.size]? = some (.cells #[.map (some w1.heap.size)] 186 (0, 0)) := by rw [hW4]; exact heap_alloc_at _ _ _ rfl
  have HS := sortE W3.heap.size w1.heap.size W4 hx4 (hE3.below hb4)
  have HB4 : Hid (Below w.heap.size w W4) := hB3.trans (hb4.mono hB3.size)
  rw [← hW4] at HK
  clear hW3 hb2 hb3 hE3 hx3 hW4 hb4 hx4 hb1
  gi_loopw [21] (fun i wr => i = .int .i64 0 ∧ wr = W3) (fun _ _ => 0)
  case atStart => exact ⟨rfl, rfl⟩
  case round =>
    obtain ⟨rfl, rfl⟩ := hrel
    gi_wp2
    gi_loopw [64] (fun i wr2 => i = .int .i64 0 ∧ wr2 = wr) (fun _ _ => 0)
    case atStart => exact ⟨rfl, rfl⟩
    case round =>
      obtain ⟨rfl, rfl⟩ := hrel
      gi_wp2_with (first
        | (refine ⟨trivial, ?_⟩; gi_at_call 126; refine (callsIn_wide.2 HK).mono ?_; clear HK; rintro e w5 ⟨rfl, hw⟩; rw [hw]; clear hw)
        | (refine ⟨trivial, ?_⟩; gi_at_call 125; refine (callsIn_wide.2 HS).mono ?_; clear HS; rintro e w6 ⟨rfl, hb6⟩)
        | (refine ⟨trivial, ?_⟩; gi_at_call 127; refine (callsIn_wide.2 (backE _)).mono ?_; rintro e w7 ⟨rfl, hw⟩; rw [hw]; clear hw))
      obtain ⟨W8, hW8⟩ : ∃ W8, W8 = (w6.alloc (.cells #[.slice none 0 0] 59)).alloc (.cells #[.slice none 0 0] 37) := ⟨_, rfl⟩
      have hb8 : Below w6.heap.size w6 W8 := by rw [hW8]; exact ((Below.refl _ w6).alloc (Nat.le_refl _) _).alloc (by rw [World.size_alloc]; omega) _
      have hB6 : Below w.heap.size w w6 := HB4.out.trans (hb6.mono HB4.out.size)
      have hB8 : Below w.heap.size w W8 := hB6.trans (hb8.mono hB6.size)
      have hx8 : W8.heap[w6.heap.size + 1]? = some (.cells #[.slice none 0 0] 37 (0, 0)) := by rw [hW8]; exact heap_alloc_at _ _ _ (World.size_alloc ..).symm
      have hl8 : W8.heap[w6.heap.size]? = some (.cells #[.slice none 0 0] 59 (0, 0)) := by
        rw [hW8, Below.heap_alloc _ _ _ (by rw [World.size_alloc]; omega)]
        exact heap_alloc_at _ _ _ rfl
      have hs8 : w6.heap.size < W8.heap.size := by rw [hW8, World.size_alloc, World.size_alloc]; omega
      rw [← hW8]
      clear hW8 hb8 hb6 hc3 hB3
      refine wpIn_rangeFunc_ownG hro h1' (gf := 152) (lb := #[.pointer (some ⟨w6.heap.size + 1, 0, none⟩)]) rfl trivial (enters_of Tryz.func152 (by kernel_rfl) rfl)
        (back_stops (8 - 1) (by decide) (w6.heap.size + 1) W8 hx8) Below.trans (belowK_b (Nat.le_refl _)) (Below.refl _ _) (fun _ => rfl)
        (fun _ W => W.heap[w6.heap.size]? = some (.cells #[.slice none 0 0] 59 (0, 0)) ∧ Below w.heap.size w W)
        (fun _ _ _ => False)
        (fun s A B row hs hg hr => ?own)
        (fun _ _ _ _ _ hs _ _ => hs)
        ⟨hl8, hB8⟩
        (fun x => { tmps := #[], defers := [] }) ?assign ?body ?done ?stop
      case own =>
        obtain ⟨hv, hB⟩ := hs
        refine ⟨(hg.block _ (Array.getElem?_eq_some_iff.1 hv).1 (fun e => ?_)).trans hv, ownFrom_below (β := Unit) (Nat.le_refl _) (hB8.size) () A B row hB hg hr⟩
        obtain ⟨_, o', ho', hc⟩ := hr _ e.symm
        rw [hv] at ho'
        cases ho'
        cases hc
      case assign =>
        intro l x
        exact absurd x.2 (Nat.not_lt_zero _)
      case body =>
        intro l pre x
        exact absurd x.2 (Nat.not_lt_zero _)
      case done =>
        rintro D ys W hD rfl ⟨hv, hB⟩ hK
        have hc : W.cell? ⟨w6.heap.size, 0, none⟩ = some (.slice none 0 0) := by rw [cells_at hv 0]; rfl
        have hD' : w.heap.size ≤ D := Nat.le_trans hB8.size hD
        clear hv hx8 hl8
        gi_wp2
        refine ⟨by simp, .inl ⟨_, _, rfl, run_takeDeferred hK, ?_⟩⟩
        exact ⟨_, results_tmp rfl _ _ _, rfl, hB.trans (belowK_b (w := w) (Nat.le_refl _) W D _ _ hD' hK rfl rfl)⟩
      case stop =>
        rintro D c pre W _ _ h _
        exact h.elim
end Go.Proofs.YtcifjpgimekcjaaGreatDoor
