/-
  slices.Chunk over a tail of bytes, in chunks of 112: contract of its iterator: the chunks in their order. Condition: at most a million bytes.
  slices.Collect(slices.Chunk(tail, 112)): a new row of the tail's chunks. Condition: at most a million bytes.
  Contract of a log's Force. Conditions: the log and its tail lie apart from the disk; nothing pends there; the library's table of sums is as it starts.
-/
import Derived.RangeFuncBox
import Derived.RangeFuncLeaves
import Derived.RangeFuncNested
import Derived.RangeFuncCalls
import Derived.Shelf.Abstract
import Derived.WalkKit
import Derived.OwnWalkIn
import Derived.TacticsInMore
import Derived.LoopNIn
import Derived.LoopIn
import Derived.BigRegionIn
import Derived.Stop.RegionWithIn
import Derived.Sort.CutIn
import Derived.Test.YthfokciijcmhbaaGreatDoorGbc
namespace Go.Proofs.YthfokciijcmhbaaGreatDoor
open Go.RowKit Go.Shelf
set_option linter.unusedVariables false
attribute [local go_sem] Oper.semAt_some

/-- How long the chunk at a place is. -/
def ckL (tl k : Nat) : Nat := min 112 (tl - k * 112)
/-- The chunks' numbers, so many of them. -/
def cks (N : Nat) : (k : Nat) → k ≤ N → List { j : Nat // j < N }
  | 0, _ => []
  | k + 1, h => cks N k (by omega) ++ [⟨k, by omega⟩]
theorem cks_length (N : Nat) : ∀ (k : Nat) (h : k ≤ N), (cks N k h).length = k
  | 0, _ => rfl
  | k + 1, h => by rw [cks, List.length_append, cks_length N k]; rfl

set_option maxRecDepth 100000 in
set_option maxHeartbeats 2000000 in
theorem chunk1_in (F : Fence) (n : Nat) (hF : F.fn 131) (hro : F.round = none) (hn : 1 ≤ n) (l Bs Bn n₀ g tl c N : Nat) (hN : tl ≤ N * 112) (hN2 : N * 112 < tl + 112) (hL : tl ≤ 1000000) (hcap : tl ≤ c) (hBs : Bs < n₀) (hBn : Bn < n₀) (J Jx : List { j : Nat // j < N } → World → Prop)
    (hY : ∀ pre x W, J pre W → pre.length < N → YieldAt F (n - 1) Tryz.prog l #[.slice (some ⟨g, (x : { j : Nat // j < N }).1 * 112, none⟩) (ckL tl x.1) (ckL tl x.1)] W fun e W' =>
      (e = .returned (.bool true) ∧ J (pre ++ [x]) W' ∧ Below n₀ W W') ∨ (e = .returned (.bool false) ∧ Jx (pre ++ [x]) W'))
    (W : World) (hA : AbidesFrom W.heap.size J) (hs : W.cell? ⟨Bs, 0, none⟩ = some (.slice (some ⟨g, 0, none⟩) tl c)) (hb : W.cell? ⟨Bn, 0, none⟩ = some (.int .i64 112)) (h0 : J [] W) :
    CallsIn F n Tryz.prog 131 #[.func (.yield l) #[] #[], .pointer (some ⟨Bs, 0, none⟩), .pointer (some ⟨Bn, 0, none⟩)] W fun e W' => (∃ v, e = .returned v) ∧
      ((∃ ys, ys = cks N N (Nat.le_refl _) ∧ J ys W') ∨ (∃ pre, (∃ k, ∃ h : k ≤ N, pre = cks N k h) ∧ Jx pre W')) := by
  refine callsIn_of_wp Tryz.func131 rfl hF ?_ hro
  simp only [Tryz.ntmps131, List.size_toArray, List.length_cons, List.length_nil, Nat.reduceAdd, Nat.reduceSub, Array.replicate_succ, Array.replicate_zero, List.push_toArray, List.append_toArray, List.nil_append, List.cons_append]
  gi_wp2
  gi_loopw [4] (fun i wr => ∃ (k : Nat) (hk : k ≤ N) (z : Int), i = .int .i64 z ∧ z = (k : Int) * 112 ∧ J (cks N k hk) wr ∧ Below n₀ W wr)
    (fun i _ => N * 112 - (intOf i).toNat)
  case atStart => exact ⟨0, Nat.zero_le _, _, rfl, by omega, h0, Below.refl _ _⟩
  case round =>
    obtain ⟨k, hk, z, rfl, hz, hJs, hnx⟩ := hrel
    have hs' : wr.cell? ⟨Bs, 0, none⟩ = some (.slice (some ⟨g, 0, none⟩) tl c) := (hnx.cell (p := ⟨Bs, 0, none⟩) hBs).trans hs
    have hb' : wr.cell? ⟨Bn, 0, none⟩ = some (.int .i64 112) := (hnx.cell (p := ⟨Bn, 0, none⟩) hBn).trans hb
    by_cases hlt : k < N
    · obtain ⟨p, hp⟩ : ∃ p : Nat, p = k * 112 := ⟨_, rfl⟩
      obtain rfl : z = (p : Int) := by omega
      have hp1 : (p : Int) < (tl : Int) := by omega
      have hp0 : (0 : Int) ≤ (p : Int) := by omega
      obtain ⟨m, hm⟩ : ∃ m : Nat, m = ckL tl k := ⟨_, rfl⟩
      have hm' : m = min 112 (tl - p) := by rw [hm, hp]; rfl
      have Hck : Hid (cks N (k + 1) hlt = cks N k hk ++ [⟨k, hlt⟩]) := rfl
      have hJd : J (cks N k hk) wr.drew := hA _ wr wr.drew none hJs ⟨rfl, rfl, rfl, Nat.le_refl _, fun _ _ _ => rfl⟩ (fun r e => by cases e)
      obtain ⟨fn, tmps, assign, body, hy, hR⟩ := hY _ ⟨k, hlt⟩ wr.drew hJd (by rw [cks_length]; exact hlt)
      dsimp only at hy
      rw [← hp, ← hm] at hy
      have hnd : Below n₀ W wr.drew := hnx.trans (blw_drewN 1 (Below.refl _ _))
      have hsd : wr.drew.cell? ⟨Bs, 0, none⟩ = some (.slice (some ⟨g, 0, none⟩) tl c) := hs'
      have hbd : wr.drew.cell? ⟨Bn, 0, none⟩ = some (.int .i64 112) := hb'
      have hpc : (p : Int) ≤ (c : Int) := by omega
      have htc : (tl : Int) ≤ (c : Int) := by omega
      have hmc : (p : Int) + (m : Int) ≤ (c : Int) := by omega
      have hm0 : (0 : Int) ≤ (m : Int) := by omega
      have hpb : (p : Int) ≤ 1000000 := by omega
      have hmb : (m : Int) ≤ 112 := by omega
      have hcp : ¬ (c = p) := by omega
      have hpt : p ≤ tl := by omega
      have Hmv : Hid ((if ((tl - p : Nat) : Int) < 112 then ((tl - p : Nat) : Int) else 112) = (m : Int)) := (by split <;> omega : (if ((tl - p : Nat) : Int) < 112 then ((tl - p : Nat) : Int) else 112) = (m : Int))
      have Hz : Hid ((p : Int) + 112 = ((k + 1 : Nat) : Int) * 112) := (by omega : (p : Int) + 112 = ((k + 1 : Nat) : Int) * 112)
      have hm1 : 1 ≤ m := by omega
      have HM : Hid (N * 112 - (intOf (.int .i64 ((p : Int) + 112))).toNat < N * 112 - (intOf (.int .i64 (p : Int))).toNat) := (by show N * 112 - ((p : Int) + 112).toNat < N * 112 - ((p : Int)).toNat; omega : N * 112 - (intOf (.int .i64 ((p : Int) + 112))).toNat < N * 112 - (intOf (.int .i64 (p : Int))).toNat)
      clear hz hp hm hs hb hm'
      have hmz : ¬ (m = 0) := by omega
      have hpz : ¬ (((p : Int) + (m : Int)).toNat = p) := by omega
      have htn : ((p : Int) + (m : Int)).toNat - p = m := by omega
      gi_upto_region 3 with fail
      gi_cut [5] from 6 (fun s5 wc => s5 = .int .i64 (m : Int) ∧ wc = wr.drew)
      case first =>
        gi_region
        all_goals
          gi_wp2_with fail
        all_goals
          gi_meet
          refine ⟨congrArg (Value.int .i64) ?_, rfl⟩
          have := Hmv.out
          split at this <;> omega
      case rest =>
        obtain ⟨rfl, rfl⟩ := hcut
        clear Hmv
        gi_wp2
        refine hR.mono ?_
        rintro e W3 (⟨rfl, hJ3, hk3⟩ | ⟨rfl, hJx3⟩)
        · have hb3 : W3.cell? ⟨Bn, 0, none⟩ = some (.int .i64 112) := (hk3.cell (p := ⟨Bn, 0, none⟩) hBn).trans hbd
          gi_wp2
          go_roundw
          case rel => exact ⟨k + 1, hlt, (p : Int) + 112, by first | rfl | go_num, Hz.out, by rw [Hck.out]; exact hJ3, hnd.trans hk3⟩
          case measure => exact HM.out
        · gi_wp2
          refine bodyPost_ret (results_none rfl _ _ _) rfl ?_
          exact ⟨⟨_, rfl⟩, .inr ⟨_, ⟨k + 1, hlt, Hck.out.symm⟩, hJx3⟩⟩
    · obtain rfl : k = N := by omega
      have hge : ¬ z < (tl : Int) := by omega
      clear hz
      gi_wp2
      go_end0
      first | exact ⟨⟨_, rfl⟩, .inl ⟨_, rfl, hJs⟩⟩ | exact ⟨⟨_, rfl⟩, .inl hJs⟩

set_option maxHeartbeats 1000000 in
/-- slices.Chunk(s, 112): the slice and the number are boxed; the function value captures the boxes. -/
theorem chunk_in (F : Fence) (n : Nat) (hF : F.fn 94) (hro : F.round = none) (a : Option Addr) (len cap : Nat) (w : World) :
    CallsIn F n Tryz.prog 94 #[.slice a len cap, .int .i64 112] w fun e w' => e = .returned (.func (.func 131) #[] #[.pointer (some ⟨w.heap.size, 0, none⟩), .pointer (some ⟨w.heap.size + 1, 0, none⟩)]) ∧ w' = (w.alloc (.cells #[.slice a len cap] 47)).alloc (.cells #[.int .i64 112] 3) := by
  refine callsIn_of_wp Tryz.func94 rfl hF ?_ hro
  simp only [Tryz.ntmps94, List.size_toArray, List.length_cons, List.length_nil, Nat.reduceAdd, Nat.reduceSub, Array.replicate_succ, Array.replicate_zero, List.push_toArray, List.append_toArray, List.nil_append, List.cons_append]
  gi_wp2
  go_ret
  exact ⟨rfl, rfl⟩

/-- What slices.Chunk hands back: the chunks in their order. -/
theorem chunk_stops (F : Fence) (n : Nat) (hF : F.fn 131) (hro : F.round = none) (hn : 1 ≤ n) (Bs Bn g tl c N : Nat) (hN : tl ≤ N * 112) (hN2 : N * 112 < tl + 112) (hL : tl ≤ 1000000) (hcap : tl ≤ c) (w : World) (hBs : Bs < w.heap.size) (hBn : Bn < w.heap.size)
    (hs : w.cell? ⟨Bs, 0, none⟩ = some (.slice (some ⟨g, 0, none⟩) tl c)) (hb : w.cell? ⟨Bn, 0, none⟩ = some (.int .i64 112)) :
    SeqStopsK F n Tryz.prog 131 #[.pointer (some ⟨Bs, 0, none⟩), .pointer (some ⟨Bn, 0, none⟩)] (fun x : { j : Nat // j < N } => #[Value.slice (some ⟨g, x.1 * 112, none⟩) (ckL tl x.1) (ckL tl x.1)]) (Below w.heap.size) (fun ys => ys = cks N N (Nat.le_refl _))
      (fun pre => ∃ k, ∃ h : k ≤ N, pre = cks N k h) N w := fun l J Jx W hW hA _ hY h0 =>
  chunk1_in F n hF hro hn l Bs Bn w.heap.size g tl c N hN hN2 hL hcap hBs hBn J Jx hY W hA ((hW.cell (p := ⟨Bs, 0, none⟩) hBs).trans hs) ((hW.cell (p := ⟨Bn, 0, none⟩) hBn).trans hb) h0
end Go.Proofs.YthfokciijcmhbaaGreatDoor

namespace Go.Proofs.YthfokciijcmhbaaGreatDoor
open Go.RowKit Go.Shelf
set_option linter.unusedVariables false
attribute [local go_sem] Oper.semAt_some

/-- A chunk's value. -/
def ckV (g tl j : Nat) : Value := .slice (some ⟨g, j * 112, none⟩) (ckL tl j) (ckL tl j)
/-- Between two rounds: the box holds a row of what has come so far. -/
structure Cx (w : World) (g tl N : Nat) (pre : List { j : Nat // j < N }) (W : World) : Prop where
  box : ∃ v, W.heap[w.heap.size]? = some (.cells #[v] 30 (0, 0)) ∧ W.ownsRow w.heap.size 47 1 v pre.length (pre.map (fun x => ckV g tl x.1))
  bel : Below w.heap.size w W

theorem row_ne {W : World} {base : Nat} {e : TypeId} {size : Nat} {v : Value} {k : Nat} {xs : List Value} (h : W.ownsRow base e size v k xs) {j : Nat} {o : Obj} (hj : W.heap[j]? = some o) (hno : ∀ cur, o ≠ .cells cur e (0, 0)) : v.ownBlock ≠ some j := by
  rcases h.2 with ⟨rfl, _⟩ | ⟨g, cap, cur, rfl, _, hgb, _⟩
  · exact fun e => by cases e
  · intro e'
    obtain rfl : g = j := Option.some.inj e'
    rw [hgb] at hj
    cases hj
    exact hno cur rfl
theorem row_cells {W : World} {base : Nat} {e : TypeId} {size : Nat} {v : Value} {k : Nat} {xs : List Value} (h : W.ownsRow base e size v k xs) {j : Nat} {o : Obj} (hj : W.heap[j]? = some o) (hno : o.isCells = false) : v.ownBlock ≠ some j :=
  row_ne h hj (fun cur e => by subst e; cases hno)
theorem own_slice {W : World} {base : Nat} {e : TypeId} {size : Nat} {v : Value} {k : Nat} {xs : List Value} (h : W.ownsRow base e size v k xs) : ∃ a c, v = .slice a k c := by
  rcases h.2 with ⟨rfl, h0⟩ | ⟨g, cap, cur, rfl, _⟩
  · rw [h0]; exact ⟨_, _, rfl⟩
  · exact ⟨_, _, rfl⟩
theorem Cx.step {w W w3 : World} {g tl N : Nat} {pre : List { j : Nat // j < N }} {x : { j : Nat // j < N }} {v v' : Value} {o : Obj} (hv : W.heap[w.heap.size]? = some (.cells #[v] 30 (0, 0))) (hrow : W.ownsRow w.heap.size 47 1 v pre.length (pre.map (fun x => ckV g tl x.1))) (hB : Below w.heap.size w W)
    (hg3 : (W.alloc o).grownBy w3 v.ownBlock) (ho : w3.ownsRow w.heap.size 47 1 v' (pre.length + 1) (pre.map (fun x => ckV g tl x.1) ++ [ckV g tl x.1])) :
    w3.cell? ⟨w.heap.size, 0, none⟩ = some v ∧ w3.frozen? ⟨w.heap.size, 0, none⟩ = false ∧ Hid (KeepsFrom (w.heap.size + 1) W (w3.setCell ⟨w.heap.size, 0, none⟩ v') ∧ Below w.heap.size W (w3.setCell ⟨w.heap.size, 0, none⟩ v') ∧ Cx w g tl N (pre ++ [x]) (w3.setCell ⟨w.heap.size, 0, none⟩ v')) := by
  have hlt : w.heap.size < W.heap.size := (Array.getElem?_eq_some_iff.1 hv).1
  have hsz : (W.alloc o).heap.size = W.heap.size + 1 := by simp
  have n1 : v.ownBlock ≠ some w.heap.size := row_ne hrow hv (fun cur e => by cases e)
  have hv3 : w3.heap[w.heap.size]? = some (.cells #[v] 30 (0, 0)) := (hg3.block _ (by omega) (fun e => n1 e.symm)).trans ((Below.heap_alloc _ _ _ hlt).trans hv)
  have n2 : v'.ownBlock ≠ some w.heap.size := row_ne ho hv3 (fun cur e => by cases e)
  have hv4 := heap_set_at (i := 0) hv3 v'
  have hb3 : Below w.heap.size W w3 := ((Below.refl w.heap.size W).alloc hB.size o).grown hg3 (by omega) (fun k e => (hrow.lt k e).1)
  have hb4 : Below w.heap.size W (w3.setCell ⟨w.heap.size, 0, none⟩ v') := hb3.setCell (p := ⟨w.heap.size, 0, none⟩) (Nat.le_refl _) _
  refine ⟨by rw [cells_at hv3 0]; rfl, cells_free hv3 0, ⟨hb4.size, fun k ob hk h1 h2 => ?_⟩, hb4, ⟨v', hv4, ?_⟩, hB.trans hb4⟩
  · have hkl : k < W.heap.size := (Array.getElem?_eq_some_iff.1 h1).1
    have e1 : w3.heap[k]? = some ob := (hg3.block k (by omega) (fun e => row_cells hrow h1 h2 e.symm)).trans ((Below.heap_alloc _ _ _ hkl).trans h1)
    rw [Below.heap_setCell _ _ _ _ (by show k ≠ w.heap.size; omega)]
    exact e1
  · have := row_set ho n2 0 v'
    simpa using this

set_option maxRecDepth 100000 in
set_option maxHeartbeats 1000000 in
attribute [local irreducible] ckL in
theorem appendSeqC (w : World) (Bs Bn g tl c N : Nat) (hN : tl ≤ N * 112) (hN2 : N * 112 < tl + 112) (hL : tl ≤ 1000000) (hcap : tl ≤ c) (hBs : Bs < w.heap.size) (hBn : Bn < w.heap.size)
    (hs : w.cell? ⟨Bs, 0, none⟩ = some (.slice (some ⟨g, 0, none⟩) tl c)) (hb : w.cell? ⟨Bn, 0, none⟩ = some (.int .i64 112)) :
    Calls Tryz.prog 130 #[.slice none 0 0, .func (.func 131) #[] #[.pointer (some ⟨Bs, 0, none⟩), .pointer (some ⟨Bn, 0, none⟩)]] w fun e w' => ∃ v, e = .returned v ∧ w'.ownsRow w.heap.size 47 1 v N ((cks N N (Nat.le_refl _)).map (fun x => ckV g tl x.1)) ∧ Below w.heap.size w w' := by
  obtain ⟨i0, hi0, hz0, hz1, hz2⟩ := info_parts infoB
  refine (callsIn_wide (n := 8)).1 ?_
  have hro : Fence.wide.round = none := rfl
  have h1' : 1 ≤ 8 := by decide
  refine callsIn_of_wp_marks Tryz.func130 rfl trivial ?_ hro
  simp only [Tryz.ntmps130, List.size_toArray, List.length_cons, List.length_nil, Nat.reduceAdd, Nat.reduceSub, Array.replicate_succ, Array.replicate_zero, List.push_toArray, List.append_toArray, List.nil_append, List.cons_append]
  gi_wp2
  have bA := Boxed.new w 30 (.slice none 0 0)
  have hB0 : Below w.heap.size w (w.alloc (.cells #[.slice none 0 0] 30)) := (Below.refl _ w).alloc (Nat.le_refl _) _
  refine wpIn_rangeFunc_ownG hro h1' (gf := 131) (lb := #[.pointer (some ⟨Bs, 0, none⟩), .pointer (some ⟨Bn, 0, none⟩)]) rfl trivial (enters_of Tryz.func131 (by kernel_rfl) rfl)
    (chunk_stops Fence.wide (8 - 1) trivial hro (by decide) Bs Bn g tl c N hN hN2 hL hcap w hBs hBn hs hb) Below.trans (belowK_b (by simp)) hB0 (fun _ => rfl)
    (fun pre W => Cx w g tl N pre W)
    (fun _ _ _ => False)
    (fun s A B row hs hg hr => ?own)
    (fun _ _ _ _ _ hs _ _ => hs)
    ⟨⟨_, bA, ⟨rfl, .inl ⟨rfl, rfl⟩⟩⟩, hB0⟩
    (fun x => { tmps := #[.slice none 0 0, .func (.func 131) #[] #[.pointer (some ⟨Bs, 0, none⟩), .pointer (some ⟨Bn, 0, none⟩)], .pointer (some ⟨w.heap.size, 0, none⟩), undef, .slice none 0 0, .slice (some ⟨g, x.1 * 112, none⟩) (ckL tl x.1) (ckL tl x.1), .func (.func 131) #[] #[.pointer (some ⟨Bs, 0, none⟩), .pointer (some ⟨Bn, 0, none⟩)], .slice (some ⟨g, x.1 * 112, none⟩) (ckL tl x.1) (ckL tl x.1), undef, undef, undef, undef, undef], defers := [] }) ?assign ?body ?done ?stop
  case own =>
    obtain ⟨⟨v, hv, hrow⟩, hB⟩ := hs
    refine ⟨⟨v, (hg.block _ (Array.getElem?_eq_some_iff.1 hv).1 (fun e => ?_)).trans hv, hrow.kept hg ?_⟩, ownFrom_below (β := Unit) (Nat.le_refl _) (by simp) () A B row hB hg hr⟩
    · obtain ⟨_, o', ho', hc⟩ := hr _ e.symm
      rw [hv] at ho'
      cases ho'
      cases hc
    · by_cases e : v.ownBlock = row
      · cases hk : v.ownBlock with
        | none => exact .inl rfl
        | some k =>
          obtain ⟨_, o', ho', hc⟩ := hr k (by rw [← e, hk])
          exact absurd hk (row_cells hrow ho' hc)
      · exact .inr e
  case assign =>
    intro l x W K hK
    gi_wp2
    exact hK
  case body =>
    rintro l pre x W ⟨⟨v, hv, hrow⟩, hB⟩ hlen
    have HS : Hid (∀ (o : Obj) (w3 : World) (v' : Value), (W.alloc o).grownBy w3 v.ownBlock → w3.ownsRow w.heap.size 47 1 v' (pre.length + 1) (pre.map (fun x => ckV g tl x.1) ++ [.slice (some ⟨g, x.1 * 112, none⟩) (ckL tl x.1) (ckL tl x.1)]) → w3.cell? ⟨w.heap.size, 0, none⟩ = some v ∧ w3.frozen? ⟨w.heap.size, 0, none⟩ = false ∧ Hid (KeepsFrom (w.heap.size + 1) W (w3.setCell ⟨w.heap.size, 0, none⟩ v') ∧ Below w.heap.size W (w3.setCell ⟨w.heap.size, 0, none⟩ v') ∧ Cx w g tl N (pre ++ [x]) (w3.setCell ⟨w.heap.size, 0, none⟩ v'))) := fun o w3 v' h1 h2 => Cx.step hv hrow hB h1 h2
    have hc : W.cell? ⟨w.heap.size, 0, none⟩ = some v := by rw [cells_at hv 0]; rfl
    have HRw : Hid (∀ o, (W.alloc o).ownsRow w.heap.size 47 1 v pre.length (pre.map (fun x => ckV g tl x.1))) := fun o => hrow.alloc o
    have HSz : Hid (w.heap.size ≤ W.heap.size + 1) := (by have := hB.size; omega : w.heap.size ≤ W.heap.size + 1)
    have hNb : N ≤ 10000 := by omega
    clear hv hrow hB
    gi_wp2_with (gi_at_builtin; refine wpListIn_append_own (W.alloc (.cells #[.slice (some ⟨g, x.1 * 112, none⟩) (ckL tl x.1) (ckL tl x.1)] 47)) rfl _ _ 30 rfl w.heap.size 47 i0 (.slice none 0 0) 1 24 Tryz.underlying30 hi0 hz0 hz1 hz2 rfl (by decide) v pre.length (pre.map (fun x => ckV g tl x.1)) rfl (HRw.out (.cells #[.slice (some ⟨g, x.1 * 112, none⟩) (ckL tl x.1) (ckL tl x.1)] 47)) ⟨W.heap.size, 0, none⟩ 1 1 [.slice (some ⟨g, x.1 * 112, none⟩) (ckL tl x.1) (ckL tl x.1)] rfl rfl (cell_one_new _ _ _) (by simp [Value.oneCell']) (by unfold maxLen; omega) (by omega) (by simpa using HSz.out) ?_; intro v' w3 ho3 hg3 hnil3; obtain ⟨hc3, hf3, HE⟩ := HS.out _ w3 v' hg3 ho3; clear hg3 hnil3; obtain ⟨a3, c3, hv3⟩ : ∃ a3 c3, v' = .slice a3 (pre.length + 1) c3 := own_slice ho3; subst hv3; clear ho3)
    have hE := HE.out
    refine ⟨?_, hE.2.1, hE.2.2⟩
    rw [World.size_alloc]
    exact hE.1
  case done =>
    rintro D ys W hD rfl ⟨⟨v, hv, hrow⟩, hB⟩ hK
    have hc : W.cell? ⟨w.heap.size, 0, none⟩ = some v := by rw [cells_at hv 0]; rfl
    rw [cks_length] at hrow
    obtain ⟨a3, c3, rfl⟩ := own_slice hrow
    have hD' : w.heap.size ≤ D := by rw [World.size_alloc] at hD; omega
    have hnb := row_cells hrow hK rfl
    clear hv
    gi_wp2
    refine ⟨by simp, .inl ⟨_, _, rfl, run_takeDeferred hK, ?_⟩⟩
    exact ⟨_, results_tmp rfl _ _ _, _, rfl, hrow.kept (grownBy_putObj' W D _) (.inr hnb), hB.trans (belowK_b (w := w) (Nat.le_refl _) W D _ _ hD' hK rfl rfl)⟩
  case stop =>
    rintro D c pre W _ _ h _
    exact h.elim
set_option maxHeartbeats 1000000 in
theorem collectC (w : World) (Bs Bn g tl c N : Nat) (hN : tl ≤ N * 112) (hN2 : N * 112 < tl + 112) (hL : tl ≤ 1000000) (hcap : tl ≤ c) (hBs : Bs < w.heap.size) (hBn : Bn < w.heap.size)
    (hs : w.cell? ⟨Bs, 0, none⟩ = some (.slice (some ⟨g, 0, none⟩) tl c)) (hb : w.cell? ⟨Bn, 0, none⟩ = some (.int .i64 112)) :
    Calls Tryz.prog 93 #[.func (.func 131) #[] #[.pointer (some ⟨Bs, 0, none⟩), .pointer (some ⟨Bn, 0, none⟩)]] w fun e w' => ∃ v, e = .returned v ∧ w'.ownsRow w.heap.size 47 1 v N ((cks N N (Nat.le_refl _)).map (fun x => ckV g tl x.1)) ∧ Below w.heap.size w w' := by
  have CA := appendSeqC w Bs Bn g tl c N hN hN2 hL hcap hBs hBn hs hb
  go_enter Tryz.func93, Tryz.ntmps93
  go_wp2_with fail
  refine CA.mono ?_
  rintro e w' ⟨v, rfl, ho, hb⟩
  obtain ⟨a3, c3, rfl⟩ := own_slice ho
  go_wp2
  go_ret
  exact ⟨_, rfl, ho, hb⟩
set_option maxHeartbeats 1000000 in
/-- slices.Chunk(s, 112), as a plain call. -/
theorem chunkC (a : Option Addr) (len cap : Nat) (w : World) :
    Calls Tryz.prog 94 #[.slice a len cap, .int .i64 112] w fun e w' => e = .returned (.func (.func 131) #[] #[.pointer (some ⟨w.heap.size, 0, none⟩), .pointer (some ⟨w.heap.size + 1, 0, none⟩)]) ∧ w' = (w.alloc (.cells #[.slice a len cap] 47)).alloc (.cells #[.int .i64 112] 3) :=
  (callsIn_wide (n := 8)).1 (chunk_in Fence.wide 8 trivial rfl a len cap w)
/-- The row of a tail's chunks, as save wants it. -/
theorem cks_get (N : Nat) : ∀ (k : Nat) (h : k ≤ N) (j : Nat) (hj : j < k), (cks N k h)[j]? = some ⟨j, Nat.lt_of_lt_of_le hj h⟩
  | 0, _, j, hj => by omega
  | k + 1, h, j, hj => by
    rw [cks]
    by_cases e : j < k
    · rw [List.getElem?_append_left (by rw [cks_length]; exact e)]
      exact cks_get N k (by omega) j e
    · obtain rfl : j = k := by omega
      rw [List.getElem?_append_right (by rw [cks_length]; exact Nat.le_refl _), cks_length, Nat.sub_self]
      rfl
end Go.Proofs.YthfokciijcmhbaaGreatDoor

namespace Go.Proofs.YthfokciijcmhbaaGreatDoor
open Go.RowKit Go.Shelf
set_option linter.unusedVariables false

set_option maxRecDepth 100000 in
set_option maxHeartbeats 1000000 in
theorem force_same (L T D from_ sectors first last place : Nat) (vt : Value) (w : World) (h : LogW w L T D from_ sectors first last last place vt) :
    Calls Tryz.prog 63 #[.pointer (some ⟨L, 0, none⟩)] w fun r w' => r = .returned (.int .i64 0) ∧ ∃ q, w' = w.drewN q := by
  have l0 := h.l0
  have c4 : w.cell? ⟨T, 4, none⟩ = some (.int .i64 (last : Int)) := by rw [cells_at h.hT 4]; rfl
  have c5 : w.cell? ⟨T, 5, none⟩ = some (.int .i64 (last : Int)) := by rw [cells_at h.hT 5]; rfl
  clear h
  go_enter Tryz.func63, Tryz.ntmps63
  go_wp2_with fail
  refine (lMissing L T w l0).mono ?_
  rintro r w0 ⟨rfl, hw⟩
  obtain rfl : w = w0 := hw.symm
  clear hw
  go_wp2_with fail
  go_quiet (fail)
  go_wp2
  go_ret
  exact ⟨rfl, _, rfl⟩

/-- What Force leaves. -/
def ForceTo (w w' : World) (L T D n from_ sectors first last place tl N : Nat) (F : Nat → Prop) (e f : Nat → Int) : Prop := ∃ q v', LogW w' L T D from_ sectors first last last (place + tl / 112) v' ∧ Own w' q v' (lst (sh f (tl / 112 * 112)) (tl - tl / 112 * 112)) ∧ Sd w' D (fun k => F k ∨ (w.heap.size ≤ k ∧ k < q)) n 0 (svs e from_ place first (ckL tl) (fun k => sh f (k * 112)) N) ∧ Part (fun k => F k ∨ k = T) w w' ∧ w.heap.size ≤ q

set_option maxRecDepth 100000 in
set_option maxHeartbeats 2000000 in
theorem forceL (L T D n from_ sectors first last forced place g tl c N : Nat) (F : Nat → Prop) (e f : Nat → Int) (w : World) (h : LogW w L T D from_ sectors first last forced place (.slice (some ⟨g, 0, none⟩) tl c)) (hne : L ≠ T) (hfl : forced ≠ last) (hS : Sd w D F n 0 e) (hLF : ¬ F L) (hTF : ¬ F T) (hgF : ¬ F g) (hgT : g ≠ T) (hgl : g < w.heap.size)
    (hc : ∀ i, i < tl → w.cell? ⟨g, i, none⟩ = some (.int .u8 (f i))) (hcap : tl ≤ c) (hc2 : c ≤ 9223372036854775807) (hf : ∀ i, 0 ≤ f i ∧ f i ≤ 255) (htl : 0 < tl) (hN : tl ≤ N * 112) (hN2 : N * 112 < tl + 112) (hp : from_ + place + N ≤ n) (hfi : first ≤ 9223372036854775807) (ht : Tab w) (htb : ¬ F 0) :
    Calls Tryz.prog 63 #[.pointer (some ⟨L, 0, none⟩)] w fun r w' => r = .returned (.int .i64 0) ∧ ForceTo w w' L T D n from_ sectors first last place tl N F e f := by
  have hLl : L < w.heap.size := (Array.getElem?_eq_some_iff.1 h.hL).1
  have hTl : T < w.heap.size := (Array.getElem?_eq_some_iff.1 h.hT).1
  obtain ⟨n1, n2⟩ := hS.n2
  have hFl := hS.lt
  obtain ⟨hL, hT⟩ := h
  have HK : Hid (∀ w5 : World, Part F w w5 → w5.heap[L]? = some (.cells #[.pointer (some ⟨T, 0, none⟩)] 137 (0, 0)) ∧ w5.heap[T]? = some (.cells #[.pointer (some ⟨D, 0, none⟩), .int .i64 (from_ : Int), .int .i64 (sectors : Int), .int .i64 (first : Int), .int .i64 (last : Int), .int .i64 (forced : Int), .int .i64 (place : Int), .slice (some ⟨g, 0, none⟩) tl c] 135 (0, 0))) := fun w5 hP => ⟨(hP.block L hLl hLF).trans hL, (hP.block T hTl hTF).trans hT⟩
  have HC : Hid (∀ w5 : World, Part F w w5 → w5.cell? ⟨L, 0, none⟩ = some (.pointer (some ⟨T, 0, none⟩)) ∧ w5.cell? ⟨T, 0, none⟩ = some (.pointer (some ⟨D, 0, none⟩)) ∧ w5.cell? ⟨T, 1, none⟩ = some (.int .i64 (from_ : Int)) ∧ w5.cell? ⟨T, 2, none⟩ = some (.int .i64 (sectors : Int)) ∧ w5.cell? ⟨T, 3, none⟩ = some (.int .i64 (first : Int)) ∧ w5.cell? ⟨T, 4, none⟩ = some (.int .i64 (last : Int)) ∧ w5.cell? ⟨T, 5, none⟩ = some (.int .i64 (forced : Int)) ∧ w5.cell? ⟨T, 6, none⟩ = some (.int .i64 (place : Int)) ∧ w5.cell? ⟨T, 7, none⟩ = some (.slice (some ⟨g, 0, none⟩) tl c)) := fun w5 hP => by
    obtain ⟨k1, k2⟩ := HK.out w5 hP
    exact ⟨by rw [cells_at k1 0]; rfl, by rw [cells_at k2 0]; rfl, by rw [cells_at k2 1]; rfl, by rw [cells_at k2 2]; rfl, by rw [cells_at k2 3]; rfl, by rw [cells_at k2 4]; rfl, by rw [cells_at k2 5]; rfl, by rw [cells_at k2 6]; rfl, by rw [cells_at k2 7]; rfl⟩
  have hFT : Hid (∀ w5 : World, Part F w w5 → ∀ i, i < tl → w5.cell? ⟨g, i, none⟩ = some (.int .u8 (f i))) := fun w5 hP i hi => hP.cell (p := ⟨g, i, none⟩) hgF (hc i hi)
  -- the row of chunks, and what save does with it
  have HSv : Hid (∀ (w1 w2 : World) (v : Value), Below w.heap.size w w1 → w1.heap.size = w.heap.size + 2 → w2.ownsRow w1.heap.size 47 1 v N ((cks N N (Nat.le_refl _)).map (fun x => ckV g tl x.1)) → Below w1.heap.size w1 w2 → ∃ g2 c2, v = .slice (some ⟨g2, 0, none⟩) N c2 ∧ Below w.heap.size w w2 ∧ Hid (∀ W5 : World, W5.heap = w2.heap → W5.os = w2.os → W5.tape = w2.tape → W5.output = w2.output → Calls Tryz.prog 95 #[.agg #[.pointer (some ⟨D, 0, none⟩), .int .i64 (from_ : Int), .int .i64 (sectors : Int)], .int .i64 (place : Int), .int .i64 (first : Int), .slice (some ⟨g2, 0, none⟩) N c2] W5 fun r w6 => r = .returned (.int .i64 0) ∧ Hid (Sd w6 D (fun k => F k ∨ (w.heap.size ≤ k ∧ k < w6.heap.size)) n 0 (svs e from_ place first (ckL tl) (fun k => sh f (k * 112)) N)) ∧ Part F w w6)) := fun w1 w2 v hb1 hs1 ho hb2 => by
    have hb12 : Below w.heap.size w w2 := hb1.trans (hb2.mono (by omega))
    have hz2 := hb2.size
    have hN1 : N ≠ 0 := by omega
    obtain ⟨g2, c2, rfl, hg2⟩ : ∃ g2 c2, v = .slice (some ⟨g2, 0, none⟩) N c2 ∧ w1.heap.size ≤ g2 ∧ g2 < w2.heap.size := by
      rcases ho.2 with ⟨_, h0⟩ | ⟨g2, cap, cur, e1, e2, e3, _⟩
      · exact absurd h0 hN1
      · exact ⟨g2, cap, e1, e2, (Array.getElem?_eq_some_iff.1 e3).1⟩
    have hcl : ∀ j, j < N → w2.cell? ⟨g2, j, none⟩ = some (ckV g tl j) := fun j hj => by
      have := World.ownsRow.cells (g := g2) ho rfl j (ckV g tl j) (by rw [List.getElem?_map, cks_get N N (Nat.le_refl _) j hj]; rfl)
      rwa [Addr.add_lit, Nat.zero_add] at this
    refine ⟨g2, c2, rfl, hb12, fun W5 e1 e2 e3 e4 => ?_⟩
    have hb5 : Below w.heap.size w W5 := ⟨e2.trans hb12.os, e3.trans hb12.tape, e4.trans hb12.output, by rw [e1]; exact hb12.size, fun k hk => by rw [e1]; exact hb12.block k hk⟩
    have hs5 : W5.heap.size = w2.heap.size := by rw [e1]
    refine (saveL D n from_ sectors place first N F e g2 c2 (fun k => some ⟨g, k * 112, none⟩) (ckL tl) (ckL tl) (fun k => sh f (k * 112)) W5 (hS.below hb5) n2 (by omega) hfi (ht.below hb5 (Nat.le_refl _)) htb (fun wr hP i hi => ?_) (fun k => Nat.min_le_left _ _) (fun k i => hf _)).mono ?_
    · refine ⟨_, _, rfl, ?_, .inr ⟨_, rfl, fun j hj => ?_⟩, fun h => by cases h⟩
      · have h1 : W5.cell? ⟨g2, i, none⟩ = some (ckV g tl i) := (World.cell?_of_block (w := w2) (by rw [e1])).trans (hcl i hi)
        rw [Nat.zero_add]
        exact hP.cell (p := ⟨g2, i, none⟩) (fun k => by have := hFl g2 k; omega) h1
      · rw [Addr.add_lit]
        have hj' : j < min 112 (tl - i * 112) := hj
        exact hFT.out wr ((Part.ofBelow hb5).trans hP (fun _ _ h => h)) (i * 112 + j) (by omega)
    · rintro r w6 ⟨rfl, s6, p6⟩
      have hz6 := p6.size
      refine ⟨rfl, s6.grow (fun k hk => ?_) (fun k hk => ?_), (Part.ofBelow hb5).trans p6 (fun _ _ h => h)⟩
      · rcases hk with hk | hk
        · exact .inl hk
        · exact .inr (by have := hb12.size; omega)
      · rcases hk with hk | hk
        · have := hFl _ hk; have := hb12.size; omega
        · exact hk.2
  have HE : Hid (∀ w6 w7 v', Part F w w6 → Sd w6 D (fun k => F k ∨ (w.heap.size ≤ k ∧ k < w6.heap.size)) n 0 (svs e from_ place first (ckL tl) (fun k => sh f (k * 112)) N) → w7.heap[T]? = some (.cells #[.pointer (some ⟨D, 0, none⟩), .int .i64 (from_ : Int), .int .i64 (sectors : Int), .int .i64 (first : Int), .int .i64 (last : Int), .int .i64 (last : Int), .int .i64 ((place + tl / 112 : Nat) : Int), v'] 135 (0, 0)) → Own w7 w6.heap.size v' (lst (sh f (tl / 112 * 112)) (tl - tl / 112 * 112)) → Part (fun q => q = T) w6 w7 → ForceTo w w7 L T D n from_ sectors first last place tl N F e f) := fun w6 w7 v' p6 s6 h1 h2 h3 => by
    have hz6 := p6.size
    obtain ⟨k1, _⟩ := HK.out w6 p6
    refine ⟨w6.heap.size, v', ⟨(h3.block L (by omega) hne).trans k1, h1⟩, h2, s6.part h3 (fun k hk e => ?_), (p6.mono (fun _ _ h => .inl h)).trans h3 (fun i hi h => .inr h), hz6⟩
    subst e
    rcases hk with hk | hk
    · exact hTF hk
    · omega
  have HSt : Hid (∀ w6 : World, Part F w w6 → Calls Tryz.prog 69 #[.pointer (some ⟨T, 0, none⟩)] w6 fun r w' => ∃ v', r = .returned (.tuple #[]) ∧ w'.heap[T]? = some (.cells #[.pointer (some ⟨D, 0, none⟩), .int .i64 (from_ : Int), .int .i64 (sectors : Int), .int .i64 (first : Int), .int .i64 (last : Int), .int .i64 (last : Int), .int .i64 ((place + tl / 112 : Nat) : Int), v'] 135 (0, 0)) ∧ Own w' w6.heap.size v' (lst (sh f (tl / 112 * 112)) (tl - tl / 112 * 112)) ∧ Part (fun q => q = T) w6 w') := fun w6 p6 =>
    settleL T last place tl c _ _ _ _ _ (some ⟨g, 0, none⟩) f w6 (HK.out w6 p6).2 ⟨hcap, hc2, .inr ⟨g, rfl, fun i hi => hFT.out w6 p6 i hi⟩⟩ (fun g' e => by cases e; exact hgT) (by omega) (by omega) ⟨_, rfl⟩
  have HCo : Hid (∀ w0 : World, Below w.heap.size w w0 → w0.heap.size = w.heap.size → Calls Tryz.prog 93 #[.func (.func 131) #[] #[.pointer (some ⟨w0.heap.size, 0, none⟩), .pointer (some ⟨w0.heap.size + 1, 0, none⟩)]] ((w0.alloc (.cells #[.slice (some ⟨g, 0, none⟩) tl c] 47)).alloc (.cells #[.int .i64 112] 3)) fun r w2 => ∃ g2 c2, r = .returned (.slice (some ⟨g2, 0, none⟩) N c2) ∧ Part F w w2 ∧ Hid (∀ W5 : World, W5.heap = w2.heap → W5.os = w2.os → W5.tape = w2.tape → W5.output = w2.output → Calls Tryz.prog 95 #[.agg #[.pointer (some ⟨D, 0, none⟩), .int .i64 (from_ : Int), .int .i64 (sectors : Int)], .int .i64 (place : Int), .int .i64 (first : Int), .slice (some ⟨g2, 0, none⟩) N c2] W5 fun r w6 => r = .returned (.int .i64 0) ∧ Hid (Sd w6 D (fun k => F k ∨ (w.heap.size ≤ k ∧ k < w6.heap.size)) n 0 (svs e from_ place first (ckL tl) (fun k => sh f (k * 112)) N)) ∧ Part F w w6)) := fun w0 hb0 hs0 => by
    obtain ⟨W1, hW1⟩ : ∃ W1, (w0.alloc (.cells #[.slice (some ⟨g, 0, none⟩) tl c] 47)).alloc (.cells #[.int .i64 112] 3) = W1 := ⟨_, rfl⟩
    have hs1 : W1.heap.size = w.heap.size + 2 := by rw [← hW1]; simp; omega
    have hb1 : Below w.heap.size w W1 := by rw [← hW1]; exact (hb0.alloc (by omega) _).alloc (by simp; omega) _
    have x1 : W1.heap[w0.heap.size]? = some (.cells #[.slice (some ⟨g, 0, none⟩) tl c] 47 (0, 0)) := by rw [← hW1, Below.heap_alloc _ _ _ (by simp)]; exact heap_alloc_at _ _ _ rfl
    have x2 : W1.heap[w0.heap.size + 1]? = some (.cells #[.int .i64 112] 3 (0, 0)) := by rw [← hW1]; exact heap_alloc_at _ _ _ (by simp)
    rw [hW1]
    refine (collectC W1 w0.heap.size (w0.heap.size + 1) g tl c N hN hN2 (by omega) hcap (by omega) (by omega) (by rw [cells_at x1 0]; rfl) (by rw [cells_at x2 0]; rfl)).mono ?_
    rintro r w2 ⟨v, rfl, ho, hb2⟩
    obtain ⟨g2, c2, rfl, hb12, H⟩ := HSv.out W1 w2 v hb1 hs1 ho hb2
    exact ⟨g2, c2, rfl, Part.ofBelow hb12, H⟩
  obtain ⟨l0, _, _, _, _, c4, c5, _, c7⟩ := HC.out w (Part.refl _ _)
  obtain ⟨d0, _, _, _, _, d4, d5, _, d7⟩ := HC.out w.drew ((Part.refl _ _).drewN 1)
  have hq : ((forced : Int) == (last : Int)) = false := by rw [beq_eq_false_iff_ne]; omega
  have HB0 : Hid (Below w.heap.size w w.drew) := blw_drewN 1 (Below.refl _ _)
  clear hL hT hS ht HSv hFT hc hf hfl hN hN2 HK
  go_enter Tryz.func63, Tryz.ntmps63
  go_wp2_with fail
  refine (lMissing L T w l0).mono ?_
  rintro r w0 ⟨rfl, hw⟩
  obtain rfl : w = w0 := hw.symm
  clear hw
  go_wp2_with fail
  go_region
  go_wp2_with fail
  refine (chunkC (some ⟨g, 0, none⟩) tl c w.drew).mono ?_
  rintro r w1 ⟨rfl, rfl⟩
  go_wp2_with fail
  refine (HCo.out w.drew HB0.out rfl).mono ?_
  rintro r w2 ⟨g2, c2, rfl, p2, HV⟩
  obtain ⟨e0, e1, e2, e3, e4, e5, e6, e7, e8⟩ := HC.out w2 p2
  obtain ⟨j0, j1, j2, j3, j4, j5, j6, j7, j8⟩ := HC.out w2.drew (p2.drewN 1)
  clear HCo c4 c5 c7 d0 d4 d5 d7 hq HB0 hp hLl hTl hFl
  go_upto_region 6 with fail
  refine wp_region_still_tail 22 (by kernel_rfl) (by kernel_rfl) ?_
  simp only [List.take_succ_cons, List.take_zero, List.drop_succ_cons, List.drop_zero]
  repeat still_step
  refine wpStill_nil ?_
  go_wp2_with fail
  refine (HV.out _ (by rfl) (by rfl) (by rfl) (by rfl)).mono ?_
  rintro r w6 ⟨rfl, s6, p6⟩
  obtain ⟨q0, _⟩ := HC.out w6 p6
  have CS := HSt.out w6 p6
  clear HC HV e0 e1 e2 e3 e4 e5 e6 e7 e8 j0 j1 j2 j3 j4 j5 j6 j7 j8
  go_wp2_with fail
  refine CS.mono ?_
  rintro r w7 ⟨v', rfl, h1, h2, h3⟩
  go_wp2
  go_ret
  exact ⟨rfl, HE.out _ _ _ p6 s6.out h1 h2 h3⟩
end Go.Proofs.YthfokciijcmhbaaGreatDoor
