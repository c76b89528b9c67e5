/-
  slices.Chunk over a tail of bytes, in chunks of 112: contract of its iterator: the chunks in their order. Condition: at most a million bytes.
  slices.Collect(slices.Chunk(tail, 112)): a new row of the tail's chunks. Condition: at most a million bytes.
-/
import Derived.RangeFuncBox
import Derived.RangeFuncLeaves
import Derived.RangeFuncNested
import Derived.RangeFuncCalls
import Derived.Shelf.Abstract
import Derived.WalkKit
import Derived.OwnWalkIn
import Derived.TacticsInMore
import Derived.LoopNIn
import Derived.LoopIn
import Derived.BigRegionIn
import Derived.Stop.RegionWithIn
import Derived.Sort.CutIn
import Derived.Test.YtnaobkpncfbnaaaGreatDoorLogB
namespace Go.Proofs.YtnaobkpncfbnaaaGreatDoor
open Go.RowKit Go.Shelf
set_option linter.unusedVariables false
attribute [local go_sem] Oper.semAt_some

/-- How long the chunk at a place is. -/
def ckL (tl k : Nat) : Nat := min 112 (tl - k * 112)
/-- The chunks' numbers, so many of them. -/
def cks (N : Nat) : (k : Nat) → k ≤ N → List { j : Nat // j < N }
  | 0, _ => []
  | k + 1, h => cks N k (by omega) ++ [⟨k, by omega⟩]
theorem cks_length (N : Nat) : ∀ (k : Nat) (h : k ≤ N), (cks N k h).length = k
  | 0, _ => rfl
  | k + 1, h => by rw [cks, List.length_append, cks_length N k]; rfl

set_option maxRecDepth 100000 in
set_option maxHeartbeats 2000000 in
theorem chunk1_in (F : Fence) (n : Nat) (hF : F.fn 135) (hro : F.round = none) (hn : 1 ≤ n) (l Bs Bn n₀ g tl c N : Nat) (hN : tl ≤ N * 112) (hN2 : N * 112 < tl + 112) (hL : tl ≤ 1000000) (hcap : tl ≤ c) (hBs : Bs < n₀) (hBn : Bn < n₀) (J Jx : List { j : Nat // j < N } → World → Prop)
    (hY : ∀ pre x W, J pre W → pre.length < N → YieldAt F (n - 1) Tryz.prog l #[.slice (some ⟨g, (x : { j : Nat // j < N }).1 * 112, none⟩) (ckL tl x.1) (ckL tl x.1)] W fun e W' =>
      (e = .returned (.bool true) ∧ J (pre ++ [x]) W' ∧ Below n₀ W W') ∨ (e = .returned (.bool false) ∧ Jx (pre ++ [x]) W'))
    (W : World) (hA : AbidesFrom W.heap.size J) (hs : W.cell? ⟨Bs, 0, none⟩ = some (.slice (some ⟨g, 0, none⟩) tl c)) (hb : W.cell? ⟨Bn, 0, none⟩ = some (.int .i64 112)) (h0 : J [] W) :
    CallsIn F n Tryz.prog 135 #[.func (.yield l) #[] #[], .pointer (some ⟨Bs, 0, none⟩), .pointer (some ⟨Bn, 0, none⟩)] W fun e W' => (∃ v, e = .returned v) ∧
      ((∃ ys, ys = cks N N (Nat.le_refl _) ∧ J ys W') ∨ (∃ pre, (∃ k, ∃ h : k ≤ N, pre = cks N k h) ∧ Jx pre W')) := by
  refine callsIn_of_wp Tryz.func135 rfl hF ?_ hro
  simp only [Tryz.ntmps135, List.size_toArray, List.length_cons, List.length_nil, Nat.reduceAdd, Nat.reduceSub, Array.replicate_succ, Array.replicate_zero, List.push_toArray, List.append_toArray, List.nil_append, List.cons_append]
  gi_wp2
  gi_loopw [4] (fun i wr => ∃ (k : Nat) (hk : k ≤ N) (z : Int), i = .int .i64 z ∧ z = (k : Int) * 112 ∧ J (cks N k hk) wr ∧ Below n₀ W wr)
    (fun i _ => N * 112 - (intOf i).toNat)
  case atStart => exact ⟨0, Nat.zero_le _, _, rfl, by omega, h0, Below.refl _ _⟩
  case round =>
    obtain ⟨k, hk, z, rfl, hz, hJs, hnx⟩ := hrel
    have hs' : wr.cell? ⟨Bs, 0, none⟩ = some (.slice (some ⟨g, 0, none⟩) tl c) := (hnx.cell (p := ⟨Bs, 0, none⟩) hBs).trans hs
    have hb' : wr.cell? ⟨Bn, 0, none⟩ = some (.int .i64 112) := (hnx.cell (p := ⟨Bn, 0, none⟩) hBn).trans hb
    by_cases hlt : k < N
    · obtain ⟨p, hp⟩ : ∃ p : Nat, p = k * 112 := ⟨_, rfl⟩
      obtain rfl : z = (p : Int) := by omega
      have hp1 : (p : Int) < (tl : Int) := by omega
      have hp0 : (0 : Int) ≤ (p : Int) := by omega
      obtain ⟨m, hm⟩ : ∃ m : Nat, m = ckL tl k := ⟨_, rfl⟩
      have hm' : m = min 112 (tl - p) := by rw [hm, hp]; rfl
      have Hck : Hid (cks N (k + 1) hlt = cks N k hk ++ [⟨k, hlt⟩]) := rfl
      have hJd : J (cks N k hk) wr.drew := hA _ wr wr.drew none hJs ⟨rfl, rfl, rfl, Nat.le_refl _, fun _ _ _ => rfl⟩ (fun r e => by cases e)
      obtain ⟨fn, tmps, assign, body, hy, hR⟩ := hY _ ⟨k, hlt⟩ wr.drew hJd (by rw [cks_length]; exact hlt)
      dsimp only at hy
      rw [← hp, ← hm] at hy
      have hnd : Below n₀ W wr.drew := hnx.trans (blw_drewN 1 (Below.refl _ _))
      have hsd : wr.drew.cell? ⟨Bs, 0, none⟩ = some (.slice (some ⟨g, 0, none⟩) tl c) := hs'
      have hbd : wr.drew.cell? ⟨Bn, 0, none⟩ = some (.int .i64 112) := hb'
      have hpc : (p : Int) ≤ (c : Int) := by omega
      have htc : (tl : Int) ≤ (c : Int) := by omega
      have hmc : (p : Int) + (m : Int) ≤ (c : Int) := by omega
      have hm0 : (0 : Int) ≤ (m : Int) := by omega
      have hpb : (p : Int) ≤ 1000000 := by omega
      have hmb : (m : Int) ≤ 112 := by omega
      have hcp : ¬ (c = p) := by omega
      have hpt : p ≤ tl := by omega
      have Hmv : Hid ((if ((tl - p : Nat) : Int) < 112 then ((tl - p : Nat) : Int) else 112) = (m : Int)) := (by split <;> omega : (if ((tl - p : Nat) : Int) < 112 then ((tl - p : Nat) : Int) else 112) = (m : Int))
      have Hz : Hid ((p : Int) + 112 = ((k + 1 : Nat) : Int) * 112) := (by omega : (p : Int) + 112 = ((k + 1 : Nat) : Int) * 112)
      have hm1 : 1 ≤ m := by omega
      have HM : Hid (N * 112 - (intOf (.int .i64 ((p : Int) + 112))).toNat < N * 112 - (intOf (.int .i64 (p : Int))).toNat) := (by show N * 112 - ((p : Int) + 112).toNat < N * 112 - ((p : Int)).toNat; omega : N * 112 - (intOf (.int .i64 ((p : Int) + 112))).toNat < N * 112 - (intOf (.int .i64 (p : Int))).toNat)
      clear hz hp hm hs hb hm'
      have hmz : ¬ (m = 0) := by omega
      have hpz : ¬ (((p : Int) + (m : Int)).toNat = p) := by omega
      have htn : ((p : Int) + (m : Int)).toNat - p = m := by omega
      gi_upto_region 3 with fail
      gi_cut [5] from 6 (fun s5 wc => s5 = .int .i64 (m : Int) ∧ wc = wr.drew)
      case first =>
        gi_region
        all_goals
          gi_wp2_with fail
        all_goals
          gi_meet
          refine ⟨congrArg (Value.int .i64) ?_, rfl⟩
          have := Hmv.out
          split at this <;> omega
      case rest =>
        obtain ⟨rfl, rfl⟩ := hcut
        clear Hmv
        gi_wp2
        refine hR.mono ?_
        rintro e W3 (⟨rfl, hJ3, hk3⟩ | ⟨rfl, hJx3⟩)
        · have hb3 : W3.cell? ⟨Bn, 0, none⟩ = some (.int .i64 112) := (hk3.cell (p := ⟨Bn, 0, none⟩) hBn).trans hbd
          gi_wp2
          go_roundw
          case rel => exact ⟨k + 1, hlt, (p : Int) + 112, by first | rfl | go_num, Hz.out, by rw [Hck.out]; exact hJ3, hnd.trans hk3⟩
          case measure => exact HM.out
        · gi_wp2
          refine bodyPost_ret (results_none rfl _ _ _) rfl ?_
          exact ⟨⟨_, rfl⟩, .inr ⟨_, ⟨k + 1, hlt, Hck.out.symm⟩, hJx3⟩⟩
    · obtain rfl : k = N := by omega
      have hge : ¬ z < (tl : Int) := by omega
      clear hz
      gi_wp2
      go_end0
      first | exact ⟨⟨_, rfl⟩, .inl ⟨_, rfl, hJs⟩⟩ | exact ⟨⟨_, rfl⟩, .inl hJs⟩

set_option maxHeartbeats 1000000 in
/-- slices.Chunk(s, 112): the slice and the number are boxed; the function value captures the boxes. -/
theorem chunk_in (F : Fence) (n : Nat) (hF : F.fn 112) (hro : F.round = none) (a : Option Addr) (len cap : Nat) (w : World) :
    CallsIn F n Tryz.prog 112 #[.slice a len cap, .int .i64 112] w fun e w' => e = .returned (.func (.func 135) #[] #[.pointer (some ⟨w.heap.size, 0, none⟩), .pointer (some ⟨w.heap.size + 1, 0, none⟩)]) ∧ w' = (w.alloc (.cells #[.slice a len cap] 36)).alloc (.cells #[.int .i64 112] 3) := by
  refine callsIn_of_wp Tryz.func112 rfl hF ?_ hro
  simp only [Tryz.ntmps112, List.size_toArray, List.length_cons, List.length_nil, Nat.reduceAdd, Nat.reduceSub, Array.replicate_succ, Array.replicate_zero, List.push_toArray, List.append_toArray, List.nil_append, List.cons_append]
  gi_wp2
  go_ret
  exact ⟨rfl, rfl⟩

/-- What slices.Chunk hands back: the chunks in their order. -/
theorem chunk_stops (F : Fence) (n : Nat) (hF : F.fn 135) (hro : F.round = none) (hn : 1 ≤ n) (Bs Bn g tl c N : Nat) (hN : tl ≤ N * 112) (hN2 : N * 112 < tl + 112) (hL : tl ≤ 1000000) (hcap : tl ≤ c) (w : World) (hBs : Bs < w.heap.size) (hBn : Bn < w.heap.size)
    (hs : w.cell? ⟨Bs, 0, none⟩ = some (.slice (some ⟨g, 0, none⟩) tl c)) (hb : w.cell? ⟨Bn, 0, none⟩ = some (.int .i64 112)) :
    SeqStopsK F n Tryz.prog 135 #[.pointer (some ⟨Bs, 0, none⟩), .pointer (some ⟨Bn, 0, none⟩)] (fun x : { j : Nat // j < N } => #[Value.slice (some ⟨g, x.1 * 112, none⟩) (ckL tl x.1) (ckL tl x.1)]) (Below w.heap.size) (fun ys => ys = cks N N (Nat.le_refl _))
      (fun pre => ∃ k, ∃ h : k ≤ N, pre = cks N k h) N w := fun l J Jx W hW hA _ hY h0 =>
  chunk1_in F n hF hro hn l Bs Bn w.heap.size g tl c N hN hN2 hL hcap hBs hBn J Jx hY W hA ((hW.cell (p := ⟨Bs, 0, none⟩) hBs).trans hs) ((hW.cell (p := ⟨Bn, 0, none⟩) hBn).trans hb) h0
end Go.Proofs.YtnaobkpncfbnaaaGreatDoor

namespace Go.Proofs.YtnaobkpncfbnaaaGreatDoor
open Go.RowKit Go.Shelf
set_option linter.unusedVariables false
attribute [local go_sem] Oper.semAt_some

/-- A chunk's value. -/
def ckV (g tl j : Nat) : Value := .slice (some ⟨g, j * 112, none⟩) (ckL tl j) (ckL tl j)
/-- Between two rounds: the box holds a row of what has come so far. -/
structure Cx (w : World) (g tl N : Nat) (pre : List { j : Nat // j < N }) (W : World) : Prop where
  box : ∃ v, W.heap[w.heap.size]? = some (.cells #[v] 28 (0, 0)) ∧ W.ownsRow w.heap.size 36 1 v pre.length (pre.map (fun x => ckV g tl x.1))
  bel : Below w.heap.size w W

theorem row_ne {W : World} {base : Nat} {e : TypeId} {size : Nat} {v : Value} {k : Nat} {xs : List Value} (h : W.ownsRow base e size v k xs) {j : Nat} {o : Obj} (hj : W.heap[j]? = some o) (hno : ∀ cur, o ≠ .cells cur e (0, 0)) : v.ownBlock ≠ some j := by
  rcases h.2 with ⟨rfl, _⟩ | ⟨g, cap, cur, rfl, _, hgb, _⟩
  · exact fun e => by cases e
  · intro e'
    obtain rfl : g = j := Option.some.inj e'
    rw [hgb] at hj
    cases hj
    exact hno cur rfl
theorem row_cells {W : World} {base : Nat} {e : TypeId} {size : Nat} {v : Value} {k : Nat} {xs : List Value} (h : W.ownsRow base e size v k xs) {j : Nat} {o : Obj} (hj : W.heap[j]? = some o) (hno : o.isCells = false) : v.ownBlock ≠ some j :=
  row_ne h hj (fun cur e => by subst e; cases hno)
theorem own_slice {W : World} {base : Nat} {e : TypeId} {size : Nat} {v : Value} {k : Nat} {xs : List Value} (h : W.ownsRow base e size v k xs) : ∃ a c, v = .slice a k c := by
  rcases h.2 with ⟨rfl, h0⟩ | ⟨g, cap, cur, rfl, _⟩
  · rw [h0]; exact ⟨_, _, rfl⟩
  · exact ⟨_, _, rfl⟩
theorem Cx.step {w W w3 : World} {g tl N : Nat} {pre : List { j : Nat // j < N }} {x : { j : Nat // j < N }} {v v' : Value} {o : Obj} (hv : W.heap[w.heap.size]? = some (.cells #[v] 28 (0, 0))) (hrow : W.ownsRow w.heap.size 36 1 v pre.length (pre.map (fun x => ckV g tl x.1))) (hB : Below w.heap.size w W)
    (hg3 : (W.alloc o).grownBy w3 v.ownBlock) (ho : w3.ownsRow w.heap.size 36 1 v' (pre.length + 1) (pre.map (fun x => ckV g tl x.1) ++ [ckV g tl x.1])) :
    w3.cell? ⟨w.heap.size, 0, none⟩ = some v ∧ w3.frozen? ⟨w.heap.size, 0, none⟩ = false ∧ Hid (KeepsFrom (w.heap.size + 1) W (w3.setCell ⟨w.heap.size, 0, none⟩ v') ∧ Below w.heap.size W (w3.setCell ⟨w.heap.size, 0, none⟩ v') ∧ Cx w g tl N (pre ++ [x]) (w3.setCell ⟨w.heap.size, 0, none⟩ v')) := by
  have hlt : w.heap.size < W.heap.size := (Array.getElem?_eq_some_iff.1 hv).1
  have hsz : (W.alloc o).heap.size = W.heap.size + 1 := by simp
  have n1 : v.ownBlock ≠ some w.heap.size := row_ne hrow hv (fun cur e => by cases e)
  have hv3 : w3.heap[w.heap.size]? = some (.cells #[v] 28 (0, 0)) := (hg3.block _ (by omega) (fun e => n1 e.symm)).trans ((Below.heap_alloc _ _ _ hlt).trans hv)
  have n2 : v'.ownBlock ≠ some w.heap.size := row_ne ho hv3 (fun cur e => by cases e)
  have hv4 := heap_set_at (i := 0) hv3 v'
  have hb3 : Below w.heap.size W w3 := ((Below.refl w.heap.size W).alloc hB.size o).grown hg3 (by omega) (fun k e => (hrow.lt k e).1)
  have hb4 : Below w.heap.size W (w3.setCell ⟨w.heap.size, 0, none⟩ v') := hb3.setCell (p := ⟨w.heap.size, 0, none⟩) (Nat.le_refl _) _
  refine ⟨by rw [cells_at hv3 0]; rfl, cells_free hv3 0, ⟨hb4.size, fun k ob hk h1 h2 => ?_⟩, hb4, ⟨v', hv4, ?_⟩, hB.trans hb4⟩
  · have hkl : k < W.heap.size := (Array.getElem?_eq_some_iff.1 h1).1
    have e1 : w3.heap[k]? = some ob := (hg3.block k (by omega) (fun e => row_cells hrow h1 h2 e.symm)).trans ((Below.heap_alloc _ _ _ hkl).trans h1)
    rw [Below.heap_setCell _ _ _ _ (by show k ≠ w.heap.size; omega)]
    exact e1
  · have := row_set ho n2 0 v'
    simpa using this

set_option maxRecDepth 100000 in
set_option maxHeartbeats 1000000 in
attribute [local irreducible] ckL in
theorem appendSeqC (w : World) (Bs Bn g tl c N : Nat) (hN : tl ≤ N * 112) (hN2 : N * 112 < tl + 112) (hL : tl ≤ 1000000) (hcap : tl ≤ c) (hBs : Bs < w.heap.size) (hBn : Bn < w.heap.size)
    (hs : w.cell? ⟨Bs, 0, none⟩ = some (.slice (some ⟨g, 0, none⟩) tl c)) (hb : w.cell? ⟨Bn, 0, none⟩ = some (.int .i64 112)) :
    Calls Tryz.prog 134 #[.slice none 0 0, .func (.func 135) #[] #[.pointer (some ⟨Bs, 0, none⟩), .pointer (some ⟨Bn, 0, none⟩)]] w fun e w' => ∃ v, e = .returned v ∧ w'.ownsRow w.heap.size 36 1 v N ((cks N N (Nat.le_refl _)).map (fun x => ckV g tl x.1)) ∧ Below w.heap.size w w' := by
  obtain ⟨i0, hi0, hz0, hz1, hz2⟩ := info_parts infoB
  refine (callsIn_wide (n := 8)).1 ?_
  have hro : Fence.wide.round = none := rfl
  have h1' : 1 ≤ 8 := by decide
  refine callsIn_of_wp_marks Tryz.func134 rfl trivial ?_ hro
  simp only [Tryz.ntmps134, List.size_toArray, List.length_cons, List.length_nil, Nat.reduceAdd, Nat.reduceSub, Array.replicate_succ, Array.replicate_zero, List.push_toArray, List.append_toArray, List.nil_append, List.cons_append]
  gi_wp2
  have bA := Boxed.new w 28 (.slice none 0 0)
  have hB0 : Below w.heap.size w (w.alloc (.cells #[.slice none 0 0] 28)) := (Below.refl _ w).alloc (Nat.le_refl _) _
  refine wpIn_rangeFunc_ownG hro h1' (gf := 135) (lb := #[.pointer (some ⟨Bs, 0, none⟩), .pointer (some ⟨Bn, 0, none⟩)]) rfl trivial (enters_of Tryz.func135 (by kernel_rfl) rfl)
    (chunk_stops Fence.wide (8 - 1) trivial hro (by decide) Bs Bn g tl c N hN hN2 hL hcap w hBs hBn hs hb) Below.trans (belowK_b (by simp)) hB0 (fun _ => rfl)
    (fun pre W => Cx w g tl N pre W)
    (fun _ _ _ => False)
    (fun s A B row hs hg hr => ?own)
    (fun _ _ _ _ _ hs _ _ => hs)
    ⟨⟨_, bA, ⟨rfl, .inl ⟨rfl, rfl⟩⟩⟩, hB0⟩
    (fun x => { tmps := #[.slice none 0 0, .func (.func 135) #[] #[.pointer (some ⟨Bs, 0, none⟩), .pointer (some ⟨Bn, 0, none⟩)], .pointer (some ⟨w.heap.size, 0, none⟩), undef, .slice none 0 0, .slice (some ⟨g, x.1 * 112, none⟩) (ckL tl x.1) (ckL tl x.1), .func (.func 135) #[] #[.pointer (some ⟨Bs, 0, none⟩), .pointer (some ⟨Bn, 0, none⟩)], .slice (some ⟨g, x.1 * 112, none⟩) (ckL tl x.1) (ckL tl x.1), undef, undef, undef, undef, undef], defers := [] }) ?assign ?body ?done ?stop
  case own =>
    obtain ⟨⟨v, hv, hrow⟩, hB⟩ := hs
    refine ⟨⟨v, (hg.block _ (Array.getElem?_eq_some_iff.1 hv).1 (fun e => ?_)).trans hv, hrow.kept hg ?_⟩, ownFrom_below (β := Unit) (Nat.le_refl _) (by simp) () A B row hB hg hr⟩
    · obtain ⟨_, o', ho', hc⟩ := hr _ e.symm
      rw [hv] at ho'
      cases ho'
      cases hc
    · by_cases e : v.ownBlock = row
      · cases hk : v.ownBlock with
        | none => exact .inl rfl
        | some k =>
          obtain ⟨_, o', ho', hc⟩ := hr k (by rw [← e, hk])
          exact absurd hk (row_cells hrow ho' hc)
      · exact .inr e
  case assign =>
    intro l x W K hK
    gi_wp2
    exact hK
  case body =>
    rintro l pre x W ⟨⟨v, hv, hrow⟩, hB⟩ hlen
    have HS : Hid (∀ (o : Obj) (w3 : World) (v' : Value), (W.alloc o).grownBy w3 v.ownBlock → w3.ownsRow w.heap.size 36 1 v' (pre.length + 1) (pre.map (fun x => ckV g tl x.1) ++ [.slice (some ⟨g, x.1 * 112, none⟩) (ckL tl x.1) (ckL tl x.1)]) → w3.cell? ⟨w.heap.size, 0, none⟩ = some v ∧ w3.frozen? ⟨w.heap.size, 0, none⟩ = false ∧ Hid (KeepsFrom (w.heap.size + 1) W (w3.setCell ⟨w.heap.size, 0, none⟩ v') ∧ Below w.heap.size W (w3.setCell ⟨w.heap.size, 0, none⟩ v') ∧ Cx w g tl N (pre ++ [x]) (w3.setCell ⟨w.heap.size, 0, none⟩ v'))) := fun o w3 v' h1 h2 => Cx.step hv hrow hB h1 h2
    have hc : W.cell? ⟨w.heap.size, 0, none⟩ = some v := by rw [cells_at hv 0]; rfl
    have HRw : Hid (∀ o, (W.alloc o).ownsRow w.heap.size 36 1 v pre.length (pre.map (fun x => ckV g tl x.1))) := fun o => hrow.alloc o
    have HSz : Hid (w.heap.size ≤ W.heap.size + 1) := (by have := hB.size; omega : w.heap.size ≤ W.heap.size + 1)
    have hNb : N ≤ 10000 := by omega
    clear hv hrow hB
    gi_wp2_with (gi_at_builtin; refine wpListIn_append_own (W.alloc (.cells #[.slice (some ⟨g, x.1 * 112, none⟩) (ckL tl x.1) (ckL tl x.1)] 36)) rfl _ _ 28 rfl w.heap.size 36 i0 (.slice none 0 0) 1 24 Tryz.underlying28 hi0 hz0 hz1 hz2 rfl (by decide) v pre.length (pre.map (fun x => ckV g tl x.1)) rfl (HRw.out (.cells #[.slice (some ⟨g, x.1 * 112, none⟩) (ckL tl x.1) (ckL tl x.1)] 36)) ⟨W.heap.size, 0, none⟩ 1 1 [.slice (some ⟨g, x.1 * 112, none⟩) (ckL tl x.1) (ckL tl x.1)] rfl rfl (cell_one_new _ _ _) (by simp [Value.oneCell']) (by unfold maxLen; omega) (by omega) (by simpa using HSz.out) ?_; intro v' w3 ho3 hg3 hnil3; obtain ⟨hc3, hf3, HE⟩ := HS.out _ w3 v' hg3 ho3; clear hg3 hnil3; obtain ⟨a3, c3, hv3⟩ : ∃ a3 c3, v' = .slice a3 (pre.length + 1) c3 := own_slice ho3; subst hv3; clear ho3)
    have hE := HE.out
    refine ⟨?_, hE.2.1, hE.2.2⟩
    rw [World.size_alloc]
    exact hE.1
  case done =>
    rintro D ys W hD rfl ⟨⟨v, hv, hrow⟩, hB⟩ hK
    have hc : W.cell? ⟨w.heap.size, 0, none⟩ = some v := by rw [cells_at hv 0]; rfl
    rw [cks_length] at hrow
    obtain ⟨a3, c3, rfl⟩ := own_slice hrow
    have hD' : w.heap.size ≤ D := by rw [World.size_alloc] at hD; omega
    have hnb := row_cells hrow hK rfl
    clear hv
    gi_wp2
    refine ⟨by simp, .inl ⟨_, _, rfl, run_takeDeferred hK, ?_⟩⟩
    exact ⟨_, results_tmp rfl _ _ _, _, rfl, hrow.kept (grownBy_putObj' W D _) (.inr hnb), hB.trans (belowK_b (w := w) (Nat.le_refl _) W D _ _ hD' hK rfl rfl)⟩
  case stop =>
    rintro D c pre W _ _ h _
    exact h.elim
set_option maxHeartbeats 1000000 in
theorem collectC (w : World) (Bs Bn g tl c N : Nat) (hN : tl ≤ N * 112) (hN2 : N * 112 < tl + 112) (hL : tl ≤ 1000000) (hcap : tl ≤ c) (hBs : Bs < w.heap.size) (hBn : Bn < w.heap.size)
    (hs : w.cell? ⟨Bs, 0, none⟩ = some (.slice (some ⟨g, 0, none⟩) tl c)) (hb : w.cell? ⟨Bn, 0, none⟩ = some (.int .i64 112)) :
    Calls Tryz.prog 111 #[.func (.func 135) #[] #[.pointer (some ⟨Bs, 0, none⟩), .pointer (some ⟨Bn, 0, none⟩)]] w fun e w' => ∃ v, e = .returned v ∧ w'.ownsRow w.heap.size 36 1 v N ((cks N N (Nat.le_refl _)).map (fun x => ckV g tl x.1)) ∧ Below w.heap.size w w' := by
  have CA := appendSeqC w Bs Bn g tl c N hN hN2 hL hcap hBs hBn hs hb
  go_enter Tryz.func111, Tryz.ntmps111
  go_wp2_with fail
  refine CA.mono ?_
  rintro e w' ⟨v, rfl, ho, hb⟩
  obtain ⟨a3, c3, rfl⟩ := own_slice ho
  go_wp2
  go_ret
  exact ⟨_, rfl, ho, hb⟩
set_option maxHeartbeats 1000000 in
/-- slices.Chunk(s, 112), as a plain call. -/
theorem chunkC (a : Option Addr) (len cap : Nat) (w : World) :
    Calls Tryz.prog 112 #[.slice a len cap, .int .i64 112] w fun e w' => e = .returned (.func (.func 135) #[] #[.pointer (some ⟨w.heap.size, 0, none⟩), .pointer (some ⟨w.heap.size + 1, 0, none⟩)]) ∧ w' = (w.alloc (.cells #[.slice a len cap] 36)).alloc (.cells #[.int .i64 112] 3) :=
  (callsIn_wide (n := 8)).1 (chunk_in Fence.wide 8 trivial rfl a len cap w)
/-- The row of a tail's chunks, as save wants it. -/
theorem cks_get (N : Nat) : ∀ (k : Nat) (h : k ≤ N) (j : Nat) (hj : j < k), (cks N k h)[j]? = some ⟨j, Nat.lt_of_lt_of_le hj h⟩
  | 0, _, j, hj => by omega
  | k + 1, h, j, hj => by
    rw [cks]
    by_cases e : j < k
    · rw [List.getElem?_append_left (by rw [cks_length]; exact e)]
      exact cks_get N k (by omega) j e
    · obtain rfl : j = k := by omega
      rw [List.getElem?_append_right (by rw [cks_length]; exact Nat.le_refl _), cks_length, Nat.sub_self]
      rfl
end Go.Proofs.YtnaobkpncfbnaaaGreatDoor
