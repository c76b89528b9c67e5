/-
  slices.Chunk over a tail of bytes, in chunks of 1400: contract of its iterator: the chunks in their order. Condition: at most a million bytes.
-/
import Derived.RangeFuncBox
import Derived.RangeFuncLeaves
import Derived.RangeFuncNested
import Derived.RangeFuncCalls
import Derived.Shelf.Abstract
import Derived.WalkKit
import Derived.OwnWalkIn
import Derived.TacticsInMore
import Derived.LoopNIn
import Derived.LoopIn
import Derived.BigRegionIn
import Derived.Stop.RegionWithIn
import Derived.Sort.CutIn
import Derived.Test.YtdcclfnbpckioaaGreatDoorSpC
namespace Go.Proofs.YtdcclfnbpckioaaGreatDoor
open Go.RowKit Go.Shelf
set_option linter.unusedVariables false
attribute [local go_sem] Oper.semAt_some

/-- How long the chunk at a place is. -/
def ckL (tl k : Nat) : Nat := min 1400 (tl - k * 1400)
/-- The chunks' numbers, so many of them. -/
def cks (N : Nat) : (k : Nat) → k ≤ N → List { j : Nat // j < N }
  | 0, _ => []
  | k + 1, h => cks N k (by omega) ++ [⟨k, by omega⟩]
theorem cks_length (N : Nat) : ∀ (k : Nat) (h : k ≤ N), (cks N k h).length = k
  | 0, _ => rfl
  | k + 1, h => by rw [cks, List.length_append, cks_length N k]; rfl

set_option maxRecDepth 100000 in
set_option maxHeartbeats 2000000 in
theorem chunk1_in (F : Fence) (n : Nat) (hF : F.fn 36) (hro : F.round = none) (hn : 1 ≤ n) (l Bs Bn n₀ g tl c N : Nat) (hN : tl ≤ N * 1400) (hN2 : N * 1400 < tl + 1400) (hL : tl ≤ 1000000) (hcap : tl ≤ c) (ag : Option Addr) (hag : 0 < tl → ag = some ⟨g, 0, none⟩) (hBs : Bs < n₀) (hBn : Bn < n₀) (J Jx : List { j : Nat // j < N } → World → Prop)
    (hY : ∀ pre x W, J pre W → pre.length < N → YieldAt F (n - 1) Tryz.prog l #[.slice (some ⟨g, (x : { j : Nat // j < N }).1 * 1400, none⟩) (ckL tl x.1) (ckL tl x.1)] W fun e W' =>
      (e = .returned (.bool true) ∧ J (pre ++ [x]) W' ∧ Below n₀ W W') ∨ (e = .returned (.bool false) ∧ Jx (pre ++ [x]) W'))
    (W : World) (hA : AbidesFrom W.heap.size J) (hs : W.cell? ⟨Bs, 0, none⟩ = some (.slice ag tl c)) (hb : W.cell? ⟨Bn, 0, none⟩ = some (.int .i64 1400)) (h0 : J [] W) :
    CallsIn F n Tryz.prog 36 #[.func (.yield l) #[] #[], .pointer (some ⟨Bs, 0, none⟩), .pointer (some ⟨Bn, 0, none⟩)] W fun e W' => (∃ v, e = .returned v) ∧
      ((∃ ys, ys = cks N N (Nat.le_refl _) ∧ J ys W') ∨ (∃ pre, (∃ k, ∃ h : k ≤ N, pre = cks N k h) ∧ Jx pre W')) := by
  refine callsIn_of_wp Tryz.func36 rfl hF ?_ hro
  simp only [Tryz.ntmps36, List.size_toArray, List.length_cons, List.length_nil, Nat.reduceAdd, Nat.reduceSub, Array.replicate_succ, Array.replicate_zero, List.push_toArray, List.append_toArray, List.nil_append, List.cons_append]
  gi_wp2
  gi_loopw [4] (fun i wr => ∃ (k : Nat) (hk : k ≤ N) (z : Int), i = .int .i64 z ∧ z = (k : Int) * 1400 ∧ J (cks N k hk) wr ∧ Below n₀ W wr)
    (fun i _ => N * 1400 - (intOf i).toNat)
  case atStart => exact ⟨0, Nat.zero_le _, _, rfl, by omega, h0, Below.refl _ _⟩
  case round =>
    obtain ⟨k, hk, z, rfl, hz, hJs, hnx⟩ := hrel
    have hs' : wr.cell? ⟨Bs, 0, none⟩ = some (.slice ag tl c) := (hnx.cell (p := ⟨Bs, 0, none⟩) hBs).trans hs
    have hb' : wr.cell? ⟨Bn, 0, none⟩ = some (.int .i64 1400) := (hnx.cell (p := ⟨Bn, 0, none⟩) hBn).trans hb
    by_cases hlt : k < N
    · obtain rfl : ag = some ⟨g, 0, none⟩ := hag (by omega)
      clear hag
      obtain ⟨p, hp⟩ : ∃ p : Nat, p = k * 1400 := ⟨_, rfl⟩
      obtain rfl : z = (p : Int) := by omega
      have hp1 : (p : Int) < (tl : Int) := by omega
      have hp0 : (0 : Int) ≤ (p : Int) := by omega
      obtain ⟨m, hm⟩ : ∃ m : Nat, m = ckL tl k := ⟨_, rfl⟩
      have hm' : m = min 1400 (tl - p) := by rw [hm, hp]; rfl
      have Hck : Hid (cks N (k + 1) hlt = cks N k hk ++ [⟨k, hlt⟩]) := rfl
      have hJd : J (cks N k hk) wr.drew := hA _ wr wr.drew none hJs ⟨rfl, rfl, rfl, Nat.le_refl _, fun _ _ _ => rfl⟩ (fun r e => by cases e)
      obtain ⟨fn, tmps, assign, body, hy, hR⟩ := hY _ ⟨k, hlt⟩ wr.drew hJd (by rw [cks_length]; exact hlt)
      dsimp only at hy
      rw [← hp, ← hm] at hy
      have hnd : Below n₀ W wr.drew := hnx.trans (blw_drewN 1 (Below.refl _ _))
      have hsd : wr.drew.cell? ⟨Bs, 0, none⟩ = some (.slice (some ⟨g, 0, none⟩) tl c) := hs'
      have hbd : wr.drew.cell? ⟨Bn, 0, none⟩ = some (.int .i64 1400) := hb'
      have hpc : (p : Int) ≤ (c : Int) := by omega
      have htc : (tl : Int) ≤ (c : Int) := by omega
      have hmc : (p : Int) + (m : Int) ≤ (c : Int) := by omega
      have hm0 : (0 : Int) ≤ (m : Int) := by omega
      have hpb : (p : Int) ≤ 1000000 := by omega
      have hmb : (m : Int) ≤ 1400 := by omega
      have hcp : ¬ (c = p) := by omega
      have hpt : p ≤ tl := by omega
      have Hmv : Hid ((if ((tl - p : Nat) : Int) < 1400 then ((tl - p : Nat) : Int) else 1400) = (m : Int)) := (by split <;> omega : (if ((tl - p : Nat) : Int) < 1400 then ((tl - p : Nat) : Int) else 1400) = (m : Int))
      have Hz : Hid ((p : Int) + 1400 = ((k + 1 : Nat) : Int) * 1400) := (by omega : (p : Int) + 1400 = ((k + 1 : Nat) : Int) * 1400)
      have hm1 : 1 ≤ m := by omega
      have HM : Hid (N * 1400 - (intOf (.int .i64 ((p : Int) + 1400))).toNat < N * 1400 - (intOf (.int .i64 (p : Int))).toNat) := (by show N * 1400 - ((p : Int) + 1400).toNat < N * 1400 - ((p : Int)).toNat; omega : N * 1400 - (intOf (.int .i64 ((p : Int) + 1400))).toNat < N * 1400 - (intOf (.int .i64 (p : Int))).toNat)
      clear hz hp hm hs hb hm'
      have hmz : ¬ (m = 0) := by omega
      have hpz : ¬ (((p : Int) + (m : Int)).toNat = p) := by omega
      have htn : ((p : Int) + (m : Int)).toNat - p = m := by omega
      gi_upto_region 3 with fail
      gi_cut [5] from 6 (fun s5 wc => s5 = .int .i64 (m : Int) ∧ wc = wr.drew)
      case first =>
        gi_region
        all_goals
          gi_wp2_with fail
        all_goals
          gi_meet
          refine ⟨congrArg (Value.int .i64) ?_, rfl⟩
          have := Hmv.out
          split at this <;> omega
      case rest =>
        obtain ⟨rfl, rfl⟩ := hcut
        clear Hmv
        gi_wp2
        refine hR.mono ?_
        rintro e W3 (⟨rfl, hJ3, hk3⟩ | ⟨rfl, hJx3⟩)
        · have hb3 : W3.cell? ⟨Bn, 0, none⟩ = some (.int .i64 1400) := (hk3.cell (p := ⟨Bn, 0, none⟩) hBn).trans hbd
          gi_wp2
          go_roundw
          case rel => exact ⟨k + 1, hlt, (p : Int) + 1400, by first | rfl | go_num, Hz.out, by rw [Hck.out]; exact hJ3, hnd.trans hk3⟩
          case measure => exact HM.out
        · gi_wp2
          refine bodyPost_ret (results_none rfl _ _ _) rfl ?_
          exact ⟨⟨_, rfl⟩, .inr ⟨_, ⟨k + 1, hlt, Hck.out.symm⟩, hJx3⟩⟩
    · obtain rfl : k = N := by omega
      have hge : ¬ z < (tl : Int) := by omega
      clear hz
      gi_wp2
      go_end0
      first | exact ⟨⟨_, rfl⟩, .inl ⟨_, rfl, hJs⟩⟩ | exact ⟨⟨_, rfl⟩, .inl hJs⟩

set_option maxHeartbeats 1000000 in
/-- slices.Chunk(s, 1400): the slice and the number are boxed; the function value captures the boxes. -/
theorem chunk_in (F : Fence) (n : Nat) (hF : F.fn 19) (hro : F.round = none) (a : Option Addr) (len cap : Nat) (w : World) :
    CallsIn F n Tryz.prog 19 #[.slice a len cap, .int .i64 1400] w fun e w' => e = .returned (.func (.func 36) #[] #[.pointer (some ⟨w.heap.size, 0, none⟩), .pointer (some ⟨w.heap.size + 1, 0, none⟩)]) ∧ w' = (w.alloc (.cells #[.slice a len cap] 22)).alloc (.cells #[.int .i64 1400] 3) := by
  refine callsIn_of_wp Tryz.func19 rfl hF ?_ hro
  simp only [Tryz.ntmps19, List.size_toArray, List.length_cons, List.length_nil, Nat.reduceAdd, Nat.reduceSub, Array.replicate_succ, Array.replicate_zero, List.push_toArray, List.append_toArray, List.nil_append, List.cons_append]
  gi_wp2
  go_ret
  exact ⟨rfl, rfl⟩

/-- What slices.Chunk hands back: the chunks in their order. -/
theorem chunk_stops (F : Fence) (n : Nat) (hF : F.fn 36) (hro : F.round = none) (hn : 1 ≤ n) (Bs Bn g tl c N : Nat) (hN : tl ≤ N * 1400) (hN2 : N * 1400 < tl + 1400) (hL : tl ≤ 1000000) (hcap : tl ≤ c) (ag : Option Addr) (hag : 0 < tl → ag = some ⟨g, 0, none⟩) (w : World) (hBs : Bs < w.heap.size) (hBn : Bn < w.heap.size)
    (hs : w.cell? ⟨Bs, 0, none⟩ = some (.slice ag tl c)) (hb : w.cell? ⟨Bn, 0, none⟩ = some (.int .i64 1400)) :
    SeqStopsK F n Tryz.prog 36 #[.pointer (some ⟨Bs, 0, none⟩), .pointer (some ⟨Bn, 0, none⟩)] (fun x : { j : Nat // j < N } => #[Value.slice (some ⟨g, x.1 * 1400, none⟩) (ckL tl x.1) (ckL tl x.1)]) (Below w.heap.size) (fun ys => ys = cks N N (Nat.le_refl _))
      (fun pre => ∃ k, ∃ h : k ≤ N, pre = cks N k h) N w := fun l J Jx W hW hA _ hY h0 =>
  chunk1_in F n hF hro hn l Bs Bn w.heap.size g tl c N hN hN2 hL hcap ag hag hBs hBn J Jx hY W hA ((hW.cell (p := ⟨Bs, 0, none⟩) hBs).trans hs) ((hW.cell (p := ⟨Bn, 0, none⟩) hBn).trans hb) h0
end Go.Proofs.YtdcclfnbpckioaaGreatDoor
