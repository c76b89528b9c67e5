/-
  A pool's table: changed (the dirty buffers, in some order). The disk's Flush beside a pool.
  Pool.All: behind it no buffer is dirty, and nothing pends.
-/
import Derived.Test.YthfokciijcmhbaaGreatDoorGba
namespace Go.Proofs.YthfokciijcmhbaaGreatDoor
open Go.RowKit
set_option linter.unusedVariables false

set_option maxRecDepth 100000 in
set_option maxHeartbeats 2000000 in
theorem k_ins0 (f : Value) (w : World) : Calls Tryz.prog 185 #[.slice none 0 0, .int .i64 0, .int .i64 0, f] w fun r w' => r = .returned (.tuple #[]) ∧ w' = w := by
  go_enter Tryz.func185, Tryz.ntmps185
  go_wp2
  go_loopw [8] (fun s wr => s = .int .i64 1 ∧ wr = w) (fun _ _ => 0)
  case atStart => exact ⟨by go_num, rfl⟩
  case round =>
    obtain ⟨rfl, rfl⟩ := hrel
    go_wp2
    go_end0
    exact ⟨rfl, rfl⟩
set_option maxRecDepth 100000 in
set_option maxHeartbeats 2000000 in
theorem k_pdq0 (z : Int) (f : Value) (w : World) : Calls Tryz.prog 171 #[.slice none 0 0, .int .i64 0, .int .i64 0, .int .i64 z, f] w fun r w' => r = .returned (.tuple #[]) ∧ w' = w := by
  go_enter Tryz.func171, Tryz.ntmps171
  go_wp2
  go_loopw [1, 2] (fun a b wr => a = .int .i64 0 ∧ b = .int .i64 0 ∧ wr = w) (fun _ _ _ => 0)
  case atStart => exact ⟨rfl, rfl, rfl⟩
  case round =>
    obtain ⟨rfl, rfl, rfl⟩ := hrel
    go_wp2_with fail
    refine (k_ins0 f _).mono ?_
    rintro r w1 ⟨rfl, rfl⟩
    go_wp2
    refine bodyPost_ret (results_none rfl _ _ _) rfl ?_
    exact ⟨rfl, rfl⟩
set_option maxRecDepth 100000 in
set_option maxHeartbeats 2000000 in
theorem k_sort0 (f : Value) (w : World) : Calls Tryz.prog 155 #[.slice none 0 0, f] w fun r w' => r = .returned (.tuple #[]) ∧ w' = w := by
  have HL : Hid (Calls Tryz.prog 167 #[.int .u64 0] w fun r w' => (∃ z : Int, r = .returned (.int .i64 z)) ∧ w' = w) := k_lenW 0 (by decide) w
  go_enter Tryz.func155, Tryz.ntmps155
  go_wp2_with fail
  refine HL.out.mono ?_
  rintro r w1 ⟨⟨z, rfl⟩, hw⟩
  obtain rfl : w = w1 := hw.symm
  clear hw
  go_wp2_with fail
  refine (k_pdq0 z f _).mono ?_
  rintro r w1 ⟨rfl, rfl⟩
  go_wp2
  go_end0
  exact ⟨rfl, rfl⟩
/-- The dirty ones of the first k buffers, as a row of its own. -/
structure Chd (w : World) (k : Nat) (X : Nat → Bf) (w' : World) (v : Value) (q : Nat) (f : Nat → Nat) : Prop where
  row : Rw w.heap.size w' v q f
  bel : Below w.heap.size w w'
  le : q ≤ k
  of : ∀ j, j < q → ∃ i, i < k ∧ 0 < (X i).fi ∧ f j = (X i).b
  all : ∀ i, i < k → 0 < (X i).fi → ∃ j, j < q ∧ f j = (X i).b
theorem Chd.nil (w : World) (X : Nat → Bf) (f : Nat → Nat) : Chd w 0 X w (.slice none 0 0) 0 f := ⟨⟨rfl, .inl ⟨rfl, rfl⟩⟩, Below.refl _ w, Nat.le_refl _, fun j hj => absurd hj (by omega), fun i hi => absurd hi (by omega)⟩
theorem Chd.skip {w w' : World} {k q : Nat} {X : Nat → Bf} {v : Value} {f : Nat → Nat} (h : Chd w k X w' v q f) (hk : (X k).fi = 0) : Chd w (k + 1) X w' v q f :=
  ⟨h.row, h.bel, by have := h.le; omega, fun j hj => by obtain ⟨i, h1, h2⟩ := h.of j hj; exact ⟨i, by omega, h2⟩, fun i hi h0 => h.all i (by
    by_cases e : i = k
    · subst e; omega
    · omega) h0⟩
def snocF (f : Nat → Nat) (q b : Nat) : Nat → Nat := fun j => if j = q then b else f j
theorem Chd.snoc {w w' w2 : World} {k q : Nat} {X : Nat → Bf} {v v2 : Value} {f : Nat → Nat} (h : Chd w k X w' v q f) (hk : 0 < (X k).fi) (hb : Below w.heap.size w w2) (hr : w2.ownsRow w.heap.size 166 1 v2 (q + 1) (rowL f q ++ [ptr (X k).b])) : Chd w (k + 1) X w2 v2 (q + 1) (snocF f q (X k).b) := by
  refine ⟨?_, hb, by have := h.le; omega, fun j hj => ?_, fun i hi h0 => ?_⟩
  · unfold Rw
    rw [← rowL_snoc]
    have e3 : ptr (snocF f q (X k).b q) = ptr (X k).b := by unfold snocF; rw [if_pos rfl]
    have e4 : rowL (snocF f q (X k).b) q = rowL f q := rowL_ext (fun j hj => by unfold snocF; rw [if_neg (by omega)])
    rw [e3, e4]
    exact hr
  · unfold snocF
    by_cases e : j = q
    · rw [if_pos e]; exact ⟨k, by omega, hk, rfl⟩
    · rw [if_neg e]
      obtain ⟨i, h1, h2⟩ := h.of j (by omega)
      exact ⟨i, by omega, h2⟩
  · by_cases e : i = k
    · exact ⟨q, by omega, by unfold snocF; rw [if_pos rfl, e]⟩
    · obtain ⟨j, h1, h2⟩ := h.all i (by omega) h0
      exact ⟨j, by omega, by unfold snocF; rw [if_neg (by omega)]; exact h2⟩
theorem Chd.sorted {w w' w2 : World} {k q g c : Nat} {X : Nat → Bf} {f f' : Nat → Nat} (h : Chd w k X w' (.slice (some ⟨g, 0, none⟩) q c) q f) (hs : Srt w.heap.size w' g q c f w2 f') : Chd w k X w2 (.slice (some ⟨g, 0, none⟩) q c) q f' := by
  refine ⟨hs.rw_, h.bel.trans (hs.part.below (fun b e => ?_) h.bel.size), h.le, fun j hj => ?_, fun i hi h0 => ?_⟩
  · have e : b = g := e
    rw [e]; exact h.row.low
  · obtain ⟨i, h1, h2⟩ := hs.sm.1 j hj
    obtain ⟨i', h3, h4⟩ := h.of i h1
    exact ⟨i', h3, by rw [h2]; exact h4⟩
  · obtain ⟨j, h1, h2⟩ := h.all i hi h0
    obtain ⟨j', h3, h4⟩ := hs.sm.2 j h1
    exact ⟨j', h3, by rw [h4]; exact h2⟩
set_option maxRecDepth 100000 in
set_option maxHeartbeats 4000000 in
theorem t_changedW {B0 : Nat} {w : World} {S D L fr pg bf n : Nat} {m : Int} {X : Nat → Bf} (k : Ps B0 w S m D L fr pg bf n X) (hn : n ≤ 5) : Calls Tryz.prog 132 #[.pointer (some ⟨S, 7, none⟩)] w fun r w' => ∃ a q c, r = .returned (.slice a q c) ∧ Hid (∃ f, Chd w n X w' (.slice a q c) q f) := by
  obtain ⟨i0, hi0, hz0, hz1, hz2⟩ := info_parts infoP
  obtain ⟨held, h1, h2⟩ := k.lay
  have c7 : w.cell? ⟨S, 7, none⟩ = some held := by rw [cells_at h1 7]; rfl
  obtain ⟨a7, l7, rfl, HJ⟩ : ∃ a c, held = .slice a n c ∧ Hid (0 < n → ∃ g, a = some ⟨g, 0, none⟩ ∧ ∀ j, j < n → ∀ wr, Below w.heap.size w wr → wr.cell? ⟨g, j, none⟩ = some (ptr (X j).b) ∧ wr.heap[(X j).b]? = some (bufO (X j))) := by
    rcases h2.open with ⟨rfl, rfl⟩ | ⟨g, c, cur, rfl, g2, g3, g4, g5, g6⟩
    · exact ⟨none, _, rfl, fun h => absurd h (by omega)⟩
    · exact ⟨_, c, rfl, fun _ => ⟨g, rfl, fun j hj wr hb => ⟨by rw [hb.cell (p := ⟨g, j, none⟩) (World.block_lt_of_cell? w _ (h2.cell j hj).1)]; exact (h2.cell j hj).1, (hb.block _ (Array.getElem?_eq_some_iff.1 (k.buf j hj)).1).trans (k.buf j hj)⟩⟩⟩
  have HQ : Hid (∀ wr v q f, Chd w n X wr v q f → ∀ j, j < q → ∃ x, IsP wr (f j) x) := fun wr v q f hc j hj => by
    obtain ⟨i, hi, _, e⟩ := hc.of j hj
    exact ⟨((X i).pg : Int), _, by rw [e]; exact (hc.bel.block _ (Array.getElem?_eq_some_iff.1 (k.buf i hi)).1).trans (k.buf i hi), rfl⟩
  clear k h1 h2
  go_enter Tryz.func132, Tryz.ntmps132
  go_wp2
  go_loopw [3, 11] (fun s i wr => ∃ k : Nat, k ≤ n ∧ i = .int .i64 (k : Int) ∧ ∃ a q c, s = .slice a q c ∧ (q : Int) ≤ 5 ∧ Hid (∃ f, Chd w k X wr (.slice a q c) q f)) (fun _ i _ => n - (intOf i).toNat)
  case atStart => exact ⟨0, Nat.zero_le _, rfl, none, 0, 0, rfl, by decide, fun _ => 0, Chd.nil _ _ _⟩
  case round =>
    obtain ⟨k, hk, rfl, a3, q, c3, rfl, hq5, HF⟩ := hrel
    obtain ⟨f, hc⟩ := HF.out
    by_cases hlt : k < n
    · obtain ⟨g, rfl, hg⟩ := HJ.out (by omega)
      obtain ⟨x1, x2⟩ := hg k hlt _ hc.bel
      have HD := s_dirtyG (X k) _ x2
      obtain ⟨b, hb⟩ : ∃ b, (X k).b = b := ⟨_, rfl⟩
      have l1 : (k : Int) < (n : Int) := by omega
      have l2 : (0 : Int) ≤ (k : Int) := by omega
      have hsz := hc.bel.size
      have hql := hc.le
      by_cases hd : 0 < (X k).fi
      · rw [decide_eq_true hd] at HD
        obtain ⟨nw, hnw⟩ : ∃ nw, ([ptr b] : List Value) = nw := ⟨_, rfl⟩
        have hl1 : nw.length = 1 * 1 := by rw [← hnw]; rfl
        have HO1 : Hid (∀ u ∈ nw, u.oneCell' = true) := by rw [← hnw]; exact fun u hu => by simp at hu; rw [hu]; rfl
        have HA : Hid (∀ o, (wr.alloc o).ownsRow w.heap.size 166 1 (.slice a3 q c3) q (rowL f q)) := fun o => World.ownsRow.alloc hc.row o
        have HZ : Hid (∀ o, w.heap.size ≤ (wr.alloc o).heap.size) := fun o => by simp; omega
        have HN : Hid (∀ v' o w2, o = Obj.cells #[.pointer (some ⟨b, 0, none⟩)] 166 → w2.ownsRow w.heap.size 166 1 v' (q + 1) (rowL f q ++ nw) → (wr.alloc o).grownBy w2 (Value.slice a3 q c3).ownBlock → ∃ f', Chd w (k + 1) X w2 v' (q + 1) f') := fun v' o w2 ho hr hg2 => ⟨_, hc.snoc hd ((hc.bel.trans ((Below.refl _ wr).alloc hsz _)).trans ((Below.refl _ _).grown hg2 (HZ.out o) (fun t ht => (World.ownsRow.lt (HA.out o) t ht).1))) (by rw [hb, hnw]; exact hr)⟩
        have HL : Hid (∀ j u, nw[j]? = some u → (wr.alloc (Obj.cells #[.pointer (some ⟨b, 0, none⟩)] 166)).cell? ((⟨wr.heap.size, 0, none⟩ : Addr).add j) = some u) := fun j u hu => by
          rw [← hnw] at hu
          rw [Addr.add_lit, Nat.zero_add, cells_at (heap_alloc_at _ _ _ rfl) j]
          simpa [ptr] using hu
        rw [hb] at x1 HD
        unfold ptr at x1 HD
        have HDh : Hid (Calls Tryz.prog 151 #[.pointer (some ⟨b, 0, none⟩)] wr fun r w' => r = .returned (.bool true) ∧ w' = wr) := HD
        clear hg HD hnw hc HF x2 hd hb
        go_wp2_with fail
        refine HDh.out.mono ?_
        rintro r w1 ⟨rfl, hw⟩
        obtain rfl : wr = w1 := hw.symm
        clear hw HDh
        go_wp2_with (at_builtin; refine wpList_append_own_at _ rfl _ _ 139 rfl w.heap.size 166 i0 (.pointer none) 1 8 Tryz.underlying139 hi0 hz0 hz1 hz2 rfl (by decide) (.slice a3 q c3) q (rowL f q) rfl (HA.out _) ⟨wr.heap.size, 0, none⟩ 1 1 nw rfl hl1 ?q1 ?q2 ?q3 ?q4 ?q5 ?_)
        case q1 => exact HL.out
        case q2 => exact HO1.out
        case q3 => unfold maxLen; omega
        case q4 => omega
        case q5 => exact HZ.out _
        intro v2 w2 ho2 hg2 _ hat
        have HE : Hid (∃ f', Chd w (k + 1) X w2 v2 (q + 1) f') := HN.out v2 _ w2 rfl ho2 hg2
        obtain ⟨a2, c2, rfl⟩ : ∃ a c, v2 = .slice a (q + 1) c := by
          rcases ho2.2 with ⟨h, h'⟩ | ⟨g, cap, cur, h, _⟩
          · omega
          · exact ⟨_, cap, h⟩
        clear HN HA HL ho2 hg2 hat
        go_wp2
        go_roundw
        case rel => exact ⟨k + 1, by omega, by go_num, _, _, _, rfl, by omega, HE⟩
        case measure => simp [intOf]; omega
      · rw [decide_eq_false hd] at HD
        have HE : Hid (∃ f', Chd w (k + 1) X wr (.slice a3 q c3) q f') := ⟨f, hc.skip (by omega)⟩
        rw [hb] at x1 HD
        unfold ptr at x1 HD
        have HDh : Hid (Calls Tryz.prog 151 #[.pointer (some ⟨b, 0, none⟩)] wr fun r w' => r = .returned (.bool false) ∧ w' = wr) := HD
        clear hg HD hc HF x2 hd hb
        go_wp2_with fail
        refine HDh.out.mono ?_
        rintro r w1 ⟨rfl, hw⟩
        obtain rfl : wr = w1 := hw.symm
        clear hw HDh
        go_wp2
        go_roundw
        case rel => exact ⟨k + 1, by omega, by go_num, _, _, _, rfl, hq5, HE⟩
        case measure => simp [intOf]; omega
    · obtain rfl : k = n := by omega
      rcases hc.row.open with ⟨e1, e2⟩ | ⟨g, c, cur, e1, _⟩
      · cases e1
        have HE : Hid (∃ f', Chd w k X wr (.slice none 0 0) 0 f') := ⟨f, hc⟩
        clear hc HF
        go_wp2_with fail
        refine (k_sort0 _ _).mono ?_
        rintro r w1 ⟨rfl, hw⟩
        obtain rfl : wr = w1 := hw.symm
        clear hw
        go_wp2
        go_ret
        exact ⟨_, _, _, rfl, HE⟩
      · injection e1 with e1 _ e3
        subst e1
        have HS : Hid (Calls Tryz.prog 155 #[.slice (some ⟨g, 0, none⟩) q c3, .func (.func 156) #[] #[]] wr fun r w' => r = .returned (.tuple #[]) ∧ Hid (∃ f', Chd w k X w' (.slice (some ⟨g, 0, none⟩) q c3) q f')) := (k_sortW hc.row (by have := hc.le; omega) (HQ.out wr _ q f hc)).mono fun r w' ⟨hr, HE⟩ => ⟨hr, by obtain ⟨f', hs⟩ := HE.out; exact ⟨f', hc.sorted hs⟩⟩
        clear hc HF e3
        go_wp2_with fail
        refine HS.out.mono ?_
        rintro r w1 ⟨rfl, HE⟩
        go_wp2
        go_ret
        exact ⟨_, _, _, rfl, HE⟩
variable {B0 : Nat} {A : Ax} {w w1 : World} {P : Nat → Prop} {S D L bf n M last forced : Nat} {m : Int} {X : Nat → Bf} {e : Nat → Int} {ln : Nat → Nat} {lo : Nat → Nat → Int}
theorem pw_flush (k : Pw B0 A w P S m D L bf n X M e last forced ln lo) (hM : M ≤ 1000000) : Calls Tryz.prog 44 #[.pointer (some ⟨D, 0, none⟩)] w fun r w' => r = .returned (.int .i64 0) ∧ Hid (Pw B0 A w' P S m D L bf n X 0 e last forced ln lo ∧ Part (Fw B0 P w) w w') := by
  obtain ⟨T, F, vt, s1, s2, s3, s4, s5⟩ := k.lay
  obtain ⟨held, h1, _⟩ := k.ps.lay
  refine (sdFlush D 46 M (fun b => F b ∧ Dt w b) e w s1.typed (by omega)).mono fun r w' ⟨hr, hs, hp⟩ => ?_
  have hnt : ∀ b cs t, F b ∧ Dt w b → w.heap[b]? = some (.cells cs t (0, 0)) → t ≠ 166 ∧ t ≠ 170 ∧ t ≠ 143 := fun b cs t hf e => by
    obtain ⟨_, cs', t', e', ht⟩ := hf
    rw [e'] at e
    injection e with e
    injection e with _ e
    subst e
    rcases ht with rfl | rfl | rfl | rfl <;> decide
  have hsz := hp.size
  have s2' := s2.less (F' := fun b => F b ∧ Dt w b) (fun b h => h.1)
  refine ⟨hr, ⟨k.ps.part hp (fun hf => (hnt S _ _ hf h1).2.2 rfl) (fun b cs t hf e => ⟨(hnt b cs t hf e).1, (hnt b cs t hf e).2.1⟩), ⟨T, _, vt, hs, s2'.part hp s2'.nL s2'.nT s2'.nV, fun b h => s3 b h.1, s4, s5⟩, k.pS, k.tab.partG hp (fun h => k.np.1 (s3 _ h.1)), k.np, fun b hb => by have := k.lt b hb; omega, (hp.block _ (Array.getElem?_eq_some_iff.1 k.pl).1 (fun h => k.np.2.1 (s3 _ h.1))).trans k.pl, fun j hj => hp.row (k.ld j hj) (fun b hb h => k.nP j b hj hb (s3 _ h.1)), k.nP, k.cl, k.off, k.pa, k.by_, k.lm, k.dk, k.al, k.nb, k.bl, k.tl⟩, hp.mono (fun b _ h => .inl (s3 b h.1))⟩
end Go.Proofs.YthfokciijcmhbaaGreatDoor

namespace Go.Proofs.YthfokciijcmhbaaGreatDoor
open Go.RowKit
set_option linter.unusedVariables false

variable {B0 : Nat} {A : Ax} {w w1 : World} {P : Nat → Prop} {S D L bf n M last forced : Nat} {m : Int} {X : Nat → Bf} {e : Nat → Int} {ln : Nat → Nat} {lo : Nat → Nat → Int}
/-- All, behind the first j of the dirty buffers: w the world ahead of it, w1 the one behind changed. -/
structure Alq (B0 : Nat) (A : Ax) (w w1 : World) (P : Nat → Prop) (S : Nat) (m : Int) (D L bf n : Nat) (X : Nat → Bf) (M last forced : Nat) (ln : Nat → Nat) (lo : Nat → Nat → Int) (v : Value) (q : Nat) (f : Nat → Nat) (j : Nat) (wr : World) (P' : Nat → Prop) (X' : Nat → Bf) (e' : Nat → Int) (fo' : Nat) : Prop where
  pw : Pw B0 A wr P' S m D L bf n X' (M + j) e' last fo' ln lo
  fo : forced ≤ fo'
  part : Part (Fw B0 P w) w wr
  size : w1.heap.size ≤ wr.heap.size
  low : w.heap.size ≤ w1.heap.size
  new : ∀ b, P' b → P b ∨ w1.heap.size ≤ b
  same : ∀ i, (X' i).b = (X i).b
  left : ∀ i, i < n → 0 < (X' i).fi → ∃ j', j ≤ j' ∧ j' < q ∧ f j' = (X i).b
  row : Rw w.heap.size wr v q f
  rlt : ∀ b, v.ownBlock = some b → w.heap.size ≤ b ∧ b < w1.heap.size
theorem Alq.step {v : Value} {q j i fo' : Nat} {f : Nat → Nat} {wr w' : World} {P' : Nat → Prop} {X' : Nat → Bf} {e' : Nat → Int} (h : Alq B0 A w w1 P S m D L bf n X M last forced ln lo v q f j wr P' X' e' fo') (hw : ∀ b, P b → b < w.heap.size) (hi : i < n) (hf : f j = (X i).b) (hs : Svd B0 A wr P' S m D L bf n (cleanX X' i) (M + j + 1) last fo' ln lo w') : ∃ P2 X2 e2 fo2, Alq B0 A w w1 P S m D L bf n X M last forced ln lo v q f (j + 1) w' P2 X2 e2 fo2 := by
  obtain ⟨P2, e2, fo2, j1, j2, j3, j4⟩ := hs
  have hsz := j3.size
  have hs1 := h.size
  have hsw := h.part.size
  refine ⟨P2, cleanX X' i, e2, fo2, j1, Nat.le_trans h.fo j2, Fw.trans h.part (fun b hb => ?_) (Fq.wide j3), by omega, h.low, fun b hb => ?_, fun i' => by rw [(clean_at X' i i').1]; exact h.same i', fun i' hi' h0 => ?_, h.row.part j3 (fun b hb hq => ?_), h.rlt⟩
  · rcases h.new b hb with h1 | h1
    · exact .inl h1
    · have := h.low; exact .inr (by omega)
  · rcases j4 b hb with h1 | h1
    · exact h.new b h1
    · exact .inr (by omega)
  · by_cases e1 : i' = i
    · subst e1; rw [clean_self] at h0; exact absurd h0 (by simp)
    · rw [clean_other X' e1] at h0
      obtain ⟨j', h1, h2, h3⟩ := h.left i' hi' h0
      refine ⟨j', ?_, h2, h3⟩
      by_cases e2 : j' = j
      · subst e2
        rw [hf, ← h.same, ← h.same] at h3
        exact absurd (h.pw.ps.apart i i' hi hi' h3).symm e1
      · omega
  · have hr := h.rlt b hb
    rcases hq with hq | ⟨hB, cs, t, fz, e3, ht⟩
    · rcases h.new b hq with h1 | h1
      · have := hw b h1; omega
      · omega
    · rcases h.row.open with ⟨e1, _⟩ | ⟨g, c, cur, e1, hg, _⟩
      · rw [e1] at hb; cases hb
      · rw [e1] at hb
        have hb : some g = some b := hb
        injection hb with hb
        subst hb
        rw [hg] at e3
        injection e3 with e3
        injection e3 with _ e3
        subst e3
        rcases ht with ht | ht <;> exact absurd ht (by decide)
/-- What All leaves. -/
def Ald (B0 : Nat) (A : Ax) (w : World) (P : Nat → Prop) (S : Nat) (m : Int) (D L bf n last forced : Nat) (ln : Nat → Nat) (lo : Nat → Nat → Int) (w' : World) : Prop := ∃ X' P' e' fo', Pw B0 A w' P' S m D L bf n X' 0 e' last fo' ln lo ∧ forced ≤ fo' ∧ Part (Fw B0 P w) w w' ∧ (∀ b, P' b → P b ∨ w.heap.size ≤ b) ∧ ∀ i, i < n → (X' i).fi = 0
set_option maxRecDepth 100000 in
set_option maxHeartbeats 4000000 in
theorem p_allW (k : Pw B0 A w P S 0 D L bf n X M e last forced ln lo) (hM : M ≤ 900000) (hsv : ∀ wq P' X' M' e' fo' i, Pw B0 A wq P' S 1 D L bf n X' M' e' last fo' ln lo → forced ≤ fo' → i < n → M' ≤ 1000000 → Calls Tryz.prog 133 #[.pointer (some ⟨S, 0, none⟩), ptr (X' i).b] wq fun r w' => r = .returned (.int .i64 0) ∧ Svd B0 A wq P' S 1 D L bf n (cleanX X' i) (M' + 1) last fo' ln lo w') : Calls Tryz.prog 97 #[.pointer (some ⟨S + 1, 0, none⟩)] w fun r w' => r = .returned (.int .i64 0) ∧ Hid (Ald B0 A w P S 0 D L bf n last forced ln lo w') := by
  have HM : Hid (Calls Tryz.prog 89 #[.pointer (some ⟨S + 1, 0, none⟩)] w fun r w' => r = .returned (.bool false) ∧ w' = w) := pw_missing k
  have HL : Hid (Calls Tryz.prog 31 #[.pointer (some ⟨S, 0, none⟩)] w fun r w' => r = .returned (.tuple #[]) ∧ Hid (Pw B0 A w' P S 1 D L bf n X M e last forced ln lo ∧ Part (fun b => b = S) w w' ∧ w'.heap.size = w.heap.size)) := (p_lock S w k.lock_cell.1 k.lock_cell.2).mono fun r w' ⟨hr, hw⟩ => ⟨hr, by rw [hw]; exact ⟨k.locked 1, k.locks 1, by simp⟩⟩
  have c0 := k.cells
  have nb := k.nb
  have HC : Hid (∀ wq, Pw B0 A wq P S 1 D L bf n X M e last forced ln lo ∧ Part (fun b => b = S) w wq ∧ wq.heap.size = w.heap.size → wq.cell? ⟨S + 1, 0, none⟩ = some (.pointer (some ⟨S, 0, none⟩)) ∧ Hid (Calls Tryz.prog 132 #[.pointer (some ⟨S, 7, none⟩)] wq fun r w' => ∃ a q c, r = .returned (.slice a q c) ∧ (q : Int) ≤ 5 ∧ Hid (∃ f, (∀ j, j < q → ∃ i, i < n ∧ f j = (X i).b) ∧ ∃ P' X' e' fo', Alq B0 A w w' P S 1 D L bf n X M last forced ln lo (.slice a q c) q f 0 w' P' X' e' fo'))) := fun wq ⟨kq, pq, sq⟩ => ⟨kq.cells, (t_changedW kq.ps (by omega)).mono fun r w' ⟨a, q, c, hr, HE⟩ => by
    obtain ⟨f, hc⟩ := HE.out
    have hb := hc.bel
    refine ⟨a, q, c, hr, by have := hc.le; omega, f, fun j hj => by obtain ⟨i, h1, _, h2⟩ := hc.of j hj; exact ⟨i, h1, h2⟩, P, X, e, forced, kq.below hb, Nat.le_refl _, Fw.trans (P' := P) (Fw.locks (w2 := wq) pq k.pS) (fun b h => .inl h) (Part.ofBelow hb), Nat.le_refl _, by have := hb.size; omega, fun b h => .inl h, fun i => rfl, fun i hi h0 => ?_, by rw [← sq]; exact hc.row, fun b hb' => ?_⟩
    · obtain ⟨j, h1, h2⟩ := hc.all i hi h0
      exact ⟨j, Nat.zero_le _, h1, h2⟩
    · have := World.ownsRow.lt hc.row b hb'
      omega⟩
  have HSt : Hid (∀ w1 wr v q f j P' X' e' fo' i, Alq B0 A w w1 P S 1 D L bf n X M last forced ln lo v q f j wr P' X' e' fo' → i < n → f j = (X i).b → (j : Int) ≤ 5 → Calls Tryz.prog 133 #[.pointer (some ⟨S, 0, none⟩), .pointer (some ⟨f j, 0, none⟩)] wr fun r w' => r = .returned (.int .i64 0) ∧ Hid (∃ P2 X2 e2 fo2, Alq B0 A w w1 P S 1 D L bf n X M last forced ln lo v q f (j + 1) w' P2 X2 e2 fo2)) := fun w1 wr v q f j P' X' e' fo' i h hi hf hj => by
    have := hsv wr P' X' (M + j) e' fo' i h.pw h.fo hi (by omega)
    rw [h.same i, ← hf] at this
    exact this.mono fun r w' ⟨hr, hs⟩ => ⟨hr, h.step k.lt hi hf hs⟩
  have HFl : Hid (∀ w1 wr v q f P' X' e' fo', Alq B0 A w w1 P S 1 D L bf n X M last forced ln lo v q f q wr P' X' e' fo' → w.heap.size ≤ w1.heap.size → (q : Int) ≤ 5 → Calls Tryz.prog 44 #[.pointer (some ⟨D, 0, none⟩)] wr fun r w' => r = .returned (.int .i64 0) ∧ Hid (Ald B0 A w P S 1 D L bf n last forced ln lo w')) := fun w1 wr v q f P' X' e' fo' h hw1 hq => (pw_flush h.pw (by omega)).mono fun r w' ⟨hr, HE⟩ => by
    have hn : ∀ b, P' b → P b ∨ w.heap.size ≤ b := fun b hb => (h.new b hb).imp id (fun h => by omega)
    refine ⟨hr, X', P', e', fo', HE.out.1, h.fo, Fw.trans h.part hn HE.out.2, hn, fun i hi => ?_⟩
    by_cases h0 : (X' i).fi = 0
    · exact h0
    · obtain ⟨j', h1, h2, _⟩ := h.left i hi (by omega)
      omega
  have HU : Hid (∀ wq, Ald B0 A w P S 1 D L bf n last forced ln lo wq → CallsD Tryz.prog 32 #[.pointer (some ⟨S, 0, none⟩)] .returning wq fun e u' w' => u' = .returning ∧ (e = .returned (.tuple #[]) ∧ Hid (Ald B0 A w P S 0 D L bf n last forced ln lo w'))) := fun wq ⟨X', P', e', fo', j1, j2, j3, j4, j5⟩ => (pw_unlock j1 .returning).mono fun e u' w' ⟨h1, h2, h3⟩ => ⟨h1, h2, X', P', e', fo', h3.out.1, j2, Fw.trans j3 j4 (Fw.locks (w2 := wq) h3.out.2 j1.pS), j4, j5⟩
  have HK : Hid (∀ w1 wr v q f j P' X' e' fo', Alq B0 A w w1 P S 1 D L bf n X M last forced ln lo v q f j wr P' X' e' fo' → wr.cell? ⟨S + 1, 0, none⟩ = some (.pointer (some ⟨S, 0, none⟩)) ∧ wr.cell? ⟨S, 2, none⟩ = some (.pointer (some ⟨D, 0, none⟩)) ∧ (j < q → ∃ g c, v = .slice (some ⟨g, 0, none⟩) q c ∧ wr.cell? ⟨g, j, none⟩ = some (.pointer (some ⟨f j, 0, none⟩)))) := fun w1 wr v q f j P' X' e' fo' h => by
    obtain ⟨held, h1, _⟩ := h.pw.ps.lay
    refine ⟨h.pw.cells, by rw [cells_at h1 2]; rfl, fun hj => ?_⟩
    rcases h.row.open with ⟨e1, e2⟩ | ⟨g, c, cur, e1, _⟩
    · omega
    · exact ⟨g, c, e1, (Rw.cell (e1 ▸ h.row) j hj).1⟩
  clear k hsv hM
  go_enter_defers Tryz.func97, Tryz.ntmps97
  go_wp2_with fail
  refine HM.out.mono ?_
  rintro r w1 ⟨rfl, hw⟩
  obtain rfl : w = w1 := hw.symm
  clear hw
  go_wp2_with fail
  refine HL.out.mono ?_
  rintro r w1 ⟨rfl, k1⟩
  obtain ⟨c1, HH⟩ := HC.out _ k1.out
  clear c0 HM HL
  go_wp2_with fail
  refine HH.out.mono ?_
  rintro r w2 ⟨a, q, c, rfl, hq5, HE⟩
  obtain ⟨f, hf, P1, X1, e1, fo1, hq1⟩ := HE.out
  have hw2 : w.heap.size ≤ w2.heap.size := hq1.part.size
  have HF : Hid (∀ j, j < q → ∃ i, i < n ∧ f j = (X i).b) := hf
  have H0 : Hid (∃ P' X' e' fo', Alq B0 A w w2 P S 1 D L bf n X M last forced ln lo (.slice a q c) q f 0 w2 P' X' e' fo') := ⟨P1, X1, e1, fo1, hq1⟩
  clear hf hq1 HE HH c1
  go_wp2
  go_loopw [29] (fun i wr => ∃ j : Nat, j ≤ q ∧ i = .int .i64 (j : Int) ∧ Hid (∃ P' X' e' fo', Alq B0 A w w2 P S 1 D L bf n X M last forced ln lo (.slice a q c) q f j wr P' X' e' fo')) (fun i _ => q - (intOf i).toNat)
  case atStart => exact ⟨0, Nat.zero_le _, rfl, H0⟩
  case round =>
    obtain ⟨j, hj, rfl, HG⟩ := hrel
    obtain ⟨P', X', e', fo', hal⟩ := HG.out
    obtain ⟨u1, u2, u3⟩ := HK.out _ _ _ _ _ _ _ _ _ _ hal
    by_cases hlt : j < q
    · obtain ⟨g, c', ev, u4⟩ := u3 hlt
      cases ev
      obtain ⟨i, hi, hfi⟩ := HF.out j hlt
      have HS : Hid (Calls Tryz.prog 133 #[.pointer (some ⟨S, 0, none⟩), .pointer (some ⟨f j, 0, none⟩)] wr fun r w' => r = .returned (.int .i64 0) ∧ Hid (∃ P2 X2 e2 fo2, Alq B0 A w w2 P S 1 D L bf n X M last forced ln lo (.slice (some ⟨g, 0, none⟩) q c) q f (j + 1) w' P2 X2 e2 fo2)) := HSt.out _ _ _ _ _ _ _ _ _ _ i hal hi hfi (by omega)
      have l1 : (j : Int) < (q : Int) := by omega
      have l2 : (0 : Int) ≤ (j : Int) := by omega
      clear hal HG u3 hfi
      go_wp2_with fail
      refine HS.out.mono ?_
      rintro r w3 ⟨rfl, HE⟩
      go_wp2
      go_roundw
      case rel => exact ⟨j + 1, by omega, by go_num, HE⟩
      case measure => simp [intOf]; omega
    · obtain rfl : j = q := by omega
      have HS : Hid (Calls Tryz.prog 44 #[.pointer (some ⟨D, 0, none⟩)] wr fun r w' => r = .returned (.int .i64 0) ∧ Hid (Ald B0 A w P S 1 D L bf n last forced ln lo w')) := HFl.out _ _ _ _ _ _ _ _ _ hal hw2 hq5
      clear hal HG u3
      go_wp2_with fail
      refine HS.out.mono ?_
      rintro r w3 ⟨rfl, HE⟩
      go_wp2
      refine leaves_cons (f := 32) (args := #[.pointer (some ⟨S, 0, none⟩)]) (by simp) (by simp [go_sem]) ?_
      refine (HU.out _ HE.out).mono ?_
      rintro e u' w9 ⟨rfl, rfl, HZ⟩
      exact ⟨_, results_tmp rfl _ _ _, rfl, HZ⟩
end Go.Proofs.YthfokciijcmhbaaGreatDoor
