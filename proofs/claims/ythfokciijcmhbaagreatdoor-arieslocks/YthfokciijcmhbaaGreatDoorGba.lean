/-
  A pool's pages that are put: the state behind buffer.change; Lock, Unlock, has, missing over it.
  Pool.Put, over a pool whose pages are written.
  slices.SortFunc of a row of at most five buffers: the same buffers, in some order.
-/
import Derived.Test.YthfokciijcmhbaaGreatDoorGaz
import Derived.Test.YthfokciijcmhbaaGreatDoorGas
namespace Go.Proofs.YthfokciijcmhbaaGreatDoor
open Go.RowKit
set_option linter.unusedVariables false

variable {B0 : Nat} {A : Ax} {w w1 : World} {P : Nat → Prop} {S D L bf n M last forced : Nat} {m : Int} {X : Nat → Bf} {e : Nat → Int} {ln : Nat → Nat} {lo : Nat → Nat → Int}
/-- The i-th buffer changed. -/
def chX (X : Nat → Bf) (i l : Nat) (v : Value) : Nat → Bf := fun j => if j = i then chB (X i) l v else X j
theorem chX_at (X : Nat → Bf) (i l : Nat) (v : Value) : chX X i l v i = chB (X i) l v := if_pos rfl
theorem chX_ne (X : Nat → Bf) {i j : Nat} (l : Nat) (v : Value) (h : j ≠ i) : chX X i l v j = X j := if_neg h
theorem chX_b (X : Nat → Bf) (i l : Nat) (v : Value) (j : Nat) : (chX X i l v j).b = (X j).b ∧ (chX X i l v j).pg = (X j).pg ∧ (chX X i l v j).pn = (X j).pn := by
  by_cases h : j = i
  · subst h; rw [chX_at]; exact ⟨rfl, rfl, rfl⟩
  · rw [chX_ne X l v h]; exact ⟨rfl, rfl, rfl⟩
theorem Pw.change (k : Pw B0 A w P S m D L bf n X M e last forced ln lo) {i l z : Nat} {v : Value} {f : Nat → Int} (hi : i < n) (hz : (X i).pg = z) (hb : w1.heap[(X i).b]? = some (bufO (chB (X i) l v))) (ho : Own w1 w.heap.size v (lst f 112)) (hp : Part (fun b => b = (X i).b) w w1) (hl : 1 ≤ l ∧ l ≤ 4611686018427387904) (hA : A → l ≤ last) (hby : ∀ i, 0 ≤ f i ∧ f i ≤ 255) : Pw B0 A w1 P S m D L bf n (chX X i l v) M e last forced (upd ln z l) (upd lo z f) ∧ Part (Fw B0 P w) w w1 := by
  obtain ⟨held, h1, h2⟩ := k.ps.lay
  have hb0 := k.ps.buf i hi
  have hsz := hp.size
  have ty : ∀ b cs t, w.heap[b]? = some (.cells cs t (0, 0)) → t ≠ 170 → b ≠ (X i).b := fun b cs t e ht e' => by
    rw [e', hb0] at e
    injection e with e
    injection e with _ e
    exact ht e.symm
  have c0 := fun j => chX_b X i l v j
  obtain ⟨T, F, vt, s1, s2, s3, s4, s5⟩ := k.lay
  obtain ⟨q, place, tl, g, g1, g2, _⟩ := s2.lay
  have hDt : ∀ b, F b ∧ Dt w b → b ≠ (X i).b := fun b hb => by
    obtain ⟨_, cs, t, e, ht⟩ := hb
    exact ty b cs t e (by rcases ht with rfl | rfl | rfl | rfl <;> decide)
  have hV : ∀ b, vt.ownBlock = some b → b ≠ (X i).b := fun b hb => by
    obtain ⟨cur, e⟩ := row_block g2 hb
    exact ty b _ _ e (by decide)
  have hH : ∀ b, held.ownBlock = some b → b ≠ (X i).b := fun b hb e => by
    rcases h2.open with ⟨h, _⟩ | ⟨g, c, cur, h, hg, _⟩
    · rw [h] at hb; cases hb
    · rw [h] at hb
      have hb : some g = some b := hb
      injection hb with hb
      subst hb
      exact ty g _ _ hg (by decide) e
  have hlb : (X i).b < w.heap.size := (Array.getElem?_eq_some_iff.1 hb0).1
  have htb : 0 ≠ (X i).b := fun e' => by
    have t0 := (congrArg (fun b => w.cell? ⟨b, 0, none⟩) e').symm.trans (k.tab 0 (by decide))
    rw [cells_at hb0 0] at t0
    injection t0 with t0
    injection t0 with t0
    exact absurd t0 (by decide)
  refine ⟨⟨⟨⟨held, (hp.block S k.ps.lt (ty S _ _ h1 (by decide))).trans h1, Rw.ext (f := fun j => (X j).b) (hp.row h2 hH) (fun j hj => (c0 j).1.symm)⟩, fun j hj => ?_, fun a b ha hb' e' => ?_, k.ps.nn, k.ps.low⟩, ⟨T, _, vt, s1.typed.part hp hDt, (s2.less (F' := fun b => F b ∧ Dt w b) (fun b h => h.1)).part hp (ty L _ _ g1.hL (by decide)) (ty T _ _ g1.hT (by decide)) hV, fun b h => s3 b h.1, s4, s5⟩, k.pS, k.tab.partG hp htb, k.np, fun b hb => by have := k.lt b hb; omega, (hp.block _ (Array.getElem?_eq_some_iff.1 k.pl).1 (ty (S + 1) _ _ k.pl (by decide))).trans k.pl, fun j hj => ?_, fun j b hj hb' => ?_, fun j hj => ?_, fun p hp' hn => ?_, fun a b ha hb' e' => ?_, fun p i => ?_, fun p => ?_, k.dk, fun a p => ?_, k.nb, fun j hj => by rw [(c0 j).1]; exact k.bl j hj, k.tl⟩, ?_⟩
  · by_cases h : j = i
    · subst h; rw [chX_at]; exact hb
    · rw [chX_ne X l v h]
      exact (hp.block _ (Array.getElem?_eq_some_iff.1 (k.ps.buf j hj)).1 (fun e' => h (k.ps.apart j i hj hi e'))).trans (k.ps.buf j hj)
  · rw [(c0 a).1, (c0 b).1] at e'; exact k.ps.apart a b ha hb' e'
  · by_cases h : j = i
    · subst h
      rw [(c0 j).2.1, hz, upd_at, chX_at]
      exact ho.mono (Nat.zero_le _)
    · rw [(c0 j).2.1, chX_ne X l v h, upd_ne lo f (fun e' => h (k.pa j i hj hi (by rw [hz]; exact e')))]
      exact hp.row (k.ld j hj) (fun b hb' => by obtain ⟨cur, e'⟩ := row_block (k.ld j hj) hb'; exact ty b _ _ e' (by decide))
  · by_cases h : j = i
    · subst h
      rw [chX_at] at hb'
      have hb' : v.ownBlock = some b := hb'
      exact fun hP => by have := k.lt b hP; have := (World.ownsRow.lt ho _ hb').1; omega
    · rw [chX_ne X l v h] at hb'
      exact k.nP j b hj hb'
  · obtain ⟨z1, z2, z3, z4, z5⟩ := k.cl j hj
    rw [(c0 j).2.1, (c0 j).2.2]
    by_cases h : j = i
    · subst h
      rw [hz, upd_at, upd_at, chX_at]
      refine ⟨by omega, z2, rfl, fun h0 => ?_, fun _ => ?_⟩
      · have h0 : (if (X j).fi = 0 then l else (X j).fi) = 0 := h0
        by_cases hf : (X j).fi = 0
        · rw [if_pos hf] at h0; omega
        · rw [if_neg hf] at h0; exact absurd h0 hf
      · show 0 < l; omega
    · have hne : (X j).pg ≠ z := fun e' => h (k.pa j i hj hi (by rw [hz]; exact e'))
      rw [chX_ne X l v h, upd_ne lo f hne, upd_ne ln l hne]
      exact ⟨z1, z2, z3, z4, z5⟩
  · have hne : p ≠ z := fun e' => hn i hi (by rw [(c0 i).2.1, hz, e'])
    rw [upd_ne lo f hne, upd_ne ln l hne]
    exact k.off p hp' (fun j hj e' => hn j hj (by rw [(c0 j).2.1]; exact e'))
  · rw [(c0 a).2.1, (c0 b).2.1] at e'; exact k.pa a b ha hb' e'
  · by_cases h : p = z
    · rw [h, upd_at]; exact hby i
    · rw [upd_ne lo f h]; exact k.by_ p i
  · by_cases h : p = z
    · rw [h, upd_at]; exact hl.2
    · rw [upd_ne ln l h]; exact k.lm p
  · by_cases h : p = z
    · rw [h, upd_at]; exact hA a
    · rw [upd_ne ln l h]; exact k.al a p
  · exact hp.mono (fun b _ e' => by have e' : b = (X i).b := e'; subst e'; exact .inr ⟨k.bl i hi, _, _, _, hb0, .inr rfl⟩)
theorem Pw.lock_cell (k : Pw B0 A w P S m D L bf n X M e last forced ln lo) : w.cell? ⟨S, 0, none⟩ = some (.int .i32 m) ∧ w.frozen? ⟨S, 0, none⟩ = false := by
  obtain ⟨held, h1, _⟩ := k.ps.lay
  exact ⟨by rw [cells_at h1 0]; rfl, cells_free h1 0⟩
theorem Pw.locked (k : Pw B0 A w P S m D L bf n X M e last forced ln lo) (m' : Int) : Pw B0 A (w.setCell ⟨S, 0, none⟩ (.int .i32 m')) P S m' D L bf n X M e last forced ln lo := by
  obtain ⟨h1, h2⟩ := k.ps.locked m'
  obtain ⟨held, e1, _⟩ := k.ps.lay
  have hp : Part (fun b => b = S) w (w.setCell ⟨S, 0, none⟩ (.int .i32 m')) := (Part.refl (fun b => b = S) w).setCell (p := ⟨S, 0, none⟩) (fun _ => rfl) _
  have ty : ∀ b cs t, w.heap[b]? = some (.cells cs t (0, 0)) → t ≠ 143 → b ≠ S := fun b cs t e ht e' => by
    rw [e', e1] at e
    injection e with e
    injection e with _ e
    exact ht e.symm
  obtain ⟨T, F, vt, s1, s2, s3, s4, s5⟩ := k.lay
  obtain ⟨q, place, tl, g, g1, g2, _⟩ := s2.lay
  have hDt : ∀ b, F b ∧ Dt w b → b ≠ S := fun b hb => by
    obtain ⟨_, cs, t, e, ht⟩ := hb
    exact ty b cs t e (by rcases ht with rfl | rfl | rfl | rfl <;> decide)
  have hsz := hp.size
  have low := k.ps.low
  have tl := k.tl
  exact ⟨h1, ⟨T, _, vt, s1.typed.part hp hDt, (s2.less (F' := fun b => F b ∧ Dt w b) (fun b h => h.1)).part hp (ty L _ _ g1.hL (by decide)) (ty T _ _ g1.hT (by decide)) (fun b hb => by obtain ⟨cur, e'⟩ := row_block g2 hb; exact ty b _ _ e' (by decide)), fun b h => s3 b h.1, s4, s5⟩, k.pS, k.tab.partG hp (by omega), k.np, fun b hb => by have := k.lt b hb; omega, (hp.block _ (Array.getElem?_eq_some_iff.1 k.pl).1 (by omega)).trans k.pl, fun j hj => hp.row (k.ld j hj) (fun b hb => by obtain ⟨cur, e'⟩ := row_block (k.ld j hj) hb; exact ty b _ _ e' (by decide)), k.nP, k.cl, k.off, k.pa, k.by_, k.lm, k.dk, k.al, k.nb, k.bl, k.tl⟩
theorem Pw.locks (k : Pw B0 A w P S m D L bf n X M e last forced ln lo) (m' : Int) : Part (fun b => b = S) w (w.setCell ⟨S, 0, none⟩ (.int .i32 m')) := (Part.refl (fun b => b = S) w).setCell (p := ⟨S, 0, none⟩) (fun _ => rfl) _
theorem Pw.cells (k : Pw B0 A w P S m D L bf n X M e last forced ln lo) : w.cell? ⟨S + 1, 0, none⟩ = some (.pointer (some ⟨S, 0, none⟩)) := by rw [cells_at k.pl 0]; rfl
theorem pw_lock (k : Pw B0 A w P S 0 D L bf n X M e last forced ln lo) : Calls Tryz.prog 31 #[.pointer (some ⟨S, 0, none⟩)] w fun r w' => r = .returned (.tuple #[]) ∧ Hid (Pw B0 A w' P S 1 D L bf n X M e last forced ln lo ∧ Part (fun b => b = S) w w') :=
  (p_lock S w k.lock_cell.1 k.lock_cell.2).mono fun r w' ⟨hr, hw⟩ => ⟨hr, by rw [hw]; exact ⟨k.locked 1, k.locks 1⟩⟩
theorem pw_unlock (k : Pw B0 A w P S 1 D L bf n X M e last forced ln lo) (u : FrameMode) : CallsD Tryz.prog 32 #[.pointer (some ⟨S, 0, none⟩)] u w fun e' u' w' => u' = u ∧ (e' = .returned (.tuple #[]) ∧ Hid (Pw B0 A w' P S 0 D L bf n X M e last forced ln lo ∧ Part (fun b => b = S) w w')) :=
  (unlock_deferred ⟨S, 0, none⟩ u w k.lock_cell.1 k.lock_cell.2).mono fun e u' w' ⟨h1, h2, h3⟩ => ⟨h1, h2, by rw [h3]; exact ⟨k.locked 0, k.locks 0⟩⟩
theorem pw_missing (k : Pw B0 A w P S m D L bf n X M e last forced ln lo) : Calls Tryz.prog 89 #[.pointer (some ⟨S + 1, 0, none⟩)] w fun r w' => r = .returned (.bool false) ∧ w' = w := by
  have c0 : w.cell? ⟨S + 1, 0, none⟩ = some (.pointer (some ⟨S, 0, none⟩)) := k.cells
  clear k
  go_enter Tryz.func89, Tryz.ntmps89
  go_wp2
  go_ret
  exact ⟨rfl, rfl⟩
theorem pw_has (k : Pw B0 A w P S m D L bf n X M e last forced ln lo) (z : Nat) (hz : z < 6) : Calls Tryz.prog 90 #[.pointer (some ⟨S, 0, none⟩), .int .i64 (z : Int)] w fun r w' => r = .returned (.bool true) ∧ w' = w := by
  obtain ⟨held, h1, _⟩ := k.ps.lay
  have c5 : w.cell? ⟨S, 5, none⟩ = some (.int .i64 6) := by rw [cells_at h1 5]; rfl
  have d1 : decide ((0 : Int) ≤ (z : Int)) = true := decide_eq_true (by omega)
  have d2 : decide ((z : Int) < 6) = true := decide_eq_true (by omega)
  clear k h1
  go_enter Tryz.func90, Tryz.ntmps90
  go_wp2
  go_ret
  exact ⟨rfl, rfl⟩
end Go.Proofs.YthfokciijcmhbaaGreatDoor

namespace Go.Proofs.YthfokciijcmhbaaGreatDoor
open Go.RowKit
set_option linter.unusedVariables false

variable {B0 : Nat} {A : Ax} {w w1 : World} {P : Nat → Prop} {S D L bf n M last forced : Nat} {m : Int} {X : Nat → Bf} {e : Nat → Int} {ln : Nat → Nat} {lo : Nat → Nat → Int}
theorem add_block (y : Addr) (j : Nat) : (y.add j).block = y.block := by unfold Addr.add; split <;> rfl
theorem Fw.locks {w1 w2 : World} (hp : Part (fun b => b = S) w w1) (hS : P S) : Part (Fw B0 P w) w w1 := hp.mono (fun b _ e => .inl (by have e : b = S := e; rw [e]; exact hS))
/-- What Put leaves. -/
def Ptd (B0 : Nat) (A : Ax) (w : World) (P : Nat → Prop) (S : Nat) (m : Int) (D L bf M last forced : Nat) (ln : Nat → Nat) (lo : Nat → Nat → Int) (w' : World) : Prop := ∃ n' X', Lft B0 A w P S m D L bf n' X' M last forced ln lo w' (fun _ _ _ => True)
set_option maxRecDepth 100000 in
set_option maxHeartbeats 2000000 in
theorem p_putW (k : Pw B0 A w P S 0 D L bf n X M e last forced ln lo) (z l : Nat) (hz : z < 6) (hl : 1 ≤ l ∧ l ≤ 4611686018427387904) (hA : A → l ≤ last) (a0 : Option Addr) (c : Nat) (f : Nat → Int) (hf : From w a0 112 f) (hnf : ∀ y, a0 = some y → ¬ Fw B0 P w y.block) (hby : ∀ i, 0 ≤ f i ∧ f i ≤ 255) (hM : M ≤ 1000000) (hbf : 0 < bf) (hsv : ∀ wq, 0 < n → Pw B0 A wq P S 1 D L bf n X M e last forced ln lo → Calls Tryz.prog 133 #[.pointer (some ⟨S, 0, none⟩), ptr (X 0).b] wq fun r w' => r = .returned (.int .i64 0) ∧ Svd B0 A wq P S 1 D L bf n (cleanX X 0) (M + 1) last forced ln lo w') : Calls Tryz.prog 85 #[.pointer (some ⟨S + 1, 0, none⟩), .int .i64 (z : Int), .int .i64 (l : Int), .slice a0 112 c] w fun r w' => r = .returned (.int .i64 0) ∧ Hid (Ptd B0 A w P S 0 D L bf (M + 1) last forced (upd ln z l) (upd lo z f) w') := by
  have HM : Hid (Calls Tryz.prog 89 #[.pointer (some ⟨S + 1, 0, none⟩)] w fun r w' => r = .returned (.bool false) ∧ w' = w) := pw_missing k
  have HL : Hid (Calls Tryz.prog 31 #[.pointer (some ⟨S, 0, none⟩)] w fun r w' => r = .returned (.tuple #[]) ∧ Hid (Pw B0 A w' P S 1 D L bf n X M e last forced ln lo ∧ Part (fun b => b = S) w w')) := pw_lock k
  have c0 := k.cells
  have hsz0 : ∀ y, a0 = some y → y.block < w.heap.size := fun y hy => by
    rcases hf with ⟨h1, _⟩ | ⟨y', h1, h2⟩
    · rw [h1] at hy; cases hy
    · rw [h1] at hy
      injection hy with hy
      subst hy
      have := World.block_lt_of_cell? w _ (h2 0 (by decide))
      rw [add_block] at this
      exact this
  have HC : Hid (∀ wq, Pw B0 A wq P S 1 D L bf n X M e last forced ln lo ∧ Part (fun b => b = S) w wq → wq.cell? ⟨S + 1, 0, none⟩ = some (.pointer (some ⟨S, 0, none⟩)) ∧ Hid (Calls Tryz.prog 90 #[.pointer (some ⟨S, 0, none⟩), .int .i64 (z : Int)] wq fun r w' => r = .returned (.bool true) ∧ w' = wq)) := fun wq kq => ⟨kq.1.cells, pw_has kq.1 z hz⟩
  have HB : Hid (∀ wq, Pw B0 A wq P S 1 D L bf n X M e last forced ln lo ∧ Part (fun b => b = S) w wq → Calls Tryz.prog 91 #[.pointer (some ⟨S, 0, none⟩), .int .i64 (z : Int)] wq fun r w' => ∃ b, r = .returned (.tuple #[.pointer (some ⟨b, 0, none⟩), .int .i64 0]) ∧ Hid (Calls Tryz.prog 123 #[.pointer (some ⟨b, 0, none⟩), .int .i64 (l : Int), .slice a0 112 c] w' fun r w2 => r = .returned (.tuple #[]) ∧ Hid (Ptd B0 A w P S 1 D L bf (M + 1) last forced (upd ln z l) (upd lo z f) w2))) := fun wq ⟨kq, pq⟩ => (s_bringW kq z hz hM hbf hsv).mono fun r w' ⟨b, hr, HE⟩ => by
    obtain ⟨n', X', e1, e2, P', e', fo', j1, j2, j3, j4, _⟩ := HE.out
    refine ⟨b, hr, ?_⟩
    have p1 : Part (Fw B0 P w) w w' := Fw.trans (P' := P) (Fw.locks (w2 := wq) pq k.pS) (fun b h => .inl h) j3
    have hf' : From w' a0 112 f := by
      rcases hf with h1 | ⟨y, h1, h2⟩
      · exact .inl h1
      · exact .inr ⟨y, h1, fun j hj => p1.cell (fun h => hnf y h1 (by rw [← add_block y j]; exact h)) (h2 j hj)⟩
    have hb := j1.ps.buf n' (Nat.lt_succ_self _)
    have hch := b_change (X' n') l a0 c f w' hb hf' (fun y hy e3 => hnf y hy (by
      have := p1.block y.block (hsz0 y hy) (hnf y hy)
      rw [e3, hb] at this
      rw [e3]
      exact .inr ⟨j1.bl n' (Nat.lt_succ_self _), _, _, _, this.symm, .inr rfl⟩))
    rw [e1] at hch
    refine hch.mono fun r w2 ⟨hr2, v, i1, i2, i3⟩ => ⟨hr2, n' + 1, _, P', e', fo', (j1.change (Nat.lt_succ_self _) e2 (by rw [e1]; exact i1) i2 (by rw [e1]; exact i3) hl hA hby).1, j2, Fw.trans p1 (fun b h => ?_) (j1.change (Nat.lt_succ_self _) e2 (by rw [e1]; exact i1) i2 (by rw [e1]; exact i3) hl hA hby).2, fun b h => ?_, trivial⟩
    all_goals
      rcases j4 b h with h | h
      · exact .inl h
      · have := pq.size
        exact .inr (by omega)
  have HU : Hid (∀ wq, Ptd B0 A w P S 1 D L bf (M + 1) last forced (upd ln z l) (upd lo z f) wq → CallsD Tryz.prog 32 #[.pointer (some ⟨S, 0, none⟩)] .returning wq fun e u' w' => u' = .returning ∧ (e = .returned (.tuple #[]) ∧ Hid (Ptd B0 A w P S 0 D L bf (M + 1) last forced (upd ln z l) (upd lo z f) w'))) := fun wq ⟨n', X', P', e', fo', j1, j2, j3, j4, _⟩ => (pw_unlock j1 .returning).mono fun e u' w' ⟨h1, h2, h3⟩ => ⟨h1, h2, n', X', P', e', fo', h3.out.1, j2, Fw.trans j3 j4 (Fw.locks (w2 := wq) h3.out.2 j1.pS), j4, trivial⟩
  have hz' : (z : Int) < 6 := by omega
  have hz0 : (0 : Int) ≤ (z : Int) := by omega
  have hl1 : decide ((l : Int) < 1) = false := decide_eq_false (by omega)
  have hl2 : decide ((4611686018427387904 : Int) < (l : Int)) = false := decide_eq_false (by omega)
  clear k hf hnf hsv hsz0 hl hA hM
  go_enter_defers Tryz.func85, Tryz.ntmps85
  go_wp2_with fail
  refine HM.out.mono ?_
  rintro r w1 ⟨rfl, hw⟩
  obtain rfl : w = w1 := hw.symm
  clear hw
  go_wp2_with fail
  refine HL.out.mono ?_
  rintro r w1 ⟨rfl, k1⟩
  obtain ⟨c1, HH⟩ := HC.out _ k1.out
  clear c0 HM HL
  go_wp2_with fail
  refine HH.out.mono ?_
  rintro r w2 ⟨rfl, hw⟩
  obtain rfl : w1 = w2 := hw.symm
  clear hw
  go_wp2_with fail
  refine (HB.out _ k1.out).mono ?_
  rintro r w2 ⟨b, rfl, HE⟩
  go_wp2_with fail
  refine HE.out.mono ?_
  rintro r w3 ⟨rfl, HF⟩
  go_wp2
  refine leaves_cons (f := 32) (args := #[.pointer (some ⟨S, 0, none⟩)]) (by simp) (by simp [go_sem]) ?_
  refine (HU.out _ HF.out).mono ?_
  rintro e u' w9 ⟨rfl, rfl, HZ⟩
  exact ⟨_, results_tmp rfl _ _ _, rfl, HZ⟩
end Go.Proofs.YthfokciijcmhbaaGreatDoor

namespace Go.Proofs.YthfokciijcmhbaaGreatDoor
open Go.RowKit
set_option linter.unusedVariables false

theorem k_nan (x : Int) (w : World) : Calls Tryz.prog 172 #[.int .i64 x] w fun r w' => r = .returned (.bool false) ∧ w' = w := by
  go_enter Tryz.func172, Tryz.ntmps172
  go_wp2
  go_ret
  first | exact ⟨rfl, rfl⟩ | (refine ⟨?_, rfl⟩; simp)
def cmpV (x y : Int) : Int := if x < y then -1 else if y < x then 1 else 0
set_option maxRecDepth 100000 in
theorem k_cmpI (x y : Int) (w : World) : Calls Tryz.prog 157 #[.int .i64 x, .int .i64 y] w fun r w' => r = .returned (.int .i64 (cmpV x y)) ∧ w' = w := by
  have HN : Hid (∀ x, Calls Tryz.prog 172 #[.int .i64 x] w fun r w' => r = .returned (.bool false) ∧ w' = w) := fun x => k_nan x w
  have key : ∀ z : Int, Hid (cmpV x y = z) → (decide (x < y) = true → z = -1) → (decide (x < y) = false → decide (y < x) = true → z = 1) → (decide (x < y) = false → decide (y < x) = false → z = 0) → Calls Tryz.prog 157 #[.int .i64 x, .int .i64 y] w fun r w' => r = .returned (.int .i64 z) ∧ w' = w := fun z hz h1 h2 h3 => by
    have HH : Hid ((decide (x < y) = true → z = -1) ∧ (decide (x < y) = false → decide (y < x) = true → z = 1) ∧ (decide (x < y) = false → decide (y < x) = false → z = 0)) := ⟨h1, h2, h3⟩
    clear h1 h2 h3 hz
    have hc : (∃ d : Bool, decide (x < y) = d) := ⟨_, rfl⟩
    obtain ⟨d, hd⟩ := hc
    obtain ⟨d', hd'⟩ : ∃ d : Bool, decide (y < x) = d := ⟨_, rfl⟩
    cases d <;> cases d'
    all_goals
      have HZ := HH.out
      simp only [hd, hd', true_implies, false_implies, Bool.false_eq_true, Bool.true_eq_false, and_true, true_and] at HZ
      clear HH
      subst HZ
      go_enter Tryz.func157, Tryz.ntmps157
      go_wp2_with fail
      refine (HN.out x).mono ?_
      rintro r w1 ⟨rfl, hw⟩
      obtain rfl : w = w1 := hw.symm
      clear hw
      go_wp2_with fail
      refine (HN.out y).mono ?_
      rintro r w1 ⟨rfl, hw⟩
      obtain rfl : w = w1 := hw.symm
      clear hw
      go_wp2
      go_ret
      exact ⟨rfl, rfl⟩
  refine key _ rfl (fun h => ?_) (fun h h' => ?_) (fun h h' => ?_)
  · unfold cmpV; rw [if_pos (of_decide_eq_true h)]
  · unfold cmpV; rw [if_neg (of_decide_eq_false h), if_pos (of_decide_eq_true h')]
  · unfold cmpV; rw [if_neg (of_decide_eq_false h), if_neg (of_decide_eq_false h')]
/-- A buffer's block with its page's number. -/
def IsP (w : World) (b : Nat) (x : Int) : Prop := ∃ cs : Array Value, w.heap[b]? = some (.cells cs 170 (0, 0)) ∧ cs[0]? = some (.int .i64 x)
theorem IsP.cell {w : World} {b : Nat} {x : Int} (h : IsP w b x) : w.cell? ⟨b, 0, none⟩ = some (.int .i64 x) := by
  obtain ⟨cs, h1, h2⟩ := h
  rw [cells_at h1 0]
  exact h2
set_option maxRecDepth 100000 in
theorem k_cmpC (a b : Nat) (x y : Int) (w : World) (ha : IsP w a x) (hb : IsP w b y) : Calls Tryz.prog 156 #[.pointer (some ⟨a, 0, none⟩), .pointer (some ⟨b, 0, none⟩)] w fun r w' => r = .returned (.int .i64 (cmpV x y)) ∧ ∃ q, w' = w.drewN q := by
  have c1 := ha.cell
  have c2 := hb.cell
  have HC : Hid (∀ q, Calls Tryz.prog 157 #[.int .i64 x, .int .i64 y] (w.drewN q) fun r w' => r = .returned (.int .i64 (cmpV x y)) ∧ w' = w.drewN q) := fun q => k_cmpI x y _
  clear ha hb
  go_enter Tryz.func156, Tryz.ntmps156
  go_wp2_with fail
  go_quiet (first
    | (go_at_call 157; exact Calls.quiet_of_same (HC.out _)))
  go_wp2
  go_ret
  exact ⟨rfl, _, rfl⟩
/-- The same blocks, in some order. -/
def Sm (f g : Nat → Nat) (n : Nat) : Prop := (∀ j, j < n → ∃ i, i < n ∧ g j = f i) ∧ ∀ i, i < n → ∃ j, j < n ∧ g j = f i
theorem Sm.refl (f : Nat → Nat) (n : Nat) : Sm f f n := ⟨fun j hj => ⟨j, hj, rfl⟩, fun i hi => ⟨i, hi, rfl⟩⟩
def swp (g : Nat → Nat) (j : Nat) : Nat → Nat := fun i => if i = j - 1 then g j else if i = j then g (j - 1) else g i
theorem Sm.swap {f g : Nat → Nat} {n j : Nat} (h : Sm f g n) (h0 : 0 < j) (hj : j < n) : Sm f (swp g j) n := by
  refine ⟨fun i hi => ?_, fun i hi => ?_⟩
  · unfold swp
    by_cases e1 : i = j - 1
    · rw [if_pos e1]; exact h.1 j hj
    · rw [if_neg e1]
      by_cases e2 : i = j
      · rw [if_pos e2]; exact h.1 (j - 1) (by omega)
      · rw [if_neg e2]; exact h.1 i hi
  · obtain ⟨t, ht, e⟩ := h.2 i hi
    by_cases e1 : t = j
    · exact ⟨j - 1, by omega, by unfold swp; rw [if_pos rfl, ← e1, e]⟩
    · by_cases e2 : t = j - 1
      · exact ⟨j, hj, by unfold swp; rw [if_neg (by omega), if_pos rfl, ← e2, e]⟩
      · exact ⟨t, ht, by unfold swp; rw [if_neg e2, if_neg e1, e]⟩
/-- A row that is being sorted. -/
structure Srt (B0 : Nat) (w : World) (g n c : Nat) (f : Nat → Nat) (wr : World) (f' : Nat → Nat) : Prop where
  sm : Sm f f' n
  rw_ : Rw B0 wr (.slice (some ⟨g, 0, none⟩) n c) n f'
  part : Part (fun b => b = g) w wr
theorem Srt.drewN {B0 : Nat} {w : World} {g n c : Nat} {f : Nat → Nat} {wr : World} {f' : Nat → Nat} (h : Srt B0 w g n c f wr f') (q : Nat) : Srt B0 w g n c f (wr.drewN q) f' :=
  ⟨h.sm, h.rw_.part (Part.ofBelow (F := fun _ => False) (blw_drewN q (Below.refl _ wr))) (fun _ _ h => h), h.part.drewN q⟩
theorem Srt.swap {B0 : Nat} {w : World} {g n c : Nat} {f : Nat → Nat} {wr : World} {f' : Nat → Nat} {t : Nat} (h : Srt B0 w g n c f wr f') (ht : t + 1 < n) : Srt B0 w g n c f ((wr.setCell ⟨g, t + 1, none⟩ (.pointer (some ⟨f' t, 0, none⟩))).setCell ⟨g, t, none⟩ (.pointer (some ⟨f' (t + 1), 0, none⟩))) (swp f' (t + 1)) := by
  refine ⟨h.sm.swap (by omega) ht, ?_, (h.part.setCell (p := ⟨g, t + 1, none⟩) (fun _ => rfl) _).setCell (p := ⟨g, t, none⟩) (fun _ => rfl) _⟩
  exact (h.rw_.set (t + 1) ht (f' t)).set t (by omega) (f' (t + 1))
theorem Srt.at {B0 : Nat} {w : World} {g n c : Nat} {f : Nat → Nat} {wr : World} {f' : Nat → Nat} (h : Srt B0 w g n c f wr f') (h0 : Rw B0 w (.slice (some ⟨g, 0, none⟩) n c) n f) (hP : ∀ j, j < n → ∃ x, IsP w (f j) x) (j : Nat) (hj : j < n) : ∃ x, IsP wr (f' j) x ∧ wr.cell? ⟨g, j, none⟩ = some (.pointer (some ⟨f' j, 0, none⟩)) ∧ wr.frozen? ⟨g, j, none⟩ = false := by
  obtain ⟨i, hi, e⟩ := h.sm.1 j hj
  obtain ⟨x, cs, h1, h2⟩ := hP i hi
  have hg : ∃ cur, w.heap[g]? = some (.cells cur 166 (0, 0)) := by
    rcases h0.open with ⟨h, _⟩ | ⟨g', c', cur, h, hg, _⟩
    · cases h
    · injection h with h
      injection h with h
      injection h with h
      subst h
      exact ⟨cur, hg⟩
  obtain ⟨cur, hg⟩ := hg
  have hne : f i ≠ g := fun e' => by
    rw [e', hg] at h1
    injection h1 with h1
    injection h1 with _ h1
    exact absurd h1 (by decide)
  refine ⟨x, ⟨cs, ?_, h2⟩, (h.rw_.cell j hj).1, (h.rw_.cell j hj).2⟩
  rw [e]
  exact (h.part.block _ (Array.getElem?_eq_some_iff.1 h1).1 hne).trans h1
set_option maxRecDepth 100000 in
set_option maxHeartbeats 4000000 in
theorem k_insW {B0 : Nat} {w : World} {g n c : Nat} {f : Nat → Nat} (h : Rw B0 w (.slice (some ⟨g, 0, none⟩) n c) n f) (hn : n ≤ 5) (hP : ∀ j, j < n → ∃ x, IsP w (f j) x) :
    Calls Tryz.prog 185 #[.slice (some ⟨g, 0, none⟩) n c, .int .i64 0, .int .i64 (n : Int), .func (.func 156) #[] #[]] w fun r w' => r = .returned (.tuple #[]) ∧ Hid (∃ f', Srt B0 w g n c f w' f') := by
  have HA : Hid (∀ wr f', Srt B0 w g n c f wr f' → ∀ j, j < n → ∃ x, IsP wr (f' j) x ∧ wr.cell? ⟨g, j, none⟩ = some (.pointer (some ⟨f' j, 0, none⟩)) ∧ wr.frozen? ⟨g, j, none⟩ = false) := fun wr f' hs j hj => hs.at h hP j hj
  have HC : Hid (∀ wr f', Srt B0 w g n c f wr f' → ∀ t, t + 1 < n → ∃ z, ∀ q, Calls Tryz.prog 156 #[.pointer (some ⟨f' (t + 1), 0, none⟩), .pointer (some ⟨f' t, 0, none⟩)] (wr.drewN q) fun r w' => r = .returned (.int .i64 z) ∧ ∃ m, w' = (wr.drewN q).drewN m) := fun wr f' hs t ht => by
    obtain ⟨x, hx, _⟩ := hs.at h hP (t + 1) ht
    obtain ⟨y, hy, _⟩ := hs.at h hP t (by omega)
    refine ⟨cmpV x y, fun q => k_cmpC _ _ x y _ ?_ ?_⟩
    · obtain ⟨cs, h1, h2⟩ := hx; exact ⟨cs, by rw [← h1]; exact (blw_drewN q (Below.refl wr.heap.size wr)).block _ (Array.getElem?_eq_some_iff.1 h1).1, h2⟩
    · obtain ⟨cs, h1, h2⟩ := hy; exact ⟨cs, by rw [← h1]; exact (blw_drewN q (Below.refl wr.heap.size wr)).block _ (Array.getElem?_eq_some_iff.1 h1).1, h2⟩
  have H0 : Hid (Srt B0 w g n c f w f) := ⟨Sm.refl f n, h, Part.refl _ w⟩
  have hc : n ≤ c := by
    rcases h.open with ⟨h, _⟩ | ⟨g', c', cur, h, _, _, h4, _⟩
    · cases h
    · injection h with _ _ h
      omega
  clear h hP
  go_enter Tryz.func185, Tryz.ntmps185
  go_wp2
  go_loopw [8] (fun s wr => ∃ k : Nat, 1 ≤ k ∧ (k : Int) ≤ 6 ∧ s = .int .i64 (k : Int) ∧ Hid (∃ f', Srt B0 w g n c f wr f')) (fun s _ => 10 - (intOf s).toNat)
  case atStart => exact ⟨1, by omega, by omega, by go_num, ⟨f, H0.out⟩⟩
  case round =>
    obtain ⟨k, hk1, hk6, rfl, HF⟩ := hrel
    by_cases hlt : k < n
    · have l1 : (k : Int) < (n : Int) := by omega
      go_wp2
      go_loopw [9] (fun s wr => ∃ j : Nat, (j : Int) ≤ (k : Int) ∧ s = .int .i64 (j : Int) ∧ Hid (∃ f', Srt B0 w g n c f wr f')) (fun s _ => (intOf s).toNat)
      case atStart => exact ⟨k, by omega, rfl, HF⟩
      case round =>
        obtain ⟨j, hj, rfl, HG⟩ := hrel
        obtain ⟨f', hs⟩ := HG.out
        cases j with
        | zero =>
          go_wp2
          go_quiet (fail)
          go_wp2
          go_roundw
          case rel => exact ⟨k + 1, by omega, by omega, by go_num, ⟨f', hs.drewN _⟩⟩
          case measure => simp [intOf]; omega
        | succ t =>
          obtain ⟨z, hz⟩ := HC.out _ f' hs t (by omega)
          obtain ⟨_, _, x1, y1⟩ := HA.out _ f' hs (t + 1) (by omega)
          obtain ⟨_, _, x2, y2⟩ := HA.out _ f' hs t (by omega)
          have HZ : Hid (∀ q, Calls Tryz.prog 156 #[.pointer (some ⟨f' (t + 1), 0, none⟩), .pointer (some ⟨f' t, 0, none⟩)] (wr.drewN q) fun r w' => r = .returned (.int .i64 z) ∧ ∃ m, w' = (wr.drewN q).drewN m) := hz
          have HS : Hid (Srt B0 w g n c f wr f') := hs
          have HW : Hid (∀ q, Srt B0 w g n c f (((wr.drewN q).setCell ⟨g, t + 1, none⟩ (.pointer (some ⟨f' t, 0, none⟩))).setCell ⟨g, t, none⟩ (.pointer (some ⟨f' (t + 1), 0, none⟩))) (swp f' (t + 1))) := fun q => (hs.drewN q).swap (by omega)
          have l2 : (t : Int) + 1 < (n : Int) := by omega
          have l3 : (t : Int) < (n : Int) := by omega
          have l4 : (0 : Int) ≤ (t : Int) := by omega
          have l5 : (n : Int) ≤ 5 := by omega
          obtain ⟨d, hd⟩ : ∃ d : Bool, decide (z < 0) = d := ⟨_, rfl⟩
          clear hs hz HG
          cases d
          · go_wp2
            go_quiet (first
              | (go_at_call 156; exact Calls.quiet_of (HZ.out _)))
            go_wp2
            go_roundw
            case rel => exact ⟨k + 1, by omega, by omega, by go_num, ⟨f', HS.out.drewN _⟩⟩
            case measure => simp [intOf]; omega
          · go_wp2
            go_quiet (first
              | (go_at_call 156; exact Calls.quiet_of (HZ.out _)))
            go_wp2_with fail
            have HS2 : Hid (Srt B0 w g n c f (wr.drewN nq) f') := HS.out.drewN nq
            have HW2 : Hid (Srt B0 w g n c f (((wr.drewN nq).drew.setCell ⟨g, t + 1, none⟩ (.pointer (some ⟨f' t, 0, none⟩))).setCell ⟨g, t, none⟩ (.pointer (some ⟨f' (t + 1), 0, none⟩))) (swp f' (t + 1))) := HW.out (nq + 1)
            clear x1 x2 y1 y2 HW HS HZ
            generalize wr.drewN nq = W at *
            obtain ⟨_, _, x1, y1⟩ := HA.out _ f' HS2.out (t + 1) (by omega)
            obtain ⟨_, _, x2, y2⟩ := HA.out _ f' HS2.out t (by omega)
            clear HS2
            go_region
            all_goals
              go_wp2
              go_roundw
              case rel => exact ⟨t, by omega, by go_num, ⟨_, HW2.out⟩⟩
              case measure => simp [intOf]
    · have l1 : ¬ (k : Int) < (n : Int) := by omega
      go_wp2
      go_end0
      exact ⟨rfl, HF⟩
set_option maxRecDepth 100000 in
set_option maxHeartbeats 2000000 in
theorem k_len64W (n : Nat) (hn : n ≤ 5) (w : World) : Calls Tryz.prog 183 #[.int .u64 (n : Int)] w fun r w' => (∃ z : Int, r = .returned (.int .i64 z)) ∧ w' = w := by
  obtain rfl | rfl | rfl | rfl | rfl | rfl : n = 0 ∨ n = 1 ∨ n = 2 ∨ n = 3 ∨ n = 4 ∨ n = 5 := by omega
  all_goals
    go_enter Tryz.func183, Tryz.ntmps183
    go_wp2
    go_ret
    exact ⟨⟨_, rfl⟩, rfl⟩
set_option maxRecDepth 100000 in
set_option maxHeartbeats 2000000 in
theorem k_lenW (n : Nat) (hn : n ≤ 5) (w : World) : Calls Tryz.prog 167 #[.int .u64 (n : Int)] w fun r w' => (∃ z : Int, r = .returned (.int .i64 z)) ∧ w' = w := by
  have HL : Hid (Calls Tryz.prog 183 #[.int .u64 (n : Int)] w fun r w' => (∃ z : Int, r = .returned (.int .i64 z)) ∧ w' = w) := k_len64W n hn w
  have l1 : (n : Int) ≤ 5 := by omega
  go_enter Tryz.func167, Tryz.ntmps167
  go_wp2_with fail
  refine HL.out.mono ?_
  rintro r w1 ⟨⟨z, rfl⟩, hw⟩
  obtain rfl : w = w1 := hw.symm
  go_wp2
  go_ret
  exact ⟨⟨_, rfl⟩, rfl⟩
set_option maxRecDepth 100000 in
set_option maxHeartbeats 2000000 in
theorem k_pdqW {B0 : Nat} {w : World} {g n c : Nat} {f : Nat → Nat} (z : Int) (h : Rw B0 w (.slice (some ⟨g, 0, none⟩) n c) n f) (hn : n ≤ 5) (hP : ∀ j, j < n → ∃ x, IsP w (f j) x) : Calls Tryz.prog 171 #[.slice (some ⟨g, 0, none⟩) n c, .int .i64 0, .int .i64 (n : Int), .int .i64 z, .func (.func 156) #[] #[]] w fun r w' => r = .returned (.tuple #[]) ∧ Hid (∃ f', Srt B0 w g n c f w' f') := by
  have HI : Hid (Calls Tryz.prog 185 #[.slice (some ⟨g, 0, none⟩) n c, .int .i64 0, .int .i64 (n : Int), .func (.func 156) #[] #[]] w fun r w' => r = .returned (.tuple #[]) ∧ Hid (∃ f', Srt B0 w g n c f w' f')) := k_insW h hn hP
  have l1 : (n : Int) ≤ 5 := by omega
  have l2 : decide ((n : Int) ≤ 12) = true := decide_eq_true (by omega)
  clear h hP
  go_enter Tryz.func171, Tryz.ntmps171
  go_wp2
  go_loopw [1, 2] (fun a b wr => a = .int .i64 0 ∧ b = .int .i64 (n : Int) ∧ wr = w) (fun _ _ _ => 0)
  case atStart => exact ⟨rfl, rfl, rfl⟩
  case round =>
    obtain ⟨rfl, rfl, hw⟩ := hrel
    obtain rfl : w = wr := hw.symm
    clear hw
    go_wp2_with fail
    refine HI.out.mono ?_
    rintro r w1 ⟨rfl, HF⟩
    go_wp2
    refine bodyPost_ret (results_none rfl _ _ _) rfl ?_
    exact ⟨rfl, HF⟩
set_option maxRecDepth 100000 in
set_option maxHeartbeats 2000000 in
theorem k_sortW {B0 : Nat} {w : World} {g n c : Nat} {f : Nat → Nat} (h : Rw B0 w (.slice (some ⟨g, 0, none⟩) n c) n f) (hn : n ≤ 5) (hP : ∀ j, j < n → ∃ x, IsP w (f j) x) : Calls Tryz.prog 155 #[.slice (some ⟨g, 0, none⟩) n c, .func (.func 156) #[] #[]] w fun r w' => r = .returned (.tuple #[]) ∧ Hid (∃ f', Srt B0 w g n c f w' f') := by
  have HL : Hid (Calls Tryz.prog 167 #[.int .u64 (n : Int)] w fun r w' => (∃ z : Int, r = .returned (.int .i64 z)) ∧ w' = w) := k_lenW n hn w
  have HI : Hid (∀ z, Calls Tryz.prog 171 #[.slice (some ⟨g, 0, none⟩) n c, .int .i64 0, .int .i64 (n : Int), .int .i64 z, .func (.func 156) #[] #[]] w fun r w' => r = .returned (.tuple #[]) ∧ Hid (∃ f', Srt B0 w g n c f w' f')) := fun z => k_pdqW z h hn hP
  have l1 : (n : Int) ≤ 5 := by omega
  clear h hP
  go_enter Tryz.func155, Tryz.ntmps155
  go_wp2_with fail
  refine HL.out.mono ?_
  rintro r w1 ⟨⟨z, rfl⟩, hw⟩
  obtain rfl : w = w1 := hw.symm
  clear hw
  go_wp2_with fail
  refine (HI.out z).mono ?_
  rintro r w1 ⟨rfl, HF⟩
  go_wp2
  go_end0
  exact ⟨rfl, HF⟩
end Go.Proofs.YthfokciijcmhbaaGreatDoor
