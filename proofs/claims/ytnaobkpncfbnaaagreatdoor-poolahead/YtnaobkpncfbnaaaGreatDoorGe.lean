/-
  A pool's pages that are put: the state behind buffer.change; Lock, Unlock, has, missing over it.
  Pool.Put, over a pool whose pages are written.
-/
import Derived.Test.YtnaobkpncfbnaaaGreatDoorGc
import Derived.Test.YtnaobkpncfbnaaaGreatDoorPwS
namespace Go.Proofs.YtnaobkpncfbnaaaGreatDoor
open Go.RowKit
set_option linter.unusedVariables false

variable {B0 : Nat} {A : Prop} {w w1 : World} {P : Nat → Prop} {S D L bf n M last forced : Nat} {m : Int} {X : Nat → Bf} {e : Nat → Int} {ln : Nat → Nat} {lo : Nat → Nat → Int}
/-- The i-th buffer changed. -/
def chX (X : Nat → Bf) (i l : Nat) (v : Value) : Nat → Bf := fun j => if j = i then chB (X i) l v else X j
theorem chX_at (X : Nat → Bf) (i l : Nat) (v : Value) : chX X i l v i = chB (X i) l v := if_pos rfl
theorem chX_ne (X : Nat → Bf) {i j : Nat} (l : Nat) (v : Value) (h : j ≠ i) : chX X i l v j = X j := if_neg h
theorem chX_b (X : Nat → Bf) (i l : Nat) (v : Value) (j : Nat) : (chX X i l v j).b = (X j).b ∧ (chX X i l v j).pg = (X j).pg ∧ (chX X i l v j).pn = (X j).pn := by
  by_cases h : j = i
  · subst h; rw [chX_at]; exact ⟨rfl, rfl, rfl⟩
  · rw [chX_ne X l v h]; exact ⟨rfl, rfl, rfl⟩
theorem Pw.change (k : Pw B0 A w P S m D L bf n X M e last forced ln lo) {i l z : Nat} {v : Value} {f : Nat → Int} (hi : i < n) (hz : (X i).pg = z) (hb : w1.heap[(X i).b]? = some (bufO (chB (X i) l v))) (ho : Own w1 w.heap.size v (lst f 112)) (hp : Part (fun b => b = (X i).b) w w1) (hl : 1 ≤ l ∧ l ≤ 4611686018427387904) (hA : A → l ≤ last) (hby : ∀ i, 0 ≤ f i ∧ f i ≤ 255) : Pw B0 A w1 P S m D L bf n (chX X i l v) M e last forced (upd ln z l) (upd lo z f) ∧ Part (Fw B0 P w) w w1 := by
  obtain ⟨held, h1, h2⟩ := k.ps.lay
  have hb0 := k.ps.buf i hi
  have hsz := hp.size
  have ty : ∀ b cs t, w.heap[b]? = some (.cells cs t (0, 0)) → t ≠ 111 → b ≠ (X i).b := fun b cs t e ht e' => by
    rw [e', hb0] at e
    injection e with e
    injection e with _ e
    exact ht e.symm
  have c0 := fun j => chX_b X i l v j
  obtain ⟨T, F, vt, s1, s2, s3, s4, s5⟩ := k.lay
  obtain ⟨q, place, tl, g, g1, g2, _⟩ := s2.lay
  have hDt : ∀ b, F b ∧ Dt w b → b ≠ (X i).b := fun b hb => by
    obtain ⟨_, cs, t, e, ht⟩ := hb
    exact ty b cs t e (by rcases ht with rfl | rfl | rfl | rfl <;> decide)
  have hV : ∀ b, vt.ownBlock = some b → b ≠ (X i).b := fun b hb => by
    obtain ⟨cur, e⟩ := row_block g2 hb
    exact ty b _ _ e (by decide)
  have hH : ∀ b, held.ownBlock = some b → b ≠ (X i).b := fun b hb e => by
    rcases h2.open with ⟨h, _⟩ | ⟨g, c, cur, h, hg, _⟩
    · rw [h] at hb; cases hb
    · rw [h] at hb
      have hb : some g = some b := hb
      injection hb with hb
      subst hb
      exact ty g _ _ hg (by decide) e
  have hlb : (X i).b < w.heap.size := (Array.getElem?_eq_some_iff.1 hb0).1
  have htb : 0 ≠ (X i).b := fun e' => by
    have t0 := (congrArg (fun b => w.cell? ⟨b, 0, none⟩) e').symm.trans (k.tab 0 (by decide))
    rw [cells_at hb0 0] at t0
    injection t0 with t0
    injection t0 with t0
    exact absurd t0 (by decide)
  refine ⟨⟨⟨⟨held, (hp.block S k.ps.lt (ty S _ _ h1 (by decide))).trans h1, Rw.ext (f := fun j => (X j).b) (hp.row h2 hH) (fun j hj => (c0 j).1.symm)⟩, fun j hj => ?_, fun a b ha hb' e' => ?_, k.ps.nn, k.ps.low⟩, ⟨T, _, vt, s1.typed.part hp hDt, (s2.less (F' := fun b => F b ∧ Dt w b) (fun b h => h.1)).part hp (ty L _ _ g1.hL (by decide)) (ty T _ _ g1.hT (by decide)) hV, fun b h => s3 b h.1, s4, s5⟩, k.pS, k.tab.partG hp htb, k.np, fun b hb => by have := k.lt b hb; omega, (hp.block _ (Array.getElem?_eq_some_iff.1 k.pl).1 (ty (S + 1) _ _ k.pl (by decide))).trans k.pl, fun j hj => ?_, fun j b hj hb' => ?_, fun j hj => ?_, fun p hp' hn => ?_, fun a b ha hb' e' => ?_, fun p i => ?_, fun p => ?_, k.dk, fun a p => ?_, k.nb, fun j hj => by rw [(c0 j).1]; exact k.bl j hj, k.tl⟩, ?_⟩
  · by_cases h : j = i
    · subst h; rw [chX_at]; exact hb
    · rw [chX_ne X l v h]
      exact (hp.block _ (Array.getElem?_eq_some_iff.1 (k.ps.buf j hj)).1 (fun e' => h (k.ps.apart j i hj hi e'))).trans (k.ps.buf j hj)
  · rw [(c0 a).1, (c0 b).1] at e'; exact k.ps.apart a b ha hb' e'
  · by_cases h : j = i
    · subst h
      rw [(c0 j).2.1, hz, upd_at, chX_at]
      exact ho.mono (Nat.zero_le _)
    · rw [(c0 j).2.1, chX_ne X l v h, upd_ne lo f (fun e' => h (k.pa j i hj hi (by rw [hz]; exact e')))]
      exact hp.row (k.ld j hj) (fun b hb' => by obtain ⟨cur, e'⟩ := row_block (k.ld j hj) hb'; exact ty b _ _ e' (by decide))
  · by_cases h : j = i
    · subst h
      rw [chX_at] at hb'
      have hb' : v.ownBlock = some b := hb'
      exact fun hP => by have := k.lt b hP; have := (World.ownsRow.lt ho _ hb').1; omega
    · rw [chX_ne X l v h] at hb'
      exact k.nP j b hj hb'
  · obtain ⟨z1, z2, z3, z4, z5⟩ := k.cl j hj
    rw [(c0 j).2.1, (c0 j).2.2]
    by_cases h : j = i
    · subst h
      rw [hz, upd_at, upd_at, chX_at]
      refine ⟨by omega, z2, rfl, fun h0 => ?_, fun _ => ?_⟩
      · have h0 : (if (X j).fi = 0 then l else (X j).fi) = 0 := h0
        by_cases hf : (X j).fi = 0
        · rw [if_pos hf] at h0; omega
        · rw [if_neg hf] at h0; exact absurd h0 hf
      · show 0 < l; omega
    · have hne : (X j).pg ≠ z := fun e' => h (k.pa j i hj hi (by rw [hz]; exact e'))
      rw [chX_ne X l v h, upd_ne lo f hne, upd_ne ln l hne]
      exact ⟨z1, z2, z3, z4, z5⟩
  · have hne : p ≠ z := fun e' => hn i hi (by rw [(c0 i).2.1, hz, e'])
    rw [upd_ne lo f hne, upd_ne ln l hne]
    exact k.off p hp' (fun j hj e' => hn j hj (by rw [(c0 j).2.1]; exact e'))
  · rw [(c0 a).2.1, (c0 b).2.1] at e'; exact k.pa a b ha hb' e'
  · by_cases h : p = z
    · rw [h, upd_at]; exact hby i
    · rw [upd_ne lo f h]; exact k.by_ p i
  · by_cases h : p = z
    · rw [h, upd_at]; exact hl.2
    · rw [upd_ne ln l h]; exact k.lm p
  · by_cases h : p = z
    · rw [h, upd_at]; exact hA a
    · rw [upd_ne ln l h]; exact k.al a p
  · exact hp.mono (fun b _ e' => by have e' : b = (X i).b := e'; subst e'; exact .inr ⟨k.bl i hi, _, _, _, hb0, .inr rfl⟩)
theorem Pw.lock_cell (k : Pw B0 A w P S m D L bf n X M e last forced ln lo) : w.cell? ⟨S, 0, none⟩ = some (.int .i32 m) ∧ w.frozen? ⟨S, 0, none⟩ = false := by
  obtain ⟨held, h1, _⟩ := k.ps.lay
  exact ⟨by rw [cells_at h1 0]; rfl, cells_free h1 0⟩
theorem Pw.locked (k : Pw B0 A w P S m D L bf n X M e last forced ln lo) (m' : Int) : Pw B0 A (w.setCell ⟨S, 0, none⟩ (.int .i32 m')) P S m' D L bf n X M e last forced ln lo := by
  obtain ⟨h1, h2⟩ := k.ps.locked m'
  obtain ⟨held, e1, _⟩ := k.ps.lay
  have hp : Part (fun b => b = S) w (w.setCell ⟨S, 0, none⟩ (.int .i32 m')) := (Part.refl (fun b => b = S) w).setCell (p := ⟨S, 0, none⟩) (fun _ => rfl) _
  have ty : ∀ b cs t, w.heap[b]? = some (.cells cs t (0, 0)) → t ≠ 91 → b ≠ S := fun b cs t e ht e' => by
    rw [e', e1] at e
    injection e with e
    injection e with _ e
    exact ht e.symm
  obtain ⟨T, F, vt, s1, s2, s3, s4, s5⟩ := k.lay
  obtain ⟨q, place, tl, g, g1, g2, _⟩ := s2.lay
  have hDt : ∀ b, F b ∧ Dt w b → b ≠ S := fun b hb => by
    obtain ⟨_, cs, t, e, ht⟩ := hb
    exact ty b cs t e (by rcases ht with rfl | rfl | rfl | rfl <;> decide)
  have hsz := hp.size
  have low := k.ps.low
  have tl := k.tl
  exact ⟨h1, ⟨T, _, vt, s1.typed.part hp hDt, (s2.less (F' := fun b => F b ∧ Dt w b) (fun b h => h.1)).part hp (ty L _ _ g1.hL (by decide)) (ty T _ _ g1.hT (by decide)) (fun b hb => by obtain ⟨cur, e'⟩ := row_block g2 hb; exact ty b _ _ e' (by decide)), fun b h => s3 b h.1, s4, s5⟩, k.pS, k.tab.partG hp (by omega), k.np, fun b hb => by have := k.lt b hb; omega, (hp.block _ (Array.getElem?_eq_some_iff.1 k.pl).1 (by omega)).trans k.pl, fun j hj => hp.row (k.ld j hj) (fun b hb => by obtain ⟨cur, e'⟩ := row_block (k.ld j hj) hb; exact ty b _ _ e' (by decide)), k.nP, k.cl, k.off, k.pa, k.by_, k.lm, k.dk, k.al, k.nb, k.bl, k.tl⟩
theorem Pw.locks (k : Pw B0 A w P S m D L bf n X M e last forced ln lo) (m' : Int) : Part (fun b => b = S) w (w.setCell ⟨S, 0, none⟩ (.int .i32 m')) := (Part.refl (fun b => b = S) w).setCell (p := ⟨S, 0, none⟩) (fun _ => rfl) _
theorem Pw.cells (k : Pw B0 A w P S m D L bf n X M e last forced ln lo) : w.cell? ⟨S + 1, 0, none⟩ = some (.pointer (some ⟨S, 0, none⟩)) := by rw [cells_at k.pl 0]; rfl
theorem pw_lock (k : Pw B0 A w P S 0 D L bf n X M e last forced ln lo) : Calls Tryz.prog 41 #[.pointer (some ⟨S, 0, none⟩)] w fun r w' => r = .returned (.tuple #[]) ∧ Hid (Pw B0 A w' P S 1 D L bf n X M e last forced ln lo ∧ Part (fun b => b = S) w w') :=
  (p_lock S w k.lock_cell.1 k.lock_cell.2).mono fun r w' ⟨hr, hw⟩ => ⟨hr, by rw [hw]; exact ⟨k.locked 1, k.locks 1⟩⟩
theorem pw_unlock (k : Pw B0 A w P S 1 D L bf n X M e last forced ln lo) (u : FrameMode) : CallsD Tryz.prog 42 #[.pointer (some ⟨S, 0, none⟩)] u w fun e' u' w' => u' = u ∧ (e' = .returned (.tuple #[]) ∧ Hid (Pw B0 A w' P S 0 D L bf n X M e last forced ln lo ∧ Part (fun b => b = S) w w')) :=
  (unlock_deferred ⟨S, 0, none⟩ u w k.lock_cell.1 k.lock_cell.2).mono fun e u' w' ⟨h1, h2, h3⟩ => ⟨h1, h2, by rw [h3]; exact ⟨k.locked 0, k.locks 0⟩⟩
theorem pw_missing (k : Pw B0 A w P S m D L bf n X M e last forced ln lo) : Calls Tryz.prog 40 #[.pointer (some ⟨S + 1, 0, none⟩)] w fun r w' => r = .returned (.bool false) ∧ w' = w := by
  have c0 : w.cell? ⟨S + 1, 0, none⟩ = some (.pointer (some ⟨S, 0, none⟩)) := k.cells
  clear k
  go_enter Tryz.func40, Tryz.ntmps40
  go_wp2
  go_ret
  exact ⟨rfl, rfl⟩
theorem pw_has (k : Pw B0 A w P S m D L bf n X M e last forced ln lo) (z : Nat) (hz : z < 10) : Calls Tryz.prog 43 #[.pointer (some ⟨S, 0, none⟩), .int .i64 (z : Int)] w fun r w' => r = .returned (.bool true) ∧ w' = w := by
  obtain ⟨held, h1, _⟩ := k.ps.lay
  have c5 : w.cell? ⟨S, 5, none⟩ = some (.int .i64 10) := by rw [cells_at h1 5]; rfl
  have d1 : decide ((0 : Int) ≤ (z : Int)) = true := decide_eq_true (by omega)
  have d2 : decide ((z : Int) < 10) = true := decide_eq_true (by omega)
  clear k h1
  go_enter Tryz.func43, Tryz.ntmps43
  go_wp2
  go_ret
  exact ⟨rfl, rfl⟩
end Go.Proofs.YtnaobkpncfbnaaaGreatDoor

namespace Go.Proofs.YtnaobkpncfbnaaaGreatDoor
open Go.RowKit
set_option linter.unusedVariables false

variable {B0 : Nat} {A : Prop} {w w1 : World} {P : Nat → Prop} {S D L bf n M last forced : Nat} {m : Int} {X : Nat → Bf} {e : Nat → Int} {ln : Nat → Nat} {lo : Nat → Nat → Int}
theorem add_block (y : Addr) (j : Nat) : (y.add j).block = y.block := by unfold Addr.add; split <;> rfl
theorem Fw.locks {w1 w2 : World} (hp : Part (fun b => b = S) w w1) (hS : P S) : Part (Fw B0 P w) w w1 := hp.mono (fun b _ e => .inl (by have e : b = S := e; rw [e]; exact hS))
/-- What Put leaves. -/
def Ptd (B0 : Nat) (A : Prop) (w : World) (P : Nat → Prop) (S : Nat) (m : Int) (D L bf M last forced : Nat) (ln : Nat → Nat) (lo : Nat → Nat → Int) (w' : World) : Prop := ∃ n' X', Lft B0 A w P S m D L bf n' X' M last forced ln lo w' (fun _ _ _ => True)
set_option maxRecDepth 100000 in
set_option maxHeartbeats 2000000 in
theorem p_putW (k : Pw B0 A w P S 0 D L bf n X M e last forced ln lo) (z l : Nat) (hz : z < 10) (hl : 1 ≤ l ∧ l ≤ 4611686018427387904) (hA : A → l ≤ last) (a0 : Option Addr) (c : Nat) (f : Nat → Int) (hf : From w a0 112 f) (hnf : ∀ y, a0 = some y → ¬ Fw B0 P w y.block) (hby : ∀ i, 0 ≤ f i ∧ f i ≤ 255) (hM : M ≤ 1000000) (hbf : 0 < bf) (hsv : ∀ wq, 0 < n → Pw B0 A wq P S 1 D L bf n X M e last forced ln lo → Calls Tryz.prog 47 #[.pointer (some ⟨S, 0, none⟩), ptr (X 0).b] wq fun r w' => r = .returned (.int .i64 0) ∧ Svd B0 A wq P S 1 D L bf n (cleanX X 0) (M + 1) last forced ln lo w') : Calls Tryz.prog 11 #[.pointer (some ⟨S + 1, 0, none⟩), .int .i64 (z : Int), .int .i64 (l : Int), .slice a0 112 c] w fun r w' => r = .returned (.int .i64 0) ∧ Hid (Ptd B0 A w P S 0 D L bf (M + 1) last forced (upd ln z l) (upd lo z f) w') := by
  have HM : Hid (Calls Tryz.prog 40 #[.pointer (some ⟨S + 1, 0, none⟩)] w fun r w' => r = .returned (.bool false) ∧ w' = w) := pw_missing k
  have HL : Hid (Calls Tryz.prog 41 #[.pointer (some ⟨S, 0, none⟩)] w fun r w' => r = .returned (.tuple #[]) ∧ Hid (Pw B0 A w' P S 1 D L bf n X M e last forced ln lo ∧ Part (fun b => b = S) w w')) := pw_lock k
  have c0 := k.cells
  have hsz0 : ∀ y, a0 = some y → y.block < w.heap.size := fun y hy => by
    rcases hf with ⟨h1, _⟩ | ⟨y', h1, h2⟩
    · rw [h1] at hy; cases hy
    · rw [h1] at hy
      injection hy with hy
      subst hy
      have := World.block_lt_of_cell? w _ (h2 0 (by decide))
      rw [add_block] at this
      exact this
  have HC : Hid (∀ wq, Pw B0 A wq P S 1 D L bf n X M e last forced ln lo ∧ Part (fun b => b = S) w wq → wq.cell? ⟨S + 1, 0, none⟩ = some (.pointer (some ⟨S, 0, none⟩)) ∧ Hid (Calls Tryz.prog 43 #[.pointer (some ⟨S, 0, none⟩), .int .i64 (z : Int)] wq fun r w' => r = .returned (.bool true) ∧ w' = wq)) := fun wq kq => ⟨kq.1.cells, pw_has kq.1 z hz⟩
  have HB : Hid (∀ wq, Pw B0 A wq P S 1 D L bf n X M e last forced ln lo ∧ Part (fun b => b = S) w wq → Calls Tryz.prog 44 #[.pointer (some ⟨S, 0, none⟩), .int .i64 (z : Int)] wq fun r w' => ∃ b, r = .returned (.tuple #[.pointer (some ⟨b, 0, none⟩), .int .i64 0]) ∧ Hid (Calls Tryz.prog 45 #[.pointer (some ⟨b, 0, none⟩), .int .i64 (l : Int), .slice a0 112 c] w' fun r w2 => r = .returned (.tuple #[]) ∧ Hid (Ptd B0 A w P S 1 D L bf (M + 1) last forced (upd ln z l) (upd lo z f) w2))) := fun wq ⟨kq, pq⟩ => (s_bringW kq z hz hM hbf hsv).mono fun r w' ⟨b, hr, HE⟩ => by
    obtain ⟨n', X', e1, e2, P', e', fo', j1, j2, j3, j4, _⟩ := HE.out
    refine ⟨b, hr, ?_⟩
    have p1 : Part (Fw B0 P w) w w' := Fw.trans (P' := P) (Fw.locks (w2 := wq) pq k.pS) (fun b h => .inl h) j3
    have hf' : From w' a0 112 f := by
      rcases hf with h1 | ⟨y, h1, h2⟩
      · exact .inl h1
      · exact .inr ⟨y, h1, fun j hj => p1.cell (fun h => hnf y h1 (by rw [← add_block y j]; exact h)) (h2 j hj)⟩
    have hb := j1.ps.buf n' (Nat.lt_succ_self _)
    have hch := b_change (X' n') l a0 c f w' hb hf' (fun y hy e3 => hnf y hy (by
      have := p1.block y.block (hsz0 y hy) (hnf y hy)
      rw [e3, hb] at this
      rw [e3]
      exact .inr ⟨j1.bl n' (Nat.lt_succ_self _), _, _, _, this.symm, .inr rfl⟩))
    rw [e1] at hch
    refine hch.mono fun r w2 ⟨hr2, v, i1, i2, i3⟩ => ⟨hr2, n' + 1, _, P', e', fo', (j1.change (Nat.lt_succ_self _) e2 (by rw [e1]; exact i1) i2 (by rw [e1]; exact i3) hl hA hby).1, j2, Fw.trans p1 (fun b h => ?_) (j1.change (Nat.lt_succ_self _) e2 (by rw [e1]; exact i1) i2 (by rw [e1]; exact i3) hl hA hby).2, fun b h => ?_, trivial⟩
    all_goals
      rcases j4 b h with h | h
      · exact .inl h
      · have := pq.size
        exact .inr (by omega)
  have HU : Hid (∀ wq, Ptd B0 A w P S 1 D L bf (M + 1) last forced (upd ln z l) (upd lo z f) wq → CallsD Tryz.prog 42 #[.pointer (some ⟨S, 0, none⟩)] .returning wq fun e u' w' => u' = .returning ∧ (e = .returned (.tuple #[]) ∧ Hid (Ptd B0 A w P S 0 D L bf (M + 1) last forced (upd ln z l) (upd lo z f) w'))) := fun wq ⟨n', X', P', e', fo', j1, j2, j3, j4, _⟩ => (pw_unlock j1 .returning).mono fun e u' w' ⟨h1, h2, h3⟩ => ⟨h1, h2, n', X', P', e', fo', h3.out.1, j2, Fw.trans j3 j4 (Fw.locks (w2 := wq) h3.out.2 j1.pS), j4, trivial⟩
  have hz' : (z : Int) < 10 := by omega
  have hz0 : (0 : Int) ≤ (z : Int) := by omega
  have hl1 : decide ((l : Int) < 1) = false := decide_eq_false (by omega)
  have hl2 : decide ((4611686018427387904 : Int) < (l : Int)) = false := decide_eq_false (by omega)
  clear k hf hnf hsv hsz0 hl hA hM
  go_enter_defers Tryz.func11, Tryz.ntmps11
  go_wp2_with fail
  refine HM.out.mono ?_
  rintro r w1 ⟨rfl, hw⟩
  obtain rfl : w = w1 := hw.symm
  clear hw
  go_wp2_with fail
  refine HL.out.mono ?_
  rintro r w1 ⟨rfl, k1⟩
  obtain ⟨c1, HH⟩ := HC.out _ k1.out
  clear c0 HM HL
  go_wp2_with fail
  refine HH.out.mono ?_
  rintro r w2 ⟨rfl, hw⟩
  obtain rfl : w1 = w2 := hw.symm
  clear hw
  go_wp2_with fail
  refine (HB.out _ k1.out).mono ?_
  rintro r w2 ⟨b, rfl, HE⟩
  go_wp2_with fail
  refine HE.out.mono ?_
  rintro r w3 ⟨rfl, HF⟩
  go_wp2
  refine leaves_cons (f := 42) (args := #[.pointer (some ⟨S, 0, none⟩)]) (by simp) (by simp [go_sem]) ?_
  refine (HU.out _ HF.out).mono ?_
  rintro e u' w9 ⟨rfl, rfl, HZ⟩
  exact ⟨_, results_tmp rfl _ _ _, rfl, HZ⟩
end Go.Proofs.YtnaobkpncfbnaaaGreatDoor
