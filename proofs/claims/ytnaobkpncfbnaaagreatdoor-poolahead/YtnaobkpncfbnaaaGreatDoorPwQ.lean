/-
  Pool.All: behind it no buffer is dirty, and nothing pends.
-/
import Derived.Test.YtnaobkpncfbnaaaGreatDoorPwP
namespace Go.Proofs.YtnaobkpncfbnaaaGreatDoor
open Go.RowKit
set_option linter.unusedVariables false

variable {B0 : Nat} {A : Prop} {w w1 : World} {P : Nat → Prop} {S D L bf n M last forced : Nat} {m : Int} {X : Nat → Bf} {e : Nat → Int} {ln : Nat → Nat} {lo : Nat → Nat → Int}
/-- All, behind the first j of the dirty buffers: w the world ahead of it, w1 the one behind changed. -/
structure Alq (B0 : Nat) (A : Prop) (w w1 : World) (P : Nat → Prop) (S : Nat) (m : Int) (D L bf n : Nat) (X : Nat → Bf) (M last forced : Nat) (ln : Nat → Nat) (lo : Nat → Nat → Int) (v : Value) (q : Nat) (f : Nat → Nat) (j : Nat) (wr : World) (P' : Nat → Prop) (X' : Nat → Bf) (e' : Nat → Int) (fo' : Nat) : Prop where
  pw : Pw B0 A wr P' S m D L bf n X' (M + j) e' last fo' ln lo
  fo : forced ≤ fo'
  part : Part (Fw B0 P w) w wr
  size : w1.heap.size ≤ wr.heap.size
  low : w.heap.size ≤ w1.heap.size
  new : ∀ b, P' b → P b ∨ w1.heap.size ≤ b
  same : ∀ i, (X' i).b = (X i).b
  left : ∀ i, i < n → 0 < (X' i).fi → ∃ j', j ≤ j' ∧ j' < q ∧ f j' = (X i).b
  row : Rw w.heap.size wr v q f
  rlt : ∀ b, v.ownBlock = some b → w.heap.size ≤ b ∧ b < w1.heap.size
theorem Alq.step {v : Value} {q j i fo' : Nat} {f : Nat → Nat} {wr w' : World} {P' : Nat → Prop} {X' : Nat → Bf} {e' : Nat → Int} (h : Alq B0 A w w1 P S m D L bf n X M last forced ln lo v q f j wr P' X' e' fo') (hw : ∀ b, P b → b < w.heap.size) (hi : i < n) (hf : f j = (X i).b) (hs : Svd B0 A wr P' S m D L bf n (cleanX X' i) (M + j + 1) last fo' ln lo w') : ∃ P2 X2 e2 fo2, Alq B0 A w w1 P S m D L bf n X M last forced ln lo v q f (j + 1) w' P2 X2 e2 fo2 := by
  obtain ⟨P2, e2, fo2, j1, j2, j3, j4⟩ := hs
  have hsz := j3.size
  have hs1 := h.size
  have hsw := h.part.size
  refine ⟨P2, cleanX X' i, e2, fo2, j1, Nat.le_trans h.fo j2, Fw.trans h.part (fun b hb => ?_) (Fq.wide j3), by omega, h.low, fun b hb => ?_, fun i' => by rw [(clean_at X' i i').1]; exact h.same i', fun i' hi' h0 => ?_, h.row.part j3 (fun b hb hq => ?_), h.rlt⟩
  · rcases h.new b hb with h1 | h1
    · exact .inl h1
    · have := h.low; exact .inr (by omega)
  · rcases j4 b hb with h1 | h1
    · exact h.new b h1
    · exact .inr (by omega)
  · by_cases e1 : i' = i
    · subst e1; rw [clean_self] at h0; exact absurd h0 (by simp)
    · rw [clean_other X' e1] at h0
      obtain ⟨j', h1, h2, h3⟩ := h.left i' hi' h0
      refine ⟨j', ?_, h2, h3⟩
      by_cases e2 : j' = j
      · subst e2
        rw [hf, ← h.same, ← h.same] at h3
        exact absurd (h.pw.ps.apart i i' hi hi' h3).symm e1
      · omega
  · have hr := h.rlt b hb
    rcases hq with hq | ⟨hB, cs, t, fz, e3, ht⟩
    · rcases h.new b hq with h1 | h1
      · have := hw b h1; omega
      · omega
    · rcases h.row.open with ⟨e1, _⟩ | ⟨g, c, cur, e1, hg, _⟩
      · rw [e1] at hb; cases hb
      · rw [e1] at hb
        have hb : some g = some b := hb
        injection hb with hb
        subst hb
        rw [hg] at e3
        injection e3 with e3
        injection e3 with _ e3
        subst e3
        rcases ht with ht | ht <;> exact absurd ht (by decide)
/-- What All leaves. -/
def Ald (B0 : Nat) (A : Prop) (w : World) (P : Nat → Prop) (S : Nat) (m : Int) (D L bf n last forced : Nat) (ln : Nat → Nat) (lo : Nat → Nat → Int) (w' : World) : Prop := ∃ X' P' e' fo', Pw B0 A w' P' S m D L bf n X' 0 e' last fo' ln lo ∧ forced ≤ fo' ∧ Part (Fw B0 P w) w w' ∧ (∀ b, P' b → P b ∨ w.heap.size ≤ b) ∧ ∀ i, i < n → (X' i).fi = 0
set_option maxRecDepth 100000 in
set_option maxHeartbeats 4000000 in
theorem p_allW (k : Pw B0 A w P S 0 D L bf n X M e last forced ln lo) (hM : M ≤ 900000) (hsv : ∀ wq P' X' M' e' fo' i, Pw B0 A wq P' S 1 D L bf n X' M' e' last fo' ln lo → forced ≤ fo' → i < n → M' ≤ 1000000 → Calls Tryz.prog 47 #[.pointer (some ⟨S, 0, none⟩), ptr (X' i).b] wq fun r w' => r = .returned (.int .i64 0) ∧ Svd B0 A wq P' S 1 D L bf n (cleanX X' i) (M' + 1) last fo' ln lo w') : Calls Tryz.prog 17 #[.pointer (some ⟨S + 1, 0, none⟩)] w fun r w' => r = .returned (.int .i64 0) ∧ Hid (Ald B0 A w P S 0 D L bf n last forced ln lo w') := by
  have HM : Hid (Calls Tryz.prog 40 #[.pointer (some ⟨S + 1, 0, none⟩)] w fun r w' => r = .returned (.bool false) ∧ w' = w) := pw_missing k
  have HL : Hid (Calls Tryz.prog 41 #[.pointer (some ⟨S, 0, none⟩)] w fun r w' => r = .returned (.tuple #[]) ∧ Hid (Pw B0 A w' P S 1 D L bf n X M e last forced ln lo ∧ Part (fun b => b = S) w w' ∧ w'.heap.size = w.heap.size)) := (p_lock S w k.lock_cell.1 k.lock_cell.2).mono fun r w' ⟨hr, hw⟩ => ⟨hr, by rw [hw]; exact ⟨k.locked 1, k.locks 1, by simp⟩⟩
  have c0 := k.cells
  have nb := k.nb
  have HC : Hid (∀ wq, Pw B0 A wq P S 1 D L bf n X M e last forced ln lo ∧ Part (fun b => b = S) w wq ∧ wq.heap.size = w.heap.size → wq.cell? ⟨S + 1, 0, none⟩ = some (.pointer (some ⟨S, 0, none⟩)) ∧ Hid (Calls Tryz.prog 51 #[.pointer (some ⟨S, 7, none⟩)] wq fun r w' => ∃ a q c, r = .returned (.slice a q c) ∧ (q : Int) ≤ 5 ∧ Hid (∃ f, (∀ j, j < q → ∃ i, i < n ∧ f j = (X i).b) ∧ ∃ P' X' e' fo', Alq B0 A w w' P S 1 D L bf n X M last forced ln lo (.slice a q c) q f 0 w' P' X' e' fo'))) := fun wq ⟨kq, pq, sq⟩ => ⟨kq.cells, (t_changedW kq.ps (by omega)).mono fun r w' ⟨a, q, c, hr, HE⟩ => by
    obtain ⟨f, hc⟩ := HE.out
    have hb := hc.bel
    refine ⟨a, q, c, hr, by have := hc.le; omega, f, fun j hj => by obtain ⟨i, h1, _, h2⟩ := hc.of j hj; exact ⟨i, h1, h2⟩, P, X, e, forced, kq.below hb, Nat.le_refl _, Fw.trans (P' := P) (Fw.locks (w2 := wq) pq k.pS) (fun b h => .inl h) (Part.ofBelow hb), Nat.le_refl _, by have := hb.size; omega, fun b h => .inl h, fun i => rfl, fun i hi h0 => ?_, by rw [← sq]; exact hc.row, fun b hb' => ?_⟩
    · obtain ⟨j, h1, h2⟩ := hc.all i hi h0
      exact ⟨j, Nat.zero_le _, h1, h2⟩
    · have := World.ownsRow.lt hc.row b hb'
      omega⟩
  have HSt : Hid (∀ w1 wr v q f j P' X' e' fo' i, Alq B0 A w w1 P S 1 D L bf n X M last forced ln lo v q f j wr P' X' e' fo' → i < n → f j = (X i).b → (j : Int) ≤ 5 → Calls Tryz.prog 47 #[.pointer (some ⟨S, 0, none⟩), .pointer (some ⟨f j, 0, none⟩)] wr fun r w' => r = .returned (.int .i64 0) ∧ Hid (∃ P2 X2 e2 fo2, Alq B0 A w w1 P S 1 D L bf n X M last forced ln lo v q f (j + 1) w' P2 X2 e2 fo2)) := fun w1 wr v q f j P' X' e' fo' i h hi hf hj => by
    have := hsv wr P' X' (M + j) e' fo' i h.pw h.fo hi (by omega)
    rw [h.same i, ← hf] at this
    exact this.mono fun r w' ⟨hr, hs⟩ => ⟨hr, h.step k.lt hi hf hs⟩
  have HFl : Hid (∀ w1 wr v q f P' X' e' fo', Alq B0 A w w1 P S 1 D L bf n X M last forced ln lo v q f q wr P' X' e' fo' → w.heap.size ≤ w1.heap.size → (q : Int) ≤ 5 → Calls Tryz.prog 52 #[.pointer (some ⟨D, 0, none⟩)] wr fun r w' => r = .returned (.int .i64 0) ∧ Hid (Ald B0 A w P S 1 D L bf n last forced ln lo w')) := fun w1 wr v q f P' X' e' fo' h hw1 hq => (pw_flush h.pw (by omega)).mono fun r w' ⟨hr, HE⟩ => by
    have hn : ∀ b, P' b → P b ∨ w.heap.size ≤ b := fun b hb => (h.new b hb).imp id (fun h => by omega)
    refine ⟨hr, X', P', e', fo', HE.out.1, h.fo, Fw.trans h.part hn HE.out.2, hn, fun i hi => ?_⟩
    by_cases h0 : (X' i).fi = 0
    · exact h0
    · obtain ⟨j', h1, h2, _⟩ := h.left i hi (by omega)
      omega
  have HU : Hid (∀ wq, Ald B0 A w P S 1 D L bf n last forced ln lo wq → CallsD Tryz.prog 42 #[.pointer (some ⟨S, 0, none⟩)] .returning wq fun e u' w' => u' = .returning ∧ (e = .returned (.tuple #[]) ∧ Hid (Ald B0 A w P S 0 D L bf n last forced ln lo w'))) := fun wq ⟨X', P', e', fo', j1, j2, j3, j4, j5⟩ => (pw_unlock j1 .returning).mono fun e u' w' ⟨h1, h2, h3⟩ => ⟨h1, h2, X', P', e', fo', h3.out.1, j2, Fw.trans j3 j4 (Fw.locks (w2 := wq) h3.out.2 j1.pS), j4, j5⟩
  have HK : Hid (∀ w1 wr v q f j P' X' e' fo', Alq B0 A w w1 P S 1 D L bf n X M last forced ln lo v q f j wr P' X' e' fo' → wr.cell? ⟨S + 1, 0, none⟩ = some (.pointer (some ⟨S, 0, none⟩)) ∧ wr.cell? ⟨S, 2, none⟩ = some (.pointer (some ⟨D, 0, none⟩)) ∧ (j < q → ∃ g c, v = .slice (some ⟨g, 0, none⟩) q c ∧ wr.cell? ⟨g, j, none⟩ = some (.pointer (some ⟨f j, 0, none⟩)))) := fun w1 wr v q f j P' X' e' fo' h => by
    obtain ⟨held, h1, _⟩ := h.pw.ps.lay
    refine ⟨h.pw.cells, by rw [cells_at h1 2]; rfl, fun hj => ?_⟩
    rcases h.row.open with ⟨e1, e2⟩ | ⟨g, c, cur, e1, _⟩
    · omega
    · exact ⟨g, c, e1, (Rw.cell (e1 ▸ h.row) j hj).1⟩
  clear k hsv hM
  go_enter_defers Tryz.func17, Tryz.ntmps17
  go_wp2_with fail
  refine HM.out.mono ?_
  rintro r w1 ⟨rfl, hw⟩
  obtain rfl : w = w1 := hw.symm
  clear hw
  go_wp2_with fail
  refine HL.out.mono ?_
  rintro r w1 ⟨rfl, k1⟩
  obtain ⟨c1, HH⟩ := HC.out _ k1.out
  clear c0 HM HL
  go_wp2_with fail
  refine HH.out.mono ?_
  rintro r w2 ⟨a, q, c, rfl, hq5, HE⟩
  obtain ⟨f, hf, P1, X1, e1, fo1, hq1⟩ := HE.out
  have hw2 : w.heap.size ≤ w2.heap.size := hq1.part.size
  have HF : Hid (∀ j, j < q → ∃ i, i < n ∧ f j = (X i).b) := hf
  have H0 : Hid (∃ P' X' e' fo', Alq B0 A w w2 P S 1 D L bf n X M last forced ln lo (.slice a q c) q f 0 w2 P' X' e' fo') := ⟨P1, X1, e1, fo1, hq1⟩
  clear hf hq1 HE HH c1
  go_wp2
  go_loopw [29] (fun i wr => ∃ j : Nat, j ≤ q ∧ i = .int .i64 (j : Int) ∧ Hid (∃ P' X' e' fo', Alq B0 A w w2 P S 1 D L bf n X M last forced ln lo (.slice a q c) q f j wr P' X' e' fo')) (fun i _ => q - (intOf i).toNat)
  case atStart => exact ⟨0, Nat.zero_le _, rfl, H0⟩
  case round =>
    obtain ⟨j, hj, rfl, HG⟩ := hrel
    obtain ⟨P', X', e', fo', hal⟩ := HG.out
    obtain ⟨u1, u2, u3⟩ := HK.out _ _ _ _ _ _ _ _ _ _ hal
    by_cases hlt : j < q
    · obtain ⟨g, c', ev, u4⟩ := u3 hlt
      cases ev
      obtain ⟨i, hi, hfi⟩ := HF.out j hlt
      have HS : Hid (Calls Tryz.prog 47 #[.pointer (some ⟨S, 0, none⟩), .pointer (some ⟨f j, 0, none⟩)] wr fun r w' => r = .returned (.int .i64 0) ∧ Hid (∃ P2 X2 e2 fo2, Alq B0 A w w2 P S 1 D L bf n X M last forced ln lo (.slice (some ⟨g, 0, none⟩) q c) q f (j + 1) w' P2 X2 e2 fo2)) := HSt.out _ _ _ _ _ _ _ _ _ _ i hal hi hfi (by omega)
      have l1 : (j : Int) < (q : Int) := by omega
      have l2 : (0 : Int) ≤ (j : Int) := by omega
      clear hal HG u3 hfi
      go_wp2_with fail
      refine HS.out.mono ?_
      rintro r w3 ⟨rfl, HE⟩
      go_wp2
      go_roundw
      case rel => exact ⟨j + 1, by omega, by go_num, HE⟩
      case measure => simp [intOf]; omega
    · obtain rfl : j = q := by omega
      have HS : Hid (Calls Tryz.prog 52 #[.pointer (some ⟨D, 0, none⟩)] wr fun r w' => r = .returned (.int .i64 0) ∧ Hid (Ald B0 A w P S 1 D L bf n last forced ln lo w')) := HFl.out _ _ _ _ _ _ _ _ _ hal hw2 hq5
      clear hal HG u3
      go_wp2_with fail
      refine HS.out.mono ?_
      rintro r w3 ⟨rfl, HE⟩
      go_wp2
      refine leaves_cons (f := 42) (args := #[.pointer (some ⟨S, 0, none⟩)]) (by simp) (by simp [go_sem]) ?_
      refine (HU.out _ HE.out).mono ?_
      rintro e u' w9 ⟨rfl, rfl, HZ⟩
      exact ⟨_, results_tmp rfl _ _ _, rfl, HZ⟩
end Go.Proofs.YtnaobkpncfbnaaaGreatDoor
