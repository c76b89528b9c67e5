/-
  PoolWritten: a round's calls, All, and what is read at the end, over the law's state.
-/
import Derived.Test.YtnaobkpncfbnaaaGreatDoorPwT
import Derived.Test.YtnaobkpncfbnaaaGreatDoorDec3
import Derived.Test.YtnaobkpncfbnaaaGreatDoorZeros
import Derived.Test.YtnaobkpncfbnaaaGreatDoorDkPend
namespace Go.Proofs.YtnaobkpncfbnaaaGreatDoor
open Go.RowKit
set_option linter.unusedVariables false

variable {A : Prop} {w0 w w' : World} {P P' : Nat → Prop} {S D L bf n M last forced : Nat} {m : Int} {X : Nat → Bf} {e : Nat → Int} {ln : Nat → Nat} {lo : Nat → Nat → Int} {mb k : Nat} {fv : Nat → Option Value}
theorem Pw.fl {B0 : Nat} (k : Pw B0 A w P S m D L bf n X M e last forced ln lo) : forced ≤ last := by
  obtain ⟨_, _, _, _, z, _⟩ := k.lay
  exact z.fl
theorem l_put (h : Lw A w0 w P S D L bf n X M e last last ln lo mb k fv) {z l g c : Nat} {f : Nat → Int} (hz : z < 10) (hl : 1 ≤ l ∧ l ≤ 4611686018427387904) (hA : A → l ≤ last) (hM : M ≤ 1000000) (hbf : 0 < bf) (hg : Ldo w0 w P g c f) (hby : ∀ i, 0 ≤ f i ∧ f i ≤ 255) : Calls Tryz.prog 11 #[.pointer (some ⟨S + 1, 0, none⟩), .int .i64 (z : Int), .int .i64 (l : Int), .slice (some ⟨g, 0, none⟩) 112 c] w fun r w' => r = .returned (.int .i64 0) ∧ Hid (∃ P' n' X' e', Pw w0.heap.size A w' P' S 0 D L bf n' X' (M + 1) e' last last (upd ln z l) (upd lo z f) ∧ Part (Fw w0.heap.size P w) w w' ∧ ∀ b, P' b → P b ∨ w.heap.size ≤ b) :=
  (p_putW h.pw z l hz hl hA (some ⟨g, 0, none⟩) c f hg.from_ (fun y hy => by injection hy with hy; rw [← hy]; exact hg.notF) hby hM hbf (fun wq h0 kq => s_saveS kq 0 h0 hM)).mono fun r w' ⟨hr, HE⟩ => by
    obtain ⟨n', X', P', e', fo', j1, j2, j3, j4, _⟩ := HE.out
    obtain rfl : fo' = last := by have := j1.fl; omega
    exact ⟨hr, P', n', X', e', j1, j3, j4⟩
/-- The law's map of numbers. -/
structure Ls (w0 w : World) (P : Nat → Prop) (ln : Nat → Nat) (ml k : Nat) : Prop where
  il : Im w ml k (fun p => if ln p = 0 then none else some (.int .i64 (ln p : Int)))
  nb : w0.heap.size ≤ ml ∧ ¬ P ml
theorem Ls.below {ml : Nat} (h : Ls w0 w P ln ml k) (hb : Below w.heap.size w w') : Ls w0 w' P ln ml k := ⟨h.il.part (Part.ofBelow (F := fun _ => False) hb) id, h.nb⟩
theorem Ls.step {ml B0 : Nat} (h : Ls w0 w P ln ml k) (hp : Part (Fw B0 P w) w w') (hP : ∀ b, P' b → P b ∨ w.heap.size ≤ b) : Ls w0 w' P' ln ml k := by
  refine ⟨h.il.part hp (map_notF h.il.isMap h.nb.2), h.nb.1, fun hb => ?_⟩
  rcases hP ml hb with h1 | h1
  · exact h.nb.2 h1
  · have := h.il.lt; omega
/-- The law's whole state. -/
structure Ly (w0 w : World) (P : Nat → Prop) (S D L bf n : Nat) (X : Nat → Bf) (M : Nat) (e : Nat → Int) (ln : Nat → Nat) (lo : Nat → Nat → Int) (mb ml k : Nat) (fv : Nat → Option Value) : Prop where
  lw : Lw False w0 w P S D L bf n X M e 0 0 ln lo mb k fv
  ls : Ls w0 w P ln ml k
  ne : mb ≠ ml
def Lz (w0 : World) (S D L bf mb ml k : Nat) (w : World) : Prop := ∃ P n X M e ln lo fv, Ly w0 w P S D L bf n X M e ln lo mb ml k fv ∧ M ≤ k
theorem Ly.below {ml : Nat} (h : Ly w0 w P S D L bf n X M e ln lo mb ml k fv) (hb : Below w.heap.size w w') : Ly w0 w' P S D L bf n X M e ln lo mb ml k fv := ⟨h.lw.below hb, h.ls.below hb, h.ne⟩
/-- Put, and both maps' stores. -/
theorem y_put {ml : Nat} (h : Ly w0 w P S D L bf n X M e ln lo mb ml k fv) (hMk : M ≤ k) (hk : k ≤ 40) {z g c : Nat} {f : Nat → Int} (hz : z < 10) (hbf : 0 < bf) (hg : Ldo w0 w P g c f) (hby : ∀ i, 0 ≤ f i ∧ f i ≤ 255) (t : Int) (ht : t = (k : Int) + 1) : Calls Tryz.prog 11 #[.pointer (some ⟨S + 1, 0, none⟩), .int .i64 (z : Int), .int .i64 t, .slice (some ⟨g, 0, none⟩) 112 c] w fun r w1 => r = .returned (.int .i64 0) ∧ ∃ w2 w3, (Instr.mapUpdate 35 (.map (some mb)) (.int .i64 (z : Int)) (.slice (some ⟨g, 0, none⟩) 112 c)).run Tryz.prog w1 = .ok () w2 ∧ (Instr.mapUpdate 60 (.map (some ml)) (.int .i64 (z : Int)) (.int .i64 t)).run Tryz.prog w2 = .ok () w3 ∧ Hid (Lz w0 S D L bf mb ml (k + 1) w3) := by
  have := l_put (z := z) (l := k + 1) h.lw hz ⟨by omega, by omega⟩ (fun hF => hF.elim) (by omega) hbf hg hby
  rw [show ((k + 1 : Nat) : Int) = t by omega] at this
  refine this.mono fun r w1 ⟨hr, HE⟩ => ?_
  obtain ⟨P', n', X', e', j1, j3, j4⟩ := HE.out
  have i1 : Im w1 mb k fv := h.lw.ib.part j3 (map_notF h.lw.ib.isMap h.lw.nb.2)
  obtain ⟨w2, r2, m2, p2⟩ := i1.store 35 36 Tryz.underlying35 (by omega) hz (.slice (some ⟨g, 0, none⟩) 112 c)
  have lw2 := h.lw.stored j1 j3 j4 (by omega) hg m2 p2
  have ls1 := h.ls.step j3 j4
  have il2 : Im w2 ml k (fun p => if ln p = 0 then none else some (.int .i64 (ln p : Int))) := ls1.il.part p2 (fun e1 => h.ne e1.symm)
  obtain ⟨w3, r3, m3, p3⟩ := il2.store 60 3 Tryz.underlying60 (by omega) hz (.int .i64 t)
  refine ⟨hr, w2, w3, r2, r3, P', n', X', M + 1, e', upd ln z (k + 1), upd lo z f, upd fv z (some (.slice (some ⟨g, 0, none⟩) 112 c)), ⟨?_, ⟨?_, ls1.nb⟩, h.ne⟩, by omega⟩
  · refine ⟨lw2.pw.mapped il2.isMap ls1.nb.2 p3, lw2.bel.trans (p3.below (fun b e1 => by have e1 : b = ml := e1; rw [e1]; exact h.ls.nb.1) lw2.bel.size), lw2.low, lw2.ib.part p3 h.ne, lw2.nb, fun p hp => ?_⟩
    rcases lw2.at_ p hp with h1 | ⟨g', c', h1, h2, h3⟩
    · exact .inl h1
    · exact .inr ⟨g', c', h1, h2, h3.other il2.isMap p3⟩
  · have ef : (fun p => if upd ln z (k + 1) p = 0 then none else some (Value.int .i64 ((upd ln z (k + 1) p : Nat) : Int))) = upd (fun p => if ln p = 0 then none else some (.int .i64 (ln p : Int))) z (some (.int .i64 t)) := by
      funext p
      by_cases ep : p = z
      · subst ep
        rw [upd_at ln, if_neg (by omega), upd_at, show ((k + 1 : Nat) : Int) = t by omega]
      · rw [upd_ne ln _ ep, upd_ne _ _ ep]
    rw [ef]
    exact m3
/-- What All leaves: every page's sector tells what was put last, and nothing pends. -/
def Lf (w0 : World) (S D L bf mb ml k : Nat) (w : World) : Prop := ∃ P n X e ln lo fv, Ly w0 w P S D L bf n X 0 e ln lo mb ml k fv ∧ ∀ p, p < 10 → Pgs e p (ln p) (lo p)
theorem y_all {ml : Nat} (h : Lz w0 S D L bf mb ml k w) (hk : k ≤ 40) : Calls Tryz.prog 17 #[.pointer (some ⟨S + 1, 0, none⟩)] w fun r w' => r = .returned (.int .i64 0) ∧ Hid (Lf w0 S D L bf mb ml k w') := by
  obtain ⟨P, n, X, M, e, ln, lo, fv, h, hMk⟩ := h
  refine (p_allW h.lw.pw (by omega) (fun wq P' X' M' e' fo' i kq hfo hi hM => ?_)).mono fun r w' ⟨hr, HE⟩ => ?_
  · obtain rfl : fo' = 0 := by have := kq.fl; omega
    exact s_saveS kq i hi hM
  · obtain ⟨X', P', e', fo', j1, j2, j3, j4, j5⟩ := HE.out
    obtain rfl : fo' = 0 := by have := j1.fl; omega
    refine ⟨hr, P', n, X', e', ln, lo, fv, ⟨h.lw.called j1 j3 j4, h.ls.step j3 j4, h.ne⟩, fun p hp => ?_⟩
    by_cases hq : ∃ j, j < n ∧ (X' j).pg = p
    · obtain ⟨j, hj, rfl⟩ := hq
      exact (j1.cl j hj).2.2.2.1 (j5 j hj)
    · exact j1.off p hp (fun j hj e1 => hq ⟨j, hj, e1⟩)
theorem y_pend {ml : Nat} (h : Lf w0 S D L bf mb ml k w) : Calls Tryz.prog 26 #[.pointer (some ⟨D, 0, none⟩)] w fun r w' => ∃ g, r = .returned (.slice (some ⟨g, 0, none⟩) 0 0) ∧ Hid (Lf w0 S D L bf mb ml k w') := by
  obtain ⟨P, n, X, e, ln, lo, fv, h, hp⟩ := h
  obtain ⟨T, F, vt, s1, _⟩ := h.lw.pw.lay
  obtain ⟨tf, ld, hd⟩ := s1.quiet
  exact (dkPending_none D 14 F e tf ld w hd).mono fun r w' ⟨g, hr, _, _, hb⟩ => ⟨g, hr, P, n, X, e, ln, lo, fv, h.below hb, hp⟩
/-- A page's sector that is read, and decoded by the document. -/
theorem y_read {ml : Nat} (h : Ly w0 w P S D L bf n X 0 e ln lo mb ml k fv) {z : Nat} (hz : z < 10) (hp : Pgs e z (ln z) (lo z)) (t : Int) (ht : t = 4 + (z : Int)) : Calls Tryz.prog 13 #[.pointer (some ⟨D, 0, none⟩), .int .i64 t] w fun r w1 => ∃ g c, r = .returned (.tuple #[.slice (some ⟨g, 0, none⟩) 128 c, .int .i64 0]) ∧ Hid (Calls Tryz.prog 27 #[.slice (some ⟨g, 0, none⟩) 128 c] w1 fun r w2 => ∃ g' c', r = .returned (.tuple #[.int .i64 (ln z : Int), .slice (some ⟨g', 0, none⟩) 112 c', .int .i64 0]) ∧ Hid (Ly w0 w2 P S D L bf n X 0 e ln lo mb ml k fv ∧ From w2 (some ⟨g', 0, none⟩) 112 (lo z))) := by
  refine (pw_dread h.lw.pw z hz (by omega) w (Dr0.refl w) t ht).mono fun r w1 ⟨g, c, hr, hb, HE⟩ => ⟨g, c, hr, ?_⟩
  obtain ⟨k1, hf, hc⟩ := HE.out
  have hf2 : From w1 (some ⟨g, 0, none⟩) 128 (encF (ln z : Int) (lo z)) := by
    rcases hf with ⟨h1, _⟩ | ⟨y, h1, h2⟩
    · cases h1
    · exact .inr ⟨y, h1, fun j hj => by rw [h2 j hj]; show some (Value.int .u8 (e ((4 + z) * 128 + j))) = _; rw [hp.enc j hj]⟩
  have hl := h.lw.pw.lm z
  have hd := dec_back (z := (ln z : Int)) (f := lo z) ⟨by omega, by omega, rfl⟩ (h.lw.pw.by_ z)
  have := xDecode (some ⟨g, 0, none⟩) 128 c (encF (ln z : Int) (lo z)) w1 hf2 hc (encF_by0 (h.lw.pw.by_ z))
  rw [hd] at this
  refine this.mono fun r w2 ⟨v, hr2, ho, hb2⟩ => ?_
  obtain ⟨g', c', rfl, ho', _⟩ := own_some ho (by decide)
  exact ⟨g', c', hr2, (h.below hb).below hb2, .inr ⟨_, rfl, fun j hj => World.ownsRow.cells (g := g') ho' rfl j (.int .u8 (lo z j)) (by rw [List.getElem?_map, lst_get _ 112 j hj]; rfl)⟩⟩
end Go.Proofs.YtnaobkpncfbnaaaGreatDoor
