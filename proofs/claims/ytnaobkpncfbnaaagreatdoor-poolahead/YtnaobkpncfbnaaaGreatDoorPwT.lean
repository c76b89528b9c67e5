/-
  A pool beside a law's map of the loads that were put last (Lw).
-/
import Derived.Test.YtnaobkpncfbnaaaGreatDoorPwR
namespace Go.Proofs.YtnaobkpncfbnaaaGreatDoor
open Go.RowKit
set_option linter.unusedVariables false

variable {A : Prop} {w0 w w' : World} {P P' : Nat → Prop} {S D L bf n M last forced : Nat} {m : Int} {X : Nat → Bf} {e : Nat → Int} {ln : Nat → Nat} {lo : Nat → Nat → Int}
/-- A load of one's own, past w0 and in no block of the pool's. -/
structure Ldo (w0 w : World) (P : Nat → Prop) (g c : Nat) (f : Nat → Int) : Prop where
  own : Own w w0.heap.size (.slice (some ⟨g, 0, none⟩) 112 c) (lst f 112)
  nP : ¬ P g
theorem Ldo.block {g c : Nat} {f : Nat → Int} (h : Ldo w0 w P g c f) : ∃ cur, w.heap[g]? = some (.cells cur 5 (0, 0)) := row_block h.own rfl
theorem Ldo.notF {g c B0 : Nat} {f : Nat → Int} (h : Ldo w0 w P g c f) : ¬ Fw B0 P w g := fun hf => by
  rcases hf with hf | ⟨_, cs, t, fz, e, ht⟩
  · exact h.nP hf
  · obtain ⟨cur, e'⟩ := h.block
    rw [e'] at e
    injection e with e
    injection e with _ e
    subst e
    rcases ht with ht | ht <;> exact absurd ht (by decide)
theorem Ldo.step {g c B0 : Nat} {f : Nat → Int} (h : Ldo w0 w P g c f) (hp : Part (Fw B0 P w) w w') (hP : ∀ b, P' b → P b ∨ w.heap.size ≤ b) : Ldo w0 w' P' g c f := by
  obtain ⟨cur, e'⟩ := h.block
  have hl := (Array.getElem?_eq_some_iff.1 e').1
  refine ⟨hp.row h.own (fun b hb => ?_), fun hg => ?_⟩
  · have hb : some g = some b := hb
    injection hb with hb
    rw [← hb]
    exact h.notF
  · rcases hP g hg with h1 | h1
    · exact h.nP h1
    · omega
theorem Ldo.other {g c b : Nat} {f : Nat → Int} (h : Ldo w0 w P g c f) (hm : ∃ es cl, w.heap[b]? = some (.map es cl)) (hp : Part (fun k => k = b) w w') : Ldo w0 w' P g c f := by
  obtain ⟨cur, e'⟩ := h.block
  obtain ⟨es, cl, hm⟩ := hm
  refine ⟨hp.row h.own (fun b' hb' e2 => ?_), h.nP⟩
  have hb' : some g = some b' := hb'
  injection hb' with hb'
  have e2 : b' = b := e2
  rw [← e2, ← hb', e'] at hm
  cases hm
theorem Ldo.from_ {g c : Nat} {f : Nat → Int} (h : Ldo w0 w P g c f) : From w (some ⟨g, 0, none⟩) 112 f := .inr ⟨_, rfl, fun j hj => World.ownsRow.cells (g := g) h.own rfl j (.int .u8 (f j)) (by rw [List.getElem?_map, lst_get _ 112 j hj]; rfl)⟩
/-- A map's block is none that a pool's call writes. -/
theorem map_notF {b B0 : Nat} (hm : ∃ es cl, w.heap[b]? = some (.map es cl)) (hP : ¬ P b) : ¬ Fw B0 P w b := fun hf => by
  rcases hf with hf | ⟨_, cs, t, fz, e, _⟩
  · exact hP hf
  · obtain ⟨es, cl, hm⟩ := hm
    rw [hm] at e
    cases e
/-- A map of the law's that was written. -/
theorem Pw.mapped {B0 b : Nat} (k : Pw B0 A w P S m D L bf n X M e last forced ln lo) (hm : ∃ es cl, w.heap[b]? = some (.map es cl)) (hP : ¬ P b) (hp : Part (fun k => k = b) w w') : Pw B0 A w' P S m D L bf n X M e last forced ln lo := by
  obtain ⟨es, cl, hm⟩ := hm
  have ty : ∀ q cs t, w.heap[q]? = some (.cells cs t (0, 0)) → q ≠ b := fun q cs t e1 e2 => by
    rw [e2, hm] at e1
    cases e1
  obtain ⟨T, F, vt, _, s2, _⟩ := k.lay
  obtain ⟨q, place, tl, f, g1, _⟩ := s2.lay
  refine k.part hp (fun q hq e => hP (by rw [← e]; exact hq)) ⟨fun e1 => ?_, ty _ _ _ k.pl, ty _ _ _ g1.hL⟩ (fun q cs t e1 e2 => absurd e1 (ty q cs t e2)) (fun j q hj hq => by obtain ⟨cur, e1⟩ := row_block (k.ld j hj) hq; exact ty q _ _ e1)
  have t0 := k.tab 0 (by decide)
  have e1 : 0 = b := e1
  have hm0 : w.heap[0]? = some (.map es cl) := by rw [e1]; exact hm
  unfold World.cell? at t0
  simp only [hm0] at t0
  cases t0
/-- The law's state: the pool, and a map of the loads. -/
structure Lw (A : Prop) (w0 w : World) (P : Nat → Prop) (S D L bf n : Nat) (X : Nat → Bf) (M : Nat) (e : Nat → Int) (last forced : Nat) (ln : Nat → Nat) (lo : Nat → Nat → Int) (mb k : Nat) (fv : Nat → Option Value) : Prop where
  pw : Pw w0.heap.size A w P S 0 D L bf n X M e last forced ln lo
  bel : Below w0.heap.size w0 w
  low : ∀ b, P b → w0.heap.size ≤ b
  ib : Im w mb k fv
  nb : w0.heap.size ≤ mb ∧ ¬ P mb
  at_ : ∀ p, p < 10 → (fv p = none ∧ ln p = 0) ∨ ∃ g c, fv p = some (.slice (some ⟨g, 0, none⟩) 112 c) ∧ 0 < ln p ∧ Ldo w0 w P g c (lo p)
theorem Lw.below {mb k : Nat} {fv : Nat → Option Value} (h : Lw A w0 w P S D L bf n X M e last forced ln lo mb k fv) (hb : Below w.heap.size w w') : Lw A w0 w' P S D L bf n X M e last forced ln lo mb k fv := by
  refine ⟨h.pw.below hb, h.bel.trans (hb.mono h.bel.size), h.low, h.ib.part (Part.ofBelow (F := fun _ => False) hb) id, h.nb, fun p hp => ?_⟩
  rcases h.at_ p hp with h1 | ⟨g, c, h1, h2, h3⟩
  · exact .inl h1
  · exact .inr ⟨g, c, h1, h2, h3.own.below hb (Nat.le_refl _), h3.nP⟩
/-- Behind a call of the pool's that puts nothing. -/
theorem Lw.called {mb k n' M' fo' : Nat} {X' : Nat → Bf} {e' : Nat → Int} {fv : Nat → Option Value} (h : Lw A w0 w P S D L bf n X M e last forced ln lo mb k fv) (j1 : Pw w0.heap.size A w' P' S 0 D L bf n' X' M' e' last fo' ln lo) (j3 : Part (Fw w0.heap.size P w) w w') (j4 : ∀ b, P' b → P b ∨ w.heap.size ≤ b) : Lw A w0 w' P' S D L bf n' X' M' e' last fo' ln lo mb k fv := by
  have hbs := h.bel.size
  refine ⟨j1, h.bel.trans (j3.below (fun b hf => ?_) hbs), fun b hb => ?_, h.ib.part j3 (map_notF h.ib.isMap h.nb.2), ⟨h.nb.1, fun hb => ?_⟩, fun p hp => ?_⟩
  · rcases hf with hf | hf
    · exact h.low b hf
    · exact hf.1
  · rcases j4 b hb with h1 | h1
    · exact h.low b h1
    · omega
  · rcases j4 mb hb with h1 | h1
    · exact h.nb.2 h1
    · have := h.ib.lt; omega
  · rcases h.at_ p hp with h1 | ⟨g, c, h1, h2, h3⟩
    · exact .inl h1
    · exact .inr ⟨g, c, h1, h2, h3.step j3 j4⟩
/-- Behind a Put and the map's store of its load. -/
theorem Lw.stored {w1 w2 : World} {mb k n' M' fo' z l g c : Nat} {X' : Nat → Bf} {e' : Nat → Int} {fv : Nat → Option Value} {f : Nat → Int} (h : Lw A w0 w P S D L bf n X M e last forced ln lo mb k fv) (j1 : Pw w0.heap.size A w1 P' S 0 D L bf n' X' M' e' last fo' (upd ln z l) (upd lo z f)) (j3 : Part (Fw w0.heap.size P w) w w1) (j4 : ∀ b, P' b → P b ∨ w.heap.size ≤ b) (hl : 1 ≤ l) (hg : Ldo w0 w P g c f) (hm : Im w2 mb (k + 1) (upd fv z (some (.slice (some ⟨g, 0, none⟩) 112 c)))) (hp : Part (fun q => q = mb) w1 w2) : Lw A w0 w2 P' S D L bf n' X' M' e' last fo' (upd ln z l) (upd lo z f) mb (k + 1) (upd fv z (some (.slice (some ⟨g, 0, none⟩) 112 c))) := by
  have hbs := h.bel.size
  have i1 : Im w1 mb k fv := h.ib.part j3 (map_notF h.ib.isMap h.nb.2)
  have nP' : ¬ P' mb := fun hb => by
    rcases j4 mb hb with h1 | h1
    · exact h.nb.2 h1
    · have := h.ib.lt; omega
  have b1 : Below w0.heap.size w0 w1 := h.bel.trans (j3.below (fun b hf => by
    rcases hf with hf | hf
    · exact h.low b hf
    · exact hf.1) hbs)
  refine ⟨j1.mapped i1.isMap nP' hp, b1.trans (hp.below (fun b e1 => by have e1 : b = mb := e1; rw [e1]; exact h.nb.1) b1.size), fun b hb => ?_, hm, ⟨h.nb.1, nP'⟩, fun p hp' => ?_⟩
  · rcases j4 b hb with h1 | h1
    · exact h.low b h1
    · omega
  · by_cases ez : p = z
    · subst ez
      rw [upd_at, upd_at, upd_at]
      exact .inr ⟨g, c, rfl, hl, (hg.step j3 j4).other i1.isMap hp⟩
    · rw [upd_ne fv _ ez, upd_ne ln _ ez, upd_ne lo _ ez]
      rcases h.at_ p hp' with h1 | ⟨g', c', h1, h2, h3⟩
      · exact .inl h1
      · exact .inr ⟨g', c', h1, h2, (h3.step j3 j4).other i1.isMap hp⟩
end Go.Proofs.YtnaobkpncfbnaaaGreatDoor
