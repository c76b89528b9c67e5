/-
  A pool whose pages are written: its state over a disk that is told by its reads, and a log.
-/
import Derived.Test.YtnaobkpncfbnaaaGreatDoorGd
namespace Go.Proofs.YtnaobkpncfbnaaaGreatDoor
open Go.RowKit
set_option linter.unusedVariables false

/-- A block of the types that a disk's blocks have. -/
def Dt (w : World) (k : Nat) : Prop := ∃ cs t, w.heap[k]? = some (.cells cs t (0, 0)) ∧ (t = 105 ∨ t = 109 ∨ t = 5 ∨ t = 3)
theorem Dk.typed {w : World} {D : Nat} {F : Nat → Prop} {n : Nat} {dur : Nat → Int} {m : Nat} {tf : Nat → Nat} {ld : Nat → Int} (h : Dk w D F n dur m tf ld) : Dk w D (fun k => F k ∧ Dt w k) n dur m tf ld := by
  obtain ⟨S, Bd, Bl, cD, cL, vT, vL, h⟩ := h
  have hBd : Dt w Bd := by
    obtain ⟨_, _, C, ho⟩ := h.ob
    obtain ⟨cur, e⟩ := row_block ho (k := Bd) rfl
    exact ⟨_, _, e, .inr (.inr (.inl rfl))⟩
  have hBl : Dt w Bl := by
    obtain ⟨cur, e⟩ := row_block h.ol (k := Bl) rfl
    exact ⟨_, _, e, .inr (.inr (.inr rfl))⟩
  exact ⟨S, Bd, Bl, cD, cL, vT, vL, { h with
    FD := ⟨h.FD, _, _, h.hD, .inl rfl⟩
    FS := ⟨h.FS, _, _, h.hS, .inr (.inl rfl)⟩
    FBd := ⟨h.FBd, hBd⟩
    FBl := ⟨h.FBl, hBl⟩
    FT := fun k hk => ⟨h.FT k hk, by obtain ⟨cur, e⟩ := row_block h.ot hk; exact ⟨_, _, e, .inr (.inr (.inr rfl))⟩⟩
    FL := fun k hk => ⟨h.FL k hk, by obtain ⟨cur, e⟩ := row_block h.oo hk; exact ⟨_, _, e, .inr (.inr (.inl rfl))⟩⟩
    lt := fun k hk => h.lt k hk.1 }⟩
theorem Sd.typed {w : World} {D : Nat} {F : Nat → Prop} {n M : Nat} {e : Nat → Int} (h : Sd w D F n M e) : Sd w D (fun k => F k ∧ Dt w k) n M e := by
  obtain ⟨dur, m, tf, ld, h1, h2⟩ := h
  exact ⟨dur, m, tf, ld, h1.typed, h2⟩
/-- What a call that writes buffers may write: the pool's own blocks, and buffers. -/
def Fq (B0 : Nat) (P : Nat → Prop) (w : World) (b : Nat) : Prop := P b ∨ (B0 ≤ b ∧ ∃ cs t fz, w.heap[b]? = some (.cells cs t fz) ∧ (t = 111 ∨ t = 111))
theorem Fq.back {B0 : Nat} {P P' : Nat → Prop} {w w1 : World} (h : Part (Fq B0 P w) w w1) (hP : ∀ k, P' k → P k ∨ w.heap.size ≤ k) : ∀ i, i < w.heap.size → Fq B0 P' w1 i → Fq B0 P w i := fun i hi hq => by
  rcases hq with hq | ⟨hB, cs, t, fz, e, ht⟩
  · exact .inl ((hP i hq).resolve_right (by omega))
  · by_cases hf : Fq B0 P w i
    · exact hf
    · rw [h.block i hi hf] at e
      exact .inr ⟨hB, cs, t, fz, e, ht⟩
theorem Fq.trans {B0 : Nat} {P P' : Nat → Prop} {w w1 w2 : World} (h : Part (Fq B0 P w) w w1) (hP : ∀ k, P' k → P k ∨ w.heap.size ≤ k) (h' : Part (Fq B0 P' w1) w1 w2) : Part (Fq B0 P w) w w2 := h.trans h' (Fq.back h hP)
/-- What a pool's call may write: its own blocks, and buffers and rows of them. -/
def Fw (B0 : Nat) (P : Nat → Prop) (w : World) (b : Nat) : Prop := P b ∨ (B0 ≤ b ∧ ∃ cs t fz, w.heap[b]? = some (.cells cs t fz) ∧ (t = 97 ∨ t = 111))
theorem Fw.back {B0 : Nat} {P P' : Nat → Prop} {w w1 : World} (h : Part (Fw B0 P w) w w1) (hP : ∀ k, P' k → P k ∨ w.heap.size ≤ k) : ∀ i, i < w.heap.size → Fw B0 P' w1 i → Fw B0 P w i := fun i hi hq => by
  rcases hq with hq | ⟨hB, cs, t, fz, e, ht⟩
  · exact .inl ((hP i hq).resolve_right (by omega))
  · by_cases hf : Fw B0 P w i
    · exact hf
    · rw [h.block i hi hf] at e
      exact .inr ⟨hB, cs, t, fz, e, ht⟩
theorem Fw.trans {B0 : Nat} {P P' : Nat → Prop} {w w1 w2 : World} (h : Part (Fw B0 P w) w w1) (hP : ∀ k, P' k → P k ∨ w.heap.size ≤ k) (h' : Part (Fw B0 P' w1) w1 w2) : Part (Fw B0 P w) w w2 := h.trans h' (Fw.back h hP)
theorem Fq.wide {B0 : Nat} {P : Nat → Prop} {w w1 : World} (h : Part (Fq B0 P w) w w1) : Part (Fw B0 P w) w w1 := h.mono fun b _ hq => hq.imp id (fun ⟨hB, cs, t, fz, e, ht⟩ => ⟨hB, cs, t, fz, e, .inr (ht.elim id id)⟩)
/-- What the disk's sector of a page tells: nothing was written, or a record's number and the load. -/
def Pgs (e : Nat → Int) (p l : Nat) (f : Nat → Int) : Prop := (l = 0 ∧ (∀ i, i < 128 → e ((4 + p) * 128 + i) = 0) ∧ ∀ i, i < 112 → f i = 0) ∨ (0 < l ∧ ∀ i, i < 128 → e ((4 + p) * 128 + i) = pg l f i)
theorem Pgs.ext {e e' : Nat → Int} {p l : Nat} {f : Nat → Int} (h : Pgs e p l f) (he : ∀ i, i < 128 → e' ((4 + p) * 128 + i) = e ((4 + p) * 128 + i)) : Pgs e' p l f := by
  rcases h with ⟨h1, h2, h3⟩ | ⟨h1, h2⟩
  · exact .inl ⟨h1, fun i hi => (he i hi).trans (h2 i hi), h3⟩
  · exact .inr ⟨h1, fun i hi => (he i hi).trans (h2 i hi)⟩
/-- A log in the disk's first four sectors, of the first number 1, with its bytes that are not written yet. -/
structure Lp (w : World) (L T D : Nat) (F : Nat → Prop) (last forced : Nat) (vt : Value) : Prop where
  lay : ∃ q place tl f, LogW w L T D 0 4 1 last forced place vt ∧ Own w q vt (lst f tl) ∧ (∀ i, 0 ≤ f i ∧ f i ≤ 255) ∧ place * 112 + tl ≤ 448 ∧ (forced ≠ last → 0 < tl)
  ne : L ≠ T
  nL : ¬ F L
  nT : ¬ F T
  nV : ∀ k, vt.ownBlock = some k → ¬ F k
  fl : forced ≤ last
/-- A pool of ten pages behind a log of four sectors. A: whether pages are put with numbers of the log's records only. Page p was put last with the number ln p (none: 0) and the load lo p. -/
structure Pw (B0 : Nat) (A : Prop) (w : World) (P : Nat → Prop) (S : Nat) (m : Int) (D L bf n : Nat) (X : Nat → Bf) (M : Nat) (e : Nat → Int) (last forced : Nat) (ln : Nat → Nat) (lo : Nat → Nat → Int) : Prop where
  ps : Ps B0 w S m D L 4 10 bf n X
  lay : ∃ T F vt, Sd w D F 14 M e ∧ Lp w L T D F last forced vt ∧ (∀ k, F k → P k) ∧ P T ∧ (∀ k, vt.ownBlock = some k → P k)
  pS : P S
  tab : Tab w
  np : ¬ P 0 ∧ ¬ P (S + 1) ∧ ¬ P L
  lt : ∀ k, P k → k < w.heap.size
  pl : w.heap[S + 1]? = some (.cells #[.pointer (some ⟨S, 0, none⟩)] 93 (0, 0))
  ld : ∀ j, j < n → Own w 0 (X j).ld (lst (lo (X j).pg) 112)
  nP : ∀ j k, j < n → (X j).ld.ownBlock = some k → ¬ P k
  cl : ∀ j, j < n → (X j).pg < 10 ∧ (X j).pn = 0 ∧ (X j).ls = ln (X j).pg ∧ ((X j).fi = 0 → Pgs e (X j).pg (ln (X j).pg) (lo (X j).pg)) ∧ (0 < (X j).fi → 0 < (X j).ls)
  off : ∀ p, p < 10 → (∀ j, j < n → (X j).pg ≠ p) → Pgs e p (ln p) (lo p)
  pa : ∀ i j, i < n → j < n → (X i).pg = (X j).pg → i = j
  by_ : ∀ p i, 0 ≤ lo p i ∧ lo p i ≤ 255
  lm : ∀ p, ln p ≤ 4611686018427387904
  dk : ∀ p, p < 10 → ∃ l f, Pgs e p l f ∧ (A → l ≤ forced)
  al : A → ∀ p, ln p ≤ last
  nb : n ≤ bf ∧ bf ≤ 5
  bl : ∀ j, j < n → B0 ≤ (X j).b
  tl : 0 < B0
theorem LogW.part1 {w w' : World} {G : Nat → Prop} {L T D a b c d e f : Nat} {vt : Value} (h : LogW w L T D a b c d e f vt) (hp : Part G w w') (h1 : ¬ G L) (h2 : ¬ G T) : LogW w' L T D a b c d e f vt :=
  ⟨(hp.block _ (Array.getElem?_eq_some_iff.1 h.hL).1 h1).trans h.hL, (hp.block _ (Array.getElem?_eq_some_iff.1 h.hT).1 h2).trans h.hT⟩
theorem Lp.part {w w' : World} {G F : Nat → Prop} {L T D last forced : Nat} {vt : Value} (h : Lp w L T D F last forced vt) (hp : Part G w w') (h1 : ¬ G L) (h2 : ¬ G T) (h3 : ∀ k, vt.ownBlock = some k → ¬ G k) : Lp w' L T D F last forced vt := by
  obtain ⟨q, place, tl, f, k1, k2, k3, k4⟩ := h.lay
  exact ⟨⟨q, place, tl, f, k1.part1 hp h1 h2, hp.row k2 h3, k3, k4⟩, h.ne, h.nL, h.nT, h.nV, h.fl⟩
theorem Lp.less {w : World} {F F' : Nat → Prop} {L T D last forced : Nat} {vt : Value} (h : Lp w L T D F last forced vt) (hF : ∀ k, F' k → F k) : Lp w L T D F' last forced vt :=
  ⟨h.lay, h.ne, fun k => h.nL (hF _ k), fun k => h.nT (hF _ k), fun k hk hf => h.nV k hk (hF _ hf), h.fl⟩
theorem Tab.partG {w w' : World} {G : Nat → Prop} (h : Tab w) (hp : Part G w w') (hn : ¬ G 0) : Tab w' := fun i hi => hp.cell (p := ⟨0, i, none⟩) hn (h i hi)
variable {B0 : Nat} {A : Prop} {w w' : World} {P G : Nat → Prop} {S D L bf n M last forced : Nat} {m : Int} {X : Nat → Bf} {e : Nat → Int} {ln : Nat → Nat} {lo : Nat → Nat → Int}
/-- What writes neither the pool's blocks nor its buffers leaves it. -/
theorem Pw.part (k : Pw B0 A w P S m D L bf n X M e last forced ln lo) (hp : Part G w w') (h1 : ∀ b, P b → ¬ G b) (h2 : ¬ G 0 ∧ ¬ G (S + 1) ∧ ¬ G L) (h3 : ∀ b cs t, G b → w.heap[b]? = some (.cells cs t (0, 0)) → t ≠ 97 ∧ t ≠ 111) (h4 : ∀ j b, j < n → (X j).ld.ownBlock = some b → ¬ G b) : Pw B0 A w' P S m D L bf n X M e last forced ln lo := by
  obtain ⟨T, F, vt, s1, s2, s3, s4, s5⟩ := k.lay
  exact ⟨k.ps.part hp (h1 _ k.pS) h3, ⟨T, F, vt, s1.part hp (fun b hb => h1 _ (s3 b hb)), s2.part hp h2.2.2 (h1 _ s4) (fun b hb => h1 _ (s5 b hb)), s3, s4, s5⟩, k.pS, k.tab.partG hp h2.1, k.np, fun b hb => by have := k.lt b hb; have := hp.size; omega, (hp.block _ (Array.getElem?_eq_some_iff.1 k.pl).1 h2.2.1).trans k.pl, fun j hj => hp.row (k.ld j hj) (fun b hb => h4 j b hj hb), k.nP, k.cl, k.off, k.pa, k.by_, k.lm, k.dk, k.al, k.nb, k.bl, k.tl⟩
theorem Pw.below (k : Pw B0 A w P S m D L bf n X M e last forced ln lo) (h : Below w.heap.size w w') : Pw B0 A w' P S m D L bf n X M e last forced ln lo :=
  k.part (Part.ofBelow (F := fun _ => False) h) (fun _ _ h => h) ⟨id, id, id⟩ (fun _ _ _ h => h.elim) (fun _ _ _ _ h => h)
end Go.Proofs.YtnaobkpncfbnaaaGreatDoor
