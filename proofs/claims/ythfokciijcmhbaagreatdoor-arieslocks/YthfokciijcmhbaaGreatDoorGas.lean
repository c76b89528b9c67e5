/-
  A pool's lock; what is clean: save, read.
  A pool whose pages are written: its state over a disk that is told by its reads, and a log.
  A buffer that is changed: dirty, change.
-/
import Derived.Test.YthfokciijcmhbaaGreatDoorGar
import Derived.Defers
import Derived.Laws.Pointers
import Derived.Laws.LoneSync
namespace Go.Proofs.YthfokciijcmhbaaGreatDoor
open Go.RowKit
set_option linter.unusedVariables false

theorem disable (w : World) : (callFunc 74 #[]).run Tryz.prog w = .ok (.value (.tuple #[])) w := run_call_mark0 Tryz.func74 (by kernel_rfl) (by kernel_rfl) (by kernel_rfl) .disable (by kernel_rfl) w
theorem enable (w : World) : (callFunc 76 #[]).run Tryz.prog w = .ok (.value (.tuple #[])) w := run_call_mark0 Tryz.func76 (by kernel_rfl) (by kernel_rfl) (by kernel_rfl) .enable (by kernel_rfl) w
theorem acquire (a : Addr) (w : World) : (callFunc 77 #[.pointer (some a)]).run Tryz.prog w = .ok (.value (.tuple #[])) w := run_call_marked Tryz.func77 (by kernel_rfl) (by kernel_rfl) (by kernel_rfl) .acquire (by kernel_rfl) a w
theorem releaseMerge (a : Addr) (w : World) : (callFunc 79 #[.pointer (some a)]).run Tryz.prog w = .ok (.value (.tuple #[])) w := run_call_marked Tryz.func79 (by kernel_rfl) (by kernel_rfl) (by kernel_rfl) .releaseMerge (by kernel_rfl) a w
set_option maxRecDepth 100000 in
set_option maxHeartbeats 1000000 in
theorem p_lock (S : Nat) (w : World) (h0 : w.cell? ⟨S, 0, none⟩ = some (.int .i32 0)) (f0 : w.frozen? ⟨S, 0, none⟩ = false) : Calls Tryz.prog 31 #[.pointer (some ⟨S, 0, none⟩)] w fun r w' => r = .returned (.tuple #[]) ∧ w' = w.setCell ⟨S, 0, none⟩ (.int .i32 1) := by
  have hd := disable
  have he := enable
  have ha := acquire
  have hcas := run_call_cas_hit (P := Tryz.prog) Tryz.func75 (by kernel_rfl) (by kernel_rfl) (by kernel_rfl) .i32 (by kernel_rfl) (y := 1) h0 f0
  have h0' : (w.setCell ⟨S, 0, none⟩ (.int .i32 1)).cell? ⟨S, 0, none⟩ = some (.int .i32 1) := by simp [go_sem, h0]
  have hcv := run_convert_to_unsafe (P := Tryz.prog) (src := 151) (dst := 155) Tryz.underlying151 Tryz.underlying155 (by kernel_rfl) h0'
  go_enter Tryz.func31, Tryz.ntmps31
  go_wp2
  first | go_end0 | (simp only [Exit.inBlock, Exit.then]; refine bodyPost_ret (results_none rfl _ _ _) rfl ?_) | refine bodyPost_ret (results_none rfl _ _ _) rfl ?_
  go_wp2
  go_end0
  exact ⟨rfl, rfl⟩
set_option maxRecDepth 100000 in
set_option maxHeartbeats 1000000 in
theorem unlock_deferred (a : Addr) (u : FrameMode) (w : World) (hc : w.cell? a = some (.int .i32 1)) (hz : w.frozen? a = false) :
    CallsD Tryz.prog 32 #[.pointer (some a)] u w fun e u' w' => u' = u ∧ (e = .returned (.tuple #[]) ∧ w' = w.setCell a (.int .i32 0)) := by
  have hd := disable
  have he := enable
  have hr := releaseMerge
  have hcv := run_convert_to_unsafe (P := Tryz.prog) (src := 151) (dst := 155) Tryz.underlying151 Tryz.underlying155 (by kernel_rfl) hc
  have hadd := run_call_add (P := Tryz.prog) Tryz.func80 (by kernel_rfl) (by kernel_rfl) (by kernel_rfl) .i32 (by kernel_rfl) (y := -1) (s := 0) hc hz (by simp [go_sem]; rfl)
  go_enter_d Tryz.func32, Tryz.ntmps32
  go_wp2
  go_end0
  go_wp2
  go_end0
  exact ⟨rfl, rfl⟩
variable {B0 : Nat}
theorem Ps.locked {w : World} {S D L fr pg bf n : Nat} {m : Int} {X : Nat → Bf} (k : Ps B0 w S m D L fr pg bf n X) (m' : Int) : Ps B0 (w.setCell ⟨S, 0, none⟩ (.int .i32 m')) S m' D L fr pg bf n X ∧ Part (Fr B0 S w) w (w.setCell ⟨S, 0, none⟩ (.int .i32 m')) := by
  obtain ⟨held, h1, h2⟩ := k.lay
  have hvS : held.ownBlock ≠ some S := fun e => by
    rcases h2.open with ⟨h, _⟩ | ⟨g, c, cur, h, hg, _⟩
    · rw [h] at e; cases e
    · rw [h] at e
      have e : some g = some S := e
      injection e with e
      rw [e, h1] at hg
      injection hg with hg
      injection hg with _ hg
      exact absurd hg (by decide)
  have hbS : ∀ j, j < n → (X j).b ≠ S := fun j hj e => by
    have := k.buf j hj
    rw [e, h1] at this
    injection this with this
    injection this with _ this
    exact absurd this (by decide)
  refine ⟨⟨⟨held, heap_set_at h1 _, row_set h2 hvS 0 _⟩, fun j hj => ?_, k.apart, k.nn, k.low⟩, (Part.refl _ w).setCell (p := ⟨S, 0, none⟩) (fun _ => ⟨k.low, .inl rfl⟩) _⟩
  rw [heap_set_other w (hbS j hj)]
  exact k.buf j hj
def Dr0 (w w' : World) : Prop := ∃ q, w' = w.drewN q
theorem Dr0.refl (w : World) : Dr0 w w := ⟨0, rfl⟩
theorem Dr0.drew {w w' : World} (h : Dr0 w w') : Dr0 w w'.drew := by obtain ⟨q, rfl⟩ := h; exact ⟨q + 1, rfl⟩
theorem Dr0.below {w w' : World} {B : Nat} (h : Dr0 w w') : Below B w w' := by obtain ⟨q, rfl⟩ := h; exact blw_drewN q (Below.refl _ _)
/-- A pool of which nothing was changed, over a disk of noughts. -/
abbrev Ext : Type := Inhabited (Nat → Array Value → Prop)
theorem Fr.below {w w' : World} {S : Nat} (h : Part (Fr B0 S w) w w') (hB : B0 ≤ w.heap.size) : Below B0 w w' := h.below (fun k hk => hk.1) hB
theorem Own.fr {w w' : World} {S : Nat} {v : Value} {xs : List Int} {B : Nat} (h : Own w B v xs) (hp : Part (Fr B0 S w) w w') (hS : ∃ cs t fz, w.heap[S]? = some (.cells cs t fz) ∧ t ≠ 5) : Own w' B v xs := by
  refine hp.row h (fun b hb hf => ?_)
  rcases h.2 with ⟨e, _⟩ | ⟨g, cap, cur, e, _, hg, _⟩
  · rw [e] at hb; cases hb
  · rw [e] at hb
    have hb : some g = some b := hb
    injection hb with hb
    subst hb
    rcases hf with ⟨_, e | ⟨cs, fz, e⟩⟩
    · obtain ⟨cs, t, fz, hS, ht⟩ := hS
      rw [← e, hg] at hS
      injection hS with hS
      injection hS with _ hS
      exact ht hS.symm
    · rw [hg] at e
      injection e with e
      injection e with _ e
      exact absurd e (by decide)
theorem Ps.state {w : World} {S D L fr pg bf n : Nat} {m : Int} {X : Nat → Bf} (k : Ps B0 w S m D L fr pg bf n X) : ∃ cs t fz, w.heap[S]? = some (.cells cs t fz) ∧ t ≠ 5 := by
  obtain ⟨held, h1, _⟩ := k.lay
  exact ⟨_, _, _, h1, by decide⟩
theorem s_dirty (x : Bf) (w : World) (h : w.heap[x.b]? = some (bufO x)) (hx : x.fi = 0) : Calls Tryz.prog 151 #[ptr x.b] w fun r w' => r = .returned (.bool false) ∧ w' = w := by
  have c3 : w.cell? ⟨x.b, 3, none⟩ = some (.int .i64 0) := by rw [cells_at h 3]; show some (Value.int .i64 (x.fi : Int)) = _; rw [hx]; rfl
  unfold ptr
  clear h
  go_enter Tryz.func151, Tryz.ntmps151
  go_wp2
  go_ret
  exact ⟨rfl, rfl⟩
theorem s_save (S : Nat) (x : Bf) (w : World) (h : w.heap[x.b]? = some (bufO x)) (hx : x.fi = 0) : Calls Tryz.prog 133 #[.pointer (some ⟨S, 0, none⟩), ptr x.b] w fun r w' => r = .returned (.int .i64 0) ∧ w' = w := by
  have HD : Hid (Calls Tryz.prog 151 #[ptr x.b] w fun r w' => r = .returned (.bool false) ∧ w' = w) := s_dirty x w h hx
  unfold ptr at *
  clear h hx
  go_enter Tryz.func133, Tryz.ntmps133
  go_wp2_with fail
  refine HD.out.mono ?_
  rintro r w1 ⟨rfl, hw⟩
  obtain rfl : w = w1 := hw.symm
  clear hw
  go_wp2
  go_ret
  exact ⟨rfl, rfl⟩
end Go.Proofs.YthfokciijcmhbaaGreatDoor

namespace Go.Proofs.YthfokciijcmhbaaGreatDoor
open Go.RowKit
set_option linter.unusedVariables false

/-- A block of the types that a disk's blocks have. -/
def Dt (w : World) (k : Nat) : Prop := ∃ cs t, w.heap[k]? = some (.cells cs t (0, 0)) ∧ (t = 64 ∨ t = 68 ∨ t = 5 ∨ t = 3)
theorem Dk.typed {w : World} {D : Nat} {F : Nat → Prop} {n : Nat} {dur : Nat → Int} {m : Nat} {tf : Nat → Nat} {ld : Nat → Int} (h : Dk w D F n dur m tf ld) : Dk w D (fun k => F k ∧ Dt w k) n dur m tf ld := by
  obtain ⟨S, Bd, Bl, cD, cL, vT, vL, h⟩ := h
  have hBd : Dt w Bd := by
    obtain ⟨_, _, C, ho⟩ := h.ob
    obtain ⟨cur, e⟩ := row_block ho (k := Bd) rfl
    exact ⟨_, _, e, .inr (.inr (.inl rfl))⟩
  have hBl : Dt w Bl := by
    obtain ⟨cur, e⟩ := row_block h.ol (k := Bl) rfl
    exact ⟨_, _, e, .inr (.inr (.inr rfl))⟩
  exact ⟨S, Bd, Bl, cD, cL, vT, vL, { h with
    FD := ⟨h.FD, _, _, h.hD, .inl rfl⟩
    FS := ⟨h.FS, _, _, h.hS, .inr (.inl rfl)⟩
    FBd := ⟨h.FBd, hBd⟩
    FBl := ⟨h.FBl, hBl⟩
    FT := fun k hk => ⟨h.FT k hk, by obtain ⟨cur, e⟩ := row_block h.ot hk; exact ⟨_, _, e, .inr (.inr (.inr rfl))⟩⟩
    FL := fun k hk => ⟨h.FL k hk, by obtain ⟨cur, e⟩ := row_block h.oo hk; exact ⟨_, _, e, .inr (.inr (.inl rfl))⟩⟩
    lt := fun k hk => h.lt k hk.1 }⟩
theorem Sd.typed {w : World} {D : Nat} {F : Nat → Prop} {n M : Nat} {e : Nat → Int} (h : Sd w D F n M e) : Sd w D (fun k => F k ∧ Dt w k) n M e := by
  obtain ⟨dur, m, tf, ld, h1, h2⟩ := h
  exact ⟨dur, m, tf, ld, h1.typed, h2⟩
/-- What a call that writes buffers may write: the pool's own blocks, and buffers. -/
def Fq (B0 : Nat) (P : Nat → Prop) (w : World) (b : Nat) : Prop := P b ∨ (B0 ≤ b ∧ ∃ cs t fz, w.heap[b]? = some (.cells cs t fz) ∧ (t = 170 ∨ t = 170))
theorem Fq.back {B0 : Nat} {P P' : Nat → Prop} {w w1 : World} (h : Part (Fq B0 P w) w w1) (hP : ∀ k, P' k → P k ∨ w.heap.size ≤ k) : ∀ i, i < w.heap.size → Fq B0 P' w1 i → Fq B0 P w i := fun i hi hq => by
  rcases hq with hq | ⟨hB, cs, t, fz, e, ht⟩
  · exact .inl ((hP i hq).resolve_right (by omega))
  · by_cases hf : Fq B0 P w i
    · exact hf
    · rw [h.block i hi hf] at e
      exact .inr ⟨hB, cs, t, fz, e, ht⟩
theorem Fq.trans {B0 : Nat} {P P' : Nat → Prop} {w w1 w2 : World} (h : Part (Fq B0 P w) w w1) (hP : ∀ k, P' k → P k ∨ w.heap.size ≤ k) (h' : Part (Fq B0 P' w1) w1 w2) : Part (Fq B0 P w) w w2 := h.trans h' (Fq.back h hP)
/-- What a pool's call may write: its own blocks, and buffers and rows of them. -/
def Fw (B0 : Nat) (P : Nat → Prop) (w : World) (b : Nat) : Prop := P b ∨ (B0 ≤ b ∧ ∃ cs t fz, w.heap[b]? = some (.cells cs t fz) ∧ (t = 166 ∨ t = 170))
theorem Fw.back {B0 : Nat} {P P' : Nat → Prop} {w w1 : World} (h : Part (Fw B0 P w) w w1) (hP : ∀ k, P' k → P k ∨ w.heap.size ≤ k) : ∀ i, i < w.heap.size → Fw B0 P' w1 i → Fw B0 P w i := fun i hi hq => by
  rcases hq with hq | ⟨hB, cs, t, fz, e, ht⟩
  · exact .inl ((hP i hq).resolve_right (by omega))
  · by_cases hf : Fw B0 P w i
    · exact hf
    · rw [h.block i hi hf] at e
      exact .inr ⟨hB, cs, t, fz, e, ht⟩
theorem Fw.trans {B0 : Nat} {P P' : Nat → Prop} {w w1 w2 : World} (h : Part (Fw B0 P w) w w1) (hP : ∀ k, P' k → P k ∨ w.heap.size ≤ k) (h' : Part (Fw B0 P' w1) w1 w2) : Part (Fw B0 P w) w w2 := h.trans h' (Fw.back h hP)
theorem Fq.wide {B0 : Nat} {P : Nat → Prop} {w w1 : World} (h : Part (Fq B0 P w) w w1) : Part (Fw B0 P w) w w1 := h.mono fun b _ hq => hq.imp id (fun ⟨hB, cs, t, fz, e, ht⟩ => ⟨hB, cs, t, fz, e, .inr (ht.elim id id)⟩)
/-- What the disk's sector of a page tells: nothing was written, or a record's number and the load. -/
def Pgs (e : Nat → Int) (p l : Nat) (f : Nat → Int) : Prop := (l = 0 ∧ (∀ i, i < 128 → e ((40 + p) * 128 + i) = 0) ∧ ∀ i, i < 112 → f i = 0) ∨ (0 < l ∧ ∀ i, i < 128 → e ((40 + p) * 128 + i) = pg l f i)
theorem Pgs.ext {e e' : Nat → Int} {p l : Nat} {f : Nat → Int} (h : Pgs e p l f) (he : ∀ i, i < 128 → e' ((40 + p) * 128 + i) = e ((40 + p) * 128 + i)) : Pgs e' p l f := by
  rcases h with ⟨h1, h2, h3⟩ | ⟨h1, h2⟩
  · exact .inl ⟨h1, fun i hi => (he i hi).trans (h2 i hi), h3⟩
  · exact .inr ⟨h1, fun i hi => (he i hi).trans (h2 i hi)⟩
/-- al: whether pages are put with numbers of the log's records only; u: so many bytes of the log are taken at most. -/
structure Ax where
  al : Prop
  u : Nat
instance : CoeSort Ax Prop := ⟨fun a => a.al⟩
/-- A log in the disk's first forty sectors, of the first number 1, with its bytes that are not written yet. -/
structure Lp (A : Ax) (w : World) (L T D : Nat) (F : Nat → Prop) (last forced : Nat) (vt : Value) : Prop where
  lay : ∃ q place tl f, LogW w L T D 0 40 1 last forced place vt ∧ Own w q vt (lst f tl) ∧ (∀ i, 0 ≤ f i ∧ f i ≤ 255) ∧ place * 112 + tl ≤ A.u ∧ A.u ≤ 4480 ∧ (forced ≠ last → 0 < tl)
  ne : L ≠ T
  nL : ¬ F L
  nT : ¬ F T
  nV : ∀ k, vt.ownBlock = some k → ¬ F k
  fl : forced ≤ last
/-- A pool of six pages behind a log of forty sectors. A: whether pages are put with numbers of the log's records only. Page p was put last with the number ln p (none: 0) and the load lo p. -/
structure Pw (B0 : Nat) (A : Ax) (w : World) (P : Nat → Prop) (S : Nat) (m : Int) (D L bf n : Nat) (X : Nat → Bf) (M : Nat) (e : Nat → Int) (last forced : Nat) (ln : Nat → Nat) (lo : Nat → Nat → Int) : Prop where
  ps : Ps B0 w S m D L 40 6 bf n X
  lay : ∃ T F vt, Sd w D F 46 M e ∧ Lp A w L T D F last forced vt ∧ (∀ k, F k → P k) ∧ P T ∧ (∀ k, vt.ownBlock = some k → P k)
  pS : P S
  tab : Tab w
  np : ¬ P 0 ∧ ¬ P (S + 1) ∧ ¬ P L
  lt : ∀ k, P k → k < w.heap.size
  pl : w.heap[S + 1]? = some (.cells #[.pointer (some ⟨S, 0, none⟩)] 145 (0, 0))
  ld : ∀ j, j < n → Own w 0 (X j).ld (lst (lo (X j).pg) 112)
  nP : ∀ j k, j < n → (X j).ld.ownBlock = some k → ¬ P k
  cl : ∀ j, j < n → (X j).pg < 6 ∧ (X j).pn = 0 ∧ (X j).ls = ln (X j).pg ∧ ((X j).fi = 0 → Pgs e (X j).pg (ln (X j).pg) (lo (X j).pg)) ∧ (0 < (X j).fi → 0 < (X j).ls)
  off : ∀ p, p < 6 → (∀ j, j < n → (X j).pg ≠ p) → Pgs e p (ln p) (lo p)
  pa : ∀ i j, i < n → j < n → (X i).pg = (X j).pg → i = j
  by_ : ∀ p i, 0 ≤ lo p i ∧ lo p i ≤ 255
  lm : ∀ p, ln p ≤ 4611686018427387904
  dk : ∀ p, p < 6 → ∃ l f, Pgs e p l f ∧ (A → l ≤ forced)
  al : A → ∀ p, ln p ≤ last
  nb : n ≤ bf ∧ bf ≤ 5
  bl : ∀ j, j < n → B0 ≤ (X j).b
  tl : 0 < B0
theorem LogW.part1 {w w' : World} {G : Nat → Prop} {L T D a b c d e f : Nat} {vt : Value} (h : LogW w L T D a b c d e f vt) (hp : Part G w w') (h1 : ¬ G L) (h2 : ¬ G T) : LogW w' L T D a b c d e f vt :=
  ⟨(hp.block _ (Array.getElem?_eq_some_iff.1 h.hL).1 h1).trans h.hL, (hp.block _ (Array.getElem?_eq_some_iff.1 h.hT).1 h2).trans h.hT⟩
theorem Lp.part {A : Ax} {w w' : World} {G F : Nat → Prop} {L T D last forced : Nat} {vt : Value} (h : Lp A w L T D F last forced vt) (hp : Part G w w') (h1 : ¬ G L) (h2 : ¬ G T) (h3 : ∀ k, vt.ownBlock = some k → ¬ G k) : Lp A w' L T D F last forced vt := by
  obtain ⟨q, place, tl, f, k1, k2, k3, k4⟩ := h.lay
  exact ⟨⟨q, place, tl, f, k1.part1 hp h1 h2, hp.row k2 h3, k3, k4⟩, h.ne, h.nL, h.nT, h.nV, h.fl⟩
theorem Lp.less {A : Ax} {w : World} {F F' : Nat → Prop} {L T D last forced : Nat} {vt : Value} (h : Lp A w L T D F last forced vt) (hF : ∀ k, F' k → F k) : Lp A w L T D F' last forced vt :=
  ⟨h.lay, h.ne, fun k => h.nL (hF _ k), fun k => h.nT (hF _ k), fun k hk hf => h.nV k hk (hF _ hf), h.fl⟩
theorem Tab.partG {w w' : World} {G : Nat → Prop} (h : Tab w) (hp : Part G w w') (hn : ¬ G 0) : Tab w' := fun i hi => hp.cell (p := ⟨0, i, none⟩) hn (h i hi)
variable {B0 : Nat} {A : Ax} {w w' : World} {P G : Nat → Prop} {S D L bf n M last forced : Nat} {m : Int} {X : Nat → Bf} {e : Nat → Int} {ln : Nat → Nat} {lo : Nat → Nat → Int}
/-- What writes neither the pool's blocks nor its buffers leaves it. -/
theorem Pw.part (k : Pw B0 A w P S m D L bf n X M e last forced ln lo) (hp : Part G w w') (h1 : ∀ b, P b → ¬ G b) (h2 : ¬ G 0 ∧ ¬ G (S + 1) ∧ ¬ G L) (h3 : ∀ b cs t, G b → w.heap[b]? = some (.cells cs t (0, 0)) → t ≠ 166 ∧ t ≠ 170) (h4 : ∀ j b, j < n → (X j).ld.ownBlock = some b → ¬ G b) : Pw B0 A w' P S m D L bf n X M e last forced ln lo := by
  obtain ⟨T, F, vt, s1, s2, s3, s4, s5⟩ := k.lay
  exact ⟨k.ps.part hp (h1 _ k.pS) h3, ⟨T, F, vt, s1.part hp (fun b hb => h1 _ (s3 b hb)), s2.part hp h2.2.2 (h1 _ s4) (fun b hb => h1 _ (s5 b hb)), s3, s4, s5⟩, k.pS, k.tab.partG hp h2.1, k.np, fun b hb => by have := k.lt b hb; have := hp.size; omega, (hp.block _ (Array.getElem?_eq_some_iff.1 k.pl).1 h2.2.1).trans k.pl, fun j hj => hp.row (k.ld j hj) (fun b hb => h4 j b hj hb), k.nP, k.cl, k.off, k.pa, k.by_, k.lm, k.dk, k.al, k.nb, k.bl, k.tl⟩
theorem Pw.below (k : Pw B0 A w P S m D L bf n X M e last forced ln lo) (h : Below w.heap.size w w') : Pw B0 A w' P S m D L bf n X M e last forced ln lo :=
  k.part (Part.ofBelow (F := fun _ => False) h) (fun _ _ h => h) ⟨id, id, id⟩ (fun _ _ _ h => h.elim) (fun _ _ _ _ h => h)
end Go.Proofs.YthfokciijcmhbaaGreatDoor

namespace Go.Proofs.YthfokciijcmhbaaGreatDoor
open Go.RowKit
set_option linter.unusedVariables false

theorem s_dirtyG (x : Bf) (w : World) (h : w.heap[x.b]? = some (bufO x)) : Calls Tryz.prog 151 #[ptr x.b] w fun r w' => r = .returned (.bool (decide (0 < x.fi))) ∧ w' = w := by
  have c3 : w.cell? ⟨x.b, 3, none⟩ = some (.int .i64 (x.fi : Int)) := by rw [cells_at h 3]; rfl
  have d1 : decide ((0 : Int) < (x.fi : Int)) = decide (0 < x.fi) := by
    by_cases h : 0 < x.fi
    · rw [decide_eq_true h, decide_eq_true (by omega)]
    · rw [decide_eq_false h, decide_eq_false (by omega)]
  unfold ptr
  clear h
  go_enter Tryz.func151, Tryz.ntmps151
  go_wp2
  go_ret
  first | exact ⟨rfl, rfl⟩ | exact ⟨by rw [d1], rfl⟩ | (refine ⟨?_, rfl⟩; simp)
/-- The buffer as change leaves it. -/
def chB (x : Bf) (l : Nat) (v : Value) : Bf := { x with ls := l, fi := if x.fi = 0 then l else x.fi, ld := v }
set_option maxRecDepth 100000 in
set_option maxHeartbeats 2000000 in
theorem b_change (x : Bf) (l : Nat) (a0 : Option Addr) (c : Nat) (f : Nat → Int) (w : World) (h : w.heap[x.b]? = some (bufO x)) (hf : From w a0 112 f) (hn : ∀ y, a0 = some y → y.block ≠ x.b) : Calls Tryz.prog 123 #[ptr x.b, .int .i64 (l : Int), .slice a0 112 c] w fun r w' => r = .returned (.tuple #[]) ∧ ∃ v, w'.heap[x.b]? = some (bufO (chB x l v)) ∧ Own w' w.heap.size v (lst f 112) ∧ Part (fun k => k = x.b) w w' := by
  have hlt := (Array.getElem?_eq_some_iff.1 h).1
  have HD : Hid (Calls Tryz.prog 151 #[ptr x.b] w fun r w' => r = .returned (.bool (decide (0 < x.fi))) ∧ w' = w) := s_dirtyG x w h
  have HC : Hid (∀ w1, Part (fun k => k = x.b) w w1 → Calls Tryz.prog 23 #[.slice a0 112 c] w1 fun e w' => ∃ v', e = .returned v' ∧ Hid (Own w' w.heap.size v' (lst f 112)) ∧ Hid (Below w1.heap.size w1 w')) := fun w1 hp => by
    have hf1 : From w1 a0 112 f := by
      rcases hf with h1 | ⟨y, h1, h2⟩
      · exact .inl h1
      · exact .inr ⟨y, h1, fun j hj => hp.cell (fun e => hn y h1 (by have e2 : (y.add j).block = y.block := (by unfold Addr.add; split <;> rfl); exact e2.symm.trans e)) (h2 j hj)⟩
    exact (clone a0 112 c f w1 (by decide) hf1).mono fun e w' ⟨v, h1, h2, h3⟩ => ⟨v, h1, h2.mono hp.size, h3⟩
  have HE : Hid (∀ w1 w2 fi v, w1.heap[x.b]? = some (bufO { x with fi := fi }) → Part (fun k => k = x.b) w w1 → Below w1.heap.size w1 w2 → Own w2 w.heap.size v (lst f 112) → fi = (if x.fi = 0 then l else x.fi) → ∃ u, ((w2.setCell ⟨x.b, 1, none⟩ (.int .i64 (l : Int))).setCell ⟨x.b, 2, none⟩ v).heap[x.b]? = some (bufO (chB x l u)) ∧ Own ((w2.setCell ⟨x.b, 1, none⟩ (.int .i64 (l : Int))).setCell ⟨x.b, 2, none⟩ v) w.heap.size u (lst f 112) ∧ Part (fun k => k = x.b) w ((w2.setCell ⟨x.b, 1, none⟩ (.int .i64 (l : Int))).setCell ⟨x.b, 2, none⟩ v)) := fun w1 w2 fi v h1 p1 b1 ho hfi => by
    subst hfi
    have hs := p1.size
    have e2 := (b1.block x.b (by omega)).trans h1
    have hk : v.ownBlock ≠ some x.b := fun e => by
      rcases ho.2 with ⟨e1, _⟩ | ⟨g, cap, cur, e1, hg, _⟩
      · rw [e1] at e; cases e
      · rw [e1] at e
        have e : some g = some x.b := e
        injection e with e
        omega
    exact ⟨v, heap_set_at (heap_set_at e2 _) _, row_set (row_set ho hk 1 _) hk 2 _, ((p1.trans (Part.ofBelow (F := fun k => k = x.b) b1) (fun _ _ h => h)).setCell (p := ⟨x.b, 1, none⟩) (fun _ => rfl) _).setCell (p := ⟨x.b, 2, none⟩) (fun _ => rfl) _⟩
  have H0 : Hid (w.heap[x.b]? = some (bufO x)) := h
  have k3 : w.cell? ⟨x.b, 3, none⟩ = some (.int .i64 (x.fi : Int)) := by rw [cells_at h 3]; rfl
  have z3 : w.frozen? ⟨x.b, 3, none⟩ = false := cells_free h 3
  have HK : Hid (∀ w1 w2 fi, w1.heap[x.b]? = some (bufO { x with fi := fi }) → Below w1.heap.size w1 w2 → w2.cell? ⟨x.b, 1, none⟩ = some (.int .i64 (x.ls : Int)) ∧ w2.frozen? ⟨x.b, 1, none⟩ = false ∧ w2.cell? ⟨x.b, 2, none⟩ = some x.ld ∧ w2.frozen? ⟨x.b, 2, none⟩ = false) := fun w1 w2 fi h1 b1 => by
    have e := (b1.block x.b (Array.getElem?_eq_some_iff.1 h1).1).trans h1
    exact ⟨by rw [cells_at e 1]; rfl, cells_free e 1, by rw [cells_at e 2]; rfl, cells_free e 2⟩
  have e3 : Hid ((w.setCell ⟨x.b, 3, none⟩ (.int .i64 (l : Int))).heap[x.b]? = some (bufO { x with fi := l }) ∧ Part (fun k => k = x.b) w (w.setCell ⟨x.b, 3, none⟩ (.int .i64 (l : Int)))) := ⟨heap_set_at h _, (Part.refl (fun k => k = x.b) w).setCell (p := ⟨x.b, 3, none⟩) (fun _ => rfl) _⟩
  clear h hf hn
  by_cases hx : x.fi = 0
  · rw [hx] at HD
    have d0 : (if x.fi = 0 then l else x.fi) = l := if_pos hx
    unfold ptr at *
    clear hx
    go_enter Tryz.func123, Tryz.ntmps123
    go_wp2_with fail
    refine HD.out.mono ?_
    rintro r w1 ⟨rfl, hw⟩
    obtain rfl : w = w1 := hw.symm
    clear hw HD
    go_wp2_with fail
    obtain ⟨W1, hW⟩ : ∃ W1, w.setCell ⟨x.b, 3, none⟩ (.int .i64 (l : Int)) = W1 := ⟨_, rfl⟩
    rw [hW] at e3 ⊢
    clear k3 z3
    refine (HC.out W1 e3.out.2).mono ?_
    rintro r w2 ⟨v, rfl, ho, hb⟩
    obtain ⟨c1, f1, c2, f2⟩ := HK.out W1 w2 l e3.out.1 hb.out
    obtain ⟨va, vn, vc, rfl⟩ : ∃ a n c, v = .slice a n c := by
      rcases ho.out.2 with ⟨e, _⟩ | ⟨g, cap, cur, e, _⟩
      · exact ⟨_, _, _, e⟩
      · exact ⟨_, _, _, e⟩
    clear HC HK
    go_wp2
    go_end0
    exact ⟨rfl, HE.out _ _ _ _ e3.out.1 e3.out.2 hb.out ho.out d0.symm⟩
  · have hd : decide (0 < x.fi) = true := decide_eq_true (by omega)
    have d0 : (if x.fi = 0 then l else x.fi) = x.fi := if_neg hx
    rw [hd] at HD
    unfold ptr at *
    clear hx hd
    go_enter Tryz.func123, Tryz.ntmps123
    go_wp2_with fail
    refine HD.out.mono ?_
    rintro r w1 ⟨rfl, hw⟩
    obtain rfl : w = w1 := hw.symm
    clear hw HD
    go_wp2_with fail
    clear k3 z3
    refine (HC.out w (Part.refl _ w)).mono ?_
    rintro r w2 ⟨v, rfl, ho, hb⟩
    obtain ⟨c1, f1, c2, f2⟩ := HK.out w w2 x.fi H0.out hb.out
    obtain ⟨va, vn, vc, rfl⟩ : ∃ a n c, v = .slice a n c := by
      rcases ho.out.2 with ⟨e, _⟩ | ⟨g, cap, cur, e, _⟩
      · exact ⟨_, _, _, e⟩
      · exact ⟨_, _, _, e⟩
    clear HC HK
    go_wp2
    go_end0
    exact ⟨rfl, HE.out _ _ _ _ H0.out (Part.refl _ w) hb.out ho.out d0.symm⟩
end Go.Proofs.YthfokciijcmhbaaGreatDoor
