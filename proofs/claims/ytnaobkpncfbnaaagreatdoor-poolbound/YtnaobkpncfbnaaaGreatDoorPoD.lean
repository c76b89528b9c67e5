/-
  A pool's lock; what is clean: save, read.
-/
import Derived.Test.YtnaobkpncfbnaaaGreatDoorPoC
import Derived.Defers
import Derived.Laws.Pointers
import Derived.Laws.LoneSync
namespace Go.Proofs.YtnaobkpncfbnaaaGreatDoor
open Go.RowKit
set_option linter.unusedVariables false

theorem disable (w : World) : (callFunc 100 #[]).run Tryz.prog w = .ok (.value (.tuple #[])) w := run_call_mark0 Tryz.func100 (by kernel_rfl) (by kernel_rfl) (by kernel_rfl) .disable (by kernel_rfl) w
theorem enable (w : World) : (callFunc 102 #[]).run Tryz.prog w = .ok (.value (.tuple #[])) w := run_call_mark0 Tryz.func102 (by kernel_rfl) (by kernel_rfl) (by kernel_rfl) .enable (by kernel_rfl) w
theorem acquire (a : Addr) (w : World) : (callFunc 103 #[.pointer (some a)]).run Tryz.prog w = .ok (.value (.tuple #[])) w := run_call_marked Tryz.func103 (by kernel_rfl) (by kernel_rfl) (by kernel_rfl) .acquire (by kernel_rfl) a w
theorem releaseMerge (a : Addr) (w : World) : (callFunc 105 #[.pointer (some a)]).run Tryz.prog w = .ok (.value (.tuple #[])) w := run_call_marked Tryz.func105 (by kernel_rfl) (by kernel_rfl) (by kernel_rfl) .releaseMerge (by kernel_rfl) a w
set_option maxRecDepth 100000 in
set_option maxHeartbeats 1000000 in
theorem p_lock (S : Nat) (w : World) (h0 : w.cell? ⟨S, 0, none⟩ = some (.int .i32 0)) (f0 : w.frozen? ⟨S, 0, none⟩ = false) : Calls Tryz.prog 41 #[.pointer (some ⟨S, 0, none⟩)] w fun r w' => r = .returned (.tuple #[]) ∧ w' = w.setCell ⟨S, 0, none⟩ (.int .i32 1) := by
  have hd := disable
  have he := enable
  have ha := acquire
  have hcas := run_call_cas_hit (P := Tryz.prog) Tryz.func101 (by kernel_rfl) (by kernel_rfl) (by kernel_rfl) .i32 (by kernel_rfl) (y := 1) h0 f0
  have h0' : (w.setCell ⟨S, 0, none⟩ (.int .i32 1)).cell? ⟨S, 0, none⟩ = some (.int .i32 1) := by simp [go_sem, h0]
  have hcv := run_convert_to_unsafe (P := Tryz.prog) (src := 161) (dst := 165) Tryz.underlying161 Tryz.underlying165 (by kernel_rfl) h0'
  go_enter Tryz.func41, Tryz.ntmps41
  go_wp2
  first | go_end0 | (simp only [Exit.inBlock, Exit.then]; refine bodyPost_ret (results_none rfl _ _ _) rfl ?_) | refine bodyPost_ret (results_none rfl _ _ _) rfl ?_
  go_wp2
  go_end0
  exact ⟨rfl, rfl⟩
set_option maxRecDepth 100000 in
set_option maxHeartbeats 1000000 in
theorem unlock_deferred (a : Addr) (u : FrameMode) (w : World) (hc : w.cell? a = some (.int .i32 1)) (hz : w.frozen? a = false) :
    CallsD Tryz.prog 42 #[.pointer (some a)] u w fun e u' w' => u' = u ∧ (e = .returned (.tuple #[]) ∧ w' = w.setCell a (.int .i32 0)) := by
  have hd := disable
  have he := enable
  have hr := releaseMerge
  have hcv := run_convert_to_unsafe (P := Tryz.prog) (src := 161) (dst := 165) Tryz.underlying161 Tryz.underlying165 (by kernel_rfl) hc
  have hadd := run_call_add (P := Tryz.prog) Tryz.func106 (by kernel_rfl) (by kernel_rfl) (by kernel_rfl) .i32 (by kernel_rfl) (y := -1) (s := 0) hc hz (by simp [go_sem]; rfl)
  go_enter_d Tryz.func42, Tryz.ntmps42
  go_wp2
  go_end0
  go_wp2
  go_end0
  exact ⟨rfl, rfl⟩
variable {B0 : Nat}
theorem Ps.locked {w : World} {S D L fr pg bf n : Nat} {m : Int} {X : Nat → Bf} (k : Ps B0 w S m D L fr pg bf n X) (m' : Int) : Ps B0 (w.setCell ⟨S, 0, none⟩ (.int .i32 m')) S m' D L fr pg bf n X ∧ Part (Fr B0 S w) w (w.setCell ⟨S, 0, none⟩ (.int .i32 m')) := by
  obtain ⟨held, h1, h2⟩ := k.lay
  have hvS : held.ownBlock ≠ some S := fun e => by
    rcases h2.open with ⟨h, _⟩ | ⟨g, c, cur, h, hg, _⟩
    · rw [h] at e; cases e
    · rw [h] at e
      have e : some g = some S := e
      injection e with e
      rw [e, h1] at hg
      injection hg with hg
      injection hg with _ hg
      exact absurd hg (by decide)
  have hbS : ∀ j, j < n → (X j).b ≠ S := fun j hj e => by
    have := k.buf j hj
    rw [e, h1] at this
    injection this with this
    injection this with _ this
    exact absurd this (by decide)
  refine ⟨⟨⟨held, heap_set_at h1 _, row_set h2 hvS 0 _⟩, fun j hj => ?_, k.apart, k.nn, k.low⟩, (Part.refl _ w).setCell (p := ⟨S, 0, none⟩) (fun _ => ⟨k.low, .inl rfl⟩) _⟩
  rw [heap_set_other w (hbS j hj)]
  exact k.buf j hj
def Dr0 (w w' : World) : Prop := ∃ q, w' = w.drewN q
theorem Dr0.refl (w : World) : Dr0 w w := ⟨0, rfl⟩
theorem Dr0.drew {w w' : World} (h : Dr0 w w') : Dr0 w w'.drew := by obtain ⟨q, rfl⟩ := h; exact ⟨q + 1, rfl⟩
theorem Dr0.below {w w' : World} {B : Nat} (h : Dr0 w w') : Below B w w' := by obtain ⟨q, rfl⟩ := h; exact blw_drewN q (Below.refl _ _)
/-- A pool of which nothing was changed, over a disk of noughts. -/
abbrev Ext : Type := Inhabited (Nat → Array Value → Prop)
/-- The pool's own struct; and numbers that lie beside the pool, as they are. -/
def Pl [E : Ext] (w : World) (S : Nat) : Prop := w.heap[S + 1]? = some (.cells #[.pointer (some ⟨S, 0, none⟩)] 93 (0, 0)) ∧ ∀ k cs, E.default k cs → w.heap[k]? = some (.cells cs 3 (0, 0))
structure Pz [E : Ext] (wb w : World) (S : Nat) (m : Int) (D L bf n : Nat) (X : Nat → Bf) : Prop where
  bel : Below wb.heap.size wb w
  fr : Fresh wb D 14
  ps : Ps wb.heap.size w S m D L 4 10 bf n X
  cl : ∀ j, j < n → (X j).fi = 0 ∧ (X j).ls = 0 ∧ (X j).pg < 10 ∧ (X j).pn ≤ 100
  ld : ∀ j, j < n → Own w wb.heap.size (X j).ld (lst (fun _ => 0) 112)
  pa : ∀ i j, i < n → j < n → (X i).pg = (X j).pg → i = j
  bl : ∀ j, j < n → wb.heap.size ≤ (X j).b
  nb : n ≤ bf ∧ bf ≤ 5
  pl : Pl w S
theorem pl_frame [E : Ext] {w w' : World} {S : Nat} {F : Nat → Prop} (h : Pl w S) (hp : Part F w w') (hF : ∀ b cs t, F b → w.heap[b]? = some (.cells cs t (0, 0)) → (b = S + 1 → t ≠ 93) ∧ (t = 3 → ¬ ∃ cs, E.default b cs)) : Pl w' S :=
  ⟨(hp.block _ (Array.getElem?_eq_some_iff.1 h.1).1 (fun hf => (hF _ _ _ hf h.1).1 rfl rfl)).trans h.1, fun k cs hk => (hp.block _ (Array.getElem?_eq_some_iff.1 (h.2 k cs hk)).1 (fun hf => (hF _ _ _ hf (h.2 k cs hk)).2 rfl ⟨cs, hk⟩)).trans (h.2 k cs hk)⟩
theorem pl_fr [E : Ext] {w w' : World} {S : Nat} (hS : ∃ cs fz, w.heap[S]? = some (.cells cs 91 fz)) (h : Pl w S) (hp : Part (Fr B0 S w) w w') : Pl w' S :=
  pl_frame h hp (fun b cs t hf e => by
    rcases hf with ⟨_, rfl | ⟨cs', fz, e'⟩⟩
    · obtain ⟨cs', fz, e'⟩ := hS
      rw [e'] at e
      injection e with e
      injection e with _ e
      exact ⟨fun h => absurd h (by omega), fun h => absurd (e.trans h) (by decide)⟩
    · rw [e'] at e
      injection e with e
      injection e with _ e
      subst e
      exact ⟨fun _ => by decide, fun h => absurd h (by decide)⟩)
theorem Pz.st [E : Ext] {wb w : World} {S D L bf n : Nat} {m : Int} {X : Nat → Bf} (k : Pz wb w S m D L bf n X) : ∃ cs fz, w.heap[S]? = some (.cells cs 91 fz) := by
  obtain ⟨held, h, _⟩ := k.ps.lay
  exact ⟨_, _, h⟩
theorem Fr.below {w w' : World} {S : Nat} (h : Part (Fr B0 S w) w w') (hB : B0 ≤ w.heap.size) : Below B0 w w' := h.below (fun k hk => hk.1) hB
theorem Pz.below [E : Ext] {wb w w' : World} {S D L bf n : Nat} {m : Int} {X : Nat → Bf} (k : Pz wb w S m D L bf n X) (h : Below w.heap.size w w') : Pz wb w' S m D L bf n X :=
  ⟨k.bel.trans (h.mono k.bel.size), k.fr, k.ps.below h, k.cl, fun j hj => (k.ld j hj).below h (Nat.le_refl _), k.pa, k.bl, k.nb, pl_frame k.pl (Part.ofBelow (F := fun _ => False) h) (fun _ _ _ h => h.elim)⟩
theorem Own.fr {w w' : World} {S : Nat} {v : Value} {xs : List Int} {B : Nat} (h : Own w B v xs) (hp : Part (Fr B0 S w) w w') (hS : ∃ cs t fz, w.heap[S]? = some (.cells cs t fz) ∧ t ≠ 5) : Own w' B v xs := by
  refine hp.row h (fun b hb hf => ?_)
  rcases h.2 with ⟨e, _⟩ | ⟨g, cap, cur, e, _, hg, _⟩
  · rw [e] at hb; cases hb
  · rw [e] at hb
    have hb : some g = some b := hb
    injection hb with hb
    subst hb
    rcases hf with ⟨_, e | ⟨cs, fz, e⟩⟩
    · obtain ⟨cs, t, fz, hS, ht⟩ := hS
      rw [← e, hg] at hS
      injection hS with hS
      injection hS with _ hS
      exact ht hS.symm
    · rw [hg] at e
      injection e with e
      injection e with _ e
      exact absurd e (by decide)
theorem Ps.state {w : World} {S D L fr pg bf n : Nat} {m : Int} {X : Nat → Bf} (k : Ps B0 w S m D L fr pg bf n X) : ∃ cs t fz, w.heap[S]? = some (.cells cs t fz) ∧ t ≠ 5 := by
  obtain ⟨held, h1, _⟩ := k.lay
  exact ⟨_, _, _, h1, by decide⟩
theorem s_dirty (x : Bf) (w : World) (h : w.heap[x.b]? = some (bufO x)) (hx : x.fi = 0) : Calls Tryz.prog 73 #[ptr x.b] w fun r w' => r = .returned (.bool false) ∧ w' = w := by
  have c3 : w.cell? ⟨x.b, 3, none⟩ = some (.int .i64 0) := by rw [cells_at h 3]; show some (Value.int .i64 (x.fi : Int)) = _; rw [hx]; rfl
  unfold ptr
  clear h
  go_enter Tryz.func73, Tryz.ntmps73
  go_wp2
  go_ret
  exact ⟨rfl, rfl⟩
theorem s_save (S : Nat) (x : Bf) (w : World) (h : w.heap[x.b]? = some (bufO x)) (hx : x.fi = 0) : Calls Tryz.prog 47 #[.pointer (some ⟨S, 0, none⟩), ptr x.b] w fun r w' => r = .returned (.int .i64 0) ∧ w' = w := by
  have HD : Hid (Calls Tryz.prog 73 #[ptr x.b] w fun r w' => r = .returned (.bool false) ∧ w' = w) := s_dirty x w h hx
  unfold ptr at *
  clear h hx
  go_enter Tryz.func47, Tryz.ntmps47
  go_wp2_with fail
  refine HD.out.mono ?_
  rintro r w1 ⟨rfl, hw⟩
  obtain rfl : w = w1 := hw.symm
  clear hw
  go_wp2
  go_ret
  exact ⟨rfl, rfl⟩
end Go.Proofs.YtnaobkpncfbnaaaGreatDoor
