/-
  Manager's calls: the lock, missing; Begin, Commit.
  Manager's calls: Commit, Abort, Write, Read, of what the state's calls do.
  Manager's calls: Read, of what the state's call does.
-/
import Derived.Test.YthfokciijcmhbaaGreatDoorGbm
namespace Go.Proofs.YthfokciijcmhbaaGreatDoor
open Go.RowKit
set_option linter.unusedVariables false

variable {B0 : Nat} {A : Ax} {P P' : Nat → Prop} {w w' w1 w2 : World} {Z S D L bf n M la fo lt N Q : Nat} {g : Int} {X : Nat → Bf} {e : Nat → Int} {ln : Nat → Nat} {lo : Nat → Nat → Int} {T : Nat → Tr}
/-- The manager's own block. -/
def Mk (w : World) (P : Nat → Prop) (Q Z : Nat) : Prop := w.heap[Q]? = some (.cells #[.pointer (some ⟨Z, 0, none⟩)] 91 (0, 0)) ∧ ¬ P Q
theorem Mk.cell (h : Mk w P Q Z) : w.cell? ⟨Q, 0, none⟩ = some (.pointer (some ⟨Z, 0, none⟩)) := by rw [cells_at h.1 0]; rfl
theorem Mk.part (h : Mk w P Q Z) (hp : Part (Fm B0 P w) w w') (hP : ∀ b, P' b → P b ∨ w.heap.size ≤ b) : Mk w' P' Q Z := ⟨(hp.block Q (Array.getElem?_eq_some_iff.1 h.1).1 (free5 h.2 h.1 ⟨by decide, by decide, by decide, by decide, by decide, by decide, by decide⟩)).trans h.1, fun hq => by
  have := (Array.getElem?_eq_some_iff.1 h.1).1
  rcases hP Q hq with h1 | h1
  · exact h.2 h1
  · omega⟩
theorem mg_missing (h : Mk w P Q Z) : Calls Tryz.prog 30 #[.pointer (some ⟨Q, 0, none⟩)] w fun r w' => r = .returned (.bool false) ∧ w' = w := by
  have c0 := h.cell
  clear h
  go_enter Tryz.func30, Tryz.ntmps30
  go_wp2
  go_ret
  exact ⟨rfl, rfl⟩
theorem Mt.guard (k : Mt B0 P w Z S L g lt N T) : w.cell? ⟨Z, 0, none⟩ = some (.int .i32 g) ∧ w.frozen? ⟨Z, 0, none⟩ = false := by
  obtain ⟨ov, hZ, _⟩ := k.lay
  exact ⟨by rw [cells_at hZ 0]; rfl, cells_free hZ 0⟩
theorem Mg.locked {g' : Int} (k : Mg B0 A w P Z S g D L bf n X M e la fo ln lo lt N T) : Mg B0 A (w.setCell ⟨Z, 0, none⟩ (.int .i32 g')) P Z S g' D L bf n X M e la fo ln lo lt N T ∧ Part (fun b => b = Z) w (w.setCell ⟨Z, 0, none⟩ (.int .i32 g')) := by
  have pZ : Part (fun b => b = Z) w (w.setCell ⟨Z, 0, none⟩ (.int .i32 g')) := (Part.refl (fun b => b = Z) w).setCell (p := ⟨Z, 0, none⟩) (fun _ => rfl) _
  exact ⟨⟨k.pw.ours pZ (fun b hb => by rw [hb]; exact k.mt.oursZ), k.mt.newZ pZ (fun ov h => by rw [heap_set_at h]; rfl) k.mt.la_⟩, pZ⟩
theorem mg_lock (k : Mg B0 A w P Z S 0 D L bf n X M e la fo ln lo lt N T) : Calls Tryz.prog 31 #[.pointer (some ⟨Z, 0, none⟩)] w fun r w' => r = .returned (.tuple #[]) ∧ Hid (Mg B0 A w' P Z S 1 D L bf n X M e la fo ln lo lt N T ∧ Part (Fm B0 P w) w w') :=
  (p_lock Z w k.mt.guard.1 k.mt.guard.2).mono fun r w' ⟨hr, hw⟩ => ⟨hr, by rw [hw]; exact ⟨k.locked.1, Fm.ours k.locked.2 (fun b hb => by rw [hb]; exact k.mt.oursZ)⟩⟩
theorem mg_unlock (k : Mg B0 A w P Z S 1 D L bf n X M e la fo ln lo lt N T) (u : FrameMode) : CallsD Tryz.prog 32 #[.pointer (some ⟨Z, 0, none⟩)] u w fun e' u' w' => u' = u ∧ (e' = .returned (.tuple #[]) ∧ Hid (Mg B0 A w' P Z S 0 D L bf n X M e la fo ln lo lt N T ∧ Part (Fm B0 P w) w w')) :=
  (unlock_deferred ⟨Z, 0, none⟩ u w k.mt.guard.1 k.mt.guard.2).mono fun e u' w' ⟨h1, h2, h3⟩ => ⟨h1, h2, by rw [h3]; exact ⟨k.locked.1, Fm.ours k.locked.2 (fun b hb => by rw [hb]; exact k.mt.oursZ)⟩⟩
/-- A manager at rest since a world: what all calls leave. -/
def At (B0 : Nat) (A : Ax) (w : World) (P : Nat → Prop) (Z S : Nat) (g : Int) (Q D L bf M la : Nat) (ln : Nat → Nat) (lo : Nat → Nat → Int) (lt N : Nat) (T : Nat → Tr) (w' : World) : Prop := ∃ n e fo X P', Mg B0 A w' P' Z S g D L bf n X M e la fo ln lo lt N T ∧ Part (Fm B0 P w) w w' ∧ (∀ b, P' b → P b ∨ w.heap.size ≤ b) ∧ Mk w' P' Q Z
theorem At.unlocked (h : At B0 A w P Z S 1 Q D L bf M la ln lo lt N T w1) (u : FrameMode) : CallsD Tryz.prog 32 #[.pointer (some ⟨Z, 0, none⟩)] u w1 fun e' u' w' => u' = u ∧ (e' = .returned (.tuple #[]) ∧ Hid (At B0 A w P Z S 0 Q D L bf M la ln lo lt N T w')) := by
  obtain ⟨n, e, fo, X, P', h1, h2, h3, h4⟩ := h
  exact (mg_unlock h1 u).mono fun e' u' w' ⟨a1, a2, a3⟩ => ⟨a1, a2, n, e, fo, X, P', a3.out.1, Fm.trans h2 h3 a3.out.2, h3, h4.part a3.out.2 (fun b h => .inl h)⟩
set_option maxRecDepth 100000 in
set_option maxHeartbeats 2000000 in
theorem M_begin (k : Mg B0 A w P Z S 0 D L bf n X M e la fo ln lo lt N T) (hq : Mk w P Q Z) (hB0 : B0 ≤ w.heap.size) (hN : N < 16) (hm : mxT lt T N < 1099511627776) : Calls Tryz.prog 14 #[.pointer (some ⟨Q, 0, none⟩)] w fun r w' => r = .returned (.tuple #[.int .i64 ((mxT lt T N : Int) + 1), .int .i64 0]) ∧ Hid (∃ q, w.heap.size ≤ q ∧ At B0 A w P Z S 0 Q D L bf M la ln lo lt (N + 1) (updT T N (freshTr q (mxT lt T N + 1))) w') := by
  have HM : Hid (Calls Tryz.prog 30 #[.pointer (some ⟨Q, 0, none⟩)] w fun r w' => r = .returned (.bool false) ∧ w' = w) := mg_missing hq
  have c0 := hq.cell
  have HL : Hid (Calls Tryz.prog 31 #[.pointer (some ⟨Z, 0, none⟩)] w fun r w1 => r = .returned (.tuple #[]) ∧ w1.cell? ⟨Q, 0, none⟩ = some (.pointer (some ⟨Z, 0, none⟩)) ∧ Hid (Calls Tryz.prog 33 #[.pointer (some ⟨Z, 0, none⟩)] w1 fun r w' => r = .returned (.tuple #[.int .i64 ((mxT lt T N : Int) + 1), .int .i64 0]) ∧ Hid (∃ q, w.heap.size ≤ q ∧ At B0 A w P Z S 1 Q D L bf M la ln lo lt (N + 1) (updT T N (freshTr q (mxT lt T N + 1))) w'))) := (mg_lock k).mono fun r w1 ⟨h1, h2⟩ => by
    obtain ⟨k1, p1⟩ := h2.out
    have q1 := hq.part p1 (fun b h => .inl h)
    have s1 := p1.size
    refine ⟨h1, q1.cell, (m_begin k1.mt k1.pw.lt (by omega) hN hm).mono fun r w' ⟨h3, h4⟩ => ⟨h3, ?_⟩⟩
    obtain ⟨q, j1, j2, j3⟩ := h4.out
    have pz : Part (Fm B0 P w1) w1 w' := Fm.ours j3 (fun b h => h)
    exact ⟨q, by omega, n, e, fo, X, P, ⟨k1.pw.ours j3 (fun b h => h), j2⟩, Fm.trans p1 (fun b h => .inl h) pz, fun b h => .inl h, q1.part pz (fun b h => .inl h)⟩
  have HU : Hid (∀ q w1, At B0 A w P Z S 1 Q D L bf M la ln lo lt (N + 1) (updT T N (freshTr q (mxT lt T N + 1))) w1 → CallsD Tryz.prog 32 #[.pointer (some ⟨Z, 0, none⟩)] .returning w1 fun e' u' w' => u' = .returning ∧ (e' = .returned (.tuple #[]) ∧ Hid (At B0 A w P Z S 0 Q D L bf M la ln lo lt (N + 1) (updT T N (freshTr q (mxT lt T N + 1))) w'))) := fun q w1 h => h.unlocked .returning
  generalize hmx : mxT lt T N = mx at HL HU ⊢
  clear k hq hm hmx
  go_enter_defers Tryz.func14, Tryz.ntmps14
  go_wp2_with fail
  refine HM.out.mono ?_
  rintro r w1 ⟨rfl, hw⟩
  obtain rfl : w = w1 := hw.symm
  clear hw HM
  go_wp2_with fail
  refine HL.out.mono ?_
  rintro r w1 ⟨rfl, c1, H1⟩
  clear HL c0
  go_wp2_with fail
  refine H1.out.mono ?_
  rintro r w2 ⟨rfl, H2⟩
  obtain ⟨q, hq1, H3⟩ := H2.out
  clear H1 H2 c1
  go_wp2
  refine leaves_cons (f := 32) (args := #[.pointer (some ⟨Z, 0, none⟩)]) (by simp) (by simp [go_sem]) ?_
  refine (HU.out q _ H3).mono ?_
  rintro e u' w9 ⟨rfl, rfl, HZ⟩
  exact ⟨_, results_tmp2 rfl _ _ _, rfl, q, hq1, HZ.out⟩
end Go.Proofs.YthfokciijcmhbaaGreatDoor

namespace Go.Proofs.YthfokciijcmhbaaGreatDoor
open Go.RowKit
set_option linter.unusedVariables false

variable {B0 : Nat} {A : Ax} {P P' : Nat → Prop} {w w' w1 w2 : World} {Z S D L bf n M la fo lt N Q : Nat} {g : Int} {X : Nat → Bf} {e : Nat → Int} {ln : Nat → Nat} {lo : Nat → Nat → Int} {T : Nat → Tr}
/-- The state's lock is let go. -/
def Lets (Z : Nat) (Q1 Q0 : World → Prop) : Prop := ∀ w1, Q1 w1 → CallsD Tryz.prog 32 #[.pointer (some ⟨Z, 0, none⟩)] .returning w1 fun e' u' w' => u' = .returning ∧ (e' = .returned (.tuple #[]) ∧ Hid (Q0 w'))
theorem At.lets {A' : Ax} {la' lt' N' M' : Nat} {ln' : Nat → Nat} {lo' : Nat → Nat → Int} {T' : Nat → Tr} : Lets Z (At B0 A' w P Z S 1 Q D L bf M' la' ln' lo' lt' N' T') (At B0 A' w P Z S 0 Q D L bf M' la' ln' lo' lt' N' T') := fun w1 h => h.unlocked .returning
set_option maxRecDepth 100000 in
set_option maxHeartbeats 2000000 in
theorem M_commit (k : Mg B0 A w P Z S 0 D L bf n X M e la fo ln lo lt N T) (hq : Mk w P Q Z) (z rc : Int) (Q1 Q0 : World → Prop) (hC : ∀ wq, Mg B0 A wq P Z S 1 D L bf n X M e la fo ln lo lt N T → Part (Fm B0 P w) w wq → Mk wq P Q Z → Calls Tryz.prog 39 #[.pointer (some ⟨Z, 0, none⟩), .int .i64 z] wq fun r w' => r = .returned (.int .i64 rc) ∧ Hid (Q1 w')) (hU : Lets Z Q1 Q0) : Calls Tryz.prog 20 #[.pointer (some ⟨Q, 0, none⟩), .int .i64 z] w fun r w' => r = .returned (.int .i64 rc) ∧ Hid (Q0 w') := by
  have HM : Hid (Calls Tryz.prog 30 #[.pointer (some ⟨Q, 0, none⟩)] w fun r w' => r = .returned (.bool false) ∧ w' = w) := mg_missing hq
  have c0 := hq.cell
  have HL : Hid (Calls Tryz.prog 31 #[.pointer (some ⟨Z, 0, none⟩)] w fun r w1 => r = .returned (.tuple #[]) ∧ w1.cell? ⟨Q, 0, none⟩ = some (.pointer (some ⟨Z, 0, none⟩)) ∧ Hid (Calls Tryz.prog 39 #[.pointer (some ⟨Z, 0, none⟩), .int .i64 z] w1 fun r w' => r = .returned (.int .i64 rc) ∧ Hid (Q1 w'))) := (mg_lock k).mono fun r w1 ⟨h1, h2⟩ => by
    obtain ⟨k1, p1⟩ := h2.out
    have q1 := hq.part p1 (fun b h => .inl h)
    exact ⟨h1, q1.cell, hC w1 k1 p1 q1⟩
  have HU : Hid (Lets Z Q1 Q0) := hU
  clear k hq hC hU
  go_enter_defers Tryz.func20, Tryz.ntmps20
  go_wp2_with fail
  refine HM.out.mono ?_
  rintro r w1 ⟨rfl, hw⟩
  obtain rfl : w = w1 := hw.symm
  clear hw HM
  go_wp2_with fail
  refine HL.out.mono ?_
  rintro r w1 ⟨rfl, c1, H1⟩
  clear HL c0
  go_wp2_with fail
  refine H1.out.mono ?_
  rintro r w2 ⟨rfl, H2⟩
  clear H1 c1
  go_wp2
  refine leaves_cons (f := 32) (args := #[.pointer (some ⟨Z, 0, none⟩)]) (by simp) (by simp [go_sem]) ?_
  refine (HU.out _ H2.out).mono ?_
  rintro e u' w9 ⟨rfl, rfl, HZ⟩
  exact ⟨_, results_tmp rfl _ _ _, rfl, HZ⟩
set_option maxRecDepth 100000 in
set_option maxHeartbeats 2000000 in
theorem M_abort (k : Mg B0 A w P Z S 0 D L bf n X M e la fo ln lo lt N T) (hq : Mk w P Q Z) (z rc : Int) (Q1 Q0 : World → Prop) (hC : ∀ wq, Mg B0 A wq P Z S 1 D L bf n X M e la fo ln lo lt N T → Part (Fm B0 P w) w wq → Mk wq P Q Z → Calls Tryz.prog 36 #[.pointer (some ⟨Z, 0, none⟩), .int .i64 z] wq fun r w' => r = .returned (.int .i64 rc) ∧ Hid (Q1 w')) (hU : Lets Z Q1 Q0) : Calls Tryz.prog 16 #[.pointer (some ⟨Q, 0, none⟩), .int .i64 z] w fun r w' => r = .returned (.int .i64 rc) ∧ Hid (Q0 w') := by
  have HM : Hid (Calls Tryz.prog 30 #[.pointer (some ⟨Q, 0, none⟩)] w fun r w' => r = .returned (.bool false) ∧ w' = w) := mg_missing hq
  have c0 := hq.cell
  have HL : Hid (Calls Tryz.prog 31 #[.pointer (some ⟨Z, 0, none⟩)] w fun r w1 => r = .returned (.tuple #[]) ∧ w1.cell? ⟨Q, 0, none⟩ = some (.pointer (some ⟨Z, 0, none⟩)) ∧ Hid (Calls Tryz.prog 36 #[.pointer (some ⟨Z, 0, none⟩), .int .i64 z] w1 fun r w' => r = .returned (.int .i64 rc) ∧ Hid (Q1 w'))) := (mg_lock k).mono fun r w1 ⟨h1, h2⟩ => by
    obtain ⟨k1, p1⟩ := h2.out
    have q1 := hq.part p1 (fun b h => .inl h)
    exact ⟨h1, q1.cell, hC w1 k1 p1 q1⟩
  have HU : Hid (Lets Z Q1 Q0) := hU
  clear k hq hC hU
  go_enter_defers Tryz.func16, Tryz.ntmps16
  go_wp2_with fail
  refine HM.out.mono ?_
  rintro r w1 ⟨rfl, hw⟩
  obtain rfl : w = w1 := hw.symm
  clear hw HM
  go_wp2_with fail
  refine HL.out.mono ?_
  rintro r w1 ⟨rfl, c1, H1⟩
  clear HL c0
  go_wp2_with fail
  refine H1.out.mono ?_
  rintro r w2 ⟨rfl, H2⟩
  clear H1 c1
  go_wp2
  refine leaves_cons (f := 32) (args := #[.pointer (some ⟨Z, 0, none⟩)]) (by simp) (by simp [go_sem]) ?_
  refine (HU.out _ H2.out).mono ?_
  rintro e u' w9 ⟨rfl, rfl, HZ⟩
  exact ⟨_, results_tmp rfl _ _ _, rfl, HZ⟩
end Go.Proofs.YthfokciijcmhbaaGreatDoor

namespace Go.Proofs.YthfokciijcmhbaaGreatDoor
open Go.RowKit
set_option linter.unusedVariables false

variable {B0 : Nat} {A : Ax} {P P' : Nat → Prop} {w w' w1 w2 : World} {Z S D L bf n M la fo lt N Q : Nat} {g : Int} {X : Nat → Bf} {e : Nat → Int} {ln : Nat → Nat} {lo : Nat → Nat → Int} {T : Nat → Tr}
set_option maxRecDepth 100000 in
set_option maxHeartbeats 2000000 in
theorem M_read (k : Mg B0 A w P Z S 0 D L bf n X M e la fo ln lo lt N T) (hq : Mk w P Q Z) (z pg rc : Int) (tv : Value) (Q1 Q0 : Value → World → Prop) (hF : ∀ wq, Mg B0 A wq P Z S 1 D L bf n X M e la fo ln lo lt N T → Calls Tryz.prog 35 #[.pointer (some ⟨Z, 0, none⟩), .int .i64 z] wq fun r w' => r = .returned tv ∧ w' = wq) (hC : ∀ wq, Mg B0 A wq P Z S 1 D L bf n X M e la fo ln lo lt N T → Part (Fm B0 P w) w wq → Mk wq P Q Z → Calls Tryz.prog 38 #[.pointer (some ⟨Z, 0, none⟩), tv, .int .i64 pg] wq fun r w' => ∃ a n c, r = .returned (.tuple #[.slice a n c, .int .i64 rc]) ∧ w'.cell? ⟨Q, 0, none⟩ = some (.pointer (some ⟨Z, 0, none⟩)) ∧ Hid (∀ wq, Below w'.heap.size w' wq → Q1 (.slice a n c) wq)) (hU : ∀ v, Lets Z (Q1 v) (Q0 v)) : Calls Tryz.prog 18 #[.pointer (some ⟨Q, 0, none⟩), .int .i64 z, .int .i64 pg] w fun r w' => ∃ a n c, r = .returned (.tuple #[.slice a n c, .int .i64 rc]) ∧ Hid (Q0 (.slice a n c) w') := by
  have HM : Hid (Calls Tryz.prog 30 #[.pointer (some ⟨Q, 0, none⟩)] w fun r w' => r = .returned (.bool false) ∧ w' = w) := mg_missing hq
  have c0 := hq.cell
  have HL : Hid (Calls Tryz.prog 31 #[.pointer (some ⟨Z, 0, none⟩)] w fun r w1 => r = .returned (.tuple #[]) ∧ Hid (∀ wq, Below w1.heap.size w1 wq → wq.cell? ⟨Q, 0, none⟩ = some (.pointer (some ⟨Z, 0, none⟩)) ∧ Hid (Calls Tryz.prog 35 #[.pointer (some ⟨Z, 0, none⟩), .int .i64 z] wq fun r w' => r = .returned tv ∧ w' = wq) ∧ Hid (Calls Tryz.prog 38 #[.pointer (some ⟨Z, 0, none⟩), tv, .int .i64 pg] wq fun r w' => ∃ a n c, r = .returned (.tuple #[.slice a n c, .int .i64 rc]) ∧ w'.cell? ⟨Q, 0, none⟩ = some (.pointer (some ⟨Z, 0, none⟩)) ∧ Hid (∀ wq, Below w'.heap.size w' wq → Q1 (.slice a n c) wq)))) := (mg_lock k).mono fun r w1 ⟨h1, h2⟩ => by
    obtain ⟨k1, p1⟩ := h2.out
    refine ⟨h1, fun wq hb => ?_⟩
    have q1 := hq.part (Fm.trans p1 (fun b h => .inl h) (Part.ofBelow hb)) (fun b h => .inl h)
    exact ⟨q1.cell, hF wq (k1.below hb), hC wq (k1.below hb) (Fm.trans p1 (fun b h => .inl h) (Part.ofBelow hb)) q1⟩
  have HU : Hid (∀ v, Lets Z (Q1 v) (Q0 v)) := hU
  clear k hq hC hU hF
  go_enter_defers Tryz.func18, Tryz.ntmps18
  go_wp2_with fail
  refine HM.out.mono ?_
  rintro r w1 ⟨rfl, hw⟩
  obtain rfl : w = w1 := hw.symm
  clear hw HM
  go_wp2_with fail
  refine HL.out.mono ?_
  rintro r w1 ⟨rfl, H1⟩
  have HS : Hid (∀ wq, Below w1.heap.size w1 wq → wq.cell? ⟨Q, 0, none⟩ = some (.pointer (some ⟨Z, 0, none⟩))) := fun wq hb => (H1.out wq hb).1
  have b1 : Below w1.heap.size w1 w1 := Below.refl _ _
  have c1 := HS.out w1 b1
  clear HL c0
  go_wp2_with fail
  go_region_held3 (fun wq => wq.cell? ⟨Q, 0, none⟩ = some (.pointer (some ⟨Z, 0, none⟩)))
    (first | assumption | exact HS.out _ (by assumption) | exact HS.out _ (blw_drewN 1 (by assumption)) | go_keep)
    (first
      | (go_at_call 35; refine ((H1.out _ (by first | exact b1 | exact blw_drewN 1 b1)).2.1.out).mono ?_; rintro e' v1 ⟨rfl, hv1⟩; subst hv1)
      | (go_at_call 38; refine ((H1.out _ (by first | exact b1 | exact blw_drewN 1 b1 | exact blw_drewN 2 b1 | exact blw_drewN 1 (blw_drewN 1 b1))).2.2.out).mono ?_; rintro e' v2 ⟨a9, n9, c9, rfl, c2, HG⟩))
  have b9 := Below.refl v2.heap.size v2
  go_wp2
  refine leaves_cons (f := 32) (args := #[.pointer (some ⟨Z, 0, none⟩)]) (by simp) (by simp [go_sem]) ?_
  refine (HU.out (.slice a9 n9 c9) _ (by first | exact HG.out _ b9 | exact HG.out _ (blw_drewN 1 b9))).mono ?_
  rintro e u' w9 ⟨rfl, rfl, HZ⟩
  exact ⟨_, results_tmp2 rfl _ _ _, a9, n9, c9, rfl, HZ⟩
end Go.Proofs.YthfokciijcmhbaaGreatDoor
