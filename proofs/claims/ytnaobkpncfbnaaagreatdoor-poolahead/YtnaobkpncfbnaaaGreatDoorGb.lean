/-
  state.save of a buffer that is dirty, or not.
  state.save, walked.
  state.save, where the log must be forced.
  state.save, where the log has nothing that is not forced (its Force does nothing).
-/
import Derived.Test.YtnaobkpncfbnaaaGreatDoorPwC
import Derived.Test.YtnaobkpncfbnaaaGreatDoorLogA
import Derived.StillTailTactics
namespace Go.Proofs.YtnaobkpncfbnaaaGreatDoor
open Go.RowKit
set_option linter.unusedVariables false

variable {B0 : Nat} {A : Prop} {w w1 : World} {P : Nat → Prop} {S D L bf n M last forced : Nat} {m : Int} {X : Nat → Bf} {e : Nat → Int} {ln : Nat → Nat} {lo : Nat → Nat → Int}
theorem Pw.more (k : Pw B0 A w P S m D L bf n X M e last forced ln lo) {M' : Nat} (h : M ≤ M') : Pw B0 A w P S m D L bf n X M' e last forced ln lo := by
  obtain ⟨T, F, vt, s1, s2⟩ := k.lay
  exact { k with lay := ⟨T, F, vt, s1.mono h, s2⟩ }
theorem pw_encode (k : Pw B0 A w P S m D L bf n X M e last forced ln lo) (i : Nat) (hi : i < n) (h0 : 0 < (X i).ls) {g c : Nat} (hd : (X i).ld = .slice (some ⟨g, 0, none⟩) 112 c) (wq : World) (hq : Dr0 w wq) : Calls Tryz.prog 75 #[.int .i64 ((X i).ls : Int), .slice (some ⟨g, 0, none⟩) 112 c] wq fun r w' => ∃ g' c', r = .returned (.tuple #[.slice (some ⟨g', 0, none⟩) 128 c', .int .i64 0]) ∧ Hid (Pw B0 A w' P S m D L bf n X M e last forced ln lo ∧ Below w.heap.size w w' ∧ From w' (some ⟨g', 0, none⟩) 128 (pg (X i).ls (lo (X i).pg)) ∧ w.heap.size ≤ g') := by
  have kq := k.below hq.below
  have hl := k.lm (X i).pg
  rw [← (k.cl i hi).2.2.1] at hl
  have ho := kq.ld i hi
  rw [hd] at ho
  have hs := (hq.below (B := 0)).size
  refine (wEnc_seal g 0 c (X i).ls (lo (X i).pg) wq (fun j hj => ?_) (k.by_ _) hl (.inl h0) kq.tab).mono fun r w' ⟨v', hr, ho', hb⟩ => ?_
  · rw [Nat.zero_add]
    have h := World.ownsRow.cells (g := g) ho rfl j (.int .u8 (lo (X i).pg j)) (by rw [List.getElem?_map, lst_get _ 112 j hj]; rfl)
    rw [Addr.add_lit, Nat.zero_add] at h
    exact h
  · obtain ⟨g', c', e1, hg', _⟩ := own_some ho' (by decide)
    subst e1
    refine ⟨g', c', hr, kq.below hb, (hq.below (B := w.heap.size)).trans (hb.mono hs), ?_, ?_⟩
    · refine .inr ⟨_, rfl, fun j hj => ?_⟩
      have h := World.ownsRow.cells (g := g') ho' rfl j (.int .u8 (pg (X i).ls (lo (X i).pg) j)) (by rw [List.getElem?_map, lst_get _ 128 j hj]; rfl)
      exact h
    · rcases ho'.2 with ⟨e1, _⟩ | ⟨g2, cap, cur, e1, hg, _⟩
      · cases e1
      · injection e1 with e1
        injection e1 with e1
        injection e1 with e1
        omega
theorem pw_write (k : Pw B0 A w P S m D L bf n X M e last forced ln lo) (i : Nat) (hi : i < n) (h0 : 0 < (X i).ls) (hM : M ≤ 1000000) (hA : A → (X i).ls ≤ forced) {w3 : World} {g c : Nat} (h : Pw B0 A w3 P S m D L bf n X M e last forced ln lo ∧ Below w.heap.size w w3 ∧ From w3 (some ⟨g, 0, none⟩) 128 (pg (X i).ls (lo (X i).pg)) ∧ w.heap.size ≤ g) (wq : World) (hq : Dr0 w3 wq) (t : Int) (ht : t = 4 + ((X i).pg : Int)) :
    Calls Tryz.prog 76 #[.pointer (some ⟨D, 0, none⟩), .int .i64 t, .slice (some ⟨g, 0, none⟩) 128 c] wq fun r w' => r = .returned (.int .i64 0) ∧ Hid (w'.heap[(X i).b]? = some (bufO (X i)) ∧ w'.heap[S]? = w.heap[S]? ∧ ∃ P' e', Pw B0 A (w'.setCell ⟨(X i).b, 3, none⟩ (.int .i64 0)) P' S m D L bf n (cleanX X i) (M + 1) e' last forced ln lo ∧ Part (Fq B0 P w) w (w'.setCell ⟨(X i).b, 3, none⟩ (.int .i64 0)) ∧ ∀ b, P' b → P b ∨ w.heap.size ≤ b) := by
  obtain ⟨k3, b3, hf, hg⟩ := h
  subst ht
  have kq := k3.below hq.below
  have hfq : From wq (some ⟨g, 0, none⟩) 128 (pg (X i).ls (lo (X i).pg)) := hf.below (B := w3.heap.size) hq.below (Nat.le_refl _)
  have bq : Below w.heap.size w wq := b3.trans ((hq.below (B := w3.heap.size)).mono b3.size)
  obtain ⟨T, F, vt, s1, s2, s3, s4, s5⟩ := kq.lay
  obtain ⟨z1, z2, z3, z4, z5⟩ := k.cl i hi
  have := sdWrite D (4 + (X i).pg) 14 M (fun b => F b ∧ Dt wq b) e g 0 c (pg (X i).ls (lo (X i).pg)) wq s1.typed (by omega) (by omega) hfq (pg_by _ (k.by_ _)) (fun h => by have := k.lt g (s3 g h.1); omega)
  rw [show ((4 + (X i).pg : Nat) : Int) = 4 + ((X i).pg : Int) by omega] at this
  refine this.mono fun r w' ⟨hr, hs, hp⟩ => ?_
  have hnt : ∀ b cs t, (F b ∧ Dt wq b) → wq.heap[b]? = some (.cells cs t (0, 0)) → t ≠ 111 ∧ t ≠ 91 := fun b cs t hf e => by
    obtain ⟨_, cs', t', e', ht⟩ := hf
    rw [e'] at e
    injection e with e
    injection e with _ e
    subst e
    rcases ht with rfl | rfl | rfl | rfl <;> decide
  have hb := kq.ps.buf i hi
  have hb' := (hp.block _ (Array.getElem?_eq_some_iff.1 hb).1 (fun hf => (hnt _ _ _ hf hb).1 rfl)).trans hb
  obtain ⟨held, hS, _⟩ := kq.ps.lay
  have hS' := (hp.block S (Array.getElem?_eq_some_iff.1 hS).1 (fun hf => (hnt _ _ _ hf hS).2 rfl)).trans (bq.block S k.ps.lt)
  obtain ⟨q1, q2⟩ := kq.wrote i hi hA h0 (s2.less (F' := fun b => F b ∧ Dt wq b) (fun b h => h.1)) (fun b h => s3 b h.1) s4 s5 (fun b h => h.2) hs hp
  have hsz := bq.size
  refine ⟨hr, hb', hS', _, _, q1, ?_, fun b hb => hb.imp id (fun h => by omega)⟩
  exact (Part.ofBelow (F := Fq B0 P w) bq).trans q2 (fun b hb hf => by
    rcases hf with hf | ⟨hB, cs, t, fz, e', ht⟩
    · exact .inl hf
    · rw [bq.block b hb] at e'
      exact .inr ⟨hB, cs, t, fz, e', ht⟩)
theorem pw_forced (k : Pw B0 A w P S m D L bf n X M e last forced ln lo) : Calls Tryz.prog 14 #[.pointer (some ⟨L, 0, none⟩)] w fun r w' => r = .returned (.int .i64 (forced : Int)) ∧ w' = w := by
  obtain ⟨T, F, vt, s1, s2, _⟩ := k.lay
  obtain ⟨q, place, tl, f, h1, _⟩ := s2.lay
  exact lForced L T _ w (by rw [cells_at h1.hL 0]; rfl) (by rw [cells_at h1.hT 5]; rfl)
end Go.Proofs.YtnaobkpncfbnaaaGreatDoor

namespace Go.Proofs.YtnaobkpncfbnaaaGreatDoor
open Go.RowKit
set_option linter.unusedVariables false

variable {B0 : Nat} {A : Prop} {w w1 : World} {P : Nat → Prop} {S D L bf n M last forced : Nat} {m : Int} {X : Nat → Bf} {e : Nat → Int} {ln : Nat → Nat} {lo : Nat → Nat → Int}
/-- What lies behind a call that wrote the i-th buffer. -/
def Svd (B0 : Nat) (A : Prop) (w : World) (P : Nat → Prop) (S : Nat) (m : Int) (D L bf n : Nat) (X : Nat → Bf) (M last forced : Nat) (ln : Nat → Nat) (lo : Nat → Nat → Int) (w' : World) : Prop := ∃ P' e' fo', Pw B0 A w' P' S m D L bf n X M e' last fo' ln lo ∧ forced ≤ fo' ∧ Part (Fq B0 P w) w w' ∧ ∀ b, P' b → P b ∨ w.heap.size ≤ b
theorem s_saveC (k : Pw B0 A w P S m D L bf n X M e last forced ln lo) (i : Nat) (hi : i < n) (hx : (X i).fi = 0) : Calls Tryz.prog 47 #[.pointer (some ⟨S, 0, none⟩), ptr (X i).b] w fun r w' => r = .returned (.int .i64 0) ∧ Svd B0 A w P S m D L bf n (cleanX X i) (M + 1) last forced ln lo w' :=
  (s_save S (X i) w (k.ps.buf i hi) hx).mono fun r w' ⟨h1, h2⟩ => ⟨h1, by subst h2; exact ⟨P, e, forced, by rw [clean_same X hx]; exact k.more (by omega), Nat.le_refl _, Part.refl _ _, fun b hb => .inl hb⟩⟩
set_option maxRecDepth 100000 in
set_option maxHeartbeats 4000000 in
theorem s_saveN (k : Pw B0 A w P S m D L bf n X M e last forced ln lo) (i : Nat) (hi : i < n) (hM : M ≤ 1000000) (hx : 0 < (X i).fi) (hF : (X i).ls ≤ forced) : Calls Tryz.prog 47 #[.pointer (some ⟨S, 0, none⟩), ptr (X i).b] w fun r w' => r = .returned (.int .i64 0) ∧ Svd B0 A w P S m D L bf n (cleanX X i) (M + 1) last forced ln lo w' := by
  obtain ⟨held, h1, h2⟩ := k.ps.lay
  have hb := k.ps.buf i hi
  obtain ⟨z1, z2, z3, z4, z5⟩ := k.cl i hi
  obtain ⟨g, c, hd, _⟩ := own_some (k.ld i hi) (by decide)
  obtain ⟨q, hqb⟩ : ∃ q, (X i).b = q := ⟨_, rfl⟩
  obtain ⟨y, hy⟩ : ∃ y, (X i).ls = y := ⟨_, rfl⟩
  obtain ⟨p, hp⟩ : ∃ p, (X i).pg = p := ⟨_, rfl⟩
  have HD : Hid (Calls Tryz.prog 73 #[ptr (X i).b] w fun r w' => r = .returned (.bool true) ∧ w' = w) := (s_dirtyG (X i) w hb).mono fun r w' ⟨h1, h2⟩ => ⟨by rw [h1, decide_eq_true hx], h2⟩
  have HFo : Hid (∀ q, Calls Tryz.prog 14 #[.pointer (some ⟨L, 0, none⟩)] (w.drewN q) fun r w' => r = .returned (.int .i64 (forced : Int)) ∧ w' = w.drewN q) := fun q => pw_forced (k.below (blw_drewN q (Below.refl _ w)))
  have HB : Hid (∀ wq, Below w.heap.size w wq → wq.cell? ⟨q, 1, none⟩ = some (.int .i64 (y : Int)) ∧ wq.cell? ⟨q, 2, none⟩ = some (.slice (some ⟨g, 0, none⟩) 112 c) ∧ wq.cell? ⟨q, 0, none⟩ = some (.int .i64 (p : Int)) ∧ wq.cell? ⟨S, 2, none⟩ = some (.pointer (some ⟨D, 0, none⟩)) ∧ wq.cell? ⟨S, 4, none⟩ = some (.int .i64 4) ∧ wq.cell? ⟨S, 3, none⟩ = some (.pointer (some ⟨L, 0, none⟩))) := fun wq hq => by
    have e1 := (hq.block _ (Array.getElem?_eq_some_iff.1 hb).1).trans hb
    have e2 := (hq.block S k.ps.lt).trans h1
    rw [← hqb, ← hy, ← hp, ← hd]
    exact ⟨by rw [cells_at e1 1]; rfl, by rw [cells_at e1 2]; rfl, by rw [cells_at e1 0]; rfl, by rw [cells_at e2 2]; rfl, by rw [cells_at e2 4]; rfl, by rw [cells_at e2 3]; rfl⟩
  have HEn : Hid (∀ wq, Dr0 w wq → Calls Tryz.prog 75 #[.int .i64 (y : Int), .slice (some ⟨g, 0, none⟩) 112 c] wq fun r w' => ∃ g' c', r = .returned (.tuple #[.slice (some ⟨g', 0, none⟩) 128 c', .int .i64 0]) ∧ Below w.heap.size w w' ∧ Hid (Pw B0 A w' P S m D L bf n X M e last forced ln lo ∧ Below w.heap.size w w' ∧ From w' (some ⟨g', 0, none⟩) 128 (pg (X i).ls (lo (X i).pg)) ∧ w.heap.size ≤ g')) := fun wq hq => by
    rw [← hy]
    exact (pw_encode k i hi (z5 hx) hd wq hq).mono fun r w' ⟨g', c', h1, h2⟩ => ⟨g', c', h1, h2.out.2.1, h2⟩
  have HWr : Hid (∀ w3 g' c', Pw B0 A w3 P S m D L bf n X M e last forced ln lo ∧ Below w.heap.size w w3 ∧ From w3 (some ⟨g', 0, none⟩) 128 (pg (X i).ls (lo (X i).pg)) ∧ w.heap.size ≤ g' → ∀ wq t, Dr0 w3 wq → t = 4 + (p : Int) → Calls Tryz.prog 76 #[.pointer (some ⟨D, 0, none⟩), .int .i64 t, .slice (some ⟨g', 0, none⟩) 128 c'] wq fun r w' => r = .returned (.int .i64 0) ∧ (w'.cell? ⟨q, 0, none⟩ = some (.int .i64 (p : Int)) ∧ w'.cell? ⟨S, 2, none⟩ = some (.pointer (some ⟨D, 0, none⟩)) ∧ w'.cell? ⟨S, 4, none⟩ = some (.int .i64 4)) ∧ Hid (w'.cell? ⟨q, 3, none⟩ = some (.int .i64 ((X i).fi : Int)) ∧ w'.frozen? ⟨q, 3, none⟩ = false ∧ Svd B0 A w P S m D L bf n (cleanX X i) (M + 1) last forced ln lo (w'.setCell ⟨q, 3, none⟩ (.int .i64 0)))) := fun w3 g' c' h wq t hq ht => by
    rw [← hqb]
    refine (pw_write k i hi (z5 hx) hM (fun _ => hF) h wq hq t (by rw [ht, hp])).mono fun r w' ⟨j0, j⟩ => ?_
    obtain ⟨j1, j2, P', e', j3, j4, j5⟩ := j.out
    have e2 := j2.trans h1
    rw [← hp]
    exact ⟨j0, ⟨by rw [cells_at j1 0]; rfl, by rw [cells_at e2 2]; rfl, by rw [cells_at e2 4]; rfl⟩, by rw [cells_at j1 3]; rfl, cells_free j1 3, P', e', forced, j3, Nat.le_refl _, j4, j5⟩
  have hyf : (y : Int) ≤ (forced : Int) := by omega
  have d1 : decide ((forced : Int) < (y : Int)) = false := decide_eq_false (by omega)
  have hp1 : (p : Int) < 10 := by omega
  have hp0 : (0 : Int) ≤ (p : Int) := by omega
  rw [hqb] at HD ⊢
  unfold ptr at *
  clear k h1 h2 hb z1 z2 z3 z4 z5 hd hqb hy hp hx hF hi
  obtain ⟨u1, u2, u0, uS2, uS4, uS3⟩ := HB.out w (Below.refl _ w)
  go_enter Tryz.func47, Tryz.ntmps47
  go_wp2_with fail
  refine HD.out.mono ?_
  rintro r w1 ⟨rfl, hw⟩
  obtain rfl : w = w1 := hw.symm
  clear hw HD
  go_wp2_with fail
  go_quiet (first
    | (go_at_call 14; exact Calls.quiet_of_same (HFo.out _)))
  have q1 : Dr0 w (w.drewN nq) := ⟨nq, rfl⟩
  have b1 : Below w.heap.size w (w.drewN nq) := q1.below
  clear u1 u2 u0 uS2 uS4 uS3 HFo
  obtain ⟨u1, u2, u0, uS2, uS4, uS3⟩ := HB.out _ b1
  generalize w.drewN nq = w1 at *
  go_wp2_with fail
  go_region_held2 (fun wq => wq.cell? ⟨q, 1, none⟩ = some (.int .i64 (y : Int)) ∧ wq.cell? ⟨q, 2, none⟩ = some (.slice (some ⟨g, 0, none⟩) 112 c))
    (first | exact ⟨(HB.out _ (by assumption)).1, (HB.out _ (by assumption)).2.1⟩ | exact ⟨(HB.out _ (blw_drewN 1 (by assumption))).1, (HB.out _ (blw_drewN 1 (by assumption))).2.1⟩ | go_keep)
    (first
      | (go_at_call 75; refine (HEn.out _ (by first | exact q1 | exact q1.drew)).mono ?_; rintro e' w3 ⟨g', c', rfl, k2, HE⟩))
  clear u1 u2 u0 uS2 uS4 uS3 HEn
  obtain ⟨u1, u2, u0, uS2, uS4, uS3⟩ := HB.out _ k2
  have q3 : Dr0 w3 w3 := Dr0.refl _
  have b3 : Below w3.heap.size w3 w3 := Below.refl _ w3
  have HB3 : Hid (∀ wq, Below w3.heap.size w3 wq → wq.cell? ⟨q, 0, none⟩ = some (.int .i64 (p : Int)) ∧ wq.cell? ⟨S, 2, none⟩ = some (.pointer (some ⟨D, 0, none⟩)) ∧ wq.cell? ⟨S, 4, none⟩ = some (.int .i64 4)) := fun wq hq => by
    obtain ⟨v1, v2, v0, vS2, vS4, vS3⟩ := HB.out wq (k2.trans (hq.mono k2.size))
    exact ⟨v0, vS2, vS4⟩
  have HW3 : Hid (∀ wq t, Dr0 w3 wq → t = 4 + (p : Int) → Calls Tryz.prog 76 #[.pointer (some ⟨D, 0, none⟩), .int .i64 t, .slice (some ⟨g', 0, none⟩) 128 c'] wq fun r w' => r = .returned (.int .i64 0) ∧ (w'.cell? ⟨q, 0, none⟩ = some (.int .i64 (p : Int)) ∧ w'.cell? ⟨S, 2, none⟩ = some (.pointer (some ⟨D, 0, none⟩)) ∧ w'.cell? ⟨S, 4, none⟩ = some (.int .i64 4)) ∧ Hid (w'.cell? ⟨q, 3, none⟩ = some (.int .i64 ((X i).fi : Int)) ∧ w'.frozen? ⟨q, 3, none⟩ = false ∧ Svd B0 A w P S m D L bf n (cleanX X i) (M + 1) last forced ln lo (w'.setCell ⟨q, 3, none⟩ (.int .i64 0)))) := fun wq t hq ht => HWr.out w3 g' c' HE.out wq t hq ht
  clear HB HWr HE k2 q1 b1 u1 u2 uS3
  go_wp2_with fail
  go_region_held2 (fun wq => wq.cell? ⟨q, 0, none⟩ = some (.int .i64 (p : Int)) ∧ wq.cell? ⟨S, 2, none⟩ = some (.pointer (some ⟨D, 0, none⟩)) ∧ wq.cell? ⟨S, 4, none⟩ = some (.int .i64 4))
    (first | assumption | exact HB3.out _ (by assumption) | exact HB3.out _ (blw_drewN 1 (by assumption)) | go_keep)
    (first
      | (go_at_call 76; refine (HW3.out _ _ (by first | exact q3 | exact q3.drew) (by first | rfl | (simp only [IntKind.wrap_i64]; omega))).mono ?_; rintro e' w4 ⟨rfl, HS4, HF⟩))
  obtain ⟨v3, x3, _⟩ := HF.out
  clear HB3 HW3
  go_wp2
  go_ret
  exact ⟨rfl, HF.out.2.2⟩
end Go.Proofs.YtnaobkpncfbnaaaGreatDoor

namespace Go.Proofs.YtnaobkpncfbnaaaGreatDoor
open Go.RowKit
set_option linter.unusedVariables false

variable {B0 : Nat} {A : Prop} {w w1 : World} {P : Nat → Prop} {S D L bf n M last forced : Nat} {m : Int} {X : Nat → Bf} {e : Nat → Int} {ln : Nat → Nat} {lo : Nat → Nat → Int}
theorem save_facts (k : Pw B0 A w P S m D L bf n X M e last forced ln lo) (i : Nat) (hi : i < n) (hM : M ≤ 1000000) (hx : 0 < (X i).fi) (hF : A → (X i).ls ≤ forced) {g c q y p : Nat} (hd : (X i).ld = .slice (some ⟨g, 0, none⟩) 112 c) (hqb : (X i).b = q) (hy : (X i).ls = y) (hp : (X i).pg = p) :
    Hid (∀ wq, Below w.heap.size w wq → wq.cell? ⟨q, 1, none⟩ = some (.int .i64 (y : Int)) ∧ wq.cell? ⟨q, 2, none⟩ = some (.slice (some ⟨g, 0, none⟩) 112 c) ∧ wq.cell? ⟨q, 0, none⟩ = some (.int .i64 (p : Int)) ∧ wq.cell? ⟨S, 2, none⟩ = some (.pointer (some ⟨D, 0, none⟩)) ∧ wq.cell? ⟨S, 4, none⟩ = some (.int .i64 4) ∧ wq.cell? ⟨S, 3, none⟩ = some (.pointer (some ⟨L, 0, none⟩))) ∧ Hid (∀ wq, Dr0 w wq → Calls Tryz.prog 75 #[.int .i64 (y : Int), .slice (some ⟨g, 0, none⟩) 112 c] wq fun r w' => ∃ g' c', r = .returned (.tuple #[.slice (some ⟨g', 0, none⟩) 128 c', .int .i64 0]) ∧ Below w.heap.size w w' ∧ Hid (Pw B0 A w' P S m D L bf n X M e last forced ln lo ∧ Below w.heap.size w w' ∧ From w' (some ⟨g', 0, none⟩) 128 (pg (X i).ls (lo (X i).pg)) ∧ w.heap.size ≤ g')) ∧ Hid (∀ w3 g' c', Pw B0 A w3 P S m D L bf n X M e last forced ln lo ∧ Below w.heap.size w w3 ∧ From w3 (some ⟨g', 0, none⟩) 128 (pg (X i).ls (lo (X i).pg)) ∧ w.heap.size ≤ g' → ∀ wq t, Dr0 w3 wq → t = 4 + (p : Int) → Calls Tryz.prog 76 #[.pointer (some ⟨D, 0, none⟩), .int .i64 t, .slice (some ⟨g', 0, none⟩) 128 c'] wq fun r w' => r = .returned (.int .i64 0) ∧ (w'.cell? ⟨q, 0, none⟩ = some (.int .i64 (p : Int)) ∧ w'.cell? ⟨S, 2, none⟩ = some (.pointer (some ⟨D, 0, none⟩)) ∧ w'.cell? ⟨S, 4, none⟩ = some (.int .i64 4)) ∧ Hid (w'.cell? ⟨q, 3, none⟩ = some (.int .i64 ((X i).fi : Int)) ∧ w'.frozen? ⟨q, 3, none⟩ = false ∧ Svd B0 A w P S m D L bf n (cleanX X i) (M + 1) last forced ln lo (w'.setCell ⟨q, 3, none⟩ (.int .i64 0)))) := by
  obtain ⟨held, h1, h2⟩ := k.ps.lay
  have hb := k.ps.buf i hi
  obtain ⟨z1, z2, z3, z4, z5⟩ := k.cl i hi
  have HB : Hid (∀ wq, Below w.heap.size w wq → wq.cell? ⟨q, 1, none⟩ = some (.int .i64 (y : Int)) ∧ wq.cell? ⟨q, 2, none⟩ = some (.slice (some ⟨g, 0, none⟩) 112 c) ∧ wq.cell? ⟨q, 0, none⟩ = some (.int .i64 (p : Int)) ∧ wq.cell? ⟨S, 2, none⟩ = some (.pointer (some ⟨D, 0, none⟩)) ∧ wq.cell? ⟨S, 4, none⟩ = some (.int .i64 4) ∧ wq.cell? ⟨S, 3, none⟩ = some (.pointer (some ⟨L, 0, none⟩))) := fun wq hq => by
    have e1 := (hq.block _ (Array.getElem?_eq_some_iff.1 hb).1).trans hb
    have e2 := (hq.block S k.ps.lt).trans h1
    rw [← hqb, ← hy, ← hp, ← hd]
    exact ⟨by rw [cells_at e1 1]; rfl, by rw [cells_at e1 2]; rfl, by rw [cells_at e1 0]; rfl, by rw [cells_at e2 2]; rfl, by rw [cells_at e2 4]; rfl, by rw [cells_at e2 3]; rfl⟩
  have HEn : Hid (∀ wq, Dr0 w wq → Calls Tryz.prog 75 #[.int .i64 (y : Int), .slice (some ⟨g, 0, none⟩) 112 c] wq fun r w' => ∃ g' c', r = .returned (.tuple #[.slice (some ⟨g', 0, none⟩) 128 c', .int .i64 0]) ∧ Below w.heap.size w w' ∧ Hid (Pw B0 A w' P S m D L bf n X M e last forced ln lo ∧ Below w.heap.size w w' ∧ From w' (some ⟨g', 0, none⟩) 128 (pg (X i).ls (lo (X i).pg)) ∧ w.heap.size ≤ g')) := fun wq hq => by
    rw [← hy]
    exact (pw_encode k i hi (z5 hx) hd wq hq).mono fun r w' ⟨g', c', h1, h2⟩ => ⟨g', c', h1, h2.out.2.1, h2⟩
  have HWr : Hid (∀ w3 g' c', Pw B0 A w3 P S m D L bf n X M e last forced ln lo ∧ Below w.heap.size w w3 ∧ From w3 (some ⟨g', 0, none⟩) 128 (pg (X i).ls (lo (X i).pg)) ∧ w.heap.size ≤ g' → ∀ wq t, Dr0 w3 wq → t = 4 + (p : Int) → Calls Tryz.prog 76 #[.pointer (some ⟨D, 0, none⟩), .int .i64 t, .slice (some ⟨g', 0, none⟩) 128 c'] wq fun r w' => r = .returned (.int .i64 0) ∧ (w'.cell? ⟨q, 0, none⟩ = some (.int .i64 (p : Int)) ∧ w'.cell? ⟨S, 2, none⟩ = some (.pointer (some ⟨D, 0, none⟩)) ∧ w'.cell? ⟨S, 4, none⟩ = some (.int .i64 4)) ∧ Hid (w'.cell? ⟨q, 3, none⟩ = some (.int .i64 ((X i).fi : Int)) ∧ w'.frozen? ⟨q, 3, none⟩ = false ∧ Svd B0 A w P S m D L bf n (cleanX X i) (M + 1) last forced ln lo (w'.setCell ⟨q, 3, none⟩ (.int .i64 0)))) := fun w3 g' c' h wq t hq ht => by
    rw [← hqb]
    refine (pw_write k i hi (z5 hx) hM hF h wq hq t (by rw [ht, hp])).mono fun r w' ⟨j0, j⟩ => ?_
    obtain ⟨j1, j2, P', e', j3, j4, j5⟩ := j.out
    have e2 := j2.trans h1
    rw [← hp]
    exact ⟨j0, ⟨by rw [cells_at j1 0]; rfl, by rw [cells_at e2 2]; rfl, by rw [cells_at e2 4]; rfl⟩, by rw [cells_at j1 3]; rfl, cells_free j1 3, P', e', forced, j3, Nat.le_refl _, j4, j5⟩
  exact ⟨HB, HEn, HWr⟩
set_option maxRecDepth 100000 in
set_option maxHeartbeats 4000000 in
theorem s_saveF (k : Pw B0 A w P S m D L bf n X M e last forced ln lo) (i : Nat) (hi : i < n) (hM : M ≤ 1000000) (hx : 0 < (X i).fi) (hF : forced < (X i).ls) (HFc : ∀ q, Calls Tryz.prog 74 #[.pointer (some ⟨L, 0, none⟩)] (w.drewN q) fun r w' => r = .returned (.int .i64 0) ∧ ∃ P' e', Pw B0 A w' P' S m D L bf n X M e' last last ln lo ∧ Part (Fq B0 P w) w w' ∧ ∀ b, P' b → P b ∨ w.heap.size ≤ b) : Calls Tryz.prog 47 #[.pointer (some ⟨S, 0, none⟩), ptr (X i).b] w fun r w' => r = .returned (.int .i64 0) ∧ Svd B0 A w P S m D L bf n (cleanX X i) (M + 1) last forced ln lo w' := by
  obtain ⟨held, h1, h2⟩ := k.ps.lay
  have hb := k.ps.buf i hi
  obtain ⟨z1, z2, z3, z4, z5⟩ := k.cl i hi
  obtain ⟨g, c, hd, _⟩ := own_some (k.ld i hi) (by decide)
  obtain ⟨q, hqb⟩ : ∃ q, (X i).b = q := ⟨_, rfl⟩
  obtain ⟨y, hy⟩ : ∃ y, (X i).ls = y := ⟨_, rfl⟩
  obtain ⟨p, hp⟩ : ∃ p, (X i).pg = p := ⟨_, rfl⟩
  have HD : Hid (Calls Tryz.prog 73 #[ptr (X i).b] w fun r w' => r = .returned (.bool true) ∧ w' = w) := (s_dirtyG (X i) w hb).mono fun r w' ⟨h1, h2⟩ => ⟨by rw [h1, decide_eq_true hx], h2⟩
  have HFo : Hid (∀ q, Calls Tryz.prog 14 #[.pointer (some ⟨L, 0, none⟩)] (w.drewN q) fun r w' => r = .returned (.int .i64 (forced : Int)) ∧ w' = w.drewN q) := fun q => pw_forced (k.below (blw_drewN q (Below.refl _ w)))
  have HB : Hid (∀ wq, Below w.heap.size w wq → wq.cell? ⟨q, 1, none⟩ = some (.int .i64 (y : Int)) ∧ wq.cell? ⟨q, 2, none⟩ = some (.slice (some ⟨g, 0, none⟩) 112 c) ∧ wq.cell? ⟨q, 0, none⟩ = some (.int .i64 (p : Int)) ∧ wq.cell? ⟨S, 2, none⟩ = some (.pointer (some ⟨D, 0, none⟩)) ∧ wq.cell? ⟨S, 4, none⟩ = some (.int .i64 4) ∧ wq.cell? ⟨S, 3, none⟩ = some (.pointer (some ⟨L, 0, none⟩))) := fun wq hq => by
    have e1 := (hq.block _ (Array.getElem?_eq_some_iff.1 hb).1).trans hb
    have e2 := (hq.block S k.ps.lt).trans h1
    rw [← hqb, ← hy, ← hp, ← hd]
    exact ⟨by rw [cells_at e1 1]; rfl, by rw [cells_at e1 2]; rfl, by rw [cells_at e1 0]; rfl, by rw [cells_at e2 2]; rfl, by rw [cells_at e2 4]; rfl, by rw [cells_at e2 3]; rfl⟩
  have HSF : Hid (∀ w2 P2 e2, Pw B0 A w2 P2 S m D L bf n X M e2 last last ln lo → _) := fun w2 P2 e2 k2 => save_facts k2 i hi hM hx (fun a => by rw [z3]; exact k.al a _) hd hqb hy hp
  have HFC : Hid (∀ q, Calls Tryz.prog 74 #[.pointer (some ⟨L, 0, none⟩)] (w.drewN q) fun r w' => r = .returned (.int .i64 0) ∧ Hid (∃ P' e', Pw B0 A w' P' S m D L bf n X M e' last last ln lo ∧ Part (Fq B0 P w) w w' ∧ ∀ b, P' b → P b ∨ w.heap.size ≤ b)) := fun q => HFc q
  have hfl : forced ≤ last := by
    obtain ⟨_, _, _, _, z, _⟩ := k.lay
    exact z.fl
  have hfy : forced < y := by omega
  have d2 : decide (forced < y) = true := decide_eq_true hfy
  have d1 : decide ((forced : Int) < (y : Int)) = true := decide_eq_true (by omega)
  have hp1 : (p : Int) < 10 := by omega
  have hp0 : (0 : Int) ≤ (p : Int) := by omega
  rw [hqb] at HD ⊢
  unfold ptr at *
  clear k h1 h2 hb z1 z2 z3 z4 z5 hd hqb hy hp hx hF hi HFc
  obtain ⟨u1, u2, u0, uS2, uS4, uS3⟩ := HB.out w (Below.refl _ w)
  go_enter Tryz.func47, Tryz.ntmps47
  go_wp2_with fail
  refine HD.out.mono ?_
  rintro r w1 ⟨rfl, hw⟩
  obtain rfl : w = w1 := hw.symm
  clear hw HD
  go_wp2_with fail
  go_quiet (first
    | (go_at_call 14; exact Calls.quiet_of_same (HFo.out _)))
  have qd : Dr0 w (w.drewN nq) := ⟨nq, rfl⟩
  have b1 : Below w.heap.size w (w.drewN nq) := qd.below
  clear u1 u2 u0 uS2 uS4 uS3 HFo
  obtain ⟨u1, u2, u0, uS2, uS4, uS3⟩ := HB.out _ b1
  go_wp2_with fail
  refine (HFC.out nq).mono ?_
  rintro r w1 ⟨rfl, HK⟩
  obtain ⟨P2, e2, k2, p2, l2⟩ := HK.out
  clear HB u1 u2 u0 uS2 uS4 uS3 b1 HFC
  obtain ⟨HB, HEn, HWr⟩ := HSF.out w1 P2 e2 k2
  have HT : Hid (∀ w', Svd B0 A w1 P2 S m D L bf n (cleanX X i) (M + 1) last last ln lo w' → Svd B0 A w P S m D L bf n (cleanX X i) (M + 1) last forced ln lo w') := fun w' ⟨P', e', fo', j1, j2, j3, j4⟩ => ⟨P', e', fo', j1, by omega, Fq.trans p2 l2 j3, fun b hb => by
    have := p2.size
    rcases j4 b hb with h | h
    · exact l2 b h
    · exact .inr (by omega)⟩
  have q1 : Dr0 w1 w1 := Dr0.refl _
  have b1 : Below w1.heap.size w1 w1 := Below.refl _ w1
  clear HSF HK k2 p2 l2
  obtain ⟨u1, u2, u0, uS2, uS4, uS3⟩ := HB.out _ b1
  go_wp2_with fail
  go_region_held2 (fun wq => wq.cell? ⟨q, 1, none⟩ = some (.int .i64 (y : Int)) ∧ wq.cell? ⟨q, 2, none⟩ = some (.slice (some ⟨g, 0, none⟩) 112 c))
    (first | exact ⟨(HB.out _ (by assumption)).1, (HB.out _ (by assumption)).2.1⟩ | exact ⟨(HB.out _ (blw_drewN 1 (by assumption))).1, (HB.out _ (blw_drewN 1 (by assumption))).2.1⟩ | go_keep)
    (first
      | (go_at_call 75; refine (HEn.out _ (by first | exact q1 | exact q1.drew)).mono ?_; rintro e' w3 ⟨g', c', rfl, k2, HE⟩))
  clear u1 u2 u0 uS2 uS4 uS3 HEn
  obtain ⟨u1, u2, u0, uS2, uS4, uS3⟩ := HB.out _ k2
  have q3 : Dr0 w3 w3 := Dr0.refl _
  have b3 : Below w3.heap.size w3 w3 := Below.refl _ w3
  have HB3 : Hid (∀ wq, Below w3.heap.size w3 wq → wq.cell? ⟨q, 0, none⟩ = some (.int .i64 (p : Int)) ∧ wq.cell? ⟨S, 2, none⟩ = some (.pointer (some ⟨D, 0, none⟩)) ∧ wq.cell? ⟨S, 4, none⟩ = some (.int .i64 4)) := fun wq hq => by
    obtain ⟨v1, v2, v0, vS2, vS4, vS3⟩ := HB.out wq (k2.trans (hq.mono k2.size))
    exact ⟨v0, vS2, vS4⟩
  have HW3 : Hid (∀ wq t, Dr0 w3 wq → t = 4 + (p : Int) → Calls Tryz.prog 76 #[.pointer (some ⟨D, 0, none⟩), .int .i64 t, .slice (some ⟨g', 0, none⟩) 128 c'] wq fun r w' => r = .returned (.int .i64 0) ∧ (w'.cell? ⟨q, 0, none⟩ = some (.int .i64 (p : Int)) ∧ w'.cell? ⟨S, 2, none⟩ = some (.pointer (some ⟨D, 0, none⟩)) ∧ w'.cell? ⟨S, 4, none⟩ = some (.int .i64 4)) ∧ Hid (w'.cell? ⟨q, 3, none⟩ = some (.int .i64 ((X i).fi : Int)) ∧ w'.frozen? ⟨q, 3, none⟩ = false ∧ Svd B0 A w1 P2 S m D L bf n (cleanX X i) (M + 1) last last ln lo (w'.setCell ⟨q, 3, none⟩ (.int .i64 0)))) := fun wq t hq ht => HWr.out w3 g' c' HE.out wq t hq ht
  clear HB HWr HE k2 q1 b1 u1 u2 uS3
  go_wp2_with fail
  go_region_held2 (fun wq => wq.cell? ⟨q, 0, none⟩ = some (.int .i64 (p : Int)) ∧ wq.cell? ⟨S, 2, none⟩ = some (.pointer (some ⟨D, 0, none⟩)) ∧ wq.cell? ⟨S, 4, none⟩ = some (.int .i64 4))
    (first | assumption | exact HB3.out _ (by assumption) | exact HB3.out _ (blw_drewN 1 (by assumption)) | go_keep)
    (first
      | (go_at_call 76; refine (HW3.out _ _ (by first | exact q3 | exact q3.drew) (by first | rfl | (simp only [IntKind.wrap_i64]; omega))).mono ?_; rintro e' w4 ⟨rfl, HS4, HF⟩))
  obtain ⟨v3, x3, _⟩ := HF.out
  clear HB3 HW3
  go_wp2
  go_ret
  exact ⟨rfl, HT.out _ HF.out.2.2⟩
end Go.Proofs.YtnaobkpncfbnaaaGreatDoor

namespace Go.Proofs.YtnaobkpncfbnaaaGreatDoor
open Go.RowKit
set_option linter.unusedVariables false

set_option maxRecDepth 100000 in
set_option maxHeartbeats 1000000 in
theorem force_same0 (L T D from_ sectors first last place : Nat) (vt : Value) (w : World) (h : LogW w L T D from_ sectors first last last place vt) :
    Calls Tryz.prog 74 #[.pointer (some ⟨L, 0, none⟩)] w fun r w' => r = .returned (.int .i64 0) ∧ ∃ q, w' = w.drewN q := by
  have l0 := h.l0
  have c4 : w.cell? ⟨T, 4, none⟩ = some (.int .i64 (last : Int)) := by rw [cells_at h.hT 4]; rfl
  have c5 : w.cell? ⟨T, 5, none⟩ = some (.int .i64 (last : Int)) := by rw [cells_at h.hT 5]; rfl
  clear h
  go_enter Tryz.func74, Tryz.ntmps74
  go_wp2_with fail
  refine (lMissing L T w l0).mono ?_
  rintro r w0 ⟨rfl, hw⟩
  obtain rfl : w = w0 := hw.symm
  clear hw
  go_wp2_with fail
  go_quiet (fail)
  go_wp2
  go_ret
  exact ⟨rfl, _, rfl⟩

variable {B0 : Nat} {A : Prop} {w w1 : World} {P : Nat → Prop} {S D L bf n M last forced : Nat} {m : Int} {X : Nat → Bf} {e : Nat → Int} {ln : Nat → Nat} {lo : Nat → Nat → Int}
theorem pw_force_same (k : Pw B0 A w P S m D L bf n X M e last last ln lo) (q : Nat) : Calls Tryz.prog 74 #[.pointer (some ⟨L, 0, none⟩)] (w.drewN q) fun r w' => r = .returned (.int .i64 0) ∧ ∃ P' e', Pw B0 A w' P' S m D L bf n X M e' last last ln lo ∧ Part (Fq B0 P w) w w' ∧ ∀ b, P' b → P b ∨ w.heap.size ≤ b := by
  have bq : Below w.heap.size w (w.drewN q) := blw_drewN q (Below.refl _ w)
  have kq := k.below bq
  obtain ⟨T, F, vt, s1, s2, _⟩ := kq.lay
  obtain ⟨q', place, tl, f, h1, _⟩ := s2.lay
  refine (force_same0 L T D 0 4 1 last place vt _ h1).mono fun r w' ⟨hr, q2, hw⟩ => ⟨hr, P, e, ?_, ?_, fun b hb => .inl hb⟩
  · rw [hw]; exact kq.below (blw_drewN q2 (Below.refl _ _))
  · rw [hw]; exact ((Part.refl _ w).drewN q).drewN q2
/-- save, of any buffer, where the log has nothing that is not forced. -/
theorem s_saveS (k : Pw B0 A w P S m D L bf n X M e last last ln lo) (i : Nat) (hi : i < n) (hM : M ≤ 1000000) : Calls Tryz.prog 47 #[.pointer (some ⟨S, 0, none⟩), ptr (X i).b] w fun r w' => r = .returned (.int .i64 0) ∧ Svd B0 A w P S m D L bf n (cleanX X i) (M + 1) last last ln lo w' := by
  by_cases hx : (X i).fi = 0
  · exact s_saveC k i hi hx
  · by_cases hF : (X i).ls ≤ last
    · exact s_saveN k i hi hM (by omega) hF
    · exact s_saveF k i hi hM (by omega) (by omega) (fun q => pw_force_same k q)
end Go.Proofs.YtnaobkpncfbnaaaGreatDoor
