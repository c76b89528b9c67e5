/-
  state.save, where the log must be forced.
  state.save, where the log has nothing that is not forced (its Force does nothing).
  Plain facts of a page's sector: read back it is what was written (dec_back); with one byte turned it is refused (dec_turned). No condition but those that each theorem names.
-/
import Derived.Test.YthfokciijcmhbaaGreatDoorGaw
import Derived.Test.YthfokciijcmhbaaGreatDoorGaq
namespace Go.Proofs.YthfokciijcmhbaaGreatDoor
open Go.RowKit
set_option linter.unusedVariables false

variable {B0 : Nat} {A : Ax} {w w1 : World} {P : Nat → Prop} {S D L bf n M last forced : Nat} {m : Int} {X : Nat → Bf} {e : Nat → Int} {ln : Nat → Nat} {lo : Nat → Nat → Int}
theorem save_facts (k : Pw B0 A w P S m D L bf n X M e last forced ln lo) (i : Nat) (hi : i < n) (hM : M ≤ 1000000) (hx : 0 < (X i).fi) (hF : A → (X i).ls ≤ forced) {g c q y p : Nat} (hd : (X i).ld = .slice (some ⟨g, 0, none⟩) 112 c) (hqb : (X i).b = q) (hy : (X i).ls = y) (hp : (X i).pg = p) :
    Hid (∀ wq, Below w.heap.size w wq → wq.cell? ⟨q, 1, none⟩ = some (.int .i64 (y : Int)) ∧ wq.cell? ⟨q, 2, none⟩ = some (.slice (some ⟨g, 0, none⟩) 112 c) ∧ wq.cell? ⟨q, 0, none⟩ = some (.int .i64 (p : Int)) ∧ wq.cell? ⟨S, 2, none⟩ = some (.pointer (some ⟨D, 0, none⟩)) ∧ wq.cell? ⟨S, 4, none⟩ = some (.int .i64 40) ∧ wq.cell? ⟨S, 3, none⟩ = some (.pointer (some ⟨L, 0, none⟩))) ∧ Hid (∀ wq, Dr0 w wq → Calls Tryz.prog 159 #[.int .i64 (y : Int), .slice (some ⟨g, 0, none⟩) 112 c] wq fun r w' => ∃ g' c', r = .returned (.tuple #[.slice (some ⟨g', 0, none⟩) 128 c', .int .i64 0]) ∧ Below w.heap.size w w' ∧ Hid (Pw B0 A w' P S m D L bf n X M e last forced ln lo ∧ Below w.heap.size w w' ∧ From w' (some ⟨g', 0, none⟩) 128 (pg (X i).ls (lo (X i).pg)) ∧ w.heap.size ≤ g')) ∧ Hid (∀ w3 g' c', Pw B0 A w3 P S m D L bf n X M e last forced ln lo ∧ Below w.heap.size w w3 ∧ From w3 (some ⟨g', 0, none⟩) 128 (pg (X i).ls (lo (X i).pg)) ∧ w.heap.size ≤ g' → ∀ wq t, Dr0 w3 wq → t = 40 + (p : Int) → Calls Tryz.prog 141 #[.pointer (some ⟨D, 0, none⟩), .int .i64 t, .slice (some ⟨g', 0, none⟩) 128 c'] wq fun r w' => r = .returned (.int .i64 0) ∧ (w'.cell? ⟨q, 0, none⟩ = some (.int .i64 (p : Int)) ∧ w'.cell? ⟨S, 2, none⟩ = some (.pointer (some ⟨D, 0, none⟩)) ∧ w'.cell? ⟨S, 4, none⟩ = some (.int .i64 40)) ∧ Hid (w'.cell? ⟨q, 3, none⟩ = some (.int .i64 ((X i).fi : Int)) ∧ w'.frozen? ⟨q, 3, none⟩ = false ∧ Svd B0 A w P S m D L bf n (cleanX X i) (M + 1) last forced ln lo (w'.setCell ⟨q, 3, none⟩ (.int .i64 0)))) := by
  obtain ⟨held, h1, h2⟩ := k.ps.lay
  have hb := k.ps.buf i hi
  obtain ⟨z1, z2, z3, z4, z5⟩ := k.cl i hi
  have HB : Hid (∀ wq, Below w.heap.size w wq → wq.cell? ⟨q, 1, none⟩ = some (.int .i64 (y : Int)) ∧ wq.cell? ⟨q, 2, none⟩ = some (.slice (some ⟨g, 0, none⟩) 112 c) ∧ wq.cell? ⟨q, 0, none⟩ = some (.int .i64 (p : Int)) ∧ wq.cell? ⟨S, 2, none⟩ = some (.pointer (some ⟨D, 0, none⟩)) ∧ wq.cell? ⟨S, 4, none⟩ = some (.int .i64 40) ∧ wq.cell? ⟨S, 3, none⟩ = some (.pointer (some ⟨L, 0, none⟩))) := fun wq hq => by
    have e1 := (hq.block _ (Array.getElem?_eq_some_iff.1 hb).1).trans hb
    have e2 := (hq.block S k.ps.lt).trans h1
    rw [← hqb, ← hy, ← hp, ← hd]
    exact ⟨by rw [cells_at e1 1]; rfl, by rw [cells_at e1 2]; rfl, by rw [cells_at e1 0]; rfl, by rw [cells_at e2 2]; rfl, by rw [cells_at e2 4]; rfl, by rw [cells_at e2 3]; rfl⟩
  have HEn : Hid (∀ wq, Dr0 w wq → Calls Tryz.prog 159 #[.int .i64 (y : Int), .slice (some ⟨g, 0, none⟩) 112 c] wq fun r w' => ∃ g' c', r = .returned (.tuple #[.slice (some ⟨g', 0, none⟩) 128 c', .int .i64 0]) ∧ Below w.heap.size w w' ∧ Hid (Pw B0 A w' P S m D L bf n X M e last forced ln lo ∧ Below w.heap.size w w' ∧ From w' (some ⟨g', 0, none⟩) 128 (pg (X i).ls (lo (X i).pg)) ∧ w.heap.size ≤ g')) := fun wq hq => by
    rw [← hy]
    exact (pw_encode k i hi (z5 hx) hd wq hq).mono fun r w' ⟨g', c', h1, h2⟩ => ⟨g', c', h1, h2.out.2.1, h2⟩
  have HWr : Hid (∀ w3 g' c', Pw B0 A w3 P S m D L bf n X M e last forced ln lo ∧ Below w.heap.size w w3 ∧ From w3 (some ⟨g', 0, none⟩) 128 (pg (X i).ls (lo (X i).pg)) ∧ w.heap.size ≤ g' → ∀ wq t, Dr0 w3 wq → t = 40 + (p : Int) → Calls Tryz.prog 141 #[.pointer (some ⟨D, 0, none⟩), .int .i64 t, .slice (some ⟨g', 0, none⟩) 128 c'] wq fun r w' => r = .returned (.int .i64 0) ∧ (w'.cell? ⟨q, 0, none⟩ = some (.int .i64 (p : Int)) ∧ w'.cell? ⟨S, 2, none⟩ = some (.pointer (some ⟨D, 0, none⟩)) ∧ w'.cell? ⟨S, 4, none⟩ = some (.int .i64 40)) ∧ Hid (w'.cell? ⟨q, 3, none⟩ = some (.int .i64 ((X i).fi : Int)) ∧ w'.frozen? ⟨q, 3, none⟩ = false ∧ Svd B0 A w P S m D L bf n (cleanX X i) (M + 1) last forced ln lo (w'.setCell ⟨q, 3, none⟩ (.int .i64 0)))) := fun w3 g' c' h wq t hq ht => by
    rw [← hqb]
    refine (pw_write k i hi (z5 hx) hM hF h wq hq t (by rw [ht, hp])).mono fun r w' ⟨j0, j⟩ => ?_
    obtain ⟨j1, j2, P', e', j3, j4, j5⟩ := j.out
    have e2 := j2.trans h1
    rw [← hp]
    exact ⟨j0, ⟨by rw [cells_at j1 0]; rfl, by rw [cells_at e2 2]; rfl, by rw [cells_at e2 4]; rfl⟩, by rw [cells_at j1 3]; rfl, cells_free j1 3, P', e', forced, j3, Nat.le_refl _, j4, j5⟩
  exact ⟨HB, HEn, HWr⟩
set_option maxRecDepth 100000 in
set_option maxHeartbeats 4000000 in
theorem s_saveF (k : Pw B0 A w P S m D L bf n X M e last forced ln lo) (i : Nat) (hi : i < n) (hM : M ≤ 1000000) (hx : 0 < (X i).fi) (hF : forced < (X i).ls) (HFc : ∀ q, Calls Tryz.prog 63 #[.pointer (some ⟨L, 0, none⟩)] (w.drewN q) fun r w' => r = .returned (.int .i64 0) ∧ ∃ P' e', Pw B0 A w' P' S m D L bf n X M e' last last ln lo ∧ Part (Fq B0 P w) w w' ∧ ∀ b, P' b → P b ∨ w.heap.size ≤ b) : Calls Tryz.prog 133 #[.pointer (some ⟨S, 0, none⟩), ptr (X i).b] w fun r w' => r = .returned (.int .i64 0) ∧ Svd B0 A w P S m D L bf n (cleanX X i) (M + 1) last forced ln lo w' := by
  obtain ⟨held, h1, h2⟩ := k.ps.lay
  have hb := k.ps.buf i hi
  obtain ⟨z1, z2, z3, z4, z5⟩ := k.cl i hi
  obtain ⟨g, c, hd, _⟩ := own_some (k.ld i hi) (by decide)
  obtain ⟨q, hqb⟩ : ∃ q, (X i).b = q := ⟨_, rfl⟩
  obtain ⟨y, hy⟩ : ∃ y, (X i).ls = y := ⟨_, rfl⟩
  obtain ⟨p, hp⟩ : ∃ p, (X i).pg = p := ⟨_, rfl⟩
  have HD : Hid (Calls Tryz.prog 151 #[ptr (X i).b] w fun r w' => r = .returned (.bool true) ∧ w' = w) := (s_dirtyG (X i) w hb).mono fun r w' ⟨h1, h2⟩ => ⟨by rw [h1, decide_eq_true hx], h2⟩
  have HFo : Hid (∀ q, Calls Tryz.prog 158 #[.pointer (some ⟨L, 0, none⟩)] (w.drewN q) fun r w' => r = .returned (.int .i64 (forced : Int)) ∧ w' = w.drewN q) := fun q => pw_forced (k.below (blw_drewN q (Below.refl _ w)))
  have HB : Hid (∀ wq, Below w.heap.size w wq → wq.cell? ⟨q, 1, none⟩ = some (.int .i64 (y : Int)) ∧ wq.cell? ⟨q, 2, none⟩ = some (.slice (some ⟨g, 0, none⟩) 112 c) ∧ wq.cell? ⟨q, 0, none⟩ = some (.int .i64 (p : Int)) ∧ wq.cell? ⟨S, 2, none⟩ = some (.pointer (some ⟨D, 0, none⟩)) ∧ wq.cell? ⟨S, 4, none⟩ = some (.int .i64 40) ∧ wq.cell? ⟨S, 3, none⟩ = some (.pointer (some ⟨L, 0, none⟩))) := fun wq hq => by
    have e1 := (hq.block _ (Array.getElem?_eq_some_iff.1 hb).1).trans hb
    have e2 := (hq.block S k.ps.lt).trans h1
    rw [← hqb, ← hy, ← hp, ← hd]
    exact ⟨by rw [cells_at e1 1]; rfl, by rw [cells_at e1 2]; rfl, by rw [cells_at e1 0]; rfl, by rw [cells_at e2 2]; rfl, by rw [cells_at e2 4]; rfl, by rw [cells_at e2 3]; rfl⟩
  have HSF : Hid (∀ w2 P2 e2, Pw B0 A w2 P2 S m D L bf n X M e2 last last ln lo → _) := fun w2 P2 e2 k2 => save_facts k2 i hi hM hx (fun a => by rw [z3]; exact k.al a _) hd hqb hy hp
  have HFC : Hid (∀ q, Calls Tryz.prog 63 #[.pointer (some ⟨L, 0, none⟩)] (w.drewN q) fun r w' => r = .returned (.int .i64 0) ∧ Hid (∃ P' e', Pw B0 A w' P' S m D L bf n X M e' last last ln lo ∧ Part (Fq B0 P w) w w' ∧ ∀ b, P' b → P b ∨ w.heap.size ≤ b)) := fun q => HFc q
  have hfl : forced ≤ last := by
    obtain ⟨_, _, _, _, z, _⟩ := k.lay
    exact z.fl
  have hfy : forced < y := by omega
  have d2 : decide (forced < y) = true := decide_eq_true hfy
  have d1 : decide ((forced : Int) < (y : Int)) = true := decide_eq_true (by omega)
  have hp1 : (p : Int) < 6 := by omega
  have hp0 : (0 : Int) ≤ (p : Int) := by omega
  rw [hqb] at HD ⊢
  unfold ptr at *
  clear k h1 h2 hb z1 z2 z3 z4 z5 hd hqb hy hp hx hF hi HFc
  obtain ⟨u1, u2, u0, uS2, uS4, uS3⟩ := HB.out w (Below.refl _ w)
  go_enter Tryz.func133, Tryz.ntmps133
  go_wp2_with fail
  refine HD.out.mono ?_
  rintro r w1 ⟨rfl, hw⟩
  obtain rfl : w = w1 := hw.symm
  clear hw HD
  go_wp2_with fail
  go_quiet (first
    | (go_at_call 158; exact Calls.quiet_of_same (HFo.out _)))
  have qd : Dr0 w (w.drewN nq) := ⟨nq, rfl⟩
  have b1 : Below w.heap.size w (w.drewN nq) := qd.below
  clear u1 u2 u0 uS2 uS4 uS3 HFo
  obtain ⟨u1, u2, u0, uS2, uS4, uS3⟩ := HB.out _ b1
  go_wp2_with fail
  refine (HFC.out nq).mono ?_
  rintro r w1 ⟨rfl, HK⟩
  obtain ⟨P2, e2, k2, p2, l2⟩ := HK.out
  clear HB u1 u2 u0 uS2 uS4 uS3 b1 HFC
  obtain ⟨HB, HEn, HWr⟩ := HSF.out w1 P2 e2 k2
  have HT : Hid (∀ w', Svd B0 A w1 P2 S m D L bf n (cleanX X i) (M + 1) last last ln lo w' → Svd B0 A w P S m D L bf n (cleanX X i) (M + 1) last forced ln lo w') := fun w' ⟨P', e', fo', j1, j2, j3, j4⟩ => ⟨P', e', fo', j1, by omega, Fq.trans p2 l2 j3, fun b hb => by
    have := p2.size
    rcases j4 b hb with h | h
    · exact l2 b h
    · exact .inr (by omega)⟩
  have q1 : Dr0 w1 w1 := Dr0.refl _
  have b1 : Below w1.heap.size w1 w1 := Below.refl _ w1
  clear HSF HK k2 p2 l2
  obtain ⟨u1, u2, u0, uS2, uS4, uS3⟩ := HB.out _ b1
  go_wp2_with fail
  go_region_held2 (fun wq => wq.cell? ⟨q, 1, none⟩ = some (.int .i64 (y : Int)) ∧ wq.cell? ⟨q, 2, none⟩ = some (.slice (some ⟨g, 0, none⟩) 112 c))
    (first | exact ⟨(HB.out _ (by assumption)).1, (HB.out _ (by assumption)).2.1⟩ | exact ⟨(HB.out _ (blw_drewN 1 (by assumption))).1, (HB.out _ (blw_drewN 1 (by assumption))).2.1⟩ | go_keep)
    (first
      | (go_at_call 159; refine (HEn.out _ (by first | exact q1 | exact q1.drew)).mono ?_; rintro e' w3 ⟨g', c', rfl, k2, HE⟩))
  clear u1 u2 u0 uS2 uS4 uS3 HEn
  obtain ⟨u1, u2, u0, uS2, uS4, uS3⟩ := HB.out _ k2
  have q3 : Dr0 w3 w3 := Dr0.refl _
  have b3 : Below w3.heap.size w3 w3 := Below.refl _ w3
  have HB3 : Hid (∀ wq, Below w3.heap.size w3 wq → wq.cell? ⟨q, 0, none⟩ = some (.int .i64 (p : Int)) ∧ wq.cell? ⟨S, 2, none⟩ = some (.pointer (some ⟨D, 0, none⟩)) ∧ wq.cell? ⟨S, 4, none⟩ = some (.int .i64 40)) := fun wq hq => by
    obtain ⟨v1, v2, v0, vS2, vS4, vS3⟩ := HB.out wq (k2.trans (hq.mono k2.size))
    exact ⟨v0, vS2, vS4⟩
  have HW3 : Hid (∀ wq t, Dr0 w3 wq → t = 40 + (p : Int) → Calls Tryz.prog 141 #[.pointer (some ⟨D, 0, none⟩), .int .i64 t, .slice (some ⟨g', 0, none⟩) 128 c'] wq fun r w' => r = .returned (.int .i64 0) ∧ (w'.cell? ⟨q, 0, none⟩ = some (.int .i64 (p : Int)) ∧ w'.cell? ⟨S, 2, none⟩ = some (.pointer (some ⟨D, 0, none⟩)) ∧ w'.cell? ⟨S, 4, none⟩ = some (.int .i64 40)) ∧ Hid (w'.cell? ⟨q, 3, none⟩ = some (.int .i64 ((X i).fi : Int)) ∧ w'.frozen? ⟨q, 3, none⟩ = false ∧ Svd B0 A w1 P2 S m D L bf n (cleanX X i) (M + 1) last last ln lo (w'.setCell ⟨q, 3, none⟩ (.int .i64 0)))) := fun wq t hq ht => HWr.out w3 g' c' HE.out wq t hq ht
  clear HB HWr HE k2 q1 b1 u1 u2 uS3
  go_wp2_with fail
  go_region_held2 (fun wq => wq.cell? ⟨q, 0, none⟩ = some (.int .i64 (p : Int)) ∧ wq.cell? ⟨S, 2, none⟩ = some (.pointer (some ⟨D, 0, none⟩)) ∧ wq.cell? ⟨S, 4, none⟩ = some (.int .i64 40))
    (first | assumption | exact HB3.out _ (by assumption) | exact HB3.out _ (blw_drewN 1 (by assumption)) | go_keep)
    (first
      | (go_at_call 141; refine (HW3.out _ _ (by first | exact q3 | exact q3.drew) (by first | rfl | (simp only [IntKind.wrap_i64]; omega))).mono ?_; rintro e' w4 ⟨rfl, HS4, HF⟩))
  obtain ⟨v3, x3, _⟩ := HF.out
  clear HB3 HW3
  go_wp2
  go_ret
  exact ⟨rfl, HT.out _ HF.out.2.2⟩
end Go.Proofs.YthfokciijcmhbaaGreatDoor

namespace Go.Proofs.YthfokciijcmhbaaGreatDoor
open Go.RowKit
set_option linter.unusedVariables false

set_option maxRecDepth 100000 in
set_option maxHeartbeats 1000000 in
theorem force_same0 (L T D from_ sectors first last place : Nat) (vt : Value) (w : World) (h : LogW w L T D from_ sectors first last last place vt) :
    Calls Tryz.prog 63 #[.pointer (some ⟨L, 0, none⟩)] w fun r w' => r = .returned (.int .i64 0) ∧ ∃ q, w' = w.drewN q := by
  have l0 := h.l0
  have c4 : w.cell? ⟨T, 4, none⟩ = some (.int .i64 (last : Int)) := by rw [cells_at h.hT 4]; rfl
  have c5 : w.cell? ⟨T, 5, none⟩ = some (.int .i64 (last : Int)) := by rw [cells_at h.hT 5]; rfl
  clear h
  go_enter Tryz.func63, Tryz.ntmps63
  go_wp2_with fail
  refine (lMissing L T w l0).mono ?_
  rintro r w0 ⟨rfl, hw⟩
  obtain rfl : w = w0 := hw.symm
  clear hw
  go_wp2_with fail
  go_quiet (fail)
  go_wp2
  go_ret
  exact ⟨rfl, _, rfl⟩

variable {B0 : Nat} {A : Ax} {w w1 : World} {P : Nat → Prop} {S D L bf n M last forced : Nat} {m : Int} {X : Nat → Bf} {e : Nat → Int} {ln : Nat → Nat} {lo : Nat → Nat → Int}
theorem pw_force_same (k : Pw B0 A w P S m D L bf n X M e last last ln lo) (q : Nat) : Calls Tryz.prog 63 #[.pointer (some ⟨L, 0, none⟩)] (w.drewN q) fun r w' => r = .returned (.int .i64 0) ∧ ∃ P' e', Pw B0 A w' P' S m D L bf n X M e' last last ln lo ∧ Part (Fq B0 P w) w w' ∧ ∀ b, P' b → P b ∨ w.heap.size ≤ b := by
  have bq : Below w.heap.size w (w.drewN q) := blw_drewN q (Below.refl _ w)
  have kq := k.below bq
  obtain ⟨T, F, vt, s1, s2, _⟩ := kq.lay
  obtain ⟨q', place, tl, f, h1, _⟩ := s2.lay
  refine (force_same0 L T D 0 40 1 last place vt _ h1).mono fun r w' ⟨hr, q2, hw⟩ => ⟨hr, P, e, ?_, ?_, fun b hb => .inl hb⟩
  · rw [hw]; exact kq.below (blw_drewN q2 (Below.refl _ _))
  · rw [hw]; exact ((Part.refl _ w).drewN q).drewN q2
/-- save, of any buffer, where the log has nothing that is not forced. -/
theorem s_saveS (k : Pw B0 A w P S m D L bf n X M e last last ln lo) (i : Nat) (hi : i < n) (hM : M ≤ 1000000) : Calls Tryz.prog 133 #[.pointer (some ⟨S, 0, none⟩), ptr (X i).b] w fun r w' => r = .returned (.int .i64 0) ∧ Svd B0 A w P S m D L bf n (cleanX X i) (M + 1) last last ln lo w' := by
  by_cases hx : (X i).fi = 0
  · exact s_saveC k i hi hx
  · by_cases hF : (X i).ls ≤ last
    · exact s_saveN k i hi hM (by omega) hF
    · exact s_saveF k i hi hM (by omega) (by omega) (fun q => pw_force_same k q)
end Go.Proofs.YthfokciijcmhbaaGreatDoor

namespace Go.Proofs.YthfokciijcmhbaaGreatDoor
open Go.RowKit
set_option linter.unusedVariables false

theorem rd_ext {f g : Nat → Int} : ∀ k, (∀ i, i < k → f i = g i) → rd f k = rd g k
  | 0, _ => rfl
  | k + 1, h => by rw [rd, rd, rd_ext k (fun i hi => h i (by omega)), h k (by omega)]
theorem rd_leAt (s : Nat) : ∀ k, rd (leAt s) k = s % 256 ^ k
  | 0 => by simp [rd, Nat.mod_one]
  | k + 1 => by
    rw [rd, rd_leAt s k]
    unfold leAt
    rw [Int.toNat_natCast, Nat.pow_succ, Nat.mod_mul, Nat.mul_comm]
theorem rd_inj {f g : Nat → Int} (hf : ∀ i, 0 ≤ f i ∧ f i ≤ 255) (hg : ∀ i, 0 ≤ g i ∧ g i ≤ 255) : ∀ k, rd f k = rd g k → ∀ i, i < k → f i = g i
  | 0, _, i, hi => by omega
  | k + 1, h, i, hi => by
    have h1 := rd_lt hf k
    have h2 := rd_lt hg k
    rw [rd, rd] at h
    have hp : 0 < 256 ^ k := Nat.pos_of_ne_zero (by intro e; rw [e] at h1; omega)
    have e1 : (rd f k + (f k).toNat * 256 ^ k) % 256 ^ k = rd f k := by rw [Nat.add_mul_mod_self_right, Nat.mod_eq_of_lt h1]
    have e2 : (rd g k + (g k).toNat * 256 ^ k) % 256 ^ k = rd g k := by rw [Nat.add_mul_mod_self_right, Nat.mod_eq_of_lt h2]
    have e3 : rd f k = rd g k := by rw [← e1, ← e2, h]
    by_cases e : i = k
    · subst e
      rw [e3] at h
      have h5 : (f i).toNat = (g i).toNat := Nat.eq_of_mul_eq_mul_right hp (Nat.add_left_cancel h)
      have := hf i
      have := hg i
      omega
    · exact rd_inj hf hg k e3 i (by omega)
theorem body_congr {hd f g : Nat → Int} (s : Nat) (h : ∀ i, i < 112 → g i = f i) : body hd s 112 g = body hd s 112 f := by
  funext i
  unfold body
  show ov _ 12 112 g i = ov _ 12 112 f i
  unfold ov
  by_cases e : 12 ≤ i ∧ i < 12 + 112
  · rw [if_pos e, if_pos e, h _ (by omega)]
  · rw [if_neg e, if_neg e]
theorem pg_congr {f g : Nat → Int} (s : Nat) (h : ∀ i, i < 112 → g i = f i) : pg s g = pg s f := by
  unfold pg sec
  rw [body_congr s h]
theorem pg_notnil (s : Nat) (f : Nat → Int) : ¬ Nil (pg s f) 128 := fun h => by
  have := h 0 (by omega)
  rw [pg_head s f 0 (by omega)] at this
  revert this
  decide
theorem sum_lt4 {f : Nat → Int} (h : ∀ i, 0 ≤ f i ∧ f i ≤ 255) : sumS f < 256 ^ 4 := by
  have := Crc.sum_lt (lstN f 124) (lstN_by h 124)
  have e : (256 : Nat) ^ 4 = 2 ^ 32 := by decide
  rw [e]
  exact this
theorem pg_sealed (s : Nat) {f : Nat → Int} (h : ∀ i, 0 ≤ f i ∧ f i ≤ 255) : rd (sh (pg s f) 124) 4 = sumS (pg s f) := by
  rw [rd_ext (f := sh (pg s f) 124) 4 (g := leAt (sumS (body hdP s 112 f))) (fun i hi => pg_sum s f i hi), rd_leAt, pg_sumS, Nat.mod_eq_of_lt (sum_lt4 (body_by hdP_by h s 112))]
theorem pg_numS (s : Nat) (f : Nat → Int) (hs : s ≤ 4611686018427387904) : numS (pg s f) = (s : Int) := by
  have h8 : s < 256 ^ 8 := by
    have : (256 : Nat) ^ 8 = 18446744073709551616 := by decide
    omega
  unfold numS
  rw [rd_ext (f := sh (pg s f) 4) 8 (g := leAt s) (fun i hi => pg_num s f i hi), rd_leAt, Nat.mod_eq_of_lt h8, Wm.w64 _ (by omega)]
theorem pg_loads (s : Nat) (f : Nat → Int) : ∀ i, i < 112 → sh (pg s f) 12 i = f i := fun i hi => pg_load s f i hi

theorem dec_back {z : Int} {f : Nat → Int} (hk : EncOk z 112) (h : ∀ i, 0 ≤ f i ∧ f i ≤ 255) : dec (encF z f) 128 = (z, lst f 112, 0) := by
  obtain ⟨h1, h2, _⟩ := hk
  obtain ⟨s, rfl⟩ := Int.eq_ofNat_of_zero_le h1
  unfold dec
  rw [if_neg (by simp)]
  by_cases h3 : (s : Int) = 0 ∧ Nil f 112
  · have e : encF (s : Int) f = fun _ => 0 := by unfold encF; rw [if_pos h3]
    have hz : Nil (fun _ => 0) 128 := fun i _ => rfl
    rw [e, if_pos hz, h3.1, lst_ext (g := f) (fun i hi => (h3.2 i hi).symm)]
  · have e : encF (s : Int) f = pg s f := by unfold encF; rw [if_neg h3, Int.toNat_natCast]
    have hn := pg_numS s f (by omega)
    rw [e, if_neg (pg_notnil s f), if_neg (by simpa using pg_sealed s h), if_pos, hn, lst_ext (pg_loads s f)]
    refine ⟨by rw [hn]; exact ⟨h1, h2, rfl⟩, ?_⟩
    rw [hn]
    have e2 : encF (s : Int) (sh (pg s f) 12) = pg s f := by
      unfold encF
      rw [if_neg, Int.toNat_natCast, pg_congr s (pg_loads s f)]
      intro h4
      exact h3 ⟨h4.1, fun i hi => by rw [← pg_loads s f i hi]; exact h4.2 i hi⟩
    rw [e2]

theorem lstN_split (f : Nat → Int) (n t : Nat) (ht : t < n) : lstN f n = lstN f t ++ (f t).toNat :: (List.range (n - t - 1)).map (fun i => (f (t + 1 + i)).toNat) := by
  apply List.ext_getElem?
  intro i
  unfold lstN
  by_cases h1 : i < t
  · simp [List.getElem?_append, h1, show i < n by omega]
  · by_cases h2 : i = t
    · subst h2
      simp [ht]
    · obtain ⟨j, rfl⟩ : ∃ j, i = t + 1 + j := ⟨i - t - 1, by omega⟩
      simp only [List.getElem?_append, List.length_map, List.length_range, if_neg h1, show t + 1 + j - t = j + 1 by omega, List.getElem?_cons_succ, List.getElem?_map]
      by_cases h3 : t + 1 + j < n
      · rw [List.getElem?_range h3, List.getElem?_range (by omega)]
        rfl
      · rw [List.getElem?_eq_none (by simp; omega), List.getElem?_eq_none (by simp; omega)]
        rfl
theorem sum_turn {f g : Nat → Int} (hf : ∀ i, 0 ≤ f i ∧ f i ≤ 255) (hg : ∀ i, 0 ≤ g i ∧ g i ≤ 255) (n t : Nat) (ht : t < n) (hne : g t ≠ f t) (h : ∀ i, i ≠ t → g i = f i) : Crc.sum (lstN g n) ≠ Crc.sum (lstN f n) := by
  rw [lstN_split g n t ht, lstN_split f n t ht]
  have e1 : lstN g t = lstN f t := lstN_ext fun i hi => h i (by omega)
  have e2 : (List.range (n - t - 1)).map (fun i => (g (t + 1 + i)).toNat) = (List.range (n - t - 1)).map (fun i => (f (t + 1 + i)).toNat) := List.map_congr_left fun i _ => by rw [h _ (by omega)]
  rw [e1, e2]
  intro he
  have a := hf t
  have b := hg t
  have := Crc.sum_turned (lstN f t) _ (g t).toNat (f t).toNat (lstN_by hf t) (fun z hz => by
    obtain ⟨i, _, rfl⟩ := List.mem_map.1 hz
    have := hf (t + 1 + i)
    omega) (by omega) (by omega) he
  omega

theorem dec_turned {s : Nat} {f g : Nat → Int} (hs : 1 ≤ s) (hs2 : s ≤ 4611686018427387904) (hf : ∀ i, 0 ≤ f i ∧ f i ≤ 255) (hg : ∀ i, 0 ≤ g i ∧ g i ≤ 255) (t : Nat) (ht : t < 128) (hne : g t ≠ pg s f t) (h : ∀ i, i ≠ t → g i = pg s f i) : dec g 128 = (0, [], 13) := by
  unfold dec
  rw [if_neg (by simp), if_neg, if_pos]
  · by_cases h1 : t < 124
    · have e1 : rd (sh g 124) 4 = rd (sh (pg s f) 124) 4 := rd_ext 4 fun i hi => h (124 + i) (by omega)
      rw [e1, pg_sealed s hf]
      exact fun e => sum_turn (pg_by s hf) hg 124 t h1 hne h e.symm
    · have e1 : sumS g = sumS (pg s f) := by
        unfold sumS
        rw [lstN_ext fun i hi => h i (by omega)]
      rw [e1, ← pg_sealed s hf]
      intro e
      have := rd_inj (sh_by hg 124) (sh_by (pg_by s hf) 124) 4 e (t - 124) (by omega)
      unfold sh at this
      rw [show 124 + (t - 124) = t by omega] at this
      exact hne this
  · intro hn
    by_cases h1 : t = 0
    · have hz : ∀ i, i < 8 → leAt s i = 0 := fun i hi => by
        rw [← pg_num s f i hi, ← h (4 + i) (by omega)]
        exact hn (4 + i) (by omega)
      have h8 : s < 256 ^ 8 := by
        have : (256 : Nat) ^ 8 = 18446744073709551616 := by decide
        omega
      have e := rd_leAt s 8
      rw [rd_ext (f := leAt s) 8 (g := fun _ => 0) hz, Nat.mod_eq_of_lt h8] at e
      have e0 : rd (fun _ => 0) 8 = 0 := by decide
      omega
    · have := hn 0 (by omega)
      rw [h 0 (by omega), pg_head s f 0 (by omega)] at this
      revert this
      decide
end Go.Proofs.YthfokciijcmhbaaGreatDoor
