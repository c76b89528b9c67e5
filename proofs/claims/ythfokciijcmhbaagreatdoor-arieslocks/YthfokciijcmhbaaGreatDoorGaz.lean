/-
  A page that is read into a pool: state.read, where another page goes.
  A page that is brought into a pool: state.bring.
  Maps from numbers, told by what stands under the first ten (Im): made, looked up, stored.
-/
import Derived.Test.YthfokciijcmhbaaGreatDoorGay
import Derived.Test.YthfokciijcmhbaaGreatDoorGaq
import Derived.Maps.OwnSet
import Derived.Maps.OwnOps
namespace Go.Proofs.YthfokciijcmhbaaGreatDoor
open Go.RowKit
set_option linter.unusedVariables false

variable {B0 : Nat} {A : Ax} {w w1 : World} {P : Nat → Prop} {S D L bf n M last forced : Nat} {m : Int} {X : Nat → Bf} {e : Nat → Int} {ln : Nat → Nat} {lo : Nat → Nat → Int}
/-- What a call leaves that may have writsix pages. -/
def Lft (B0 : Nat) (A : Ax) (w : World) (P : Nat → Prop) (S : Nat) (m : Int) (D L bf n : Nat) (X : Nat → Bf) (M last forced : Nat) (ln : Nat → Nat) (lo : Nat → Nat → Int) (w' : World) (Q : (Nat → Prop) → (Nat → Int) → Nat → Prop) : Prop := ∃ P' e' fo', Pw B0 A w' P' S m D L bf n X M e' last fo' ln lo ∧ forced ≤ fo' ∧ Part (Fw B0 P w) w w' ∧ (∀ b, P' b → P b ∨ w.heap.size ≤ b) ∧ Q P' e' fo'
theorem Nx.of2 {v : Value} {z : Nat} {o : Obj} (k : Pw B0 A w P S m D L bf n X M e last forced ln lo) (hv : Own w 0 v (lst (lo z) 112)) (hB : ∀ b, v.ownBlock = some b → ¬ P b) (ho : o = .cells #[.int .i64 (z : Int), .int .i64 (ln z : Int), v, .int .i64 0, .int .i64 0] 170) : Nx B0 A (w.alloc o) P S m D L bf n X M e last forced ln lo ⟨w.heap.size, z, ln z, 0, 0, v⟩ z := by
  have bo : Below w.heap.size w (w.alloc o) := (Below.refl _ w).alloc (Nat.le_refl _) o
  have hlt := k.ps.lt
  refine ⟨k.below bo, by rw [heap_alloc_at _ _ _ rfl, ho]; rfl, hv.below bo (Nat.le_refl _), hB, fun j hj e => ?_, fun e => ?_, (by have := k.ps.low; show B0 ≤ w.heap.size; omega), rfl, rfl, rfl, rfl⟩
  · have := (Array.getElem?_eq_some_iff.1 (k.ps.buf j hj)).1
    have e : (X j).b = w.heap.size := e
    omega
  · have e : w.heap.size = S := e
    omega
/-- Bytes of one's own that lie past a world, and in no block of the pool's. -/
def Vo (w : World) (v : Value) (xs : List Int) (w' : World) (P' : Nat → Prop) : Prop := Own w' w.heap.size v xs ∧ ∀ b, v.ownBlock = some b → ¬ P' b
theorem Vo.step {w w1 w2 : World} {P1 P2 : Nat → Prop} {v : Value} {xs : List Int} (h : Vo w v xs w1 P1) (hp : Part (Fw B0 P1 w1) w1 w2) (hP : ∀ b, P2 b → P1 b ∨ w1.heap.size ≤ b) : Vo w v xs w2 P2 := by
  have hb : ∀ b, v.ownBlock = some b → ¬ Fw B0 P1 w1 b ∧ b < w1.heap.size := fun b hb => by
    obtain ⟨cur, e⟩ := row_block h.1 hb
    refine ⟨fun hf => ?_, (Array.getElem?_eq_some_iff.1 e).1⟩
    rcases hf with hf | ⟨hB, cs, t, fz, e', ht⟩
    · exact h.2 b hb hf
    · rw [e] at e'
      injection e' with e'
      injection e' with _ e'
      subst e'
      rcases ht with ht | ht <;> exact absurd ht (by decide)
  refine ⟨hp.row h.1 (fun b h' => (hb b h').1), fun b h' hP' => ?_⟩
  rcases hP b hP' with h1 | h1
  · exact h.2 b h' h1
  · have := (hb b h').2; omega
set_option maxRecDepth 100000 in
set_option maxHeartbeats 4000000 in
theorem s_readW_evict (k : Pw B0 A w P S m D L bf n X M e last forced ln lo) (z : Nat) (hz : z < 6) (hM : M ≤ 1000000) (hno : ∀ j, j < n → (X j).pg ≠ z) (hn : n = bf) (h0 : 0 < n) (hsv : ∀ wq, Pw B0 A wq P S m D L bf n X M e last forced ln lo → Calls Tryz.prog 133 #[.pointer (some ⟨S, 0, none⟩), ptr (X 0).b] wq fun r w' => r = .returned (.int .i64 0) ∧ Svd B0 A wq P S m D L bf n (cleanX X 0) (M + 1) last forced ln lo w') : Calls Tryz.prog 127 #[.pointer (some ⟨S, 0, none⟩), .int .i64 (z : Int)] w fun r w' => ∃ y : Bf, r = .returned (.tuple #[ptr y.b, .int .i64 0]) ∧ Hid (Lft B0 A w P S m D L bf (n - 1) (dropX (cleanX X 0) 0) (M + 1) last forced ln lo w' (fun P' e' fo' => Nx B0 A w' P' S m D L bf (n - 1) (dropX (cleanX X 0) 0) (M + 1) e' last fo' ln lo y z)) := by
  obtain ⟨held, h1, h2⟩ := k.ps.lay
  have nb := k.nb
  obtain ⟨a7, l7, rfl⟩ : ∃ a c, held = .slice a n c := by
    rcases h2.open with ⟨rfl, rfl⟩ | ⟨g, c, cur, rfl, _⟩
    · exact ⟨none, 0, rfl⟩
    · exact ⟨_, c, rfl⟩
  have hv : Id0 X n (.pointer (some ⟨(X 0).b, 0, none⟩)) := .inl ⟨0, h0, (k.cl 0 h0).2.1, fun j hj => absurd hj (by omega), rfl⟩
  have HI : Hid (∀ q, Calls Tryz.prog 152 #[.pointer (some ⟨S, 7, none⟩)] (w.drewN q) fun r w' => r = .returned (.pointer (some ⟨(X 0).b, 0, none⟩)) ∧ w' = w.drewN q) := fun q => (t_idle (k.ps.below (blw_drewN q (Below.refl _ w)))).mono fun r w' ⟨u, hr, hu, hw⟩ => ⟨by rw [hr, hu.uniq hv], hw⟩
  have c7 : w.cell? ⟨S, 7, none⟩ = some (.slice a7 n l7) := by rw [cells_at h1 7]; rfl
  have c6 : w.cell? ⟨S, 6, none⟩ = some (.int .i64 (bf : Int)) := by rw [cells_at h1 6]; rfl
  have c2 : w.cell? ⟨S, 2, none⟩ = some (.pointer (some ⟨D, 0, none⟩)) := by rw [cells_at h1 2]; rfl
  have c4 : w.cell? ⟨S, 4, none⟩ = some (.int .i64 40) := by rw [cells_at h1 4]; rfl
  have HR : Hid (∀ wq t, Dr0 w wq → t = 40 + (z : Int) → Calls Tryz.prog 136 #[.pointer (some ⟨D, 0, none⟩), .int .i64 t] wq fun r w' => ∃ b c, r = .returned (.tuple #[.slice (some ⟨b, 0, none⟩) 128 c, .int .i64 0]) ∧ Below w.heap.size w w' ∧ Hid (Below w.heap.size w w' ∧ Pw B0 A w' P S m D L bf n X M e last forced ln lo ∧ From w' (some ⟨b, 0, none⟩) 128 (sh e ((40 + z) * 128)) ∧ 128 ≤ c)) := fun wq t hq ht => (pw_dread k z hz hM wq hq t ht).mono fun r w' ⟨g, c, h1, h2, h3⟩ => ⟨g, c, h1, h2, h2, h3.out⟩
  have HS : Hid (∀ wq, Below w.heap.size w wq → wq.cell? ⟨S, 2, none⟩ = some (.pointer (some ⟨D, 0, none⟩)) ∧ wq.cell? ⟨S, 4, none⟩ = some (.int .i64 40)) := fun wq hq => by
    have e := (hq.block S k.ps.lt).trans h1
    exact ⟨by rw [cells_at e 2]; rfl, by rw [cells_at e 4]; rfl⟩
  have HDc : Hid (∀ wq b c, Below w.heap.size w wq ∧ Pw B0 A wq P S m D L bf n X M e last forced ln lo ∧ From wq (some ⟨b, 0, none⟩) 128 (sh e ((40 + z) * 128)) ∧ 128 ≤ c → Calls Tryz.prog 153 #[.slice (some ⟨b, 0, none⟩) 128 c] wq fun r w' => ∃ v', r = .returned (.tuple #[.int .i64 (ln z : Int), v', .int .i64 0]) ∧ Hid (Below w.heap.size w w' ∧ Pw B0 A w' P S m D L bf n X M e last forced ln lo ∧ Own w' w.heap.size v' (lst (lo z) 112))) := fun wq b c ⟨hb, kq, hf, hc⟩ => (pw_decode kq (k.off z hz hno) (k.lm z) (k.by_ z) hf hc).mono fun r w' ⟨v', hr, h⟩ => ⟨v', hr, hb.trans (h.out.2.2.mono hb.size), h.out.1, h.out.2.1.mono hb.size⟩
  have HSv : Hid (∀ wq v', Below w.heap.size w wq ∧ Pw B0 A wq P S m D L bf n X M e last forced ln lo ∧ Own wq w.heap.size v' (lst (lo z) 112) → Calls Tryz.prog 133 #[.pointer (some ⟨S, 0, none⟩), ptr (X 0).b] wq fun r w' => r = .returned (.int .i64 0) ∧ Hid (Lft B0 A w P S m D L bf n (cleanX X 0) (M + 1) last forced ln lo w' (fun P' e' fo' => Vo w v' (lst (lo z) 112) w' P'))) := fun wq v' ⟨hb, kq, ho⟩ => (hsv wq kq).mono fun r w' ⟨hr, P', e', fo', j1, j2, j3, j4⟩ => ⟨hr, P', e', fo', j1, j2, Fw.trans (P' := P) (Part.ofBelow hb) (fun b h => .inl h) (Fq.wide j3), fun b h => by
      rcases j4 b h with h | h
      · exact .inl h
      · have := hb.size; exact .inr (by omega), (show Vo w v' (lst (lo z) 112) wq P from ⟨ho, fun b h hP => by have := k.lt b hP; have := (World.ownsRow.lt ho _ h).1; omega⟩).step (Fq.wide j3) j4⟩
  have HDr : Hid (∀ wq v', Lft B0 A w P S m D L bf n (cleanX X 0) (M + 1) last forced ln lo wq (fun P' e' fo' => Vo w v' (lst (lo z) 112) wq P') → Calls Tryz.prog 154 #[.pointer (some ⟨S, 7, none⟩), ptr (X 0).b] wq fun r w' => r = .returned (.tuple #[]) ∧ Hid (Lft B0 A w P S m D L bf (n - 1) (dropX (cleanX X 0) 0) (M + 1) last forced ln lo w' (fun P' e' fo' => Vo w v' (lst (lo z) 112) w' P'))) := fun wq v' ⟨P', e', fo', j1, j2, j3, j4, j5⟩ => by
    have hd := t_drop j1.ps 0 h0
    rw [(clean_at X 0 0).1] at hd
    refine hd.mono fun r w' ⟨hr, HE⟩ => ?_
    obtain ⟨i1, i2⟩ := j1.drop h0 (by rw [clean_self]) HE.out.1 HE.out.2
    exact ⟨hr, P', e', fo', i1, j2, Fw.trans j3 j4 i2, j4, j5.step i2 (fun b h => .inl h)⟩
  have HN : Hid (∀ wq v' o, Lft B0 A w P S m D L bf (n - 1) (dropX (cleanX X 0) 0) (M + 1) last forced ln lo wq (fun P' e' fo' => Vo w v' (lst (lo z) 112) wq P') → o = Obj.cells #[.int .i64 (z : Int), .int .i64 (ln z : Int), v', .int .i64 0, .int .i64 0] 170 → Lft B0 A w P S m D L bf (n - 1) (dropX (cleanX X 0) 0) (M + 1) last forced ln lo (wq.alloc o) (fun P' e' fo' => Nx B0 A (wq.alloc o) P' S m D L bf (n - 1) (dropX (cleanX X 0) 0) (M + 1) e' last fo' ln lo ⟨wq.heap.size, z, ln z, 0, 0, v'⟩ z)) := fun wq v' o ⟨P', e', fo', j1, j2, j3, j4, j5⟩ ho => by
    have nx := Nx.of2 j1 (j5.1.mono (Nat.zero_le _)) j5.2 ho
    exact ⟨P', e', fo', nx.pw, j2, Fw.trans (P' := P') j3 j4 (Part.ofBelow ((Below.refl _ wq).alloc (Nat.le_refl _) o)), j4, nx⟩
  have hn' : (n : Int) ≤ 5 := by omega
  have hz' : (z : Int) < 6 := by omega
  have hz0 : (0 : Int) ≤ (z : Int) := by omega
  have d1 : ((n : Int) == (bf : Int)) = true := by
    have : (n : Int) = (bf : Int) := by omega
    simpa using this
  have d2 : (n == bf) = true := by simpa using hn
  obtain ⟨q, hqb⟩ : ∃ q, (X 0).b = q := ⟨_, rfl⟩
  rw [hqb] at HI HSv HDr
  unfold ptr at HSv HDr
  clear hn hqb hsv
  clear k h1 h2 hv hno
  go_enter Tryz.func127, Tryz.ntmps127
  go_wp2_with fail
  go_quiet (first
    | (go_at_call 152; exact Calls.quiet_of_same (HI.out _)))
  have q1 : Dr0 w (w.drewN nq) := ⟨nq, rfl⟩
  have k1 : Below w.heap.size w (w.drewN nq) := q1.below
  obtain ⟨c2', c4'⟩ := HS.out _ k1
  clear c2 c4 c6 c7 HI
  generalize w.drewN nq = w1 at *
  go_wp2_with fail
  go_region_held2 (fun wq => wq.cell? ⟨S, 2, none⟩ = some (.pointer (some ⟨D, 0, none⟩)) ∧ wq.cell? ⟨S, 4, none⟩ = some (.int .i64 40))
    (first | exact HS.out _ (by assumption) | exact HS.out _ (blw_drewN 1 (by assumption)) | go_keep)
    (first
      | (go_at_call 136; refine (HR.out _ _ (by first | exact q1 | exact q1.drew) (by first | rfl | (simp only [IntKind.wrap_i64]; omega))).mono ?_; rintro e' w2 ⟨b, c, rfl, k2, HE⟩))
  clear c2' c4' HS HR k2
  go_wp2_with fail
  refine (HDc.out _ _ _ HE.out).mono ?_
  rintro r w3 ⟨v', rfl, HF⟩
  have HV : Hid (Calls Tryz.prog 133 #[.pointer (some ⟨S, 0, none⟩), .pointer (some ⟨q, 0, none⟩)] w3 fun r w' => r = .returned (.int .i64 0) ∧ Hid (Lft B0 A w P S m D L bf n (cleanX X 0) (M + 1) last forced ln lo w' (fun P' e' fo' => Vo w v' (lst (lo z) 112) w' P'))) := HSv.out w3 v' HF.out
  obtain ⟨va', vn', vc', rfl⟩ : ∃ a n c, v' = .slice a n c := by
    rcases HF.out.2.2.2 with ⟨h, _⟩ | ⟨g, cap, cur, h, _⟩
    · exact ⟨_, _, _, h⟩
    · exact ⟨_, _, _, h⟩
  clear HSv HDc HE HF
  go_wp2_with fail
  refine HV.out.mono ?_
  rintro r w4 ⟨rfl, HF⟩
  clear HV
  go_wp2_with fail
  refine (HDr.out _ _ HF.out).mono ?_
  rintro r w5 ⟨rfl, HF5⟩
  have HG : Hid (∀ o, o = Obj.cells #[.int .i64 (z : Int), .int .i64 (ln z : Int), .slice va' vn' vc', .int .i64 0, .int .i64 0] 170 → Lft B0 A w P S m D L bf (n - 1) (dropX (cleanX X 0) 0) (M + 1) last forced ln lo (w5.alloc o) (fun P' e' fo' => Nx B0 A (w5.alloc o) P' S m D L bf (n - 1) (dropX (cleanX X 0) 0) (M + 1) e' last fo' ln lo ⟨w5.heap.size, z, ln z, 0, 0, .slice va' vn' vc'⟩ z)) := fun o ho => HN.out w5 _ o HF5.out ho
  clear HN HDr HF HF5
  go_wp2
  go_ret2
  exact ⟨⟨w5.heap.size, z, ln z, 0, 0, .slice va' vn' vc'⟩, rfl, HG.out _ rfl⟩
end Go.Proofs.YthfokciijcmhbaaGreatDoor

namespace Go.Proofs.YthfokciijcmhbaaGreatDoor
open Go.RowKit
set_option linter.unusedVariables false

variable {B0 : Nat} {A : Ax} {w w1 : World} {P : Nat → Prop} {S D L bf n M last forced : Nat} {m : Int} {X : Nat → Bf} {e : Nat → Int} {ln : Nat → Nat} {lo : Nat → Nat → Int}
theorem Fd.uniq {X : Nat → Bf} {n : Nat} {z : Int} {u v : Value} (h : Fd X n z u) (h' : Fd X n z v) : u = v := by
  rcases h with ⟨k, hk, e, hn, rfl⟩ | ⟨hn, rfl⟩ <;> rcases h' with ⟨k', hk', e', hn', rfl⟩ | ⟨hn', rfl⟩
  · rcases Nat.lt_trichotomy k k' with h | h | h
    · exact absurd e (hn' k h)
    · rw [h]
    · exact absurd e' (hn k' h)
  · exact absurd e (hn' k hk)
  · exact absurd e' (hn k' hk')
  · rfl
/-- What bring leaves. -/
def Brw (B0 : Nat) (A : Ax) (w : World) (P : Nat → Prop) (S : Nat) (m : Int) (D L bf M last forced : Nat) (ln : Nat → Nat) (lo : Nat → Nat → Int) (z b : Nat) (w' : World) : Prop := ∃ n' X', (X' n').b = b ∧ (X' n').pg = z ∧ Lft B0 A w P S m D L bf (n' + 1) X' M last forced ln lo w' (fun _ _ _ => True)
set_option maxRecDepth 100000 in
set_option maxHeartbeats 2000000 in
theorem s_bringW_held (k : Pw B0 A w P S m D L bf n X M e last forced ln lo) (i : Nat) (hi : i < n) : Calls Tryz.prog 91 #[.pointer (some ⟨S, 0, none⟩), .int .i64 ((X i).pg : Int)] w fun r w' => ∃ b, r = .returned (.tuple #[ptr b, .int .i64 0]) ∧ Hid (Brw B0 A w P S m D L bf (M + 1) last forced ln lo (X i).pg b w') := by
  have nb := k.nb
  have hfd : Fd X n ((X i).pg : Int) (ptr (X i).b) := .inl ⟨i, hi, rfl, fun j hj e => by
    have := k.pa j i (by omega) hi (by omega)
    omega, rfl⟩
  have HF : Hid (Calls Tryz.prog 126 #[.pointer (some ⟨S, 7, none⟩), .int .i64 ((X i).pg : Int)] w fun r w' => r = .returned (ptr (X i).b) ∧ w' = w) := (t_find k.ps _).mono fun r w' ⟨v, hr, hv, hw⟩ => ⟨by rw [hr, hv.uniq hfd], hw⟩
  have HU : Hid (Calls Tryz.prog 128 #[.pointer (some ⟨S, 7, none⟩), ptr (X i).b] w fun r w' => r = .returned (.tuple #[]) ∧ Hid (Brw B0 A w P S m D L bf (M + 1) last forced ln lo (X i).pg (X i).b w')) :=
    (t_use (X := dropX X i) (y := X i) (by omega) (t_drop k.ps i hi) (k.ps.buf i hi) (fun e => by
      obtain ⟨held, h1, _⟩ := k.ps.lay
      have := k.ps.buf i hi
      rw [e, h1] at this
      injection this with this
      injection this with _ this
      exact absurd this (by decide)) (fun j hj e => by
      obtain ⟨j', hj', hne, e', _⟩ := dropX_at (X := X) hi j hj
      rw [e'] at e
      exact hne (k.ps.apart j' i hj' hi e))).mono fun r w' ⟨hr, HE⟩ => by
      obtain ⟨j1, j2⟩ := k.used hi HE.out.1 HE.out.2
      exact ⟨hr, n - 1, _, by rw [snoc_at], by rw [snoc_at], P, e, forced, j1.more (by omega), Nat.le_refl _, j2, fun b h => .inl h, trivial⟩
  obtain ⟨b, hbb⟩ : ∃ b, (X i).b = b := ⟨_, rfl⟩
  rw [hbb] at HF HU
  unfold ptr at HF HU
  clear k hfd hbb
  go_enter Tryz.func91, Tryz.ntmps91
  go_wp2_with fail
  refine HF.out.mono ?_
  rintro r w1 ⟨rfl, hw⟩
  obtain rfl : w = w1 := hw.symm
  clear hw
  go_wp2_with fail
  refine HU.out.mono ?_
  rintro r w1 ⟨rfl, HE⟩
  go_wp2
  go_ret2
  exact ⟨b, rfl, HE⟩
set_option maxRecDepth 100000 in
set_option maxHeartbeats 2000000 in
/-- bring of a page that is not held, told by what read leaves. -/
theorem s_bringW_new {n1 : Nat} {X1 : Nat → Bf} (k : Pw B0 A w P S m D L bf n X M e last forced ln lo) (z : Nat) (hz : z < 6) (hno : ∀ j, j < n → (X j).pg ≠ z) (hn1 : n1 < bf) (hno1 : ∀ j, j < n1 → (X1 j).pg ≠ z)
    (hr : Calls Tryz.prog 127 #[.pointer (some ⟨S, 0, none⟩), .int .i64 (z : Int)] w fun r w' => ∃ y : Bf, r = .returned (.tuple #[ptr y.b, .int .i64 0]) ∧ Hid (Lft B0 A w P S m D L bf n1 X1 (M + 1) last forced ln lo w' (fun P' e' fo' => Nx B0 A w' P' S m D L bf n1 X1 (M + 1) e' last fo' ln lo y z))) : Calls Tryz.prog 91 #[.pointer (some ⟨S, 0, none⟩), .int .i64 (z : Int)] w fun r w' => ∃ b, r = .returned (.tuple #[ptr b, .int .i64 0]) ∧ Hid (Brw B0 A w P S m D L bf (M + 1) last forced ln lo z b w') := by
  have nb := k.nb
  have hfd : Fd X n (z : Int) (.pointer none) := .inr ⟨fun j hj e => hno j hj (by omega), rfl⟩
  have HF : Hid (Calls Tryz.prog 126 #[.pointer (some ⟨S, 7, none⟩), .int .i64 (z : Int)] w fun r w' => r = .returned (.pointer none) ∧ w' = w) := (t_find k.ps _).mono fun r w' ⟨v, hr, hv, hw⟩ => ⟨by rw [hr, hv.uniq hfd], hw⟩
  have HR : Hid (Calls Tryz.prog 127 #[.pointer (some ⟨S, 0, none⟩), .int .i64 (z : Int)] w fun r w' => ∃ b, r = .returned (.tuple #[.pointer (some ⟨b, 0, none⟩), .int .i64 0]) ∧ Hid (Calls Tryz.prog 128 #[.pointer (some ⟨S, 7, none⟩), .pointer (some ⟨b, 0, none⟩)] w' fun r w2 => r = .returned (.tuple #[]) ∧ Hid (Brw B0 A w P S m D L bf (M + 1) last forced ln lo z b w2))) := hr.mono fun r w' ⟨y, hr, HE⟩ => by
    obtain ⟨P', e', fo', _, j2, j3, j4, nx⟩ := HE.out
    refine ⟨y.b, hr, ?_⟩
    exact (t_use (X := X1) (y := y) (by omega) (t_drop_no nx.pw.ps y.b ⟨_, nx.at_⟩ nx.ne) nx.at_ nx.nS nx.ne).mono fun r w2 ⟨hr2, HE2⟩ => by
      obtain ⟨i1, i2⟩ := nx.used hz hn1 hno1 HE2.out.1 HE2.out.2
      exact ⟨hr2, n1, snocX X1 n1 y, by rw [snoc_at], by rw [snoc_at]; exact nx.is.1, P', e', fo', i1, j2, Fw.trans j3 j4 i2, j4, trivial⟩
  clear k hfd hr hno hno1
  go_enter Tryz.func91, Tryz.ntmps91
  go_wp2_with fail
  refine HF.out.mono ?_
  rintro r w1 ⟨rfl, hw⟩
  obtain rfl : w = w1 := hw.symm
  clear hw
  go_wp2_with fail
  refine HR.out.mono ?_
  rintro r w1 ⟨b, rfl, HU⟩
  go_wp2_with fail
  refine HU.out.mono ?_
  rintro r w2 ⟨rfl, HE⟩
  go_wp2
  go_ret2
  exact ⟨b, rfl, HE⟩
/-- bring. -/
theorem s_bringW (k : Pw B0 A w P S m D L bf n X M e last forced ln lo) (z : Nat) (hz : z < 6) (hM : M ≤ 1000000) (hbf : 0 < bf) (hsv : ∀ wq, 0 < n → Pw B0 A wq P S m D L bf n X M e last forced ln lo → Calls Tryz.prog 133 #[.pointer (some ⟨S, 0, none⟩), ptr (X 0).b] wq fun r w' => r = .returned (.int .i64 0) ∧ Svd B0 A wq P S m D L bf n (cleanX X 0) (M + 1) last forced ln lo w') : Calls Tryz.prog 91 #[.pointer (some ⟨S, 0, none⟩), .int .i64 (z : Int)] w fun r w' => ∃ b, r = .returned (.tuple #[ptr b, .int .i64 0]) ∧ Hid (Brw B0 A w P S m D L bf (M + 1) last forced ln lo z b w') := by
  have nb := k.nb
  by_cases h : ∃ i, i < n ∧ (X i).pg = z
  · obtain ⟨i, hi, rfl⟩ := h
    exact s_bringW_held k i hi
  · have hno : ∀ j, j < n → (X j).pg ≠ z := fun j hj e => h ⟨j, hj, e⟩
    by_cases hn : n < bf
    · refine s_bringW_new k z hz hno hn hno ((s_readW_room k z hz hM hno hn).mono fun r w' ⟨y, hr, hb, HE⟩ => ⟨y, hr, P, e, forced, HE.out.pw.more (by omega), Nat.le_refl _, Part.ofBelow hb, fun b h => .inl h, ?_⟩)
      have nx := HE.out
      exact ⟨nx.pw.more (by omega), nx.at_, nx.ld, nx.nl, nx.ne, nx.nS, nx.lo9, nx.is⟩
    · have hn : n = bf := by omega
      have h0 : 0 < n := by omega
      refine s_bringW_new k z hz hno (show n - 1 < bf by omega) (fun j hj e' => ?_) (s_readW_evict k z hz hM hno hn h0 (fun wq kq => hsv wq h0 kq))
      obtain ⟨j', hj', _, e2, _⟩ := dropX_at (X := cleanX X 0) h0 j hj
      rw [e2, (clean_at X 0 j').2.1] at e'
      exact hno j' hj' e'
end Go.Proofs.YthfokciijcmhbaaGreatDoor

namespace Go.Proofs.YthfokciijcmhbaaGreatDoor
open Go.RowKit
set_option linter.unusedVariables false

theorem lawK : Go.Maps.Keyed Tryz.prog 3 := Go.Maps.int_keyed Tryz.underlying3
theorem zeroB (w : World) : (zeroValue 47).run Tryz.prog w = .ok (.slice none 0 0) w := by kernel_rfl
theorem zero3 (w : World) : (zeroValue 3).run Tryz.prog w = .ok (.int .i64 0) w := by kernel_rfl
def idR (v : Value) : Option (DataW Value × List MemPlace) := some (.held v, [])
/-- Block b is a map from numbers; f tells what stands under the first ten. -/
def Im (w : World) (b n : Nat) (f : Nat → Option Value) : Prop := ∃ D : DataW Value, w.ownsMap Tryz.prog 3 idR b n D ∧ ∀ i : Nat, i < 10 → Go.Maps.has D (.int .i64 (i : Int)) = (f i).isSome ∧ ∀ z, D.atKey (.int .i64 (i : Int)) (.held z) = .held ((f i).getD z)
theorem Im.part {w w' : World} {F : Nat → Prop} {b n : Nat} {f : Nat → Option Value} (h : Im w b n f) (hp : Part F w w') (hn : ¬ F b) : Im w' b n f := by
  obtain ⟨D, h1, h2⟩ := h
  have hl := h1.lt
  obtain ⟨es, clock, hb, rest⟩ := h1
  exact ⟨D, ⟨es, clock, by rw [hp.block b hl hn]; exact hb, rest⟩, h2⟩
theorem Im.lt {w : World} {b n : Nat} {f : Nat → Option Value} (h : Im w b n f) : b < w.heap.size := by
  obtain ⟨D, h1, _⟩ := h
  exact h1.lt
theorem Im.isMap {w : World} {b n : Nat} {f : Nat → Option Value} (h : Im w b n f) : ∃ es c, w.heap[b]? = some (.map es c) := by
  obtain ⟨D, ⟨es, clock, hb, _⟩, _⟩ := h
  exact ⟨es, clock, hb⟩
theorem Im.made (w : World) : Im (w.alloc (.map #[] 0)) w.heap.size 0 (fun _ => none) := ⟨.map [], World.ownsMap_made _ _ _ _, fun i hi => ⟨rfl, fun z => rfl⟩⟩
theorem key_i {i : Nat} (hi : i < 10) : keyOf Tryz.prog 3 (.int .i64 (i : Int)) = some (.int .i64 (i : Int)) := Go.Maps.keyOf_int_mk Tryz.underlying3 (WalkArith.wf_i64 (n := (i : Int)) (by omega))
/-- The function with another value at z. -/
def upd {α : Type} (f : Nat → α) (z : Nat) (v : α) : Nat → α := fun p => if p = z then v else f p
theorem upd_at {α : Type} (f : Nat → α) (z : Nat) (v : α) : upd f z v z = v := if_pos rfl
theorem upd_ne {α : Type} (f : Nat → α) {z p : Nat} (v : α) (h : p ≠ z) : upd f z v p = f p := if_neg h
theorem Im.put {w w' : World} {b n z : Nat} {f : Nat → Option Value} {D : DataW Value} (v : Value) (h2 : ∀ i : Nat, i < 10 → Go.Maps.has D (.int .i64 (i : Int)) = (f i).isSome ∧ ∀ z, D.atKey (.int .i64 (i : Int)) (.held z) = .held ((f i).getD z)) (hm : Go.Maps.IsMap D) (h : w'.ownsMap Tryz.prog 3 idR b n (D.put (.int .i64 (z : Int)) (.held v))) : Im w' b n (upd f z (some v)) := by
  refine ⟨_, h, fun i hi => ?_⟩
  by_cases e : i = z
  · subst e
    rw [upd_at]
    exact ⟨Go.Maps.has_put_same hm (by exact True.intro) _, fun z => Go.Maps.atKey_put_same hm (by exact True.intro) _ _⟩
  · have hne : Lit.int .i64 (i : Int) ≠ Lit.int .i64 (z : Int) := fun h => by
      injection h with _ h
      omega
    rw [upd_ne f (some v) e, Go.Maps.has_put_other hne]
    exact ⟨(h2 i hi).1, fun y => by rw [Go.Maps.atKey_put_other hne]; exact (h2 i hi).2 y⟩
set_option maxRecDepth 10000 in
/-- Storing: the walk's step, with what comes of the map. -/
theorem Im.store {w : World} {b n z : Nat} {f : Nat → Option Value} (h : Im w b n f) (t e : TypeId) (ht : Tryz.prog.underlying t = some (.map 3 e)) (hn : n < 1000) (hz : z < 10) (v : Value) : ∃ w', (Instr.mapUpdate t (.map (some b)) (.int .i64 (z : Int)) v).run Tryz.prog w = .ok () w' ∧ Im w' b (n + 1) (upd f z (some v)) ∧ Part (fun k => k = b) w w' := by
  obtain ⟨D, h1, h2⟩ := h
  obtain ⟨w', hr, hm, ht'⟩ := h1.store lawK ht (by unfold maxLen; omega) (key_i hz) (show idR v = some (.held v, []) from rfl)
  exact ⟨w', hr, Im.put (w := w) v h2 h1.isMap hm, (Part.refl _ w).grown ht'.grown (fun q hq _ => by injection hq with hq; exact hq.symm)⟩
end Go.Proofs.YthfokciijcmhbaaGreatDoor
