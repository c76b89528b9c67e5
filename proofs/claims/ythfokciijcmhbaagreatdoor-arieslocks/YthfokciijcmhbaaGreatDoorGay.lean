/-
  A page's sector that is read: disk.Read and page.Decode within state.read.
  A page that is read into a pool: state.read, where there is room.
  A pool's row of buffers that is written anew: buffers go on, clean ones may go, one that was read may come.
-/
import Derived.Test.YthfokciijcmhbaaGreatDoorGax
namespace Go.Proofs.YthfokciijcmhbaaGreatDoor
open Go.RowKit
set_option linter.unusedVariables false

variable {B0 : Nat} {A : Ax} {w w1 : World} {P : Nat → Prop} {S D L bf n M last forced : Nat} {m : Int} {X : Nat → Bf} {e : Nat → Int} {ln : Nat → Nat} {lo : Nat → Nat → Int}
theorem Pgs.enc {p l : Nat} {f : Nat → Int} (h : Pgs e p l f) : ∀ i, i < 128 → e ((40 + p) * 128 + i) = encF (l : Int) f i := fun i hi => by
  unfold encF
  rcases h with ⟨h1, h2, h3⟩ | ⟨h1, h2⟩
  · rw [if_pos ⟨by omega, h3⟩]; exact h2 i hi
  · rw [if_neg (fun h => by have := h.1; omega)]; exact h2 i hi
theorem encF_by0 {z : Int} {f : Nat → Int} (h : ∀ i, 0 ≤ f i ∧ f i ≤ 255) : ∀ i, 0 ≤ encF z f i ∧ encF z f i ≤ 255 := fun i => by
  unfold encF
  by_cases h1 : z = 0 ∧ Nil f 112
  · rw [if_pos h1]; exact ⟨Int.le_refl _, by decide⟩
  · rw [if_neg h1]; exact pg_by _ h i
theorem pw_dread (k : Pw B0 A w P S m D L bf n X M e last forced ln lo) (z : Nat) (hz : z < 6) (hM : M ≤ 1000000) (wq : World) (hq : Dr0 w wq) (t : Int) (ht : t = 40 + (z : Int)) : Calls Tryz.prog 136 #[.pointer (some ⟨D, 0, none⟩), .int .i64 t] wq fun r w' => ∃ g c, r = .returned (.tuple #[.slice (some ⟨g, 0, none⟩) 128 c, .int .i64 0]) ∧ Below w.heap.size w w' ∧ Hid (Pw B0 A w' P S m D L bf n X M e last forced ln lo ∧ From w' (some ⟨g, 0, none⟩) 128 (sh e ((40 + z) * 128)) ∧ 128 ≤ c) := by
  subst ht
  have kq := k.below hq.below
  obtain ⟨T, F, vt, s1, _⟩ := kq.lay
  have := sdRead D (40 + z) 46 M F e wq s1 (by omega) (by omega)
  rw [show ((40 + z : Nat) : Int) = 40 + (z : Int) by omega] at this
  refine this.mono fun r w' ⟨g, c, hr, ho, hc, hb⟩ => ⟨g, c, hr, (hq.below (B := w.heap.size)).trans (hb.mono (hq.below (B := 0)).size), kq.below hb, ?_, hc⟩
  refine .inr ⟨_, rfl, fun j hj => ?_⟩
  exact World.ownsRow.cells (g := g) ho rfl j (.int .u8 (sh e ((40 + z) * 128) j)) (by rw [List.getElem?_map, lst_get _ 128 j hj]; rfl)
theorem pw_decode (k : Pw B0 A w P S m D L bf n X M e last forced ln lo) {z l g c : Nat} {f : Nat → Int} (hp : Pgs e z l f) (hl : l ≤ 4611686018427387904) (hby : ∀ i, 0 ≤ f i ∧ f i ≤ 255) (hf : From w (some ⟨g, 0, none⟩) 128 (sh e ((40 + z) * 128))) (hc : 128 ≤ c) : Calls Tryz.prog 153 #[.slice (some ⟨g, 0, none⟩) 128 c] w fun r w' => ∃ v, r = .returned (.tuple #[.int .i64 (l : Int), v, .int .i64 0]) ∧ Hid (Pw B0 A w' P S m D L bf n X M e last forced ln lo ∧ Own w' w.heap.size v (lst f 112) ∧ Below w.heap.size w w') := by
  have hf2 : From w (some ⟨g, 0, none⟩) 128 (encF (l : Int) f) := by
    rcases hf with ⟨h1, _⟩ | ⟨y, h1, h2⟩
    · cases h1
    · exact .inr ⟨y, h1, fun j hj => by rw [h2 j hj]; show some (Value.int .u8 (e ((40 + z) * 128 + j))) = _; rw [hp.enc j hj]⟩
  have hd := dec_back (z := (l : Int)) (f := f) ⟨by omega, by omega, rfl⟩ hby
  have := wDecode (some ⟨g, 0, none⟩) 128 c (encF (l : Int) f) w hf2 hc (encF_by0 hby) k.tab
  rw [hd] at this
  exact this.mono fun r w' ⟨v, hr, ho, hb⟩ => ⟨v, hr, k.below hb, ho, hb⟩
end Go.Proofs.YthfokciijcmhbaaGreatDoor

namespace Go.Proofs.YthfokciijcmhbaaGreatDoor
open Go.RowKit
set_option linter.unusedVariables false

variable {B0 : Nat} {A : Ax} {w w1 : World} {P : Nat → Prop} {S D L bf n M last forced : Nat} {m : Int} {X : Nat → Bf} {e : Nat → Int} {ln : Nat → Nat} {lo : Nat → Nat → Int}
theorem Id0.uniq {X : Nat → Bf} {n : Nat} {u v : Value} (h : Id0 X n u) (h' : Id0 X n v) : u = v := by
  rcases h with ⟨k, hk, e, hn, rfl⟩ | ⟨hn, rfl⟩ <;> rcases h' with ⟨k', hk', e', hn', rfl⟩ | ⟨hn', rfl⟩
  · rcases Nat.lt_trichotomy k k' with h | h | h
    · exact absurd e (hn' k h)
    · rw [h]
    · exact absurd e' (hn k' h)
  · exact absurd e (hn' k hk)
  · exact absurd e' (hn k' hk')
  · rfl
/-- A buffer of page z that was read just now. -/
structure Nx (B0 : Nat) (A : Ax) (w : World) (P : Nat → Prop) (S : Nat) (m : Int) (D L bf n : Nat) (X : Nat → Bf) (M : Nat) (e : Nat → Int) (last forced : Nat) (ln : Nat → Nat) (lo : Nat → Nat → Int) (y : Bf) (z : Nat) : Prop where
  pw : Pw B0 A w P S m D L bf n X M e last forced ln lo
  at_ : w.heap[y.b]? = some (bufO y)
  ld : Own w 0 y.ld (lst (lo z) 112)
  nl : ∀ k, y.ld.ownBlock = some k → ¬ P k
  ne : ∀ j, j < n → (X j).b ≠ y.b
  nS : y.b ≠ S
  lo9 : B0 ≤ y.b
  is : y.pg = z ∧ y.fi = 0 ∧ y.ls = ln z ∧ y.pn = 0
theorem Nx.of {v : Value} {z B : Nat} {o : Obj} (k : Pw B0 A w P S m D L bf n X M e last forced ln lo) (hv : Own w B v (lst (lo z) 112)) (hB : ∀ k, P k → k < B) (ho : o = .cells #[.int .i64 (z : Int), .int .i64 (ln z : Int), v, .int .i64 0, .int .i64 0] 170) : Nx B0 A (w.alloc o) P S m D L bf n X M e last forced ln lo ⟨w.heap.size, z, ln z, 0, 0, v⟩ z := by
  have bo : Below w.heap.size w (w.alloc o) := (Below.refl _ w).alloc (Nat.le_refl _) o
  have hlt := k.ps.lt
  refine ⟨k.below bo, by rw [heap_alloc_at _ _ _ rfl, ho]; rfl, (hv.below bo (Nat.le_refl _)).mono (Nat.zero_le _), fun b hb hP => ?_, fun j hj e => ?_, fun e => ?_, (by have := k.ps.low; show B0 ≤ w.heap.size; omega), rfl, rfl, rfl, rfl⟩
  · obtain ⟨g, c, e1, _, hg, _⟩ := own_some hv (by decide)
    have hb : v.ownBlock = some b := hb
    rw [e1] at hb
    have hb : some g = some b := hb
    injection hb with hb
    have := hB b hP
    omega
  · have := (Array.getElem?_eq_some_iff.1 (k.ps.buf j hj)).1
    have e : (X j).b = w.heap.size := e
    omega
  · have e : w.heap.size = S := e
    omega
set_option maxRecDepth 100000 in
set_option maxHeartbeats 4000000 in
theorem s_readW_room (k : Pw B0 A w P S m D L bf n X M e last forced ln lo) (z : Nat) (hz : z < 6) (hM : M ≤ 1000000) (hno : ∀ j, j < n → (X j).pg ≠ z) (hn : n < bf) : Calls Tryz.prog 127 #[.pointer (some ⟨S, 0, none⟩), .int .i64 (z : Int)] w fun r w' => ∃ y : Bf, r = .returned (.tuple #[ptr y.b, .int .i64 0]) ∧ Below w.heap.size w w' ∧ Hid (Nx B0 A w' P S m D L bf n X M e last forced ln lo y z) := by
  obtain ⟨held, h1, h2⟩ := k.ps.lay
  have nb := k.nb
  obtain ⟨a7, l7, rfl⟩ : ∃ a c, held = .slice a n c := by
    rcases h2.open with ⟨rfl, rfl⟩ | ⟨g, c, cur, rfl, _⟩
    · exact ⟨none, 0, rfl⟩
    · exact ⟨_, c, rfl⟩
  obtain ⟨v, hv⟩ : ∃ v, Id0 X n v := by
    by_cases h : ∃ j, j < n ∧ (X j).pn = 0
    · obtain ⟨j, hj, e⟩ := h
      induction j using Nat.strongRecOn with
      | _ j ih =>
        by_cases h2 : ∃ i, i < j ∧ (X i).pn = 0
        · obtain ⟨i, hi, ei⟩ := h2
          exact ih i hi (by omega) ei
        · exact ⟨_, .inl ⟨j, hj, e, fun i hi ei => h2 ⟨i, hi, ei⟩, rfl⟩⟩
    · exact ⟨_, .inr ⟨fun j hj e => h ⟨j, hj, e⟩, rfl⟩⟩
  obtain ⟨va, rfl⟩ : ∃ a, v = .pointer a := by
    rcases hv with ⟨j, _, _, _, rfl⟩ | ⟨_, rfl⟩
    · exact ⟨_, rfl⟩
    · exact ⟨_, rfl⟩
  have HI : Hid (∀ q, Calls Tryz.prog 152 #[.pointer (some ⟨S, 7, none⟩)] (w.drewN q) fun r w' => r = .returned (.pointer va) ∧ w' = w.drewN q) := fun q => (t_idle (k.ps.below (blw_drewN q (Below.refl _ w)))).mono fun r w' ⟨u, hr, hu, hw⟩ => ⟨by rw [hr, hu.uniq hv], hw⟩
  have c7 : w.cell? ⟨S, 7, none⟩ = some (.slice a7 n l7) := by rw [cells_at h1 7]; rfl
  have c6 : w.cell? ⟨S, 6, none⟩ = some (.int .i64 (bf : Int)) := by rw [cells_at h1 6]; rfl
  have c2 : w.cell? ⟨S, 2, none⟩ = some (.pointer (some ⟨D, 0, none⟩)) := by rw [cells_at h1 2]; rfl
  have c4 : w.cell? ⟨S, 4, none⟩ = some (.int .i64 40) := by rw [cells_at h1 4]; rfl
  have HR : Hid (∀ wq t, Dr0 w wq → t = 40 + (z : Int) → Calls Tryz.prog 136 #[.pointer (some ⟨D, 0, none⟩), .int .i64 t] wq fun r w' => ∃ b c, r = .returned (.tuple #[.slice (some ⟨b, 0, none⟩) 128 c, .int .i64 0]) ∧ Below w.heap.size w w' ∧ Hid (Below w.heap.size w w' ∧ Pw B0 A w' P S m D L bf n X M e last forced ln lo ∧ From w' (some ⟨b, 0, none⟩) 128 (sh e ((40 + z) * 128)) ∧ 128 ≤ c)) := fun wq t hq ht => (pw_dread k z hz hM wq hq t ht).mono fun r w' ⟨g, c, h1, h2, h3⟩ => ⟨g, c, h1, h2, h2, h3.out⟩
  have HS : Hid (∀ wq, Below w.heap.size w wq → wq.cell? ⟨S, 2, none⟩ = some (.pointer (some ⟨D, 0, none⟩)) ∧ wq.cell? ⟨S, 4, none⟩ = some (.int .i64 40)) := fun wq hq => by
    have e := (hq.block S k.ps.lt).trans h1
    exact ⟨by rw [cells_at e 2]; rfl, by rw [cells_at e 4]; rfl⟩
  have HDc : Hid (∀ wq b c, Below w.heap.size w wq ∧ Pw B0 A wq P S m D L bf n X M e last forced ln lo ∧ From wq (some ⟨b, 0, none⟩) 128 (sh e ((40 + z) * 128)) ∧ 128 ≤ c → Calls Tryz.prog 153 #[.slice (some ⟨b, 0, none⟩) 128 c] wq fun r w' => ∃ v', r = .returned (.tuple #[.int .i64 (ln z : Int), v', .int .i64 0]) ∧ Hid (Below w.heap.size w w' ∧ Pw B0 A w' P S m D L bf n X M e last forced ln lo ∧ Own w' w.heap.size v' (lst (lo z) 112))) := fun wq b c ⟨hb, kq, hf, hc⟩ => (pw_decode kq (k.off z hz hno) (k.lm z) (k.by_ z) hf hc).mono fun r w' ⟨v', hr, h⟩ => ⟨v', hr, hb.trans (h.out.2.2.mono hb.size), h.out.1, h.out.2.1.mono hb.size⟩
  have HN : Hid (∀ wq v' o, Below w.heap.size w wq ∧ Pw B0 A wq P S m D L bf n X M e last forced ln lo ∧ Own wq w.heap.size v' (lst (lo z) 112) → o = Obj.cells #[.int .i64 (z : Int), .int .i64 (ln z : Int), v', .int .i64 0, .int .i64 0] 170 → Below w.heap.size w (wq.alloc o) ∧ Nx B0 A (wq.alloc o) P S m D L bf n X M e last forced ln lo ⟨wq.heap.size, z, ln z, 0, 0, v'⟩ z) := fun wq v' o ⟨h0, h1, h2⟩ ho => ⟨h0.trans ((Below.refl _ wq).alloc (h0.size) o), Nx.of h1 h2 k.lt ho⟩
  have hn' : (n : Int) ≤ 5 := by omega
  have hz' : (z : Int) < 6 := by omega
  have hz0 : (0 : Int) ≤ (z : Int) := by omega
  have d1 : ((n : Int) == (bf : Int)) = false := by
    have : (n : Int) ≠ (bf : Int) := by omega
    simpa using this
  have d2 : (n == bf) = false := by
    have : n ≠ bf := by omega
    simpa using this
  clear k h1 h2 hv hno
  go_enter Tryz.func127, Tryz.ntmps127
  go_wp2_with fail
  go_quiet (first
    | (go_at_call 152; exact Calls.quiet_of_same (HI.out _)))
  have q1 : Dr0 w (w.drewN nq) := ⟨nq, rfl⟩
  have k1 : Below w.heap.size w (w.drewN nq) := q1.below
  obtain ⟨c2', c4'⟩ := HS.out _ k1
  clear c2 c4 c6 c7 HI
  generalize w.drewN nq = w1 at *
  go_wp2_with fail
  go_region_held2 (fun wq => wq.cell? ⟨S, 2, none⟩ = some (.pointer (some ⟨D, 0, none⟩)) ∧ wq.cell? ⟨S, 4, none⟩ = some (.int .i64 40))
    (first | exact HS.out _ (by assumption) | exact HS.out _ (blw_drewN 1 (by assumption)) | go_keep)
    (first
      | (go_at_call 136; refine (HR.out _ _ (by first | exact q1 | exact q1.drew) (by first | rfl | (simp only [IntKind.wrap_i64]; omega))).mono ?_; rintro e' w2 ⟨b, c, rfl, k2, HE⟩))
  clear c2' c4' HS HR k2
  go_wp2_with fail
  refine (HDc.out _ _ _ HE.out).mono ?_
  rintro r w3 ⟨v', rfl, HF⟩
  have HG : Hid (∀ o, o = Obj.cells #[.int .i64 (z : Int), .int .i64 (ln z : Int), v', .int .i64 0, .int .i64 0] 170 → Below w.heap.size w (w3.alloc o) ∧ Nx B0 A (w3.alloc o) P S m D L bf n X M e last forced ln lo ⟨w3.heap.size, z, ln z, 0, 0, v'⟩ z) := fun o ho => HN.out w3 v' o HF.out ho
  clear HN HDc HE
  obtain ⟨va', vn', vc', rfl⟩ : ∃ a n c, v' = .slice a n c := by
    rcases HF.out.2.2.2 with ⟨h, _⟩ | ⟨g, cap, cur, h, _⟩
    · exact ⟨_, _, _, h⟩
    · exact ⟨_, _, _, h⟩
  go_wp2
  go_ret2
  exact ⟨⟨w3.heap.size, z, ln z, 0, 0, .slice va' vn' vc'⟩, rfl, (HG.out _ rfl).1, (HG.out _ rfl).2⟩
end Go.Proofs.YthfokciijcmhbaaGreatDoor

namespace Go.Proofs.YthfokciijcmhbaaGreatDoor
open Go.RowKit
set_option linter.unusedVariables false

variable {B0 : Nat} {A : Ax} {w w' : World} {P : Nat → Prop} {S D L bf n M last forced : Nat} {m : Int} {X : Nat → Bf} {e : Nat → Int} {ln : Nat → Nat} {lo : Nat → Nat → Int}
/-- A buffer that may come into a pool's row: of a page that was read. -/
structure Cm (B0 : Nat) (w : World) (P : Nat → Prop) (e : Nat → Int) (ln : Nat → Nat) (lo : Nat → Nat → Int) (y : Bf) : Prop where
  ld : Own w 0 y.ld (lst (lo y.pg) 112)
  nP : ∀ b, y.ld.ownBlock = some b → ¬ P b
  bl : B0 ≤ y.b
  is : y.pg < 6 ∧ y.pn = 0 ∧ y.ls = ln y.pg ∧ y.fi = 0
  pg : Pgs e y.pg (ln y.pg) (lo y.pg)
theorem Pw.renew (k : Pw B0 A w P S m D L bf n X M e last forced ln lo) {n' : Nat} {X' : Nat → Bf} (h : Ps B0 w' S m D L 40 6 bf n' X') (hp : Part (Fr B0 S w) w w') (hX : ∀ j, j < n' → (∃ j', j' < n ∧ X' j = X j') ∨ Cm B0 w P e ln lo (X' j)) (hc : ∀ j', j' < n → (∃ j, j < n' ∧ X' j = X j') ∨ (X j').fi = 0) (hpa : ∀ a b, a < n' → b < n' → (X' a).pg = (X' b).pg → a = b) (hn : n' ≤ bf) : Pw B0 A w' P S m D L bf n' X' M e last forced ln lo ∧ Part (Fw B0 P w) w w' := by
  obtain ⟨held, h1, h2⟩ := k.ps.lay
  have ty : ∀ b cs t, w.heap[b]? = some (.cells cs t (0, 0)) → t ≠ 166 → t ≠ 143 → ¬ Fr B0 S w b := fun b cs t e t1 t2 hf => by
    rcases hf with ⟨_, rfl | ⟨cs', fz, e'⟩⟩
    · rw [h1] at e
      injection e with e
      injection e with _ e
      exact t2 e.symm
    · rw [e'] at e
      injection e with e
      injection e with _ e
      exact t1 e.symm
  obtain ⟨T, F, vt, s1, s2, s3, s4, s5⟩ := k.lay
  obtain ⟨q, place, tl, f, g1, g2, _⟩ := s2.lay
  have hDt : ∀ b, F b ∧ Dt w b → ¬ Fr B0 S w b := fun b hb => by
    obtain ⟨_, cs, t, e, ht⟩ := hb
    exact ty b cs t e (by rcases ht with rfl | rfl | rfl | rfl <;> decide) (by rcases ht with rfl | rfl | rfl | rfl <;> decide)
  have hV : ∀ b, vt.ownBlock = some b → ¬ Fr B0 S w b := fun b hb => by
    obtain ⟨cur, e⟩ := row_block g2 hb
    exact ty b _ _ e (by decide) (by decide)
  have htab : ¬ Fr B0 S w 0 := fun hf => by
    have := hf.1
    have := k.tl
    omega
  have hsz := hp.size
  have hld : ∀ {v : Value} {xs : List Int}, Own w 0 v xs → Own w' 0 v xs := fun {v xs} ho => hp.row ho (fun b hb => by obtain ⟨cur, e⟩ := row_block ho hb; exact ty b _ _ e (by decide) (by decide))
  refine ⟨⟨h, ⟨T, _, vt, s1.typed.part hp hDt, (s2.less (F' := fun b => F b ∧ Dt w b) (fun b h => h.1)).part hp (ty L _ _ g1.hL (by decide) (by decide)) (ty T _ _ g1.hT (by decide) (by decide)) hV, fun b h => s3 b h.1, s4, s5⟩, k.pS, k.tab.partG hp htab, k.np, fun b hb => by have := k.lt b hb; omega, (hp.block _ (Array.getElem?_eq_some_iff.1 k.pl).1 (ty (S + 1) _ _ k.pl (by decide) (by decide))).trans k.pl, fun j hj => ?_, fun j b hj hb => ?_, fun j hj => ?_, fun p hp' hn => ?_, hpa, k.by_, k.lm, k.dk, k.al, by have := k.nb; omega, fun j hj => ?_, k.tl⟩, ?_⟩
  · rcases hX j hj with ⟨j', hj', ej⟩ | hy
    · rw [ej]; exact hld (k.ld j' hj')
    · exact hld hy.ld
  · rcases hX j hj with ⟨j', hj', ej⟩ | hy
    · rw [ej] at hb; exact k.nP j' b hj' hb
    · exact hy.nP b hb
  · rcases hX j hj with ⟨j', hj', ej⟩ | hy
    · rw [ej]; exact k.cl j' hj'
    · exact ⟨hy.is.1, hy.is.2.1, hy.is.2.2.1, fun _ => hy.pg, fun h0 => by have := hy.is.2.2.2; omega⟩
  · by_cases hq : ∃ j', j' < n ∧ (X j').pg = p
    · obtain ⟨j', hj', e'⟩ := hq
      rcases hc j' hj' with ⟨j, hj, ej⟩ | h0
      · exact absurd (by rw [ej]; exact e') (hn j hj)
      · rw [← e']; exact (k.cl j' hj').2.2.2.1 h0
    · exact k.off p hp' (fun j' hj' e' => hq ⟨j', hj', e'⟩)
  · rcases hX j hj with ⟨j', hj', ej⟩ | hy
    · rw [ej]; exact k.bl j' hj'
    · exact hy.bl
  · refine hp.mono (fun b _ hf => ?_)
    rcases hf with ⟨hB, rfl | ⟨cs, fz, e'⟩⟩
    · exact .inl k.pS
    · exact .inr ⟨hB, cs, _, fz, e', .inl rfl⟩
theorem dropX_at {X : Nat → Bf} {n i : Nat} (hi : i < n) : ∀ j, j < n - 1 → ∃ j', j' < n ∧ j' ≠ i ∧ dropX X i j = X j' ∧ (j < i → j' = j) ∧ (¬ j < i → j' = j + 1) := fun j hj => by
  unfold dropX
  by_cases h : j < i
  · rw [if_pos h]; exact ⟨j, by omega, by omega, rfl, fun _ => rfl, fun h' => absurd h h'⟩
  · rw [if_neg h]; exact ⟨j + 1, by omega, by omega, rfl, fun h' => absurd h' h, fun _ => rfl⟩
theorem dropX_of {X : Nat → Bf} {n i : Nat} (hi : i < n) (j : Nat) (hj : j < n) (hne : j ≠ i) : ∃ j', j' < n - 1 ∧ dropX X i j' = X j := by
  by_cases h : j < i
  · exact ⟨j, by omega, by unfold dropX; rw [if_pos h]⟩
  · exact ⟨j - 1, by omega, by unfold dropX; rw [if_neg (by omega), show j - 1 + 1 = j by omega]⟩
theorem dropX_pa {X : Nat → Bf} {n i : Nat} (hi : i < n) (pa : ∀ a b, a < n → b < n → (X a).pg = (X b).pg → a = b) : ∀ a b, a < n - 1 → b < n - 1 → (dropX X i a).pg = (dropX X i b).pg → a = b := fun a b ha hb' e' => by
  obtain ⟨a', ha', na, ea, a1, a2⟩ := dropX_at (X := X) hi a ha
  obtain ⟨b', hb1, nb, eb, b1, b2⟩ := dropX_at (X := X) hi b hb'
  rw [ea, eb] at e'
  have := pa a' b' ha' hb1 e'
  by_cases h1 : a < i <;> by_cases h2 : b < i
  · rw [a1 h1, b1 h2] at this; exact this
  · rw [a1 h1, b2 h2] at this; omega
  · rw [a2 h1, b1 h2] at this; omega
  · rw [a2 h1, b2 h2] at this; omega
theorem snoc_at (X : Nat → Bf) (n : Nat) (y : Bf) : snocX X n y n = y := by unfold snocX; rw [if_pos rfl]
theorem snoc_lt (X : Nat → Bf) (n : Nat) (y : Bf) {j : Nat} (h : j < n) : snocX X n y j = X j := by unfold snocX; rw [if_neg (by omega)]
theorem snoc_pa {X : Nat → Bf} {n : Nat} {y : Bf} (pa : ∀ a b, a < n → b < n → (X a).pg = (X b).pg → a = b) (hno : ∀ j, j < n → (X j).pg ≠ y.pg) : ∀ a b, a < n + 1 → b < n + 1 → (snocX X n y a).pg = (snocX X n y b).pg → a = b := fun a b ha hb e => by
  by_cases h1 : a = n <;> by_cases h2 : b = n
  · omega
  · rw [h1, snoc_at, snoc_lt _ _ _ (show b < n by omega)] at e; exact absurd e.symm (hno b (by omega))
  · rw [h2, snoc_at, snoc_lt _ _ _ (show a < n by omega)] at e; exact absurd e (hno a (by omega))
  · rw [snoc_lt _ _ _ (show a < n by omega), snoc_lt _ _ _ (show b < n by omega)] at e; exact pa a b (by omega) (by omega) e
/-- A clean buffer that is dropped. -/
theorem Pw.drop (k : Pw B0 A w P S m D L bf n X M e last forced ln lo) {i : Nat} (hi : i < n) (hc : (X i).fi = 0) (h : Ps B0 w' S m D L 40 6 bf (n - 1) (dropX X i)) (hp : Part (Fr B0 S w) w w') : Pw B0 A w' P S m D L bf (n - 1) (dropX X i) M e last forced ln lo ∧ Part (Fw B0 P w) w w' := by
  refine k.renew h hp (fun j hj => ?_) (fun j' hj' => ?_) (dropX_pa hi k.pa) (by have := k.nb; omega)
  · obtain ⟨j', hj', _, ej, _⟩ := dropX_at (X := X) hi j hj
    exact .inl ⟨j', hj', ej⟩
  · by_cases h : j' = i
    · exact .inr (by rw [h]; exact hc)
    · exact .inl (dropX_of (X := X) hi j' hj' h)
/-- A buffer that was held is used. -/
theorem Pw.used (k : Pw B0 A w P S m D L bf n X M e last forced ln lo) {i : Nat} (hi : i < n) (h : Ps B0 w' S m D L 40 6 bf (n - 1 + 1) (snocX (dropX X i) (n - 1) (X i))) (hp : Part (Fr B0 S w) w w') : Pw B0 A w' P S m D L bf (n - 1 + 1) (snocX (dropX X i) (n - 1) (X i)) M e last forced ln lo ∧ Part (Fw B0 P w) w w' := by
  refine k.renew h hp (fun j hj => ?_) (fun j' hj' => ?_) (snoc_pa (dropX_pa hi k.pa) (fun j hj e' => ?_)) (by have := k.nb; omega)
  · by_cases h : j = n - 1
    · exact .inl ⟨i, hi, by rw [h, snoc_at]⟩
    · obtain ⟨j', hj', _, ej, _⟩ := dropX_at (X := X) hi j (by omega)
      exact .inl ⟨j', hj', by rw [snoc_lt _ _ _ (by omega), ej]⟩
  · by_cases h : j' = i
    · exact .inl ⟨n - 1, by omega, by rw [snoc_at, h]⟩
    · obtain ⟨j, hj, ej⟩ := dropX_of (X := X) hi j' hj' h
      exact .inl ⟨j, by omega, by rw [snoc_lt _ _ _ hj, ej]⟩
  · obtain ⟨j', hj', hne, ej, _⟩ := dropX_at (X := X) hi j hj
    rw [ej] at e'
    exact hne (k.pa j' i hj' hi e')
/-- A buffer that was read is used. -/
theorem Nx.used {y : Bf} {z : Nat} (k : Nx B0 A w P S m D L bf n X M e last forced ln lo y z) (hz : z < 6) (hn : n < bf) (hno : ∀ j, j < n → (X j).pg ≠ z) (h : Ps B0 w' S m D L 40 6 bf (n + 1) (snocX X n y)) (hp : Part (Fr B0 S w) w w') : Pw B0 A w' P S m D L bf (n + 1) (snocX X n y) M e last forced ln lo ∧ Part (Fw B0 P w) w w' := by
  obtain ⟨i1, i2, i3, i4⟩ := k.is
  refine k.pw.renew h hp (fun j hj => ?_) (fun j' hj' => .inl ⟨j', by omega, snoc_lt _ _ _ hj'⟩) (snoc_pa k.pw.pa (fun j hj => by rw [i1]; exact hno j hj)) (by omega)
  by_cases h : j = n
  · refine .inr ?_
    rw [h, snoc_at]
    exact ⟨by rw [i1]; exact k.ld, k.nl, k.lo9, ⟨by omega, i4, by rw [i1]; exact i3, i2⟩, by rw [i1]; exact k.pw.off z hz hno⟩
  · exact .inl ⟨j, by omega, snoc_lt _ _ _ (by omega)⟩
end Go.Proofs.YthfokciijcmhbaaGreatDoor
