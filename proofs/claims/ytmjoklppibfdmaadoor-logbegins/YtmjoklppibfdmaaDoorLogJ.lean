/-
  A log over its disk, with its records: contracts of Append, Force, Reset and of the getters on it. Conditions: at most 4096 sectors; the library's table of sums is as it starts.
-/
import Derived.Test.YtmjoklppibfdmaaDoorLogF
import Derived.Test.YtmjoklppibfdmaaDoorLogD
namespace Go.Proofs.YtmjoklppibfdmaaDoor
open Go.RowKit
set_option linter.unusedVariables false

/-- A log over its disk: the bytes f, tot of them, z forced; the records R, so many forced; all of it in P's blocks. -/
structure Lgs (w : World) (P : Nat → Prop) (D L n : Nat) (e f : Nat → Int) (first z tot forced : Nat) (R : List (Nat × Nat)) : Prop where
  lay : ∃ T F vt q, LogW w L T D 0 n first (first + R.length - 1) (first + forced - 1) (z / 112) vt ∧ Own w q vt (lst (sh f (z / 112 * 112)) (tot - z / 112 * 112)) ∧ q ≤ w.heap.size ∧ Sd w D F n 0 e ∧ L ≠ T ∧ ¬ F L ∧ ¬ F T ∧ (∀ k, vt.ownBlock = some k → ¬ F k) ∧ (∀ k, F k → P k) ∧ P L ∧ P T ∧ ∀ k, vt.ownBlock = some k → P k
  lt : ∀ k, P k → k < w.heap.size
  kept : Kept e n first f z
  prs : PrsTo f tot R tot
  prf : PrsTo f tot (R.take forced) z
  le : tot ≤ n * 112
  fr : forced ≤ R.length
  f1 : 1 ≤ first
  f2 : first ≤ 4611686018427387904
  by_ : ∀ i, 0 ≤ f i ∧ f i ≤ 255

theorem Lgs.n2 {w : World} {P : Nat → Prop} {D L n : Nat} {e f : Nat → Int} {first z tot forced : Nat} {R : List (Nat × Nat)} (h : Lgs w P D L n e f first z tot forced R) : 1 ≤ n ∧ n ≤ 4096 := by
  obtain ⟨_, _, _, _, _, _, _, hS, _⟩ := h.lay
  exact hS.n2
theorem Lgs.part {w w' : World} {P G : Nat → Prop} {D L n : Nat} {e f : Nat → Int} {first z tot forced : Nat} {R : List (Nat × Nat)} (h : Lgs w P D L n e f first z tot forced R) (hp : Part G w w') (hn : ∀ k, P k → ¬ G k) : Lgs w' P D L n e f first z tot forced R := by
  obtain ⟨T, F, vt, q, h1, h2, h3, h4, h5, h6, h7, h8, h9, h10, h11, h12⟩ := h.lay
  have hs := hp.size
  exact ⟨⟨T, F, vt, q, h1.part hp (hn _ h10) (hn _ h11), hp.row h2 (fun k hk => hn _ (h12 k hk)), by omega, h4.part hp (fun k hk => hn _ (h9 k hk)), h5, h6, h7, h8, h9, h10, h11, h12⟩, fun k hk => by have := h.lt k hk; omega, h.kept, h.prs, h.prf, h.le, h.fr, h.f1, h.f2, h.by_⟩
theorem Lgs.below {w w' : World} {P : Nat → Prop} {D L n : Nat} {e f : Nat → Int} {first z tot forced : Nat} {R : List (Nat × Nat)} (h : Lgs w P D L n e f first z tot forced R) (hb : Below w.heap.size w w') : Lgs w' P D L n e f first z tot forced R := h.part (Part.ofBelow (F := fun _ => False) hb) (fun _ _ h => h)

theorem PrsTo.in_ {f : Nat → Int} {n : Nat} {L : List (Nat × Nat)} {p : Nat} (h : PrsTo f n L p) : ∀ j, j < L.length → (L.getD j (0, 0)).1 + (L.getD j (0, 0)).2 ≤ p := by
  induction h with
  | nil => intro j hj; simp at hj
  | snoc L p a m h1 h2 h3 h4 h5 h6 ih =>
    intro j hj
    rw [getD_snoc]
    by_cases e : j = L.length
    · rw [if_pos e]; exact Nat.le_refl _
    · rw [if_neg e]
      simp at hj
      have := ih j (by omega)
      omega
theorem PrsTo.lt {f : Nat → Int} {n : Nat} {L : List (Nat × Nat)} {p : Nat} (h : PrsTo f n L p) : ∀ k q, k < L.length → PrsTo f n (L.take k) q → q < p := by
  induction h with
  | nil => intro k q hk; simp at hk
  | snoc L p a m h1 h2 h3 h4 h5 h6 ih =>
    intro k q hk hq
    simp at hk
    rw [List.take_append_of_le_length (by omega)] at hq
    by_cases e : k < L.length
    · have := ih k q e hq
      omega
    · rw [List.take_of_length_le (by omega)] at hq
      obtain ⟨_, rfl⟩ := h1.det hq rfl
      omega
theorem Kept.ext {e : Nat → Int} {n first : Nat} {f g : Nat → Int} {z : Nat} (h : Kept e n first f z) (he : ∀ i, i < z → f i = g i) : Kept e n first g z := ⟨h.le, h.in_, fun j hj => (h.eq j hj).trans (he j hj), h.out, h.zero⟩
theorem sh_sh (f : Nat → Int) (a b : Nat) : sh (sh f a) b = sh f (a + b) := by
  funext i
  show f _ = f _
  congr 1
  omega
theorem From.partG {F : Nat → Prop} {w w' : World} {a : Option Addr} {n : Nat} {f : Nat → Int} (hf : From w a n f) (h : Part F w w') (hn : ∀ x, a = some x → 0 < n → ¬ F x.block) : From w' a n f := by
  rcases hf with h1 | ⟨x, h1, h2⟩
  · exact .inl h1
  · refine .inr ⟨x, h1, fun j hj => ?_⟩
    refine h.cell ?_ (h2 j hj)
    have e : (x.add j).block = x.block := by unfold Addr.add; split <;> rfl
    rw [e]
    exact hn x h1 (by omega)

theorem addR_list (f : Nat → Int) (tot K m : Nat) (g : Nat → Int) (hK : K ≤ tot) : lst (sh f K) (tot - K) ++ putB m ++ lst g m = lst (sh (addR f tot m g) K) (tot + (putB m).length + m - K) := by
  apply List.ext_getElem?
  intro i
  by_cases h1 : i < tot - K
  · rw [lst_get _ _ _ (by omega), List.append_assoc, List.getElem?_append_left (by rw [lst_length]; exact h1), lst_get _ _ _ h1]
    show some (f _) = some (addR f tot m g _)
    rw [addR_lo (by omega)]
  · by_cases h2 : i < tot - K + (putB m).length
    · rw [lst_get _ _ _ (by omega), List.getElem?_append_left (by rw [List.length_append, lst_length]; exact h2), List.getElem?_append_right (by rw [lst_length]; omega), lst_length]
      show _ = some (addR f tot m g _)
      unfold addR
      rw [if_neg (by omega), if_pos (by omega), show K + i - tot = i - (tot - K) by omega, List.getElem?_eq_getElem (by omega)]
      simp [List.getD, show i - (tot - K) < (putB m).length by omega]
    · by_cases h3 : i < tot + (putB m).length + m - K
      · rw [lst_get _ _ _ h3, List.getElem?_append_right (by rw [List.length_append, lst_length]; omega), List.length_append, lst_length, lst_get _ _ _ (by omega)]
        show some (g _) = some (addR f tot m g _)
        rw [show K + i = tot + (putB m).length + (i - (tot - K + (putB m).length)) by omega, addR_hi]
      · rw [List.getElem?_eq_none (by simp [lst_length]; omega), List.getElem?_eq_none (by rw [lst_length]; omega)]

/-- What Append answers, and leaves. -/
def AppAns (w : World) (P : Nat → Prop) (D L n : Nat) (e f : Nat → Int) (first z tot forced : Nat) (R : List (Nat × Nat)) (m : Nat) (g : Nat → Int) (r : Ending) (w' : World) : Prop :=
  (∃ er, r = .returned (.tuple #[.int .i64 0, .int .i64 er]) ∧ er ≠ 0 ∧ Below w.heap.size w w' ∧ (m = 0 ∨ 2000 < m ∨ n * 112 - tot < (putB m).length + m ∨ 4611686018427387904 ≤ first + R.length - 1)) ∨
  (r = .returned (.tuple #[.int .i64 ((first + R.length : Nat) : Int), .int .i64 0]) ∧ 0 < m ∧ m ≤ 2000 ∧ ∃ P', Lgs w' P' D L n e (addR f tot m g) first z (tot + (putB m).length + m) forced (R ++ [(tot + (putB m).length, m)]) ∧ Part P w w' ∧ ∀ k, P' k → P k ∨ w.heap.size ≤ k)
theorem lgs_append {w : World} {P : Nat → Prop} {D L n : Nat} {e f : Nat → Int} {first z tot forced : Nat} {R : List (Nat × Nat)} (h : Lgs w P D L n e f first z tot forced R) (a0 : Option Addr) (m c : Nat) (g : Nat → Int) (hF : From w a0 m g) (hg : ∀ i, 0 ≤ g i ∧ g i ≤ 255) (hP : ∀ x, a0 = some x → 0 < m → ¬ P x.block) (hc0 : a0 = none → c = 0) :
    Calls Tryd.prog 27 #[.pointer (some ⟨L, 0, none⟩), .slice a0 m c] w fun r w' => AppAns w P D L n e f first z tot forced R m g r w' := by
  obtain ⟨n1, n2⟩ := h.n2
  obtain ⟨T, F, vt, q, h1, h2, h3, h4, h5, h6, h7, h8, h9, h10, h11, h12⟩ := h.lay
  have hf1 := h.f1
  have hzt := h.prf.le
  have hle := h.le
  have hxl : (lst (sh f (z / 112 * 112)) (tot - z / 112 * 112)).length = tot - z / 112 * 112 := lst_length _ _
  by_cases m0 : m = 0
  · subst m0
    exact (appL_empty L T c a0 w h1.l0).mono fun r w' ⟨hr, hw⟩ => .inl ⟨1, hr, by decide, by rw [hw]; exact Below.refl _ _, .inl rfl⟩
  · by_cases m1 : 2000 < m
    · exact (appL_long L T m c a0 w h1.l0 m1).mono fun r w' ⟨hr, hw⟩ => .inl ⟨12, hr, by decide, by rw [hw]; exact Below.refl _ _, .inr (.inl m1)⟩
    · by_cases m2 : n * 112 - tot < (putB m).length + m ∨ 4611686018427387904 ≤ first + R.length - 1
      · exact (appL_full L T D 0 n first _ _ (z / 112) q m c vt _ a0 w h1 h2 n2 (by omega) (by omega) (by omega) (by omega)).mono fun r w' ⟨hr, hb⟩ => .inl ⟨4, hr, by decide, hb, .inr (.inr m2)⟩
      · refine (appL_ok L T D 0 n first _ _ (z / 112) q m c vt _ a0 g w h1 h5 h2 h3 n2 (by omega) (by omega) (by omega) (by omega) (fun w5 hp => hF.partG hp (fun x hx h0 hk => hP x hx h0 (h12 _ hk.symm))) hc0).mono ?_
        rintro r w' ⟨rfl, v', k1, k2, k3, k4⟩
        have hs := k3.size
        have hTv : vt.ownBlock ≠ some T := h2.ne h1.hT (by decide)
        refine .inr ⟨?_, by omega, by omega, fun k => P k ∨ (w.heap.size ≤ k ∧ k < w'.heap.size), ⟨⟨T, F, v', q, ?_, ?_, by omega, ?_, h5, h6, h7, ?_, fun k hk => .inl (h9 k hk), .inl h10, .inl h11, fun k hk => ?_⟩, fun k hk => ?_, h.kept.ext (fun i hi => (addR_lo (by omega)).symm), h.prs.add g (by omega) (by omega), ?_, by omega, ?_, h.f1, h.f2, addR_by h.by_ hg (by omega)⟩, k3.mono (fun k hk hG => ?_), fun k hk => hk.imp id (fun h => h.1)⟩
        · rw [show first + R.length - 1 + 1 = first + R.length by omega]
        · rw [show first + (R ++ [(tot + (putB m).length, m)]).length - 1 = first + R.length - 1 + 1 by simp; omega]
          exact k1
        · rw [← addR_list f tot (z / 112 * 112) m g (by omega)]
          exact k2
        · exact h4.part k3 (fun k hk hG => by
            rcases hG with rfl | hG
            · exact h7 hk
            · exact h8 k hG.symm hk)
        · intro k hk hFk
          rcases k4 k hk with a | a
          · exact h8 k a.symm hFk
          · have := h4.lt k hFk
            omega
        · rcases k4 k hk with a | a
          · exact .inl (h12 k a.symm)
          · exact .inr ⟨a, (World.ownsRow.lt k2 k hk).2⟩
        · rcases hk with hk | hk
          · have := h.lt k hk; omega
          · exact hk.2
        · rw [List.take_append_of_le_length h.fr]
          exact (h.prf.ext (fun i hi => (addR_lo hi).symm)).more (by omega)
        · have := h.fr
          simp
          omega
        · rcases hG with rfl | hG
          · exact h11
          · exact h12 k hG.symm

theorem lgs_force {w : World} {P : Nat → Prop} {D L n : Nat} {e f : Nat → Int} {first z tot forced : Nat} {R : List (Nat × Nat)} (h : Lgs w P D L n e f first z tot forced R) (ht : Tab w) (htb : ¬ P 1) :
    Calls Tryd.prog 14 #[.pointer (some ⟨L, 0, none⟩)] w fun r w' => r = .returned (.int .i64 0) ∧ ∃ e' P', Lgs w' P' D L n e' f first tot tot R.length R ∧ Part P w w' ∧ ∀ k, P' k → P k ∨ w.heap.size ≤ k := by
  obtain ⟨n1, n2⟩ := h.n2
  obtain ⟨T, F, vt, q, h1, h2, h3, h4, h5, h6, h7, h8, h9, h10, h11, h12⟩ := h.lay
  have hf1 := h.f1
  have hf2 := h.f2
  have hfr := h.fr
  have hzt := h.prf.le
  have hle := h.le
  by_cases hall : forced = R.length
  · obtain rfl := hall
    have hz : z = tot := by
      have h0 := h.prf
      rw [List.take_length] at h0
      exact (h0.det h.prs rfl).2
    subst hz
    refine (force_same L T D 0 n first _ (z / 112) vt w h1).mono ?_
    rintro r w' ⟨rfl, q', rfl⟩
    have hb : Below w.heap.size w (w.drewN q') := blw_drewN q' (Below.refl _ _)
    exact ⟨rfl, e, P, h.below hb, Part.ofBelow hb, fun k hk => .inl hk⟩
  · have hlt : z < tot := h.prs.lt forced z (by omega) h.prf
    obtain ⟨tl, htl⟩ : ∃ tl, tot - z / 112 * 112 = tl := ⟨_, rfl⟩
    rw [htl] at h2
    obtain ⟨a, c, rfl, ⟨f5, f6, f7⟩, f8⟩ := h2.fst
    obtain ⟨g, rfl, hgc⟩ : ∃ g, a = some ⟨g, 0, none⟩ ∧ ∀ i, i < tl → w.cell? ⟨g, i, none⟩ = some (.int .u8 (sh f (z / 112 * 112) i)) := by
      rcases f7 with ⟨_, e0, _⟩ | h
      · omega
      · exact h
    have hgb : (Value.slice (some ⟨g, 0, none⟩) tl c).ownBlock = some g := rfl
    have hgT : g ≠ T := fun e => h2.ne h1.hT (by decide) (by rw [hgb, e])
    refine (forceL L T D n 0 n first _ _ (z / 112) g tl c ((tl + 111) / 112) F e (sh f (z / 112 * 112)) w h1 h5 (by omega) h4 h6 h7 (h8 g hgb) hgT (f8 g rfl).2 hgc f5 f6 (fun i => h.by_ _) (by omega) (by omega) (by omega) (by omega) (by omega) ht (fun k => htb (h9 _ k))).mono ?_
    rintro r w' ⟨rfl, q', v', k1, k2, k3, k4, k5⟩
    have hs := k4.size
    rw [sh_sh] at k2
    refine ⟨rfl, _, fun k => P k ∨ (w.heap.size ≤ k ∧ k < w'.heap.size), ⟨⟨T, _, v', w.heap.size, ?_, ?_, hs, k3, h5, ?_, ?_, ?_, fun k hk => ?_, .inl h10, .inl h11, fun k hk => ?_⟩, fun k hk => ?_, h.kept.force hf1 hf2 (by omega) hle htl.symm (by omega) (by omega) (by omega), h.prs, by rw [List.take_length]; exact h.prs, hle, Nat.le_refl _, hf1, hf2, h.by_⟩, k4.mono (fun k hk hG => ?_), fun k hk => hk.imp id (fun h => h.1)⟩
    · rw [show tot / 112 = z / 112 + tl / 112 by omega]
      exact k1
    · rw [show tot / 112 * 112 = z / 112 * 112 + tl / 112 * 112 by omega, show tot - (z / 112 * 112 + tl / 112 * 112) = tl - tl / 112 * 112 by omega]
      exact k2.mono k5
    · rintro (a | a)
      · exact h6 a
      · have := h.lt _ h10; omega
    · rintro (a | a)
      · exact h7 a
      · have := h.lt _ h11; omega
    · intro k hk
      have hl := (World.ownsRow.lt k2 k hk).1
      rintro (a | a)
      · have := h4.lt k a; omega
      · omega
    · rcases hk with hk | hk
      · exact .inl (h9 k hk)
      · exact .inr ⟨hk.1, k3.lt k (.inr hk)⟩
    · have hl := World.ownsRow.lt k2 k hk
      exact .inr ⟨by omega, hl.2⟩
    · rcases hk with hk | hk
      · have := h.lt k hk; omega
      · exact hk.2
    · rcases hG with hG | rfl
      · exact h9 k hG
      · exact h11

theorem lgs_reset {w : World} {P : Nat → Prop} {D L n : Nat} {e f : Nat → Int} {first z tot forced : Nat} {R : List (Nat × Nat)} (h : Lgs w P D L n e f first z tot forced R) (ht : Tab w) (htb : ¬ P 1) (hl : first + R.length - 1 < 4611686018427387904) :
    Calls Tryd.prog 25 #[.pointer (some ⟨L, 0, none⟩)] w fun r w' => r = .returned (.int .i64 0) ∧ ∃ e' P', Lgs w' P' D L n e' f (first + R.length) 0 0 0 [] ∧ Part P w w' ∧ ∀ k, P' k → P k ∨ w.heap.size ≤ k := by
  obtain ⟨n1, n2⟩ := h.n2
  obtain ⟨T, F, vt, q, h1, h2, h3, h4, h5, h6, h7, h8, h9, h10, h11, h12⟩ := h.lay
  have hf1 := h.f1
  have hf2 := h.f2
  have hzt := h.prf.le
  refine (resetL L T D n 0 n first _ _ (z / 112) vt F e w h1 h5 h4 h6 h7 (by omega) ht (fun k => htb (h9 _ k)) hl).mono ?_
  rintro r w' ⟨rfl, q', v', k1, k2, k3, k4, k5⟩
  have hs := k4.size
  have hz : 0 < z → first ≤ first + R.length - 1 := fun h0 => by
    have : R ≠ [] := fun e0 => by
      have h9 := h.prf
      rw [e0] at h9
      simp at h9
      have := (h9.det .nil rfl).2
      omega
    have := List.length_pos_iff.2 this
    omega
  have hK := h.kept.reset f (last := first + R.length - 1) (by omega) hz (by omega)
  rw [show first + R.length - 1 + 1 = first + R.length by omega] at k1 k3 hK
  refine ⟨rfl, _, fun k => P k ∨ (w.heap.size ≤ k ∧ k < w'.heap.size), ⟨⟨T, _, v', w.heap.size, ?_, ?_, hs, k3, h5, ?_, ?_, ?_, fun k hk => ?_, .inl h10, .inl h11, fun k hk => ?_⟩, fun k hk => ?_, hK, .nil, .nil, Nat.zero_le _, Nat.le_refl _, by omega, by omega, h.by_⟩, k4.mono (fun k hk hG => ?_), fun k hk => hk.imp id (fun h => h.1)⟩
  · rw [show first + R.length + ([] : List (Nat × Nat)).length - 1 = first + R.length - 1 by simp, show first + R.length + 0 - 1 = first + R.length - 1 by omega]
    exact k1
  · exact k2.mono k5
  · rintro (a | a)
    · exact h6 a
    · have := h.lt _ h10; omega
  · rintro (a | a)
    · exact h7 a
    · have := h.lt _ h11; omega
  · intro k hk
    have hl := (World.ownsRow.lt k2 k hk).1
    rintro (a | a)
    · have := h4.lt k a; omega
    · omega
  · rcases hk with hk | hk
    · exact .inl (h9 k hk)
    · exact .inr ⟨hk.1, k3.lt k (.inr hk)⟩
  · have hl := World.ownsRow.lt k2 k hk
    exact .inr ⟨by omega, hl.2⟩
  · rcases hk with hk | hk
    · have := h.lt k hk; omega
    · exact hk.2
  · rcases hG with hG | rfl
    · exact h9 k hG
    · exact h11
theorem lgs_reset_full {w : World} {P : Nat → Prop} {D L n : Nat} {e f : Nat → Int} {first z tot forced : Nat} {R : List (Nat × Nat)} (h : Lgs w P D L n e f first z tot forced R) (hl : 4611686018427387904 ≤ first + R.length - 1) :
    Calls Tryd.prog 25 #[.pointer (some ⟨L, 0, none⟩)] w fun r w' => r = .returned (.int .i64 4) ∧ w' = w := by
  obtain ⟨T, F, vt, q, h1, h2, h3, h4, h5, h6, h7, h8, h9, h10, h11, h12⟩ := h.lay
  exact reset_full L T D 0 n first _ _ _ vt w h1 hl
theorem lgs_last {w : World} {P : Nat → Prop} {D L n : Nat} {e f : Nat → Int} {first z tot forced : Nat} {R : List (Nat × Nat)} (h : Lgs w P D L n e f first z tot forced R) : Calls Tryd.prog 16 #[.pointer (some ⟨L, 0, none⟩)] w fun r w' => r = .returned (.int .i64 ((first + R.length - 1 : Nat) : Int)) ∧ w' = w := by
  obtain ⟨T, F, vt, q, h1, _⟩ := h.lay
  exact lLast L T _ w h1.l0 (by rw [cells_at h1.hT 4]; rfl)
theorem lgs_first {w : World} {P : Nat → Prop} {D L n : Nat} {e f : Nat → Int} {first z tot forced : Nat} {R : List (Nat × Nat)} (h : Lgs w P D L n e f first z tot forced R) : Calls Tryd.prog 26 #[.pointer (some ⟨L, 0, none⟩)] w fun r w' => r = .returned (.int .i64 (first : Int)) ∧ w' = w := by
  obtain ⟨T, F, vt, q, h1, _⟩ := h.lay
  exact lFirst L T _ w h1.l0 (by rw [cells_at h1.hT 3]; rfl)
theorem lgs_forced {w : World} {P : Nat → Prop} {D L n : Nat} {e f : Nat → Int} {first z tot forced : Nat} {R : List (Nat × Nat)} (h : Lgs w P D L n e f first z tot forced R) : Calls Tryd.prog 15 #[.pointer (some ⟨L, 0, none⟩)] w fun r w' => r = .returned (.int .i64 ((first + forced - 1 : Nat) : Int)) ∧ w' = w := by
  obtain ⟨T, F, vt, q, h1, _⟩ := h.lay
  exact lForced L T _ w h1.l0 (by rw [cells_at h1.hT 5]; rfl)
theorem lgs_room {w : World} {P : Nat → Prop} {D L n : Nat} {e f : Nat → Int} {first z tot forced : Nat} {R : List (Nat × Nat)} (h : Lgs w P D L n e f first z tot forced R) : Calls Tryd.prog 28 #[.pointer (some ⟨L, 0, none⟩)] w fun r w' => r = .returned (.int .i64 ((n * 112 - tot : Nat) : Int)) ∧ ∃ q, w' = w.drewN q := by
  obtain ⟨n1, n2⟩ := h.n2
  obtain ⟨T, F, vt, q, h1, h2, _⟩ := h.lay
  have hzt := h.prf.le
  have hle := h.le
  have := lwRoom h1 h2 n2 (by rw [lst_length]; omega)
  rw [lst_length, show n * 112 - z / 112 * 112 - (tot - z / 112 * 112) = n * 112 - tot by omega] at this
  exact this

/-- The records that a law holds: each has its bytes, none lies in P's blocks. -/
def RecP (w : World) (B : Nat) (v : Value) (P : Nat → Prop) (f : Nat → Int) (R : List (Nat × Nat)) : Prop := ∃ A C, RecG w B v R.length A (lenF R) C (bytF f R) ∧ (∀ k, v.ownBlock = some k → ¬ P k) ∧ ∀ j k, j < R.length → A j = some ⟨k, 0, none⟩ → ¬ P k
theorem lgs_opened {w w' : World} {D n : Nat} {F : Nat → Prop} {e : Nat → Int} {L : Nat} {v : Value} {first tot size : Nat} {R : List (Nat × Nat)} (h : Opened w w' D n 0 n F e L v first tot size R) (hF : ∀ k, F k → k < w.heap.size) (hby : ∀ i, 0 ≤ e i ∧ e i ≤ 255) : ∃ e' P, Lgs w' P D L n e' (lg e) (max first 1) size size R.length R ∧ (∀ k, P k → F k ∨ w.heap.size ≤ k) ∧ RecP w' w.heap.size v P (lg e) R := by
  obtain ⟨hH, hp, ⟨T, vt, A, C, e', p, q, k1, k2, k3, k4, k5, k6, k7, k8, k9, k10, k11, k12, k13⟩, hpt⟩ := h
  rw [from0_zero] at hH hp k2 k5
  have hs := hpt.size
  have hL : L < w'.heap.size := (Array.getElem?_eq_some_iff.1 k1.hL).1
  have hT : T < w'.heap.size := (Array.getElem?_eq_some_iff.1 k1.hT).1
  have hpl := hp.1.le
  have hP := hp.1.less hpl (Nat.le_refl _)
  have n2 := k3.n2
  refine ⟨e', fun k => F k ∨ (p ≤ k ∧ k < w'.heap.size), ⟨⟨T, _, vt, q, k1, k2, by omega, k3, k12, ?_, ?_, fun k hk => ?_, fun k hk => hk.imp id (fun h => ⟨h.1, by omega⟩), .inr ⟨by omega, hL⟩, .inr ⟨by omega, hT⟩, fun k hk => ?_⟩, fun k hk => ?_, Kept.open (by omega) hH hpl k4, hP, by rw [List.take_length]; exact hP, by have := hH.le; omega, Nat.le_refl _, by omega, by have := hH.first.1; omega, fun i => hby _⟩, fun k hk => hk.imp id (fun h => by omega), A, C, k5, fun k hk => ?_, fun j k hj hk => ?_⟩
  · rintro (a | a)
    · have := hF _ a; omega
    · omega
  · rintro (a | a)
    · have := hF _ a; omega
    · omega
  · have hl := (World.ownsRow.lt k2 k hk).1
    rintro (a | a)
    · have := hF _ a; omega
    · omega
  · have hl := World.ownsRow.lt k2 k hk
    exact .inr ⟨by omega, hl.2⟩
  · rcases hk with hk | hk
    · have := hF _ hk; omega
    · exact hk.2
  · have hl := (World.ownsRow.lt k5.own k hk).1
    have := k6 k hk
    rintro (a | a)
    · have := hF _ a; omega
    · omega
  · obtain ⟨g, cur, fz, x1, x2, _⟩ := k5.each j hj
    rw [x1] at hk
    cases hk
    have := k7 j _ hj x1
    rintro (a | a)
    · have := hF _ a; omega
    · omega
end Go.Proofs.YtmjoklppibfdmaaDoor
