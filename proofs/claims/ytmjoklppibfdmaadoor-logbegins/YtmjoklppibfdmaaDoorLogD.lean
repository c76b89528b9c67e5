/-
  A log's sectors on a disk, as plain facts: what Open, Force, Reset and a crash within Force leave. No program, no condition but those that each theorem names.
-/
import Derived.Test.YtmjoklppibfdmaaDoorLogI
import Derived.Test.YtmjoklppibfdmaaDoorLogK
namespace Go.Proofs.YtmjoklppibfdmaaDoor
open Go.RowKit
set_option linter.unusedVariables false

/-- The disk's n sectors hold a log of that first number, its bytes the first z of f; nothing else there is of this number. -/
structure Kept (e : Nat → Int) (n first : Nat) (f : Nat → Int) (z : Nat) : Prop where
  le : z ≤ n * 112
  in_ : ∀ p, p * 112 < z → Right (secAt e p) p first (min 112 (z - p * 112))
  eq : ∀ j, j < z → lg e j = f j
  out : ∀ p, 0 < p → p < n → z ≤ p * 112 → ∀ N u, Right (secAt e p) p N u → N < first
  zero : z = 0 → ∀ N u, Right (secAt e 0) 0 N u → N = first ∧ u = 0

theorem Kept.has {e : Nat → Int} {n first : Nat} {f : Nat → Int} {z : Nat} (h : Kept e n first f z) (hn : 0 < n) : ∃ fi, Has e n fi z ∧ (0 < z → fi = first) := by
  have hle := h.le
  by_cases hz : z = 0
  · subst hz
    by_cases hr : ∃ N u, Right (secAt e 0) 0 N u
    · obtain ⟨N, u, hr⟩ := hr
      obtain ⟨rfl, rfl⟩ := h.zero rfl N u hr
      refine ⟨N, ⟨1, hn, ⟨fun h => by omega, fun p hp => by omega, fun q hq => ?_⟩, .inr (.inl ⟨by omega, by omega⟩)⟩, fun h => by omega⟩
      obtain rfl : q = 0 := by omega
      exact ⟨by omega, by omega, hr⟩
    · exact ⟨0, ⟨0, Nat.zero_le _, Taken.nil e, .inr (.inr (fun N u hN => absurd ⟨N, u, hN⟩ hr))⟩, fun h => by omega⟩
  · refine ⟨first, ⟨(z + 111) / 112, by omega, ⟨fun h => by omega, fun p hp => ?_, fun q hq => ?_⟩, ?_⟩, fun _ => rfl⟩
    · have := h.in_ p (by omega)
      rwa [show min 112 (z - p * 112) = 112 by omega] at this
    · have := h.in_ q (by omega)
      rw [show min 112 (z - q * 112) = z - q * 112 by omega] at this
      exact ⟨by omega, by omega, this⟩
    · by_cases h1 : z < (z + 111) / 112 * 112
      · exact .inr (.inl ⟨by omega, h1⟩)
      · by_cases h2 : (z + 111) / 112 = n
        · exact .inl h2
        · refine .inr (.inr (fun N u hr => ⟨by omega, ?_⟩))
          have := h.out _ (by omega) (by omega) (by omega) N u hr
          omega

theorem sec_part {e e' : Nat → Int} {p : Nat} (h : ∀ i, i < 128 → e' (p * 128 + i) = e (p * 128 + i)) : ∀ i, i < 128 → secAt e p i = secAt e' p i := fun i hi => (h i hi).symm
theorem lg_part {e : Nat → Int} (j : Nat) : lg e j = secAt e (j / 112) (12 + j % 112) := by
  unfold lg secAt sh
  congr 1
  omega
theorem from0_zero (e : Nat → Int) : from0 e 0 = e := by
  funext i
  show e _ = e _
  congr 1
  omega

/-- Behind Open. -/
theorem Kept.open {E e' : Nat → Int} {n first tot size : Nat} (hn : 0 < n) (hH : Has E n first tot) (hst : size ≤ tot) (hC : Cleaned E e' 0 n first tot size) : Kept e' n (max first 1) (lg E) size := by
  obtain ⟨hf, hf0⟩ := hH.first
  have hle := hH.le
  have hc : ∀ p, p < n → ∀ i, i < 128 → secAt e' p i = cl E first tot size p i := fun p hp i hi => by
    have := hC.1 p hp i hi
    rw [from0_zero] at this
    rw [← this]
    show e' _ = e' _
    congr 1
    omega
  obtain ⟨k, hk, hT, hE⟩ := hH
  have hk0 : first ≠ 0 → 0 < k := fun h => by
    refine Decidable.byContradiction fun h0 => h ?_
    exact (hT.none (by omega)).1
  -- the last sector's bytes
  have hlast : ∀ q, k = q + 1 → q * 112 ≤ tot ∧ tot ≤ q * 112 + 112 := fun q hq => ⟨(hT.last q hq).1, (hT.last q hq).2.1⟩
  refine ⟨by omega, fun p hp => ?_, fun j hj => ?_, fun p h0 hp hz N u hr => ?_, fun hz N u hr => ?_⟩
  · have hff : first ≠ 0 := fun e => by have := hf0 e; omega
    obtain ⟨q, hq⟩ : ∃ q, k = q + 1 := ⟨k - 1, by have := hk0 hff; omega⟩
    have hl := hlast q hq
    have hm : max first 1 = first := by omega
    rw [hm]
    have hpn : p < n := by omega
    have hnx : ¬ nxt first size ≤ p := by unfold nxt; rw [if_neg hff]; omega
    by_cases ht : Trunc first tot size ∧ p = (size - 1) / 112
    · have he : ∀ i, i < 128 → lsec p first (size - p * 112) (sh (lg E) (p * 112)) i = secAt e' p i := fun i hi => by
        rw [hc p hpn i hi]
        unfold cl
        rw [if_neg hnx, if_pos ht]
      have := (lsec_right p (N := first) (u := size - p * 112) (f := sh (lg E) (p * 112)) (by omega) (by omega) hf).ext he
      rwa [show min 112 (size - p * 112) = size - p * 112 by omega]
    · have he : ∀ i, i < 128 → secAt E p i = secAt e' p i := fun i hi => by
        rw [hc p hpn i hi]
        unfold cl
        rw [if_neg hnx, if_neg ht]
        rfl
      obtain ⟨u, hr, hu1, hu2⟩ := hT.at p (by omega)
      have hu : u = min 112 (size - p * 112) := by
        by_cases e1 : p = (size - 1) / 112
        · have hnt : ¬ Trunc first tot size := fun h => ht ⟨h, e1⟩
          unfold Trunc at hnt
          by_cases e2 : p + 1 < k
          · have := hu1 e2
            omega
          · have := hu2 (by omega)
            omega
        · have := hu1 (by omega)
          omega
      rw [← hu]
      exact hr.ext he
  · have hff : first ≠ 0 := fun e => by have := hf0 e; omega
    rw [lg_part, lg_part, hc _ (by omega) _ (by omega)]
    unfold cl
    rw [if_neg (by unfold nxt; rw [if_neg hff]; omega)]
    by_cases ht : Trunc first tot size ∧ j / 112 = (size - 1) / 112
    · rw [if_pos ht]
      unfold lsec
      rw [sec_load _ _ _ _ _ (by omega) (by omega)]
      show lg E _ = _
      rw [show j / 112 * 112 + j % 112 = j by omega, lg_part]
    · rw [if_neg ht]
      rfl
  · refine absurd hr (blank_wrong ?_)
    rw [hc p hp 0 (by omega)]
    unfold cl
    rw [if_pos]
    unfold nxt
    by_cases e : first = 0
    · rw [if_pos e]; omega
    · rw [if_neg e]; omega
  · by_cases hff : first = 0
    · refine absurd hr (blank_wrong ?_)
      rw [hc 0 hn 0 (by omega)]
      unfold cl
      rw [if_pos]
      unfold nxt
      rw [if_pos hff]
      exact Nat.le_refl _
    · have hk1 := hk0 hff
      have hm : max first 1 = first := by omega
      rw [hm]
      have hnx : ¬ nxt first size ≤ 0 := by unfold nxt; rw [if_neg hff]; omega
      by_cases ht : Trunc first tot size
      · have he : ∀ i, i < 128 → lsec 0 first 0 (sh (lg E) (0 * 112)) i = secAt e' 0 i := fun i hi => by
          rw [hc 0 (by omega) i hi]
          unfold cl
          rw [if_neg hnx, if_pos ⟨ht, by omega⟩, hz]
        exact hr.uniq ((lsec_right 0 (N := first) (u := 0) (f := sh (lg E) (0 * 112)) (by omega) (by omega) hf).ext he)
      · have he : ∀ i, i < 128 → secAt E 0 i = secAt e' 0 i := fun i hi => by
          rw [hc 0 (by omega) i hi]
          unfold cl
          rw [if_neg hnx, if_neg (fun h => ht h.1)]
          rfl
        obtain ⟨u', hr', hu1, hu2⟩ := hT.at 0 hk1
        obtain ⟨q, hq⟩ : ∃ q, k = q + 1 := ⟨k - 1, by omega⟩
        have hl := hlast q hq
        unfold Trunc at ht
        have := hr.uniq (hr'.ext he)
        refine ⟨this.1, ?_⟩
        by_cases e2 : 1 < k
        · omega
        · have := hu2 (by omega)
          omega

theorem svs_sec (e : Nat → Int) (place first : Nat) (Ls : Nat → Nat) (f : Nat → Nat → Int) (k p i : Nat) (hi : i < 128) : secAt (svs e 0 place first Ls f k) p i = if place ≤ p ∧ p < place + k then lsec p first (Ls (p - place)) (f (p - place)) i else secAt e p i := by
  show svs e 0 place first Ls f k (p * 128 + i) = _
  rw [svs_at _ _ _ _ _ _ _ _ hi]
  simp only [Nat.zero_add, Nat.sub_zero]
  rfl
/-- Behind Force: the bytes are the first z' of f. -/
theorem Kept.force {e : Nat → Int} {n first : Nat} {f : Nat → Int} {z : Nat} (h : Kept e n first f z) (h1 : 1 ≤ first) (h2 : first ≤ 4611686018427387904) {z' tl N : Nat} (hz : z ≤ z') (hn : z' ≤ n * 112) (ht : tl = z' - z / 112 * 112) (h0 : 0 < tl) (hN : tl ≤ N * 112) (hN2 : N * 112 < tl + 112) :
    Kept (svs e 0 (z / 112) first (ckL tl) (fun k => sh (sh f (z / 112 * 112)) (k * 112)) N) n first f z' := by
  have hs := svs_sec e (z / 112) first (ckL tl) (fun k => sh (sh f (z / 112 * 112)) (k * 112)) N
  obtain ⟨e', he'⟩ : ∃ e', svs e 0 (z / 112) first (ckL tl) (fun k => sh (sh f (z / 112 * 112)) (k * 112)) N = e' := ⟨_, rfl⟩
  rw [he'] at hs ⊢
  have old : ∀ p, ¬ (z / 112 ≤ p ∧ p < z / 112 + N) → ∀ i, i < 128 → secAt e p i = secAt e' p i := fun p hp i hi => by rw [hs p i hi, if_neg hp]
  have new : ∀ p, z / 112 ≤ p ∧ p < z / 112 + N → ∀ i, i < 128 → lsec p first (ckL tl (p - z / 112)) (sh (sh f (z / 112 * 112)) ((p - z / 112) * 112)) i = secAt e' p i := fun p hp i hi => by rw [hs p i hi, if_pos hp]
  refine ⟨hn, fun p hp => ?_, fun j hj => ?_, fun p hp0 hp hz N u hr => ?_, fun hz N u hr => by omega⟩
  · by_cases hin : z / 112 ≤ p ∧ p < z / 112 + N
    · have := (lsec_right p (N := first) (u := ckL tl (p - z / 112)) (f := sh (sh f (z / 112 * 112)) ((p - z / 112) * 112)) (Nat.min_le_left _ _) h1 h2).ext (new p hin)
      have e1 : ckL tl (p - z / 112) = min 112 (z' - p * 112) := by unfold ckL; omega
      rwa [e1] at this
    · have := (h.in_ p (by omega)).ext (old p hin)
      rwa [show min 112 (z - p * 112) = min 112 (z' - p * 112) by omega] at this
  · rw [lg_part]
    by_cases hin : z / 112 ≤ j / 112 ∧ j / 112 < z / 112 + N
    · rw [← new _ hin _ (by omega)]
      unfold lsec
      have hlt : j % 112 < ckL tl (j / 112 - z / 112) := by unfold ckL; omega
      rw [sec_load _ _ _ _ _ hlt (Nat.min_le_left _ _)]
      show f _ = f _
      congr 1
      omega
    · rw [← old _ hin _ (by omega), ← lg_part]
      exact h.eq j (by omega)
  · exact h.out p hp0 hp (by omega) N u (hr.ext (fun i hi => (old p (by omega) i hi).symm))
/-- Behind Reset. -/
theorem Kept.reset {e : Nat → Int} {n first : Nat} {f : Nat → Int} {z : Nat} (h : Kept e n first f z) (g : Nat → Int) {last : Nat} (h1 : first ≤ last + 1) (h2 : 0 < z → first ≤ last) (h3 : last + 1 ≤ 4611686018427387904) :
    Kept (svs e 0 0 (last + 1) (fun _ => 0) (fun _ _ => 0) 1) n (last + 1) g 0 := by
  have hs := svs_sec e 0 (last + 1) (fun _ => 0) (fun _ _ => 0) 1
  refine ⟨Nat.zero_le _, fun p hp => by omega, fun j hj => by omega, fun p hp0 hp hz N u hr => ?_, fun _ N u hr => ?_⟩
  · have hr' : Right (secAt e p) p N u := hr.ext (fun i hi => by rw [hs p i hi, if_neg (by omega)])
    by_cases hpz : p * 112 < z
    · have := (hr'.uniq (h.in_ p hpz)).1
      have := h2 (by omega)
      omega
    · have := h.out p hp0 hp (by omega) N u hr'
      omega
  · exact hr.uniq ((lsec_right 0 (N := last + 1) (u := 0) (f := fun _ => 0) (by omega) (by omega) h3).ext (fun i hi => by rw [hs 0 i hi, if_pos (by omega)]))

/-- Between two disks of one log, any sector of either: a beginning. -/
theorem Kept.mixed {e e' m : Nat → Int} {n first : Nat} {f : Nat → Int} {z z' : Nat} (h : Kept e n first f z) (h' : Kept e' n first f z') (hz : z ≤ z') (hn : 0 < n) (hm : ∀ p, p < n → (∀ i, i < 128 → secAt e p i = secAt m p i) ∨ ∀ i, i < 128 → secAt e' p i = secAt m p i) : ∃ fi t, Has m n fi t ∧ z ≤ t ∧ t ≤ z' ∧ ∀ j, j < t → lg m j = f j := by
  have hle := h.le
  have hle' := h'.le
  have key : ∀ k, k ≤ n → (∃ fi t, Has m n fi t ∧ z ≤ t ∧ t ≤ z' ∧ ∀ j, j < t → lg m j = f j) ∨ (k * 112 ≤ z' ∧ (∀ p, p < k → Right (secAt m p) p first 112) ∧ ∀ j, j < k * 112 → lg m j = f j) := by
    intro k
    induction k with
    | zero => intro _; exact .inr ⟨by omega, fun p hp => by omega, fun j hj => by omega⟩
    | succ k ih =>
      intro hk
      rcases ih (by omega) with h1 | ⟨h1, h2, h3⟩
      · exact .inl h1
      · -- sector k is of e (with z) or of e' (with z')
        have go : ∀ (E : Nat → Int) (y : Nat), Kept E n first f y → z ≤ y → y ≤ z' → (∀ i, i < 128 → secAt E k i = secAt m k i) → (∃ fi t, Has m n fi t ∧ z ≤ t ∧ t ≤ z' ∧ ∀ j, j < t → lg m j = f j) ∨ ((k + 1) * 112 ≤ z' ∧ (∀ p, p < k + 1 → Right (secAt m p) p first 112) ∧ ∀ j, j < (k + 1) * 112 → lg m j = f j) := by
          intro E y hK hzy hyz he
          have hey : ∀ j, j < y → k * 112 ≤ j → j < (k + 1) * 112 → lg m j = f j := fun j hj hj1 hj2 => by
            rw [lg_part, show j / 112 = k by omega, ← he _ (by omega)]
            have := hK.eq j hj
            rw [lg_part, show j / 112 = k by omega] at this
            exact this
          by_cases hky : k * 112 < y
          · have hr := (hK.in_ k hky).ext he
            by_cases hfull : (k + 1) * 112 ≤ y
            · rw [show min 112 (y - k * 112) = 112 by omega] at hr
              refine .inr ⟨by omega, fun p hp => ?_, fun j hj => ?_⟩
              · by_cases e1 : p = k
                · subst e1; exact hr
                · exact h2 p (by omega)
              · by_cases e1 : j < k * 112
                · exact h3 j e1
                · exact hey j (by omega) (by omega) hj
            · rw [show min 112 (y - k * 112) = y - k * 112 by omega] at hr
              refine .inl ⟨first, y, ⟨k + 1, hk, ⟨fun e => by omega, fun p hp => h2 p (by omega), fun q hq => ?_⟩, .inr (.inl ⟨by omega, by omega⟩)⟩, hzy, hyz, fun j hj => ?_⟩
              · obtain rfl : q = k := by omega
                exact ⟨by omega, by omega, hr⟩
              · by_cases e1 : j < k * 112
                · exact h3 j e1
                · exact hey j hj (by omega) (by omega)
          · by_cases hk0 : k = 0
            · subst hk0
              obtain rfl : y = 0 := by omega
              obtain rfl : z = 0 := by omega
              by_cases hr : ∃ N u, Right (secAt m 0) 0 N u
              · obtain ⟨N, u, hr⟩ := hr
                obtain ⟨rfl, rfl⟩ := hK.zero rfl N u (hr.ext (fun i hi => (he i hi).symm))
                refine .inl ⟨N, 0, ⟨1, hn, ⟨fun h => by omega, fun p hp => by omega, fun q hq => ?_⟩, .inr (.inl ⟨by omega, by omega⟩)⟩, Nat.le_refl _, by omega, fun j hj => by omega⟩
                obtain rfl : q = 0 := by omega
                exact ⟨by omega, by omega, hr⟩
              · exact .inl ⟨0, 0, ⟨0, Nat.zero_le _, Taken.nil m, .inr (.inr (fun N u hN => absurd ⟨N, u, hN⟩ hr))⟩, Nat.le_refl _, by omega, fun j hj => by omega⟩
            · refine .inl ⟨first, k * 112, ⟨k, by omega, ⟨fun e => by omega, fun p hp => h2 p (by omega), fun q hq => ⟨by omega, by omega, ?_⟩⟩, .inr (.inr (fun N u hr => ⟨by omega, ?_⟩))⟩, by omega, h1, h3⟩
              · rw [show k * 112 - q * 112 = 112 by omega]
                exact h2 q (by omega)
              · have := hK.out k (by omega) (by omega) (by omega) N u (hr.ext (fun i hi => (he i hi).symm))
                omega
        rcases hm k (by omega) with he | he
        · exact go e z h (Nat.le_refl _) hz he
        · exact go e' z' h' hz (Nat.le_refl _) he
  rcases key n (Nat.le_refl _) with h1 | ⟨h1, h2, h3⟩
  · exact h1
  · obtain ⟨q, rfl⟩ : ∃ q, n = q + 1 := ⟨n - 1, by omega⟩
    refine ⟨first, (q + 1) * 112, ⟨q + 1, Nat.le_refl _, ⟨fun e => by omega, fun p hp => h2 p (by omega), fun r hr => ⟨by omega, by omega, ?_⟩⟩, .inl rfl⟩, by omega, h1, h3⟩
    rw [show (q + 1) * 112 - r * 112 = 112 by omega]
    exact h2 r (by omega)
end Go.Proofs.YtmjoklppibfdmaaDoor
