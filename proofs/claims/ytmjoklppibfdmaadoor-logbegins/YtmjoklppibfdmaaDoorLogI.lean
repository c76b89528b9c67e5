/-
  A log's bytes on a disk, and its records, as plain facts: what Open, Force, Reset and a crash within Force leave. No program, no condition but those that each theorem names.
-/
import Derived.Test.YtmjoklppibfdmaaDoorLogV
import Derived.Test.YtmjoklppibfdmaaDoorPuts
namespace Go.Proofs.YtmjoklppibfdmaaDoor
open Go.RowKit
set_option linter.unusedVariables false

namespace Wm
theorem numAt_lo (f : Nat → Int) (n : Nat) : ∀ r k, (numAt f n r k).2.2 = 0 → (k : Int) < (numAt f n r k).2.1 := by
  intro r
  induction r with
  | zero => intro k h; simp [numAt] at h
  | succ r ih =>
    intro k
    unfold numAt
    split
    · intro h; simp at h
    · split
      · intro h; have := ih (k + 1) h; omega
      · split
        · intro h; simp at h
        · intro _; show (k : Int) < (k : Int) + 1; omega
/-- With fewer bytes a number is read as before, or is short. -/
theorem numAt_cut (f : Nat → Int) (n n' : Nat) (hn : n' ≤ n) : ∀ r k, (numAt f n r k).2.2 = 0 → ((numAt f n r k).2.1 ≤ (n' : Int) → numAt f n' r k = numAt f n r k) ∧ ((n' : Int) < (numAt f n r k).2.1 → (numAt f n' r k).2.2 ≠ 0) := by
  intro r
  induction r with
  | zero => intro k h; simp [numAt] at h
  | succ r ih =>
    intro k h
    by_cases h1 : n ≤ k
    · rw [numAt, if_pos h1] at h; simp at h
    · by_cases h2 : 128 ≤ f k
      · rw [numAt, if_neg h1, if_pos h2] at h ⊢
        by_cases h3 : n' ≤ k
        · have := numAt_lo f n r (k + 1) h
          rw [numAt, if_pos h3]
          exact ⟨fun h4 => by omega, fun _ => by simp⟩
        · rw [numAt, if_neg h3, if_pos h2]
          exact ih (k + 1) h
      · rw [numAt, if_neg h1, if_neg h2] at h ⊢
        by_cases h4 : f k = 0 ∧ 0 < k
        · rw [if_pos h4] at h; simp at h
        · rw [if_neg h4] at h ⊢
          by_cases h3 : n' ≤ k
          · rw [numAt, if_pos h3]
            exact ⟨fun (h5 : (k : Int) + 1 ≤ n') => by omega, fun _ => by simp⟩
          · rw [numAt, if_neg h3, if_neg h2, if_neg h4]
            exact ⟨fun _ => rfl, fun (h5 : (n' : Int) < (k : Int) + 1) => by omega⟩
theorem numAt_more (f : Nat → Int) (n n' : Nat) (hn : n' ≤ n) : ∀ r k, (numAt f n' r k).2.2 = 0 → numAt f n r k = numAt f n' r k := by
  intro r
  induction r with
  | zero => intro k h; rfl
  | succ r ih =>
    intro k h
    by_cases h1 : n' ≤ k
    · rw [numAt, if_pos h1] at h; simp at h
    · rw [numAt, if_neg h1] at h
      rw [numAt, if_neg (by omega), numAt, if_neg h1]
      by_cases h2 : 128 ≤ f k
      · rw [if_pos h2] at h ⊢
        rw [if_pos h2]
        exact ih (k + 1) h
      · rw [if_neg h2, if_neg h2]
theorem accum_ext {f g : Nat → Int} : ∀ {k : Nat}, (∀ i, i < k → f i = g i) → accum f k = accum g k
  | 0, _ => rfl
  | k + 1, h => by rw [accum, accum, accum_ext (fun i hi => h i (by omega)), h k (by omega)]
theorem numAt_ext {f g : Nat → Int} {n : Nat} (h : ∀ i, i < n → f i = g i) : ∀ r k, numAt f n r k = numAt g n r k := by
  intro r
  induction r with
  | zero => intro k; rfl
  | succ r ih =>
    intro k
    rw [numAt, numAt]
    by_cases h1 : n ≤ k
    · rw [if_pos h1, if_pos h1]
    · rw [if_neg h1, if_neg h1, h k (by omega), ih (k + 1), accum_ext (fun i hi => h i (by omega))]
end Wm

theorem lstI_ext {f g : Nat → Int} {n : Nat} (h : ∀ i, i < n → f i = g i) : lst f n = lst g n := by
  unfold lst
  apply List.map_congr_left
  intro i hi
  exact h i (List.mem_range.1 hi)
theorem strF_ext {f g : Nat → Int} {n : Nat} (h : ∀ i, i < n → f i = g i) : strF f n = strF g n := by
  unfold strF
  rw [lstI_ext h]
/-- A text that is read, by its number. -/
theorem txt_ok {f : Nat → Int} {n p k m : Nat} (h1 : Wm.num (sh f p) (n - p) = ((m : Int), (k : Int), 0)) (h2 : m ≤ 2000) (h3 : p + k + m ≤ n) : txt f n p 2000 = (strF (sh f (p + k)) m, 0, p + k + m) := by
  unfold txt
  rw [h1]
  simp only [Int.toNat_natCast]
  rw [if_neg (by simp), if_neg (by omega), if_neg (by omega)]
theorem txt_num {f : Nat → Int} {n p a m : Nat} (hpn : p ≤ n) (hm : 0 < m) (h : txt f n p 2000 = (strF (sh f a) m, 0, a + m)) : ∃ k : Nat, Wm.num (sh f p) (n - p) = ((m : Int), (k : Int), 0) ∧ a = p + k ∧ 0 < k ∧ m ≤ 2000 ∧ a + m ≤ n := by
  have hb := Wm.num_bd (sh f p) (n - p)
  have hp0 := Wm.num_pos (sh f p) (n - p)
  unfold txt at h
  generalize Wm.num (sh f p) (n - p) = N at *
  obtain ⟨a1, s1, e1⟩ := N
  dsimp only at *
  by_cases c1 : e1 ≠ 0
  · rw [if_pos c1] at h
    injection h with _ h
    injection h with h _
    exact absurd h c1
  · rw [if_neg c1] at h
    have c1 : e1 = 0 := by simpa using c1
    by_cases c2 : max 2000 0 < a1
    · rw [if_pos c2] at h
      injection h with _ h
      injection h with h _
      exact absurd h (by decide)
    · rw [if_neg c2] at h
      by_cases c3 : ((n - p : Nat) : Int) - s1 < a1
      · rw [if_pos c3] at h
        injection h with _ h
        injection h with h _
        exact absurd h (by decide)
      · rw [if_neg c3] at h
        injection h with h1 h
        injection h with _ h2
        have h3 := congrArg ByteArray.size h1
        rw [strF_size, strF_size] at h3
        have := hp0 c1
        refine ⟨s1.toNat, ?_, by omega, by omega, by omega, by omega⟩
        rw [show ((m : Nat) : Int) = a1 by omega, show ((s1.toNat : Nat) : Int) = s1 by omega, c1]
theorem txt_cut {f : Nat → Int} {n n' p a m : Nat} (hn : n' ≤ n) (hp : p ≤ n') (hm : 0 < m) (h : txt f n p 2000 = (strF (sh f a) m, 0, a + m)) : (a + m ≤ n' → txt f n' p 2000 = (strF (sh f a) m, 0, a + m)) ∧ (n' < a + m → (txt f n' p 2000).2.1 ≠ 0) := by
  obtain ⟨k, h1, rfl, hk, h2, h3⟩ := txt_num (by omega) hm h
  have h0 : (Wm.numAt (sh f p) (n - p) 9 0).2.2 = 0 := by
    show (Wm.num (sh f p) (n - p)).2.2 = 0
    rw [h1]
  have hc := Wm.numAt_cut (sh f p) (n - p) (n' - p) (by omega) 9 0 h0
  change ((Wm.num (sh f p) (n - p)).2.1 ≤ _ → Wm.num (sh f p) (n' - p) = Wm.num (sh f p) (n - p)) ∧ (_ < (Wm.num (sh f p) (n - p)).2.1 → (Wm.num (sh f p) (n' - p)).2.2 ≠ 0) at hc
  rw [h1] at hc
  dsimp only at hc
  refine ⟨fun h4 => txt_ok (hc.1 (by omega)) h2 h4, fun h4 => ?_⟩
  by_cases h5 : (k : Int) ≤ ((n' - p : Nat) : Int)
  · have h6 := hc.1 h5
    unfold txt
    rw [h6]
    dsimp only
    rw [if_neg (by simp), if_neg (by omega), if_pos (by omega)]
    exact fun (h : (10 : Int) = 0) => absurd h (by decide)
  · have h6 := hc.2 (by omega)
    unfold txt
    rw [if_pos h6]
    exact h6
theorem txt_more {f : Nat → Int} {n n' p a m : Nat} (hn : n' ≤ n) (hp : p ≤ n') (hm : 0 < m) (h : txt f n' p 2000 = (strF (sh f a) m, 0, a + m)) : txt f n p 2000 = (strF (sh f a) m, 0, a + m) := by
  obtain ⟨k, h1, rfl, hk, h2, h3⟩ := txt_num hp hm h
  have h0 : (Wm.numAt (sh f p) (n' - p) 9 0).2.2 = 0 := by
    show (Wm.num (sh f p) (n' - p)).2.2 = 0
    rw [h1]
  have hc := Wm.numAt_more (sh f p) (n - p) (n' - p) (by omega) 9 0 h0
  exact txt_ok (Eq.trans hc h1) h2 (by omega)
theorem txt_ext {f g : Nat → Int} {n p a m : Nat} (he : ∀ i, i < n → f i = g i) (hp : p ≤ n) (hm : 0 < m) (h : txt f n p 2000 = (strF (sh f a) m, 0, a + m)) : txt g n p 2000 = (strF (sh g a) m, 0, a + m) := by
  obtain ⟨k, h1, rfl, hk, h2, h3⟩ := txt_num hp hm h
  exact txt_ok (Eq.trans (Wm.numAt_ext (fun i hi => (he _ (by omega)).symm) 9 0) h1) h2 h3

theorem PrsTo.more {f : Nat → Int} {n n' : Nat} {L : List (Nat × Nat)} {p : Nat} (h : PrsTo f n' L p) (hn : n' ≤ n) : PrsTo f n L p := by
  induction h with
  | nil => exact .nil
  | snoc L p a m h1 h2 h3 h4 h5 h6 ih => exact .snoc L p a m ih (txt_more hn h1.le h3 h2) h3 h4 h5 (by omega)
theorem PrsTo.less {f : Nat → Int} {n n' : Nat} {L : List (Nat × Nat)} {p : Nat} (h : PrsTo f n L p) (hn : n' ≤ n) (hp : p ≤ n') : PrsTo f n' L p := by
  induction h with
  | nil => exact .nil
  | snoc L p a m h1 h2 h3 h4 h5 h6 ih => exact .snoc L p a m (ih (by omega)) ((txt_cut hn (by omega) h3 h2).1 hp) h3 h4 h5 hp
theorem PrsTo.ext {f g : Nat → Int} {n : Nat} (he : ∀ i, i < n → f i = g i) {L : List (Nat × Nat)} {p : Nat} (h : PrsTo f n L p) : PrsTo g n L p := by
  induction h with
  | nil => exact .nil
  | snoc L p a m h1 h2 h3 h4 h5 h6 ih => exact .snoc L p a m ih (txt_ext he h1.le h3 h2) h3 h4 h5 h6
/-- Where a part of the records ends. -/
theorem PrsTo.take {f : Nat → Int} {n : Nat} {L : List (Nat × Nat)} {p : Nat} (h : PrsTo f n L p) : ∀ k, k ≤ L.length → ∃ q, q ≤ p ∧ PrsTo f n (L.take k) q := by
  induction h with
  | nil => intro k hk; exact ⟨0, Nat.le_refl _, by simpa using PrsTo.nil⟩
  | snoc L p a m h1 h2 h3 h4 h5 h6 ih =>
    intro k hk
    simp at hk
    by_cases e : k ≤ L.length
    · obtain ⟨q, hq, h⟩ := ih k e
      refine ⟨q, by omega, ?_⟩
      rw [List.take_append_of_le_length e]
      exact h
    · refine ⟨a + m, Nat.le_refl _, ?_⟩
      rw [List.take_of_length_le (by simp; omega)]
      exact .snoc L p a m h1 h2 h3 h4 h5 h6
/-- Fewer bytes: the records that are whole in them. -/
theorem PrsTo.cut {f : Nat → Int} {n n' : Nat} (hn : n' ≤ n) {L : List (Nat × Nat)} {p : Nat} (h : PrsTo f n L p) : ∃ k s, k ≤ L.length ∧ s ≤ n' ∧ PrsTo f n (L.take k) s ∧ (k = L.length ∨ (k < L.length ∧ ∃ a m, txt f n s 2000 = (strF (sh f a) m, 0, a + m) ∧ 0 < m ∧ n' < a + m ∧ PrsTo f n (L.take (k + 1)) (a + m))) := by
  induction h with
  | nil => exact ⟨0, 0, Nat.le_refl _, Nat.zero_le _, .nil, .inl rfl⟩
  | snoc L p a m h1 h2 h3 h4 h5 h6 ih =>
    obtain ⟨k, s, k1, k2, k3, k4⟩ := ih
    rcases k4 with rfl | ⟨k4, a', m', k5, k6, k7, k8⟩
    · rw [List.take_length] at k3
      obtain ⟨_, rfl⟩ := h1.det k3 rfl
      by_cases e : a + m ≤ n'
      · refine ⟨L.length + 1, a + m, by simp, e, ?_, .inl (by simp)⟩
        rw [List.take_of_length_le (by simp)]
        exact .snoc L p a m h1 h2 h3 h4 h5 h6
      · refine ⟨L.length, p, by simp, k2, ?_, .inr ⟨by simp, a, m, h2, h3, by omega, ?_⟩⟩
        · rw [List.take_append_of_le_length (Nat.le_refl _), List.take_length]
          exact h1
        · rw [List.take_of_length_le (by simp)]
          exact .snoc L p a m h1 h2 h3 h4 h5 h6
    · refine ⟨k, s, by simp; omega, k2, ?_, .inr ⟨by simp; omega, a', m', k5, k6, k7, ?_⟩⟩
      · rw [List.take_append_of_le_length (by omega)]
        exact k3
      · rw [List.take_append_of_le_length (by omega)]
        exact k8
theorem stops_end (f : Nat → Int) (n : Nat) : Stops f n n := by
  refine .inl ?_
  unfold txt
  rw [Nat.sub_self, Wm.num_zero]
  rw [if_pos (by decide)]
  exact fun (h : (10 : Int) = 0) => absurd h (by decide)
/-- A beginning of bytes that are records has a beginning of the records. -/
theorem PrsTo.begins {f : Nat → Int} {n n' : Nat} (hn : n' ≤ n) {L : List (Nat × Nat)} (h : PrsTo f n L n) : ∃ k s, k ≤ L.length ∧ Parsed f n' (L.take k) s ∧ (n' = n → k = L.length) ∧ ∀ j q, j ≤ L.length → PrsTo f n (L.take j) q → q ≤ n' → j ≤ k := by
  obtain ⟨k, s, k1, k2, k3, k4⟩ := h.cut hn
  refine ⟨k, s, k1, ⟨k3.less hn k2, ?_⟩, ?_, fun j q hj hq hqn => ?_⟩
  · rcases k4 with rfl | ⟨k4, a, m, k5, k6, k7, k8⟩
    · rw [List.take_length] at k3
      obtain ⟨_, rfl⟩ := h.det k3 rfl
      obtain rfl : n' = n := by omega
      exact stops_end _ _
    · exact .inl ((txt_cut hn k2 k6 k5).2 k7)
  · rintro rfl
    rcases k4 with rfl | ⟨k4, a, m, k5, k6, k7, k8⟩
    · rfl
    · have := k8.le
      omega
  · rcases k4 with rfl | ⟨k4, a, m, k5, k6, k7, k8⟩
    · exact hj
    · refine Decidable.byContradiction fun hjk => ?_
      obtain ⟨q', hq', h'⟩ := hq.take (k + 1) (by rw [List.length_take]; omega)
      rw [List.take_take, Nat.min_eq_left (by omega)] at h'
      obtain ⟨_, rfl⟩ := h'.det k8 rfl
      omega

theorem putB_get {n i : Nat} (h : i < (putB n).length) : fn (putB n) i = (putB n).getD i 0 := rfl
theorem putB_pos' (n : Nat) : 1 ≤ (putB n).length := by rw [putB]; split <;> simp
/-- A number's bytes are read as it. -/
theorem numAt_put' (g : Nat → Int) (L : Nat) : ∀ r k n, (putB n).length ≤ r → (∀ i, i < (putB n).length → g (k + i) = (putB n).getD i 0) → (0 < k → 0 < n) → k + (putB n).length ≤ L →
    Wm.numAt g L r k = (Wm.accum g k + (n : Int) * 2 ^ (7 * k), ((k + (putB n).length : Nat) : Int), 0) := by
  intro r
  induction r with
  | zero => intro k n h; have := putB_pos' n; omega
  | succ r ih =>
    intro k n h hg h0 hL
    have h1 := putB_pos' n
    rw [Wm.numAt, if_neg (by omega)]
    by_cases hn : n < 128
    · have hp := putB_small n hn
      have hgk := hg 0 (by rw [hp]; simp)
      rw [hp] at hgk ⊢
      simp at hgk
      rw [if_neg (by omega), if_neg (by omega), Wm.accum, hgk]
      have e : ((n : Int) % 128) = (n : Int) := by omega
      rw [e]
      simp
    · have hp := putB_more n hn
      have hgk := hg 0 (by rw [hp]; simp)
      have hgk' : g k = ((n % 128 + 128 : Nat) : Int) := by rw [hp] at hgk; simpa using hgk
      have hlen : (putB n).length = (putB (n / 128)).length + 1 := by rw [hp]; simp
      rw [if_pos (by omega), ih (k + 1) (n / 128) (by omega) (fun i hi => ?_) (fun _ => by omega) (by omega), hlen]
      · have e : (g k % 128) = ((n % 128 : Nat) : Int) := by rw [hgk']; omega
        rw [Wm.accum, e, Wm.pow7]
        have e2 : ((n / 128 : Nat) : Int) * (2 ^ (7 * k) * 128) + ((n % 128 : Nat) : Int) * 2 ^ (7 * k) = (n : Int) * 2 ^ (7 * k) := by
          have : (n : Int) = ((n / 128 : Nat) : Int) * 128 + ((n % 128 : Nat) : Int) := by omega
          rw [this, Int.add_mul, Int.mul_assoc, Int.mul_comm 128]
        have e3 : Wm.accum g k + ((n % 128 : Nat) : Int) * 2 ^ (7 * k) + ((n / 128 : Nat) : Int) * (2 ^ (7 * k) * 128) = Wm.accum g k + (n : Int) * 2 ^ (7 * k) := by rw [← e2]; omega
        rw [e3, show k + 1 + (putB (n / 128)).length = k + ((putB (n / 128)).length + 1) by omega]
      · have := hg (i + 1) (by omega)
        rw [show k + 1 + i = k + (i + 1) by omega, this, hp]
        simp
/-- The bytes f, so many, with a record's text behind them. -/
def addR (f : Nat → Int) (n m : Nat) (g : Nat → Int) : Nat → Int := fun i => if i < n then f i else if i < n + (putB m).length then (putB m).getD (i - n) 0 else g (i - n - (putB m).length)
theorem addR_lo {f : Nat → Int} {n m : Nat} {g : Nat → Int} {i : Nat} (h : i < n) : addR f n m g i = f i := by unfold addR; rw [if_pos h]
theorem addR_hi {f : Nat → Int} {n m : Nat} {g : Nat → Int} (i : Nat) : addR f n m g (n + (putB m).length + i) = g i := by
  unfold addR
  rw [if_neg (by omega), if_neg (by omega)]
  congr 1
  omega
theorem addR_by {f : Nat → Int} {n m : Nat} {g : Nat → Int} (hf : ∀ i, 0 ≤ f i ∧ f i ≤ 255) (hg : ∀ i, 0 ≤ g i ∧ g i ≤ 255) (hm : m ≤ 2000) (i : Nat) : 0 ≤ addR f n m g i ∧ addR f n m g i ≤ 255 := by
  unfold addR
  by_cases h1 : i < n
  · rw [if_pos h1]; exact hf i
  · rw [if_neg h1]
    by_cases h2 : i < n + (putB m).length
    · rw [if_pos h2]
      exact fn_by (xs := putB m) (putB_by 8 m (by have : (128 : Nat) ^ (8 + 1) = 9223372036854775808 := by decide
                                                  omega)) (i - n)
    · rw [if_neg h2]; exact hg _
theorem PrsTo.add {f : Nat → Int} {n m : Nat} (g : Nat → Int) {L : List (Nat × Nat)} (h : PrsTo f n L n) (h1 : 0 < m) (h2 : m ≤ 2000) : PrsTo (addR f n m g) (n + (putB m).length + m) (L ++ [(n + (putB m).length, m)]) (n + (putB m).length + m) := by
  have hp := putB_pos' m
  refine .snoc L n _ m ((h.ext (fun i hi => (addR_lo hi).symm)).more (by omega)) (txt_ok ?_ h2 (Nat.le_refl _)) h1 h2 (by omega) (Nat.le_refl _)
  have hk := numAt_put' (sh (addR f n m g) n) (n + (putB m).length + m - n) 9 0 m (putB_le m (by omega)) (fun i hi => ?_) (fun h => absurd h (by omega)) (by omega)
  · show Wm.numAt _ _ 9 0 = _
    rw [hk]
    simp [Wm.accum]
  · show addR f n m g (n + (0 + i)) = _
    unfold addR
    rw [if_neg (by omega), if_pos (by omega), show n + (0 + i) - n = i by omega]
end Go.Proofs.YtmjoklppibfdmaaDoor
