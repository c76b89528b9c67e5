/-
  A log's bytes on a disk, and its records, as plain facts: what Open, Force, Reset and a crash within Force leave. No program, no condition but those that each theorem names.
  A log's sectors on a disk, as plain facts: what Open, Force, Reset and a crash within Force leave. No program, no condition but those that each theorem names.
  A log over its disk, with its records: contracts of Append, Force, Reset and of the getters on it. Conditions: at most 4096 sectors; the library's table of sums is as it starts.
  Contract of the law's own records. Conditions: nothing pends on the disk; the library's table of sums is as it starts.
  Contract of bytes.Join over slices of 128 bytes each, with nothing between them.
  Contract of disk.Of over slices of bytes.
-/
import Derived.Test.YtmjoklppibfdmaaDoorLogV
import Derived.Test.YtmjoklppibfdmaaDoorGf
import Derived.Test.YtmjoklppibfdmaaDoorLogK
import Derived.Test.YtmjoklppibfdmaaDoorLogF
import Derived.Test.YtmjoklppibfdmaaDoorPlImage
import Derived.Lib.MakeNoZero
import Derived.Laws.CopyOwn
import Derived.Laws.Externs
import Derived.Test.YtmjoklppibfdmaaDoorDkOps
namespace Go.Proofs.YtmjoklppibfdmaaDoor
open Go.RowKit
set_option linter.unusedVariables false

namespace Wm
theorem numAt_lo (f : Nat → Int) (n : Nat) : ∀ r k, (numAt f n r k).2.2 = 0 → (k : Int) < (numAt f n r k).2.1 := by
  intro r
  induction r with
  | zero => intro k h; simp [numAt] at h
  | succ r ih =>
    intro k
    unfold numAt
    split
    · intro h; simp at h
    · split
      · intro h; have := ih (k + 1) h; omega
      · split
        · intro h; simp at h
        · intro _; show (k : Int) < (k : Int) + 1; omega
/-- With fewer bytes a number is read as before, or is short. -/
theorem numAt_cut (f : Nat → Int) (n n' : Nat) (hn : n' ≤ n) : ∀ r k, (numAt f n r k).2.2 = 0 → ((numAt f n r k).2.1 ≤ (n' : Int) → numAt f n' r k = numAt f n r k) ∧ ((n' : Int) < (numAt f n r k).2.1 → (numAt f n' r k).2.2 ≠ 0) := by
  intro r
  induction r with
  | zero => intro k h; simp [numAt] at h
  | succ r ih =>
    intro k h
    by_cases h1 : n ≤ k
    · rw [numAt, if_pos h1] at h; simp at h
    · by_cases h2 : 128 ≤ f k
      · rw [numAt, if_neg h1, if_pos h2] at h ⊢
        by_cases h3 : n' ≤ k
        · have := numAt_lo f n r (k + 1) h
          rw [numAt, if_pos h3]
          exact ⟨fun h4 => by omega, fun _ => by simp⟩
        · rw [numAt, if_neg h3, if_pos h2]
          exact ih (k + 1) h
      · rw [numAt, if_neg h1, if_neg h2] at h ⊢
        by_cases h4 : f k = 0 ∧ 0 < k
        · rw [if_pos h4] at h; simp at h
        · rw [if_neg h4] at h ⊢
          by_cases h3 : n' ≤ k
          · rw [numAt, if_pos h3]
            exact ⟨fun (h5 : (k : Int) + 1 ≤ n') => by omega, fun _ => by simp⟩
          · rw [numAt, if_neg h3, if_neg h2, if_neg h4]
            exact ⟨fun _ => rfl, fun (h5 : (n' : Int) < (k : Int) + 1) => by omega⟩
theorem numAt_more (f : Nat → Int) (n n' : Nat) (hn : n' ≤ n) : ∀ r k, (numAt f n' r k).2.2 = 0 → numAt f n r k = numAt f n' r k := by
  intro r
  induction r with
  | zero => intro k h; rfl
  | succ r ih =>
    intro k h
    by_cases h1 : n' ≤ k
    · rw [numAt, if_pos h1] at h; simp at h
    · rw [numAt, if_neg h1] at h
      rw [numAt, if_neg (by omega), numAt, if_neg h1]
      by_cases h2 : 128 ≤ f k
      · rw [if_pos h2] at h ⊢
        rw [if_pos h2]
        exact ih (k + 1) h
      · rw [if_neg h2, if_neg h2]
theorem accum_ext {f g : Nat → Int} : ∀ {k : Nat}, (∀ i, i < k → f i = g i) → accum f k = accum g k
  | 0, _ => rfl
  | k + 1, h => by rw [accum, accum, accum_ext (fun i hi => h i (by omega)), h k (by omega)]
theorem numAt_ext {f g : Nat → Int} {n : Nat} (h : ∀ i, i < n → f i = g i) : ∀ r k, numAt f n r k = numAt g n r k := by
  intro r
  induction r with
  | zero => intro k; rfl
  | succ r ih =>
    intro k
    rw [numAt, numAt]
    by_cases h1 : n ≤ k
    · rw [if_pos h1, if_pos h1]
    · rw [if_neg h1, if_neg h1, h k (by omega), ih (k + 1), accum_ext (fun i hi => h i (by omega))]
end Wm

theorem lstI_ext {f g : Nat → Int} {n : Nat} (h : ∀ i, i < n → f i = g i) : lst f n = lst g n := by
  unfold lst
  apply List.map_congr_left
  intro i hi
  exact h i (List.mem_range.1 hi)
theorem strF_ext {f g : Nat → Int} {n : Nat} (h : ∀ i, i < n → f i = g i) : strF f n = strF g n := by
  unfold strF
  rw [lstI_ext h]
/-- A text that is read, by its number. -/
theorem txt_ok {f : Nat → Int} {n p k m : Nat} (h1 : Wm.num (sh f p) (n - p) = ((m : Int), (k : Int), 0)) (h2 : m ≤ 2000) (h3 : p + k + m ≤ n) : txt f n p 2000 = (strF (sh f (p + k)) m, 0, p + k + m) := by
  unfold txt
  rw [h1]
  simp only [Int.toNat_natCast]
  rw [if_neg (by simp), if_neg (by omega), if_neg (by omega)]
theorem txt_num {f : Nat → Int} {n p a m : Nat} (hpn : p ≤ n) (hm : 0 < m) (h : txt f n p 2000 = (strF (sh f a) m, 0, a + m)) : ∃ k : Nat, Wm.num (sh f p) (n - p) = ((m : Int), (k : Int), 0) ∧ a = p + k ∧ 0 < k ∧ m ≤ 2000 ∧ a + m ≤ n := by
  have hb := Wm.num_bd (sh f p) (n - p)
  have hp0 := Wm.num_pos (sh f p) (n - p)
  unfold txt at h
  generalize Wm.num (sh f p) (n - p) = N at *
  obtain ⟨a1, s1, e1⟩ := N
  dsimp only at *
  by_cases c1 : e1 ≠ 0
  · rw [if_pos c1] at h
    injection h with _ h
    injection h with h _
    exact absurd h c1
  · rw [if_neg c1] at h
    have c1 : e1 = 0 := by simpa using c1
    by_cases c2 : max 2000 0 < a1
    · rw [if_pos c2] at h
      injection h with _ h
      injection h with h _
      exact absurd h (by decide)
    · rw [if_neg c2] at h
      by_cases c3 : ((n - p : Nat) : Int) - s1 < a1
      · rw [if_pos c3] at h
        injection h with _ h
        injection h with h _
        exact absurd h (by decide)
      · rw [if_neg c3] at h
        injection h with h1 h
        injection h with _ h2
        have h3 := congrArg ByteArray.size h1
        rw [strF_size, strF_size] at h3
        have := hp0 c1
        refine ⟨s1.toNat, ?_, by omega, by omega, by omega, by omega⟩
        rw [show ((m : Nat) : Int) = a1 by omega, show ((s1.toNat : Nat) : Int) = s1 by omega, c1]
theorem txt_cut {f : Nat → Int} {n n' p a m : Nat} (hn : n' ≤ n) (hp : p ≤ n') (hm : 0 < m) (h : txt f n p 2000 = (strF (sh f a) m, 0, a + m)) : (a + m ≤ n' → txt f n' p 2000 = (strF (sh f a) m, 0, a + m)) ∧ (n' < a + m → (txt f n' p 2000).2.1 ≠ 0) := by
  obtain ⟨k, h1, rfl, hk, h2, h3⟩ := txt_num (by omega) hm h
  have h0 : (Wm.numAt (sh f p) (n - p) 9 0).2.2 = 0 := by
    show (Wm.num (sh f p) (n - p)).2.2 = 0
    rw [h1]
  have hc := Wm.numAt_cut (sh f p) (n - p) (n' - p) (by omega) 9 0 h0
  change ((Wm.num (sh f p) (n - p)).2.1 ≤ _ → Wm.num (sh f p) (n' - p) = Wm.num (sh f p) (n - p)) ∧ (_ < (Wm.num (sh f p) (n - p)).2.1 → (Wm.num (sh f p) (n' - p)).2.2 ≠ 0) at hc
  rw [h1] at hc
  dsimp only at hc
  refine ⟨fun h4 => txt_ok (hc.1 (by omega)) h2 h4, fun h4 => ?_⟩
  by_cases h5 : (k : Int) ≤ ((n' - p : Nat) : Int)
  · have h6 := hc.1 h5
    unfold txt
    rw [h6]
    dsimp only
    rw [if_neg (by simp), if_neg (by omega), if_pos (by omega)]
    exact fun (h : (10 : Int) = 0) => absurd h (by decide)
  · have h6 := hc.2 (by omega)
    unfold txt
    rw [if_pos h6]
    exact h6
theorem txt_more {f : Nat → Int} {n n' p a m : Nat} (hn : n' ≤ n) (hp : p ≤ n') (hm : 0 < m) (h : txt f n' p 2000 = (strF (sh f a) m, 0, a + m)) : txt f n p 2000 = (strF (sh f a) m, 0, a + m) := by
  obtain ⟨k, h1, rfl, hk, h2, h3⟩ := txt_num hp hm h
  have h0 : (Wm.numAt (sh f p) (n' - p) 9 0).2.2 = 0 := by
    show (Wm.num (sh f p) (n' - p)).2.2 = 0
    rw [h1]
  have hc := Wm.numAt_more (sh f p) (n - p) (n' - p) (by omega) 9 0 h0
  exact txt_ok (Eq.trans hc h1) h2 (by omega)
theorem txt_ext {f g : Nat → Int} {n p a m : Nat} (he : ∀ i, i < n → f i = g i) (hp : p ≤ n) (hm : 0 < m) (h : txt f n p 2000 = (strF (sh f a) m, 0, a + m)) : txt g n p 2000 = (strF (sh g a) m, 0, a + m) := by
  obtain ⟨k, h1, rfl, hk, h2, h3⟩ := txt_num hp hm h
  exact txt_ok (Eq.trans (Wm.numAt_ext (fun i hi => (he _ (by omega)).symm) 9 0) h1) h2 h3

theorem PrsTo.more {f : Nat → Int} {n n' : Nat} {L : List (Nat × Nat)} {p : Nat} (h : PrsTo f n' L p) (hn : n' ≤ n) : PrsTo f n L p := by
  induction h with
  | nil => exact .nil
  | snoc L p a m h1 h2 h3 h4 h5 h6 ih => exact .snoc L p a m ih (txt_more hn h1.le h3 h2) h3 h4 h5 (by omega)
theorem PrsTo.less {f : Nat → Int} {n n' : Nat} {L : List (Nat × Nat)} {p : Nat} (h : PrsTo f n L p) (hn : n' ≤ n) (hp : p ≤ n') : PrsTo f n' L p := by
  induction h with
  | nil => exact .nil
  | snoc L p a m h1 h2 h3 h4 h5 h6 ih => exact .snoc L p a m (ih (by omega)) ((txt_cut hn (by omega) h3 h2).1 hp) h3 h4 h5 hp
theorem PrsTo.ext {f g : Nat → Int} {n : Nat} (he : ∀ i, i < n → f i = g i) {L : List (Nat × Nat)} {p : Nat} (h : PrsTo f n L p) : PrsTo g n L p := by
  induction h with
  | nil => exact .nil
  | snoc L p a m h1 h2 h3 h4 h5 h6 ih => exact .snoc L p a m ih (txt_ext he h1.le h3 h2) h3 h4 h5 h6
/-- Where a part of the records ends. -/
theorem PrsTo.take {f : Nat → Int} {n : Nat} {L : List (Nat × Nat)} {p : Nat} (h : PrsTo f n L p) : ∀ k, k ≤ L.length → ∃ q, q ≤ p ∧ PrsTo f n (L.take k) q := by
  induction h with
  | nil => intro k hk; exact ⟨0, Nat.le_refl _, by simpa using PrsTo.nil⟩
  | snoc L p a m h1 h2 h3 h4 h5 h6 ih =>
    intro k hk
    simp at hk
    by_cases e : k ≤ L.length
    · obtain ⟨q, hq, h⟩ := ih k e
      refine ⟨q, by omega, ?_⟩
      rw [List.take_append_of_le_length e]
      exact h
    · refine ⟨a + m, Nat.le_refl _, ?_⟩
      rw [List.take_of_length_le (by simp; omega)]
      exact .snoc L p a m h1 h2 h3 h4 h5 h6
/-- Fewer bytes: the records that are whole in them. -/
theorem PrsTo.cut {f : Nat → Int} {n n' : Nat} (hn : n' ≤ n) {L : List (Nat × Nat)} {p : Nat} (h : PrsTo f n L p) : ∃ k s, k ≤ L.length ∧ s ≤ n' ∧ PrsTo f n (L.take k) s ∧ (k = L.length ∨ (k < L.length ∧ ∃ a m, txt f n s 2000 = (strF (sh f a) m, 0, a + m) ∧ 0 < m ∧ n' < a + m ∧ PrsTo f n (L.take (k + 1)) (a + m))) := by
  induction h with
  | nil => exact ⟨0, 0, Nat.le_refl _, Nat.zero_le _, .nil, .inl rfl⟩
  | snoc L p a m h1 h2 h3 h4 h5 h6 ih =>
    obtain ⟨k, s, k1, k2, k3, k4⟩ := ih
    rcases k4 with rfl | ⟨k4, a', m', k5, k6, k7, k8⟩
    · rw [List.take_length] at k3
      obtain ⟨_, rfl⟩ := h1.det k3 rfl
      by_cases e : a + m ≤ n'
      · refine ⟨L.length + 1, a + m, by simp, e, ?_, .inl (by simp)⟩
        rw [List.take_of_length_le (by simp)]
        exact .snoc L p a m h1 h2 h3 h4 h5 h6
      · refine ⟨L.length, p, by simp, k2, ?_, .inr ⟨by simp, a, m, h2, h3, by omega, ?_⟩⟩
        · rw [List.take_append_of_le_length (Nat.le_refl _), List.take_length]
          exact h1
        · rw [List.take_of_length_le (by simp)]
          exact .snoc L p a m h1 h2 h3 h4 h5 h6
    · refine ⟨k, s, by simp; omega, k2, ?_, .inr ⟨by simp; omega, a', m', k5, k6, k7, ?_⟩⟩
      · rw [List.take_append_of_le_length (by omega)]
        exact k3
      · rw [List.take_append_of_le_length (by omega)]
        exact k8
theorem stops_end (f : Nat → Int) (n : Nat) : Stops f n n := by
  refine .inl ?_
  unfold txt
  rw [Nat.sub_self, Wm.num_zero]
  rw [if_pos (by decide)]
  exact fun (h : (10 : Int) = 0) => absurd h (by decide)
/-- A beginning of bytes that are records has a beginning of the records. -/
theorem PrsTo.begins {f : Nat → Int} {n n' : Nat} (hn : n' ≤ n) {L : List (Nat × Nat)} (h : PrsTo f n L n) : ∃ k s, k ≤ L.length ∧ Parsed f n' (L.take k) s ∧ (n' = n → k = L.length) ∧ ∀ j q, j ≤ L.length → PrsTo f n (L.take j) q → q ≤ n' → j ≤ k := by
  obtain ⟨k, s, k1, k2, k3, k4⟩ := h.cut hn
  refine ⟨k, s, k1, ⟨k3.less hn k2, ?_⟩, ?_, fun j q hj hq hqn => ?_⟩
  · rcases k4 with rfl | ⟨k4, a, m, k5, k6, k7, k8⟩
    · rw [List.take_length] at k3
      obtain ⟨_, rfl⟩ := h.det k3 rfl
      obtain rfl : n' = n := by omega
      exact stops_end _ _
    · exact .inl ((txt_cut hn k2 k6 k5).2 k7)
  · rintro rfl
    rcases k4 with rfl | ⟨k4, a, m, k5, k6, k7, k8⟩
    · rfl
    · have := k8.le
      omega
  · rcases k4 with rfl | ⟨k4, a, m, k5, k6, k7, k8⟩
    · exact hj
    · refine Decidable.byContradiction fun hjk => ?_
      obtain ⟨q', hq', h'⟩ := hq.take (k + 1) (by rw [List.length_take]; omega)
      rw [List.take_take, Nat.min_eq_left (by omega)] at h'
      obtain ⟨_, rfl⟩ := h'.det k8 rfl
      omega

theorem putB_get {n i : Nat} (h : i < (putB n).length) : fn (putB n) i = (putB n).getD i 0 := rfl
theorem putB_pos' (n : Nat) : 1 ≤ (putB n).length := by rw [putB]; split <;> simp
/-- A number's bytes are read as it. -/
theorem numAt_put' (g : Nat → Int) (L : Nat) : ∀ r k n, (putB n).length ≤ r → (∀ i, i < (putB n).length → g (k + i) = (putB n).getD i 0) → (0 < k → 0 < n) → k + (putB n).length ≤ L →
    Wm.numAt g L r k = (Wm.accum g k + (n : Int) * 2 ^ (7 * k), ((k + (putB n).length : Nat) : Int), 0) := by
  intro r
  induction r with
  | zero => intro k n h; have := putB_pos' n; omega
  | succ r ih =>
    intro k n h hg h0 hL
    have h1 := putB_pos' n
    rw [Wm.numAt, if_neg (by omega)]
    by_cases hn : n < 128
    · have hp := putB_small n hn
      have hgk := hg 0 (by rw [hp]; simp)
      rw [hp] at hgk ⊢
      simp at hgk
      rw [if_neg (by omega), if_neg (by omega), Wm.accum, hgk]
      have e : ((n : Int) % 128) = (n : Int) := by omega
      rw [e]
      simp
    · have hp := putB_more n hn
      have hgk := hg 0 (by rw [hp]; simp)
      have hgk' : g k = ((n % 128 + 128 : Nat) : Int) := by rw [hp] at hgk; simpa using hgk
      have hlen : (putB n).length = (putB (n / 128)).length + 1 := by rw [hp]; simp
      rw [if_pos (by omega), ih (k + 1) (n / 128) (by omega) (fun i hi => ?_) (fun _ => by omega) (by omega), hlen]
      · have e : (g k % 128) = ((n % 128 : Nat) : Int) := by rw [hgk']; omega
        rw [Wm.accum, e, Wm.pow7]
        have e2 : ((n / 128 : Nat) : Int) * (2 ^ (7 * k) * 128) + ((n % 128 : Nat) : Int) * 2 ^ (7 * k) = (n : Int) * 2 ^ (7 * k) := by
          have : (n : Int) = ((n / 128 : Nat) : Int) * 128 + ((n % 128 : Nat) : Int) := by omega
          rw [this, Int.add_mul, Int.mul_assoc, Int.mul_comm 128]
        have e3 : Wm.accum g k + ((n % 128 : Nat) : Int) * 2 ^ (7 * k) + ((n / 128 : Nat) : Int) * (2 ^ (7 * k) * 128) = Wm.accum g k + (n : Int) * 2 ^ (7 * k) := by rw [← e2]; omega
        rw [e3, show k + 1 + (putB (n / 128)).length = k + ((putB (n / 128)).length + 1) by omega]
      · have := hg (i + 1) (by omega)
        rw [show k + 1 + i = k + (i + 1) by omega, this, hp]
        simp
/-- The bytes f, so many, with a record's text behind them. -/
def addR (f : Nat → Int) (n m : Nat) (g : Nat → Int) : Nat → Int := fun i => if i < n then f i else if i < n + (putB m).length then (putB m).getD (i - n) 0 else g (i - n - (putB m).length)
theorem addR_lo {f : Nat → Int} {n m : Nat} {g : Nat → Int} {i : Nat} (h : i < n) : addR f n m g i = f i := by unfold addR; rw [if_pos h]
theorem addR_hi {f : Nat → Int} {n m : Nat} {g : Nat → Int} (i : Nat) : addR f n m g (n + (putB m).length + i) = g i := by
  unfold addR
  rw [if_neg (by omega), if_neg (by omega)]
  congr 1
  omega
theorem addR_by {f : Nat → Int} {n m : Nat} {g : Nat → Int} (hf : ∀ i, 0 ≤ f i ∧ f i ≤ 255) (hg : ∀ i, 0 ≤ g i ∧ g i ≤ 255) (hm : m ≤ 2000) (i : Nat) : 0 ≤ addR f n m g i ∧ addR f n m g i ≤ 255 := by
  unfold addR
  by_cases h1 : i < n
  · rw [if_pos h1]; exact hf i
  · rw [if_neg h1]
    by_cases h2 : i < n + (putB m).length
    · rw [if_pos h2]
      exact fn_by (xs := putB m) (putB_by 8 m (by have : (128 : Nat) ^ (8 + 1) = 9223372036854775808 := by decide
                                                  omega)) (i - n)
    · rw [if_neg h2]; exact hg _
theorem PrsTo.add {f : Nat → Int} {n m : Nat} (g : Nat → Int) {L : List (Nat × Nat)} (h : PrsTo f n L n) (h1 : 0 < m) (h2 : m ≤ 2000) : PrsTo (addR f n m g) (n + (putB m).length + m) (L ++ [(n + (putB m).length, m)]) (n + (putB m).length + m) := by
  have hp := putB_pos' m
  refine .snoc L n _ m ((h.ext (fun i hi => (addR_lo hi).symm)).more (by omega)) (txt_ok ?_ h2 (Nat.le_refl _)) h1 h2 (by omega) (Nat.le_refl _)
  have hk := numAt_put' (sh (addR f n m g) n) (n + (putB m).length + m - n) 9 0 m (putB_le m (by omega)) (fun i hi => ?_) (fun h => absurd h (by omega)) (by omega)
  · show Wm.numAt _ _ 9 0 = _
    rw [hk]
    simp [Wm.accum]
  · show addR f n m g (n + (0 + i)) = _
    unfold addR
    rw [if_neg (by omega), if_pos (by omega), show n + (0 + i) - n = i by omega]
end Go.Proofs.YtmjoklppibfdmaaDoor

namespace Go.Proofs.YtmjoklppibfdmaaDoor
open Go.RowKit
set_option linter.unusedVariables false

/-- The disk's n sectors hold a log of that first number, its bytes the first z of f; nothing else there is of this number. -/
structure Kept (e : Nat → Int) (n first : Nat) (f : Nat → Int) (z : Nat) : Prop where
  le : z ≤ n * 112
  in_ : ∀ p, p * 112 < z → Right (secAt e p) p first (min 112 (z - p * 112))
  eq : ∀ j, j < z → lg e j = f j
  out : ∀ p, 0 < p → p < n → z ≤ p * 112 → ∀ N u, Right (secAt e p) p N u → N < first
  zero : z = 0 → ∀ N u, Right (secAt e 0) 0 N u → N = first ∧ u = 0

theorem Kept.has {e : Nat → Int} {n first : Nat} {f : Nat → Int} {z : Nat} (h : Kept e n first f z) (hn : 0 < n) : ∃ fi, Has e n fi z ∧ (0 < z → fi = first) := by
  have hle := h.le
  by_cases hz : z = 0
  · subst hz
    by_cases hr : ∃ N u, Right (secAt e 0) 0 N u
    · obtain ⟨N, u, hr⟩ := hr
      obtain ⟨rfl, rfl⟩ := h.zero rfl N u hr
      refine ⟨N, ⟨1, hn, ⟨fun h => by omega, fun p hp => by omega, fun q hq => ?_⟩, .inr (.inl ⟨by omega, by omega⟩)⟩, fun h => by omega⟩
      obtain rfl : q = 0 := by omega
      exact ⟨by omega, by omega, hr⟩
    · exact ⟨0, ⟨0, Nat.zero_le _, Taken.nil e, .inr (.inr (fun N u hN => absurd ⟨N, u, hN⟩ hr))⟩, fun h => by omega⟩
  · refine ⟨first, ⟨(z + 111) / 112, by omega, ⟨fun h => by omega, fun p hp => ?_, fun q hq => ?_⟩, ?_⟩, fun _ => rfl⟩
    · have := h.in_ p (by omega)
      rwa [show min 112 (z - p * 112) = 112 by omega] at this
    · have := h.in_ q (by omega)
      rw [show min 112 (z - q * 112) = z - q * 112 by omega] at this
      exact ⟨by omega, by omega, this⟩
    · by_cases h1 : z < (z + 111) / 112 * 112
      · exact .inr (.inl ⟨by omega, h1⟩)
      · by_cases h2 : (z + 111) / 112 = n
        · exact .inl h2
        · refine .inr (.inr (fun N u hr => ⟨by omega, ?_⟩))
          have := h.out _ (by omega) (by omega) (by omega) N u hr
          omega

theorem sec_part {e e' : Nat → Int} {p : Nat} (h : ∀ i, i < 128 → e' (p * 128 + i) = e (p * 128 + i)) : ∀ i, i < 128 → secAt e p i = secAt e' p i := fun i hi => (h i hi).symm
theorem lg_part {e : Nat → Int} (j : Nat) : lg e j = secAt e (j / 112) (12 + j % 112) := by
  unfold lg secAt sh
  congr 1
  omega
theorem from0_zero (e : Nat → Int) : from0 e 0 = e := by
  funext i
  show e _ = e _
  congr 1
  omega

/-- Behind Open. -/
theorem Kept.open {E e' : Nat → Int} {n first tot size : Nat} (hn : 0 < n) (hH : Has E n first tot) (hst : size ≤ tot) (hC : Cleaned E e' 0 n first tot size) : Kept e' n (max first 1) (lg E) size := by
  obtain ⟨hf, hf0⟩ := hH.first
  have hle := hH.le
  have hc : ∀ p, p < n → ∀ i, i < 128 → secAt e' p i = cl E first tot size p i := fun p hp i hi => by
    have := hC.1 p hp i hi
    rw [from0_zero] at this
    rw [← this]
    show e' _ = e' _
    congr 1
    omega
  obtain ⟨k, hk, hT, hE⟩ := hH
  have hk0 : first ≠ 0 → 0 < k := fun h => by
    refine Decidable.byContradiction fun h0 => h ?_
    exact (hT.none (by omega)).1
  -- the last sector's bytes
  have hlast : ∀ q, k = q + 1 → q * 112 ≤ tot ∧ tot ≤ q * 112 + 112 := fun q hq => ⟨(hT.last q hq).1, (hT.last q hq).2.1⟩
  refine ⟨by omega, fun p hp => ?_, fun j hj => ?_, fun p h0 hp hz N u hr => ?_, fun hz N u hr => ?_⟩
  · have hff : first ≠ 0 := fun e => by have := hf0 e; omega
    obtain ⟨q, hq⟩ : ∃ q, k = q + 1 := ⟨k - 1, by have := hk0 hff; omega⟩
    have hl := hlast q hq
    have hm : max first 1 = first := by omega
    rw [hm]
    have hpn : p < n := by omega
    have hnx : ¬ nxt first size ≤ p := by unfold nxt; rw [if_neg hff]; omega
    by_cases ht : Trunc first tot size ∧ p = (size - 1) / 112
    · have he : ∀ i, i < 128 → lsec p first (size - p * 112) (sh (lg E) (p * 112)) i = secAt e' p i := fun i hi => by
        rw [hc p hpn i hi]
        unfold cl
        rw [if_neg hnx, if_pos ht]
      have := (lsec_right p (N := first) (u := size - p * 112) (f := sh (lg E) (p * 112)) (by omega) (by omega) hf).ext he
      rwa [show min 112 (size - p * 112) = size - p * 112 by omega]
    · have he : ∀ i, i < 128 → secAt E p i = secAt e' p i := fun i hi => by
        rw [hc p hpn i hi]
        unfold cl
        rw [if_neg hnx, if_neg ht]
        rfl
      obtain ⟨u, hr, hu1, hu2⟩ := hT.at p (by omega)
      have hu : u = min 112 (size - p * 112) := by
        by_cases e1 : p = (size - 1) / 112
        · have hnt : ¬ Trunc first tot size := fun h => ht ⟨h, e1⟩
          unfold Trunc at hnt
          by_cases e2 : p + 1 < k
          · have := hu1 e2
            omega
          · have := hu2 (by omega)
            omega
        · have := hu1 (by omega)
          omega
      rw [← hu]
      exact hr.ext he
  · have hff : first ≠ 0 := fun e => by have := hf0 e; omega
    rw [lg_part, lg_part, hc _ (by omega) _ (by omega)]
    unfold cl
    rw [if_neg (by unfold nxt; rw [if_neg hff]; omega)]
    by_cases ht : Trunc first tot size ∧ j / 112 = (size - 1) / 112
    · rw [if_pos ht]
      unfold lsec
      rw [sec_load _ _ _ _ _ (by omega) (by omega)]
      show lg E _ = _
      rw [show j / 112 * 112 + j % 112 = j by omega, lg_part]
    · rw [if_neg ht]
      rfl
  · refine absurd hr (blank_wrong ?_)
    rw [hc p hp 0 (by omega)]
    unfold cl
    rw [if_pos]
    unfold nxt
    by_cases e : first = 0
    · rw [if_pos e]; omega
    · rw [if_neg e]; omega
  · by_cases hff : first = 0
    · refine absurd hr (blank_wrong ?_)
      rw [hc 0 hn 0 (by omega)]
      unfold cl
      rw [if_pos]
      unfold nxt
      rw [if_pos hff]
      exact Nat.le_refl _
    · have hk1 := hk0 hff
      have hm : max first 1 = first := by omega
      rw [hm]
      have hnx : ¬ nxt first size ≤ 0 := by unfold nxt; rw [if_neg hff]; omega
      by_cases ht : Trunc first tot size
      · have he : ∀ i, i < 128 → lsec 0 first 0 (sh (lg E) (0 * 112)) i = secAt e' 0 i := fun i hi => by
          rw [hc 0 (by omega) i hi]
          unfold cl
          rw [if_neg hnx, if_pos ⟨ht, by omega⟩, hz]
        exact hr.uniq ((lsec_right 0 (N := first) (u := 0) (f := sh (lg E) (0 * 112)) (by omega) (by omega) hf).ext he)
      · have he : ∀ i, i < 128 → secAt E 0 i = secAt e' 0 i := fun i hi => by
          rw [hc 0 (by omega) i hi]
          unfold cl
          rw [if_neg hnx, if_neg (fun h => ht h.1)]
          rfl
        obtain ⟨u', hr', hu1, hu2⟩ := hT.at 0 hk1
        obtain ⟨q, hq⟩ : ∃ q, k = q + 1 := ⟨k - 1, by omega⟩
        have hl := hlast q hq
        unfold Trunc at ht
        have := hr.uniq (hr'.ext he)
        refine ⟨this.1, ?_⟩
        by_cases e2 : 1 < k
        · omega
        · have := hu2 (by omega)
          omega

theorem svs_sec (e : Nat → Int) (place first : Nat) (Ls : Nat → Nat) (f : Nat → Nat → Int) (k p i : Nat) (hi : i < 128) : secAt (svs e 0 place first Ls f k) p i = if place ≤ p ∧ p < place + k then lsec p first (Ls (p - place)) (f (p - place)) i else secAt e p i := by
  show svs e 0 place first Ls f k (p * 128 + i) = _
  rw [svs_at _ _ _ _ _ _ _ _ hi]
  simp only [Nat.zero_add, Nat.sub_zero]
  rfl
/-- Behind Force: the bytes are the first z' of f. -/
theorem Kept.force {e : Nat → Int} {n first : Nat} {f : Nat → Int} {z : Nat} (h : Kept e n first f z) (h1 : 1 ≤ first) (h2 : first ≤ 4611686018427387904) {z' tl N : Nat} (hz : z ≤ z') (hn : z' ≤ n * 112) (ht : tl = z' - z / 112 * 112) (h0 : 0 < tl) (hN : tl ≤ N * 112) (hN2 : N * 112 < tl + 112) :
    Kept (svs e 0 (z / 112) first (ckL tl) (fun k => sh (sh f (z / 112 * 112)) (k * 112)) N) n first f z' := by
  have hs := svs_sec e (z / 112) first (ckL tl) (fun k => sh (sh f (z / 112 * 112)) (k * 112)) N
  obtain ⟨e', he'⟩ : ∃ e', svs e 0 (z / 112) first (ckL tl) (fun k => sh (sh f (z / 112 * 112)) (k * 112)) N = e' := ⟨_, rfl⟩
  rw [he'] at hs ⊢
  have old : ∀ p, ¬ (z / 112 ≤ p ∧ p < z / 112 + N) → ∀ i, i < 128 → secAt e p i = secAt e' p i := fun p hp i hi => by rw [hs p i hi, if_neg hp]
  have new : ∀ p, z / 112 ≤ p ∧ p < z / 112 + N → ∀ i, i < 128 → lsec p first (ckL tl (p - z / 112)) (sh (sh f (z / 112 * 112)) ((p - z / 112) * 112)) i = secAt e' p i := fun p hp i hi => by rw [hs p i hi, if_pos hp]
  refine ⟨hn, fun p hp => ?_, fun j hj => ?_, fun p hp0 hp hz N u hr => ?_, fun hz N u hr => by omega⟩
  · by_cases hin : z / 112 ≤ p ∧ p < z / 112 + N
    · have := (lsec_right p (N := first) (u := ckL tl (p - z / 112)) (f := sh (sh f (z / 112 * 112)) ((p - z / 112) * 112)) (Nat.min_le_left _ _) h1 h2).ext (new p hin)
      have e1 : ckL tl (p - z / 112) = min 112 (z' - p * 112) := by unfold ckL; omega
      rwa [e1] at this
    · have := (h.in_ p (by omega)).ext (old p hin)
      rwa [show min 112 (z - p * 112) = min 112 (z' - p * 112) by omega] at this
  · rw [lg_part]
    by_cases hin : z / 112 ≤ j / 112 ∧ j / 112 < z / 112 + N
    · rw [← new _ hin _ (by omega)]
      unfold lsec
      have hlt : j % 112 < ckL tl (j / 112 - z / 112) := by unfold ckL; omega
      rw [sec_load _ _ _ _ _ hlt (Nat.min_le_left _ _)]
      show f _ = f _
      congr 1
      omega
    · rw [← old _ hin _ (by omega), ← lg_part]
      exact h.eq j (by omega)
  · exact h.out p hp0 hp (by omega) N u (hr.ext (fun i hi => (old p (by omega) i hi).symm))
/-- Behind Reset. -/
theorem Kept.reset {e : Nat → Int} {n first : Nat} {f : Nat → Int} {z : Nat} (h : Kept e n first f z) (g : Nat → Int) {last : Nat} (h1 : first ≤ last + 1) (h2 : 0 < z → first ≤ last) (h3 : last + 1 ≤ 4611686018427387904) :
    Kept (svs e 0 0 (last + 1) (fun _ => 0) (fun _ _ => 0) 1) n (last + 1) g 0 := by
  have hs := svs_sec e 0 (last + 1) (fun _ => 0) (fun _ _ => 0) 1
  refine ⟨Nat.zero_le _, fun p hp => by omega, fun j hj => by omega, fun p hp0 hp hz N u hr => ?_, fun _ N u hr => ?_⟩
  · have hr' : Right (secAt e p) p N u := hr.ext (fun i hi => by rw [hs p i hi, if_neg (by omega)])
    by_cases hpz : p * 112 < z
    · have := (hr'.uniq (h.in_ p hpz)).1
      have := h2 (by omega)
      omega
    · have := h.out p hp0 hp (by omega) N u hr'
      omega
  · exact hr.uniq ((lsec_right 0 (N := last + 1) (u := 0) (f := fun _ => 0) (by omega) (by omega) h3).ext (fun i hi => by rw [hs 0 i hi, if_pos (by omega)]))

/-- Between two disks of one log, any sector of either: a beginning. -/
theorem Kept.mixed {e e' m : Nat → Int} {n first : Nat} {f : Nat → Int} {z z' : Nat} (h : Kept e n first f z) (h' : Kept e' n first f z') (hz : z ≤ z') (hn : 0 < n) (hm : ∀ p, p < n → (∀ i, i < 128 → secAt e p i = secAt m p i) ∨ ∀ i, i < 128 → secAt e' p i = secAt m p i) : ∃ fi t, Has m n fi t ∧ z ≤ t ∧ t ≤ z' ∧ ∀ j, j < t → lg m j = f j := by
  have hle := h.le
  have hle' := h'.le
  have key : ∀ k, k ≤ n → (∃ fi t, Has m n fi t ∧ z ≤ t ∧ t ≤ z' ∧ ∀ j, j < t → lg m j = f j) ∨ (k * 112 ≤ z' ∧ (∀ p, p < k → Right (secAt m p) p first 112) ∧ ∀ j, j < k * 112 → lg m j = f j) := by
    intro k
    induction k with
    | zero => intro _; exact .inr ⟨by omega, fun p hp => by omega, fun j hj => by omega⟩
    | succ k ih =>
      intro hk
      rcases ih (by omega) with h1 | ⟨h1, h2, h3⟩
      · exact .inl h1
      · -- sector k is of e (with z) or of e' (with z')
        have go : ∀ (E : Nat → Int) (y : Nat), Kept E n first f y → z ≤ y → y ≤ z' → (∀ i, i < 128 → secAt E k i = secAt m k i) → (∃ fi t, Has m n fi t ∧ z ≤ t ∧ t ≤ z' ∧ ∀ j, j < t → lg m j = f j) ∨ ((k + 1) * 112 ≤ z' ∧ (∀ p, p < k + 1 → Right (secAt m p) p first 112) ∧ ∀ j, j < (k + 1) * 112 → lg m j = f j) := by
          intro E y hK hzy hyz he
          have hey : ∀ j, j < y → k * 112 ≤ j → j < (k + 1) * 112 → lg m j = f j := fun j hj hj1 hj2 => by
            rw [lg_part, show j / 112 = k by omega, ← he _ (by omega)]
            have := hK.eq j hj
            rw [lg_part, show j / 112 = k by omega] at this
            exact this
          by_cases hky : k * 112 < y
          · have hr := (hK.in_ k hky).ext he
            by_cases hfull : (k + 1) * 112 ≤ y
            · rw [show min 112 (y - k * 112) = 112 by omega] at hr
              refine .inr ⟨by omega, fun p hp => ?_, fun j hj => ?_⟩
              · by_cases e1 : p = k
                · subst e1; exact hr
                · exact h2 p (by omega)
              · by_cases e1 : j < k * 112
                · exact h3 j e1
                · exact hey j (by omega) (by omega) hj
            · rw [show min 112 (y - k * 112) = y - k * 112 by omega] at hr
              refine .inl ⟨first, y, ⟨k + 1, hk, ⟨fun e => by omega, fun p hp => h2 p (by omega), fun q hq => ?_⟩, .inr (.inl ⟨by omega, by omega⟩)⟩, hzy, hyz, fun j hj => ?_⟩
              · obtain rfl : q = k := by omega
                exact ⟨by omega, by omega, hr⟩
              · by_cases e1 : j < k * 112
                · exact h3 j e1
                · exact hey j hj (by omega) (by omega)
          · by_cases hk0 : k = 0
            · subst hk0
              obtain rfl : y = 0 := by omega
              obtain rfl : z = 0 := by omega
              by_cases hr : ∃ N u, Right (secAt m 0) 0 N u
              · obtain ⟨N, u, hr⟩ := hr
                obtain ⟨rfl, rfl⟩ := hK.zero rfl N u (hr.ext (fun i hi => (he i hi).symm))
                refine .inl ⟨N, 0, ⟨1, hn, ⟨fun h => by omega, fun p hp => by omega, fun q hq => ?_⟩, .inr (.inl ⟨by omega, by omega⟩)⟩, Nat.le_refl _, by omega, fun j hj => by omega⟩
                obtain rfl : q = 0 := by omega
                exact ⟨by omega, by omega, hr⟩
              · exact .inl ⟨0, 0, ⟨0, Nat.zero_le _, Taken.nil m, .inr (.inr (fun N u hN => absurd ⟨N, u, hN⟩ hr))⟩, Nat.le_refl _, by omega, fun j hj => by omega⟩
            · refine .inl ⟨first, k * 112, ⟨k, by omega, ⟨fun e => by omega, fun p hp => h2 p (by omega), fun q hq => ⟨by omega, by omega, ?_⟩⟩, .inr (.inr (fun N u hr => ⟨by omega, ?_⟩))⟩, by omega, h1, h3⟩
              · rw [show k * 112 - q * 112 = 112 by omega]
                exact h2 q (by omega)
              · have := hK.out k (by omega) (by omega) (by omega) N u (hr.ext (fun i hi => (he i hi).symm))
                omega
        rcases hm k (by omega) with he | he
        · exact go e z h (Nat.le_refl _) hz he
        · exact go e' z' h' hz (Nat.le_refl _) he
  rcases key n (Nat.le_refl _) with h1 | ⟨h1, h2, h3⟩
  · exact h1
  · obtain ⟨q, rfl⟩ : ∃ q, n = q + 1 := ⟨n - 1, by omega⟩
    refine ⟨first, (q + 1) * 112, ⟨q + 1, Nat.le_refl _, ⟨fun e => by omega, fun p hp => h2 p (by omega), fun r hr => ⟨by omega, by omega, ?_⟩⟩, .inl rfl⟩, by omega, h1, h3⟩
    rw [show (q + 1) * 112 - r * 112 = 112 by omega]
    exact h2 r (by omega)
end Go.Proofs.YtmjoklppibfdmaaDoor

namespace Go.Proofs.YtmjoklppibfdmaaDoor
open Go.RowKit
set_option linter.unusedVariables false

/-- A log over its disk: the bytes f, tot of them, z forced; the records R, so many forced; all of it in P's blocks. -/
structure Lgs (w : World) (P : Nat → Prop) (D L n : Nat) (e f : Nat → Int) (first z tot forced : Nat) (R : List (Nat × Nat)) : Prop where
  lay : ∃ T F vt q, LogW w L T D 0 n first (first + R.length - 1) (first + forced - 1) (z / 112) vt ∧ Own w q vt (lst (sh f (z / 112 * 112)) (tot - z / 112 * 112)) ∧ q ≤ w.heap.size ∧ Sd w D F n 0 e ∧ L ≠ T ∧ ¬ F L ∧ ¬ F T ∧ (∀ k, vt.ownBlock = some k → ¬ F k) ∧ (∀ k, F k → P k) ∧ P L ∧ P T ∧ ∀ k, vt.ownBlock = some k → P k
  lt : ∀ k, P k → k < w.heap.size
  kept : Kept e n first f z
  prs : PrsTo f tot R tot
  prf : PrsTo f tot (R.take forced) z
  le : tot ≤ n * 112
  fr : forced ≤ R.length
  f1 : 1 ≤ first
  f2 : first ≤ 4611686018427387904
  by_ : ∀ i, 0 ≤ f i ∧ f i ≤ 255

theorem Lgs.n2 {w : World} {P : Nat → Prop} {D L n : Nat} {e f : Nat → Int} {first z tot forced : Nat} {R : List (Nat × Nat)} (h : Lgs w P D L n e f first z tot forced R) : 1 ≤ n ∧ n ≤ 4096 := by
  obtain ⟨_, _, _, _, _, _, _, hS, _⟩ := h.lay
  exact hS.n2
theorem Lgs.part {w w' : World} {P G : Nat → Prop} {D L n : Nat} {e f : Nat → Int} {first z tot forced : Nat} {R : List (Nat × Nat)} (h : Lgs w P D L n e f first z tot forced R) (hp : Part G w w') (hn : ∀ k, P k → ¬ G k) : Lgs w' P D L n e f first z tot forced R := by
  obtain ⟨T, F, vt, q, h1, h2, h3, h4, h5, h6, h7, h8, h9, h10, h11, h12⟩ := h.lay
  have hs := hp.size
  exact ⟨⟨T, F, vt, q, h1.part hp (hn _ h10) (hn _ h11), hp.row h2 (fun k hk => hn _ (h12 k hk)), by omega, h4.part hp (fun k hk => hn _ (h9 k hk)), h5, h6, h7, h8, h9, h10, h11, h12⟩, fun k hk => by have := h.lt k hk; omega, h.kept, h.prs, h.prf, h.le, h.fr, h.f1, h.f2, h.by_⟩
theorem Lgs.below {w w' : World} {P : Nat → Prop} {D L n : Nat} {e f : Nat → Int} {first z tot forced : Nat} {R : List (Nat × Nat)} (h : Lgs w P D L n e f first z tot forced R) (hb : Below w.heap.size w w') : Lgs w' P D L n e f first z tot forced R := h.part (Part.ofBelow (F := fun _ => False) hb) (fun _ _ h => h)

theorem PrsTo.in_ {f : Nat → Int} {n : Nat} {L : List (Nat × Nat)} {p : Nat} (h : PrsTo f n L p) : ∀ j, j < L.length → (L.getD j (0, 0)).1 + (L.getD j (0, 0)).2 ≤ p := by
  induction h with
  | nil => intro j hj; simp at hj
  | snoc L p a m h1 h2 h3 h4 h5 h6 ih =>
    intro j hj
    rw [getD_snoc]
    by_cases e : j = L.length
    · rw [if_pos e]; exact Nat.le_refl _
    · rw [if_neg e]
      simp at hj
      have := ih j (by omega)
      omega
theorem PrsTo.lt {f : Nat → Int} {n : Nat} {L : List (Nat × Nat)} {p : Nat} (h : PrsTo f n L p) : ∀ k q, k < L.length → PrsTo f n (L.take k) q → q < p := by
  induction h with
  | nil => intro k q hk; simp at hk
  | snoc L p a m h1 h2 h3 h4 h5 h6 ih =>
    intro k q hk hq
    simp at hk
    rw [List.take_append_of_le_length (by omega)] at hq
    by_cases e : k < L.length
    · have := ih k q e hq
      omega
    · rw [List.take_of_length_le (by omega)] at hq
      obtain ⟨_, rfl⟩ := h1.det hq rfl
      omega
theorem Kept.ext {e : Nat → Int} {n first : Nat} {f g : Nat → Int} {z : Nat} (h : Kept e n first f z) (he : ∀ i, i < z → f i = g i) : Kept e n first g z := ⟨h.le, h.in_, fun j hj => (h.eq j hj).trans (he j hj), h.out, h.zero⟩
theorem sh_sh (f : Nat → Int) (a b : Nat) : sh (sh f a) b = sh f (a + b) := by
  funext i
  show f _ = f _
  congr 1
  omega
theorem From.partG {F : Nat → Prop} {w w' : World} {a : Option Addr} {n : Nat} {f : Nat → Int} (hf : From w a n f) (h : Part F w w') (hn : ∀ x, a = some x → 0 < n → ¬ F x.block) : From w' a n f := by
  rcases hf with h1 | ⟨x, h1, h2⟩
  · exact .inl h1
  · refine .inr ⟨x, h1, fun j hj => ?_⟩
    refine h.cell ?_ (h2 j hj)
    have e : (x.add j).block = x.block := by unfold Addr.add; split <;> rfl
    rw [e]
    exact hn x h1 (by omega)

theorem addR_list (f : Nat → Int) (tot K m : Nat) (g : Nat → Int) (hK : K ≤ tot) : lst (sh f K) (tot - K) ++ putB m ++ lst g m = lst (sh (addR f tot m g) K) (tot + (putB m).length + m - K) := by
  apply List.ext_getElem?
  intro i
  by_cases h1 : i < tot - K
  · rw [lst_get _ _ _ (by omega), List.append_assoc, List.getElem?_append_left (by rw [lst_length]; exact h1), lst_get _ _ _ h1]
    show some (f _) = some (addR f tot m g _)
    rw [addR_lo (by omega)]
  · by_cases h2 : i < tot - K + (putB m).length
    · rw [lst_get _ _ _ (by omega), List.getElem?_append_left (by rw [List.length_append, lst_length]; exact h2), List.getElem?_append_right (by rw [lst_length]; omega), lst_length]
      show _ = some (addR f tot m g _)
      unfold addR
      rw [if_neg (by omega), if_pos (by omega), show K + i - tot = i - (tot - K) by omega, List.getElem?_eq_getElem (by omega)]
      simp [List.getD, show i - (tot - K) < (putB m).length by omega]
    · by_cases h3 : i < tot + (putB m).length + m - K
      · rw [lst_get _ _ _ h3, List.getElem?_append_right (by rw [List.length_append, lst_length]; omega), List.length_append, lst_length, lst_get _ _ _ (by omega)]
        show some (g _) = some (addR f tot m g _)
        rw [show K + i = tot + (putB m).length + (i - (tot - K + (putB m).length)) by omega, addR_hi]
      · rw [List.getElem?_eq_none (by simp [lst_length]; omega), List.getElem?_eq_none (by rw [lst_length]; omega)]

/-- What Append answers, and leaves. -/
def AppAns (w : World) (P : Nat → Prop) (D L n : Nat) (e f : Nat → Int) (first z tot forced : Nat) (R : List (Nat × Nat)) (m : Nat) (g : Nat → Int) (r : Ending) (w' : World) : Prop :=
  (∃ er, r = .returned (.tuple #[.int .i64 0, .int .i64 er]) ∧ er ≠ 0 ∧ Below w.heap.size w w' ∧ (m = 0 ∨ 2000 < m ∨ n * 112 - tot < (putB m).length + m ∨ 4611686018427387904 ≤ first + R.length - 1)) ∨
  (r = .returned (.tuple #[.int .i64 ((first + R.length : Nat) : Int), .int .i64 0]) ∧ 0 < m ∧ m ≤ 2000 ∧ ∃ P', Lgs w' P' D L n e (addR f tot m g) first z (tot + (putB m).length + m) forced (R ++ [(tot + (putB m).length, m)]) ∧ Part P w w' ∧ ∀ k, P' k → P k ∨ w.heap.size ≤ k)
theorem lgs_append {w : World} {P : Nat → Prop} {D L n : Nat} {e f : Nat → Int} {first z tot forced : Nat} {R : List (Nat × Nat)} (h : Lgs w P D L n e f first z tot forced R) (a0 : Option Addr) (m c : Nat) (g : Nat → Int) (hF : From w a0 m g) (hg : ∀ i, 0 ≤ g i ∧ g i ≤ 255) (hP : ∀ x, a0 = some x → 0 < m → ¬ P x.block) (hc0 : a0 = none → c = 0) :
    Calls Tryd.prog 27 #[.pointer (some ⟨L, 0, none⟩), .slice a0 m c] w fun r w' => AppAns w P D L n e f first z tot forced R m g r w' := by
  obtain ⟨n1, n2⟩ := h.n2
  obtain ⟨T, F, vt, q, h1, h2, h3, h4, h5, h6, h7, h8, h9, h10, h11, h12⟩ := h.lay
  have hf1 := h.f1
  have hzt := h.prf.le
  have hle := h.le
  have hxl : (lst (sh f (z / 112 * 112)) (tot - z / 112 * 112)).length = tot - z / 112 * 112 := lst_length _ _
  by_cases m0 : m = 0
  · subst m0
    exact (appL_empty L T c a0 w h1.l0).mono fun r w' ⟨hr, hw⟩ => .inl ⟨1, hr, by decide, by rw [hw]; exact Below.refl _ _, .inl rfl⟩
  · by_cases m1 : 2000 < m
    · exact (appL_long L T m c a0 w h1.l0 m1).mono fun r w' ⟨hr, hw⟩ => .inl ⟨12, hr, by decide, by rw [hw]; exact Below.refl _ _, .inr (.inl m1)⟩
    · by_cases m2 : n * 112 - tot < (putB m).length + m ∨ 4611686018427387904 ≤ first + R.length - 1
      · exact (appL_full L T D 0 n first _ _ (z / 112) q m c vt _ a0 w h1 h2 n2 (by omega) (by omega) (by omega) (by omega)).mono fun r w' ⟨hr, hb⟩ => .inl ⟨4, hr, by decide, hb, .inr (.inr m2)⟩
      · refine (appL_ok L T D 0 n first _ _ (z / 112) q m c vt _ a0 g w h1 h5 h2 h3 n2 (by omega) (by omega) (by omega) (by omega) (fun w5 hp => hF.partG hp (fun x hx h0 hk => hP x hx h0 (h12 _ hk.symm))) hc0).mono ?_
        rintro r w' ⟨rfl, v', k1, k2, k3, k4⟩
        have hs := k3.size
        have hTv : vt.ownBlock ≠ some T := h2.ne h1.hT (by decide)
        refine .inr ⟨?_, by omega, by omega, fun k => P k ∨ (w.heap.size ≤ k ∧ k < w'.heap.size), ⟨⟨T, F, v', q, ?_, ?_, by omega, ?_, h5, h6, h7, ?_, fun k hk => .inl (h9 k hk), .inl h10, .inl h11, fun k hk => ?_⟩, fun k hk => ?_, h.kept.ext (fun i hi => (addR_lo (by omega)).symm), h.prs.add g (by omega) (by omega), ?_, by omega, ?_, h.f1, h.f2, addR_by h.by_ hg (by omega)⟩, k3.mono (fun k hk hG => ?_), fun k hk => hk.imp id (fun h => h.1)⟩
        · rw [show first + R.length - 1 + 1 = first + R.length by omega]
        · rw [show first + (R ++ [(tot + (putB m).length, m)]).length - 1 = first + R.length - 1 + 1 by simp; omega]
          exact k1
        · rw [← addR_list f tot (z / 112 * 112) m g (by omega)]
          exact k2
        · exact h4.part k3 (fun k hk hG => by
            rcases hG with rfl | hG
            · exact h7 hk
            · exact h8 k hG.symm hk)
        · intro k hk hFk
          rcases k4 k hk with a | a
          · exact h8 k a.symm hFk
          · have := h4.lt k hFk
            omega
        · rcases k4 k hk with a | a
          · exact .inl (h12 k a.symm)
          · exact .inr ⟨a, (World.ownsRow.lt k2 k hk).2⟩
        · rcases hk with hk | hk
          · have := h.lt k hk; omega
          · exact hk.2
        · rw [List.take_append_of_le_length h.fr]
          exact (h.prf.ext (fun i hi => (addR_lo hi).symm)).more (by omega)
        · have := h.fr
          simp
          omega
        · rcases hG with rfl | hG
          · exact h11
          · exact h12 k hG.symm

theorem lgs_force {w : World} {P : Nat → Prop} {D L n : Nat} {e f : Nat → Int} {first z tot forced : Nat} {R : List (Nat × Nat)} (h : Lgs w P D L n e f first z tot forced R) (ht : Tab w) (htb : ¬ P 1) :
    Calls Tryd.prog 14 #[.pointer (some ⟨L, 0, none⟩)] w fun r w' => r = .returned (.int .i64 0) ∧ ∃ e' P', Lgs w' P' D L n e' f first tot tot R.length R ∧ Part P w w' ∧ ∀ k, P' k → P k ∨ w.heap.size ≤ k := by
  obtain ⟨n1, n2⟩ := h.n2
  obtain ⟨T, F, vt, q, h1, h2, h3, h4, h5, h6, h7, h8, h9, h10, h11, h12⟩ := h.lay
  have hf1 := h.f1
  have hf2 := h.f2
  have hfr := h.fr
  have hzt := h.prf.le
  have hle := h.le
  by_cases hall : forced = R.length
  · obtain rfl := hall
    have hz : z = tot := by
      have h0 := h.prf
      rw [List.take_length] at h0
      exact (h0.det h.prs rfl).2
    subst hz
    refine (force_same L T D 0 n first _ (z / 112) vt w h1).mono ?_
    rintro r w' ⟨rfl, q', rfl⟩
    have hb : Below w.heap.size w (w.drewN q') := blw_drewN q' (Below.refl _ _)
    exact ⟨rfl, e, P, h.below hb, Part.ofBelow hb, fun k hk => .inl hk⟩
  · have hlt : z < tot := h.prs.lt forced z (by omega) h.prf
    obtain ⟨tl, htl⟩ : ∃ tl, tot - z / 112 * 112 = tl := ⟨_, rfl⟩
    rw [htl] at h2
    obtain ⟨a, c, rfl, ⟨f5, f6, f7⟩, f8⟩ := h2.fst
    obtain ⟨g, rfl, hgc⟩ : ∃ g, a = some ⟨g, 0, none⟩ ∧ ∀ i, i < tl → w.cell? ⟨g, i, none⟩ = some (.int .u8 (sh f (z / 112 * 112) i)) := by
      rcases f7 with ⟨_, e0, _⟩ | h
      · omega
      · exact h
    have hgb : (Value.slice (some ⟨g, 0, none⟩) tl c).ownBlock = some g := rfl
    have hgT : g ≠ T := fun e => h2.ne h1.hT (by decide) (by rw [hgb, e])
    refine (forceL L T D n 0 n first _ _ (z / 112) g tl c ((tl + 111) / 112) F e (sh f (z / 112 * 112)) w h1 h5 (by omega) h4 h6 h7 (h8 g hgb) hgT (f8 g rfl).2 hgc f5 f6 (fun i => h.by_ _) (by omega) (by omega) (by omega) (by omega) (by omega) ht (fun k => htb (h9 _ k))).mono ?_
    rintro r w' ⟨rfl, q', v', k1, k2, k3, k4, k5⟩
    have hs := k4.size
    rw [sh_sh] at k2
    refine ⟨rfl, _, fun k => P k ∨ (w.heap.size ≤ k ∧ k < w'.heap.size), ⟨⟨T, _, v', w.heap.size, ?_, ?_, hs, k3, h5, ?_, ?_, ?_, fun k hk => ?_, .inl h10, .inl h11, fun k hk => ?_⟩, fun k hk => ?_, h.kept.force hf1 hf2 (by omega) hle htl.symm (by omega) (by omega) (by omega), h.prs, by rw [List.take_length]; exact h.prs, hle, Nat.le_refl _, hf1, hf2, h.by_⟩, k4.mono (fun k hk hG => ?_), fun k hk => hk.imp id (fun h => h.1)⟩
    · rw [show tot / 112 = z / 112 + tl / 112 by omega]
      exact k1
    · rw [show tot / 112 * 112 = z / 112 * 112 + tl / 112 * 112 by omega, show tot - (z / 112 * 112 + tl / 112 * 112) = tl - tl / 112 * 112 by omega]
      exact k2.mono k5
    · rintro (a | a)
      · exact h6 a
      · have := h.lt _ h10; omega
    · rintro (a | a)
      · exact h7 a
      · have := h.lt _ h11; omega
    · intro k hk
      have hl := (World.ownsRow.lt k2 k hk).1
      rintro (a | a)
      · have := h4.lt k a; omega
      · omega
    · rcases hk with hk | hk
      · exact .inl (h9 k hk)
      · exact .inr ⟨hk.1, k3.lt k (.inr hk)⟩
    · have hl := World.ownsRow.lt k2 k hk
      exact .inr ⟨by omega, hl.2⟩
    · rcases hk with hk | hk
      · have := h.lt k hk; omega
      · exact hk.2
    · rcases hG with hG | rfl
      · exact h9 k hG
      · exact h11

theorem lgs_reset {w : World} {P : Nat → Prop} {D L n : Nat} {e f : Nat → Int} {first z tot forced : Nat} {R : List (Nat × Nat)} (h : Lgs w P D L n e f first z tot forced R) (ht : Tab w) (htb : ¬ P 1) (hl : first + R.length - 1 < 4611686018427387904) :
    Calls Tryd.prog 25 #[.pointer (some ⟨L, 0, none⟩)] w fun r w' => r = .returned (.int .i64 0) ∧ ∃ e' P', Lgs w' P' D L n e' f (first + R.length) 0 0 0 [] ∧ Part P w w' ∧ ∀ k, P' k → P k ∨ w.heap.size ≤ k := by
  obtain ⟨n1, n2⟩ := h.n2
  obtain ⟨T, F, vt, q, h1, h2, h3, h4, h5, h6, h7, h8, h9, h10, h11, h12⟩ := h.lay
  have hf1 := h.f1
  have hf2 := h.f2
  have hzt := h.prf.le
  refine (resetL L T D n 0 n first _ _ (z / 112) vt F e w h1 h5 h4 h6 h7 (by omega) ht (fun k => htb (h9 _ k)) hl).mono ?_
  rintro r w' ⟨rfl, q', v', k1, k2, k3, k4, k5⟩
  have hs := k4.size
  have hz : 0 < z → first ≤ first + R.length - 1 := fun h0 => by
    have : R ≠ [] := fun e0 => by
      have h9 := h.prf
      rw [e0] at h9
      simp at h9
      have := (h9.det .nil rfl).2
      omega
    have := List.length_pos_iff.2 this
    omega
  have hK := h.kept.reset f (last := first + R.length - 1) (by omega) hz (by omega)
  rw [show first + R.length - 1 + 1 = first + R.length by omega] at k1 k3 hK
  refine ⟨rfl, _, fun k => P k ∨ (w.heap.size ≤ k ∧ k < w'.heap.size), ⟨⟨T, _, v', w.heap.size, ?_, ?_, hs, k3, h5, ?_, ?_, ?_, fun k hk => ?_, .inl h10, .inl h11, fun k hk => ?_⟩, fun k hk => ?_, hK, .nil, .nil, Nat.zero_le _, Nat.le_refl _, by omega, by omega, h.by_⟩, k4.mono (fun k hk hG => ?_), fun k hk => hk.imp id (fun h => h.1)⟩
  · rw [show first + R.length + ([] : List (Nat × Nat)).length - 1 = first + R.length - 1 by simp, show first + R.length + 0 - 1 = first + R.length - 1 by omega]
    exact k1
  · exact k2.mono k5
  · rintro (a | a)
    · exact h6 a
    · have := h.lt _ h10; omega
  · rintro (a | a)
    · exact h7 a
    · have := h.lt _ h11; omega
  · intro k hk
    have hl := (World.ownsRow.lt k2 k hk).1
    rintro (a | a)
    · have := h4.lt k a; omega
    · omega
  · rcases hk with hk | hk
    · exact .inl (h9 k hk)
    · exact .inr ⟨hk.1, k3.lt k (.inr hk)⟩
  · have hl := World.ownsRow.lt k2 k hk
    exact .inr ⟨by omega, hl.2⟩
  · rcases hk with hk | hk
    · have := h.lt k hk; omega
    · exact hk.2
  · rcases hG with hG | rfl
    · exact h9 k hG
    · exact h11
theorem lgs_reset_full {w : World} {P : Nat → Prop} {D L n : Nat} {e f : Nat → Int} {first z tot forced : Nat} {R : List (Nat × Nat)} (h : Lgs w P D L n e f first z tot forced R) (hl : 4611686018427387904 ≤ first + R.length - 1) :
    Calls Tryd.prog 25 #[.pointer (some ⟨L, 0, none⟩)] w fun r w' => r = .returned (.int .i64 4) ∧ w' = w := by
  obtain ⟨T, F, vt, q, h1, h2, h3, h4, h5, h6, h7, h8, h9, h10, h11, h12⟩ := h.lay
  exact reset_full L T D 0 n first _ _ _ vt w h1 hl
theorem lgs_last {w : World} {P : Nat → Prop} {D L n : Nat} {e f : Nat → Int} {first z tot forced : Nat} {R : List (Nat × Nat)} (h : Lgs w P D L n e f first z tot forced R) : Calls Tryd.prog 16 #[.pointer (some ⟨L, 0, none⟩)] w fun r w' => r = .returned (.int .i64 ((first + R.length - 1 : Nat) : Int)) ∧ w' = w := by
  obtain ⟨T, F, vt, q, h1, _⟩ := h.lay
  exact lLast L T _ w h1.l0 (by rw [cells_at h1.hT 4]; rfl)
theorem lgs_first {w : World} {P : Nat → Prop} {D L n : Nat} {e f : Nat → Int} {first z tot forced : Nat} {R : List (Nat × Nat)} (h : Lgs w P D L n e f first z tot forced R) : Calls Tryd.prog 26 #[.pointer (some ⟨L, 0, none⟩)] w fun r w' => r = .returned (.int .i64 (first : Int)) ∧ w' = w := by
  obtain ⟨T, F, vt, q, h1, _⟩ := h.lay
  exact lFirst L T _ w h1.l0 (by rw [cells_at h1.hT 3]; rfl)
theorem lgs_forced {w : World} {P : Nat → Prop} {D L n : Nat} {e f : Nat → Int} {first z tot forced : Nat} {R : List (Nat × Nat)} (h : Lgs w P D L n e f first z tot forced R) : Calls Tryd.prog 15 #[.pointer (some ⟨L, 0, none⟩)] w fun r w' => r = .returned (.int .i64 ((first + forced - 1 : Nat) : Int)) ∧ w' = w := by
  obtain ⟨T, F, vt, q, h1, _⟩ := h.lay
  exact lForced L T _ w h1.l0 (by rw [cells_at h1.hT 5]; rfl)
theorem lgs_room {w : World} {P : Nat → Prop} {D L n : Nat} {e f : Nat → Int} {first z tot forced : Nat} {R : List (Nat × Nat)} (h : Lgs w P D L n e f first z tot forced R) : Calls Tryd.prog 28 #[.pointer (some ⟨L, 0, none⟩)] w fun r w' => r = .returned (.int .i64 ((n * 112 - tot : Nat) : Int)) ∧ ∃ q, w' = w.drewN q := by
  obtain ⟨n1, n2⟩ := h.n2
  obtain ⟨T, F, vt, q, h1, h2, _⟩ := h.lay
  have hzt := h.prf.le
  have hle := h.le
  have := lwRoom h1 h2 n2 (by rw [lst_length]; omega)
  rw [lst_length, show n * 112 - z / 112 * 112 - (tot - z / 112 * 112) = n * 112 - tot by omega] at this
  exact this

/-- The records that a law holds: each has its bytes, none lies in P's blocks. -/
def RecP (w : World) (B : Nat) (v : Value) (P : Nat → Prop) (f : Nat → Int) (R : List (Nat × Nat)) : Prop := ∃ A C, RecG w B v R.length A (lenF R) C (bytF f R) ∧ (∀ k, v.ownBlock = some k → ¬ P k) ∧ ∀ j k, j < R.length → A j = some ⟨k, 0, none⟩ → ¬ P k
theorem lgs_opened {w w' : World} {D n : Nat} {F : Nat → Prop} {e : Nat → Int} {L : Nat} {v : Value} {first tot size : Nat} {R : List (Nat × Nat)} (h : Opened w w' D n 0 n F e L v first tot size R) (hF : ∀ k, F k → k < w.heap.size) (hby : ∀ i, 0 ≤ e i ∧ e i ≤ 255) : ∃ e' P, Lgs w' P D L n e' (lg e) (max first 1) size size R.length R ∧ (∀ k, P k → F k ∨ w.heap.size ≤ k) ∧ RecP w' w.heap.size v P (lg e) R := by
  obtain ⟨hH, hp, ⟨T, vt, A, C, e', p, q, k1, k2, k3, k4, k5, k6, k7, k8, k9, k10, k11, k12, k13⟩, hpt⟩ := h
  rw [from0_zero] at hH hp k2 k5
  have hs := hpt.size
  have hL : L < w'.heap.size := (Array.getElem?_eq_some_iff.1 k1.hL).1
  have hT : T < w'.heap.size := (Array.getElem?_eq_some_iff.1 k1.hT).1
  have hpl := hp.1.le
  have hP := hp.1.less hpl (Nat.le_refl _)
  have n2 := k3.n2
  refine ⟨e', fun k => F k ∨ (p ≤ k ∧ k < w'.heap.size), ⟨⟨T, _, vt, q, k1, k2, by omega, k3, k12, ?_, ?_, fun k hk => ?_, fun k hk => hk.imp id (fun h => ⟨h.1, by omega⟩), .inr ⟨by omega, hL⟩, .inr ⟨by omega, hT⟩, fun k hk => ?_⟩, fun k hk => ?_, Kept.open (by omega) hH hpl k4, hP, by rw [List.take_length]; exact hP, by have := hH.le; omega, Nat.le_refl _, by omega, by have := hH.first.1; omega, fun i => hby _⟩, fun k hk => hk.imp id (fun h => by omega), A, C, k5, fun k hk => ?_, fun j k hj hk => ?_⟩
  · rintro (a | a)
    · have := hF _ a; omega
    · omega
  · rintro (a | a)
    · have := hF _ a; omega
    · omega
  · have hl := (World.ownsRow.lt k2 k hk).1
    rintro (a | a)
    · have := hF _ a; omega
    · omega
  · have hl := World.ownsRow.lt k2 k hk
    exact .inr ⟨by omega, hl.2⟩
  · rcases hk with hk | hk
    · have := hF _ hk; omega
    · exact hk.2
  · have hl := (World.ownsRow.lt k5.own k hk).1
    have := k6 k hk
    rintro (a | a)
    · have := hF _ a; omega
    · omega
  · obtain ⟨g, cur, fz, x1, x2, _⟩ := k5.each j hj
    rw [x1] at hk
    cases hk
    have := k7 j _ hj x1
    rintro (a | a)
    · have := hF _ a; omega
    · omega
end Go.Proofs.YtmjoklppibfdmaaDoor

namespace Go.Proofs.YtmjoklppibfdmaaDoor
open Go.RowKit
set_option linter.unusedVariables false

set_option maxRecDepth 100000 in
set_option maxHeartbeats 1000000 in
theorem recsD (D n : Nat) (F : Nat → Prop) (e : Nat → Int) (w : World) (h : Sd w D F n 0 e) (ht : Tab w) :
    Calls Tryd.prog 20 #[.pointer (some ⟨D, 0, none⟩)] w fun r w' => ∃ v fi tot R size A C, r = .returned v ∧ Hid (Has e n fi tot) ∧ Hid (Parsed (lg e) tot R size) ∧ Hid (RecG w' w.heap.size v R.length A (lenF R) C (bytF (lg e) R)) ∧ Below w.heap.size w w' := by
  obtain ⟨n1, n2⟩ := h.n2
  have tl := ht.lt
  have HC : Hid (Calls Tryd.prog 17 #[.pointer (some ⟨D, 0, none⟩)] w fun r w1 => ∃ D', r = .returned (.pointer (some ⟨D', 0, none⟩)) ∧ Hid (Calls Tryd.prog 43 #[.pointer (some ⟨D, 0, none⟩)] w1 fun r w2 => r = .returned (.int .i64 (n : Int)) ∧ w2 = w1) ∧ Hid (Calls Tryd.prog 31 #[.pointer (some ⟨D', 0, none⟩), .int .i64 0, .int .i64 (n : Int)] w1 fun r w' => ∃ L v fi tot R size A C, r = .returned (.tuple #[.pointer (some ⟨L, 0, none⟩), v, .int .i64 0]) ∧ Hid (Has e n fi tot) ∧ Hid (Parsed (lg e) tot R size) ∧ Hid (RecG w' w.heap.size v R.length A (lenF R) C (bytF (lg e) R)) ∧ Below w.heap.size w w')) := by
    refine (sdCopy D n 0 F e w h (by omega)).mono ?_
    rintro r w1 ⟨D', rfl, s1, b1⟩
    have hs := b1.size
    refine ⟨D', rfl, sdSectors D n 0 F e w1 (h.below b1), ?_⟩
    refine (openL D' n 0 n _ e w1 s1 (by omega) (by omega) (ht.below b1 (Nat.le_refl _)) (by omega)).mono ?_
    rintro r w2 ⟨L, v, first, tot, size, R, rfl, hO⟩
    obtain ⟨e', P, hL, hP, A, C, hG, _⟩ := lgs_opened hO (fun k hk => hk.2) s1.by_
    have hH := hO.has
    have hp := hO.prs
    rw [from0_zero] at hH hp
    refine ⟨L, v, first, tot, R, size, A, C, rfl, hH, hp, hG.mono hs, ?_⟩
    exact b1.trans (hO.part.below (fun k hk => hk.1) hs)
  clear h ht
  go_enter Tryd.func20, Tryd.ntmps20
  go_wp2_with fail
  refine HC.out.mono ?_
  rintro r w1 ⟨D', rfl, HS, HO⟩
  go_wp2_with fail
  refine HS.out.mono ?_
  rintro r w2 ⟨rfl, hw⟩
  obtain rfl : w1 = w2 := hw.symm
  clear hw
  go_wp2_with fail
  refine HO.out.mono ?_
  rintro r w3 ⟨L, v, fi, tot, R, size, A, C, rfl, k1, k2, k3, k4⟩
  go_wp2
  go_ret
  exact ⟨v, fi, tot, R, size, A, C, rfl, k1, k2, k3, k4⟩

/-- The records of a disk that holds a log's bytes. -/
theorem Kept.recs {e : Nat → Int} {n first : Nat} {f : Nat → Int} {z : Nat} (h : Kept e n first f z) (hn : 0 < n) {fi tot size : Nat} {R R' : List (Nat × Nat)} (hH : Has e n fi tot) (hp : Parsed (lg e) tot R' size) (hR : PrsTo f z R z) : tot = z ∧ R' = R := by
  obtain ⟨fi', h1, _⟩ := h.has hn
  obtain ⟨_, rfl⟩ := hH.uniq h1
  have h2 : Parsed (lg e) tot R tot := ⟨hR.ext (fun i hi => (h.eq i hi).symm), stops_end _ _⟩
  exact ⟨rfl, (hp.uniq h2).1⟩
end Go.Proofs.YtmjoklppibfdmaaDoor

namespace Go.Proofs.YtmjoklppibfdmaaDoor
open Go.RowKit
set_option linter.unusedVariables false

/-- The bytes of all, one behind the other. -/
def flat (f : Nat → Nat → Int) : Nat → Int := fun q => f (q / 128) (q % 128)
/-- A block, new since w0, whose first acc cells are F's. -/
structure Bf (w0 w : World) (T acc : Nat) (F : Nat → Int) : Prop where
  row : ∃ cur : List Value, w.heap[w0.heap.size]? = some (.cells cur.toArray 5 (0, 0)) ∧ T ≤ cur.length ∧ cur.length ≤ 9223372036854775807 ∧ ∀ i, i < acc → cur[i]? = some (.int .u8 (F i))
  below : Below w0.heap.size w0 w
theorem Bf.copy {w w0 : World} {ops : Array Oper} {rest : List Oper} {o : Oper} {a : Act} {Q : Exit → Act → World → Prop} (hgd : o.guard = none) (d s : Operand) (ho : o.op = .call { callee := .builtin .copy, args := #[d, s], argTypes := #[34, 34] })
    {T acc : Nat} {F : Nat → Int} (hB : Bf w0 w T acc F) (dLen dCap : Nat) (dp : Option Addr) (hd : a.eval d = .slice dp dLen dCap) (ao : Option Addr) (m c : Nat) (g : Nat → Int) (hs : a.eval s = .slice ao m c) (hf : From w ao m g) (hm : m ≤ dLen) (hfit : acc + m ≤ T) (hdp : 0 < m → dp = some ⟨w0.heap.size, acc, none⟩) (hFg : ∀ i, i < m → F (acc + i) = g i)
    (h : ∀ w', Bf w0 w' T (acc + m) F → wpList Tryd.prog ops Q rest (a.put o.dst (.int .i64 m)) w') : wpList Tryd.prog ops Q (o :: rest) a w := by
  obtain ⟨⟨cur, h1, h2, h2b, h3⟩, hb⟩ := hB
  have hlen : ((lst g m).map (Value.int .u8)).length = m := by simp [lst_length]
  refine wpList_copy_splice hgd d s 34 34 ho 5 Tryd.underlying34 size5 dp ao dLen dCap m c hd hs w0.heap.size acc cur 5 h1 ((lst g m).map (Value.int .u8)) (by rw [hlen]; exact (Nat.min_eq_left hm).symm) ?_ (by rw [hlen]; omega) ?_ w0.heap.size w0 hb (Nat.le_refl _) ?_
  · intro hp
    rw [hlen] at hp
    refine ⟨hdp hp, ?_⟩
    rcases hf with ⟨_, e⟩ | ⟨x, e1, e2⟩
    · omega
    · refine ⟨x, e1, fun j u hj => ?_⟩
      have hjm : j < m := by
        have := (List.getElem?_eq_some_iff.1 hj).1
        simpa [lst_length] using this
      rw [e2 j hjm]
      rw [List.getElem?_map, lst_get g m j hjm] at hj
      simpa using hj
  · intro u hu
    obtain ⟨y, _, rfl⟩ := List.mem_map.1 hu
    rfl
  · intro w' hg hb'
    have hg := hg.out
    have e0 : goInt ((lst g m).map (Value.int .u8)).length = .int .i64 m := by rw [hlen]; rfl
    rw [e0]
    refine h w' ⟨⟨_, hg, ?_, ?_, fun i hi => ?_⟩, hb'⟩
    · rw [length_splice _ _ _ (by rw [hlen]; omega)]; exact h2
    · rw [length_splice _ _ _ (by rw [hlen]; omega)]; exact h2b
    · unfold splice
      simp only [List.getElem?_append, List.length_take, List.length_map, lst_length, List.getElem?_take, List.getElem?_map]
      have e1 : min acc cur.length = acc := by omega
      simp only [e1]
      by_cases i2 : i < acc
      · simp only [i2, if_true]
        exact h3 i i2
      · have i3 : i - acc < m := by omega
        simp only [i2, i3, if_true, if_false]
        rw [lst_get g m (i - acc) i3]
        have := hFg (i - acc) i3
        rw [show acc + (i - acc) = i by omega] at this
        rw [this]
        rfl

set_option maxRecDepth 100000 in
set_option maxHeartbeats 2000000 in
theorem join_one (a0 : Option Addr) (c0 : Nat) (A : Nat → Option Addr) (L C : Nat → Nat) (f : Nat → Nat → Int) (w : World) (h : Img w a0 1 A L C f) (hL : L 0 = 128) :
    Calls Tryd.prog 58 #[.slice a0 1 c0, .slice none 0 0] w fun e w' => ∃ g c, e = .returned (.slice (some ⟨g, 0, none⟩) 128 c) ∧ Own w' w.heap.size (.slice (some ⟨g, 0, none⟩) 128 c) (lst (f 0) 128) ∧ Below w.heap.size w w' := by
  obtain ⟨b, off, rfl, p1, p2, p3⟩ := h 0 (by omega)
  rw [hL] at p1 p2
  rw [Nat.add_zero] at p1
  have HF : Hid (From w (A 0) 128 (f 0)) := p2
  have hm : Own w w.heap.size (.slice none 0 0) [] := World.ownsRow_nil _ _ _ _
  clear h p2
  go_enter Tryd.func58, Tryd.ntmps58
  go_wp2_with (at_builtin; refine wpList_app rfl _ _ rfl w.heap.size _ [] rfl hm (A 0) 128 (C 0) (f 0) rfl HF.out p3 ?q2 ?q3 ?_)
  case q2 => simp
  case q3 => simp
  intro v' w' ho hb
  obtain ⟨g, c, rfl, ho, _⟩ := own_some (n := 128) (f := f 0) ho (by omega)
  go_wp2
  go_ret
  exact ⟨g, c, rfl, ho, hb⟩

set_option maxRecDepth 100000 in
set_option maxHeartbeats 4000000 in
theorem join_many (a0 : Option Addr) (N c0 : Nat) (A : Nat → Option Addr) (L C : Nat → Nat) (f : Nat → Nat → Int) (w : World) (h : Img w a0 N A L C f) (hL : ∀ i, i < N → L i = 128) (h2 : 2 ≤ N) (h3 : N ≤ 4096) (hc : N ≤ c0) :
    Calls Tryd.prog 58 #[.slice a0 N c0, .slice none 0 0] w fun e w' => ∃ g, e = .returned (.slice (some ⟨g, 0, none⟩) (N * 128) (N * 128)) ∧ g = w.heap.size ∧ Bf w w' (N * 128) (N * 128) (flat f) := by
  obtain ⟨b, off, rfl, _⟩ := h 0 (by omega)
  have H : Hid (∀ wq, Below w.heap.size w wq → ∀ i, i < N → wq.cell? ⟨b, off + i, none⟩ = some (.slice (A i) 128 (C i)) ∧ From wq (A i) 128 (f i)) := fun wq hq i hi => by
    obtain ⟨b', off', e, k1, k2, _⟩ := h.below hq i hi
    cases e
    rw [hL i hi] at k1 k2
    exact ⟨k1, k2⟩
  clear h hL
  have f0 : ((N : Int) == 0) = false := beq_eq_false_iff_ne.2 (by omega)
  have f1 : ((N : Int) == 1) = false := beq_eq_false_iff_ne.2 (by omega)
  go_enter Tryd.func58, Tryd.ntmps58
  go_wp2
  go_outline
  go_loopw [5, 44] (fun s5 s44 wr => w = wr ∧ ∃ i : Nat, i ≤ N ∧ s44 = .int .i64 (i : Int) ∧ s5 = .int .i64 ((i * 128 : Nat) : Int)) (fun _ i _ => N - (intOf i).toNat)
  case atStart => exact ⟨rfl, 0, Nat.zero_le _, rfl, rfl⟩
  case round =>
    obtain ⟨rfl, i, hi, rfl, rfl⟩ := hrel
    by_cases hlt : i < N
    · have hlt' : (i : Int) < (N : Int) := by omega
      have hi0 : (0 : Int) ≤ (i : Int) := by omega
      obtain ⟨p1, _⟩ := H.out w (Below.refl _ _) i hlt
      have hb : ¬ (9223372036854775807 - ((i * 128 : Nat) : Int) < 128) := by omega
      go_wp2
      go_roundw
      case rel => exact ⟨by first | rfl | trivial, i + 1, by omega, by go_num, by go_num⟩
      case measure => simp [intOf]; omega
    · obtain rfl : N = i := by omega
      obtain ⟨T, hT⟩ : ∃ T, N * 128 = T := ⟨_, rfl⟩
      rw [hT]
      obtain ⟨cs, hrunM, hle, hmx⟩ := Lib.run_makeNoZero (P := Tryd.prog) w #[3] 34 5 Tryd.underlying34 T (by omega)
      have hcall : (callFunc 82 #[.int .i64 (T : Int)]).run Tryd.prog w = .ok (.value (.slice (some ⟨w.heap.size, 0, none⟩) T cs.size)) ((w.alloc (.cells cs 5)).drewN 2) := by
        rw [run_callFunc_extern Tryd.func82 (by kernel_rfl) (by kernel_rfl) (by kernel_rfl) (e := Extern.BytealgMakeNoZero.makeNoZero #[3] #[34]) (by kernel_rfl), hrunM]
        rfl
      have i0 : (0 : Int) ≤ (T : Int) := by omega
      have i1 : (T : Int) ≤ (cs.size : Int) := by omega
      have hb9 : Below w.heap.size w (w.alloc (.cells cs 5)) := (Below.refl _ w).alloc (Nat.le_refl _) _
      have hB0 : Bf w ((w.alloc (.cells cs 5)).drewN 2) T 0 (flat f) := ⟨⟨cs.toList, by show (w.alloc (.cells cs 5)).heap[w.heap.size]? = _; rw [heap_alloc_at _ _ _ rfl], by rw [Array.length_toList]; exact hle, by rw [Array.length_toList]; exact hmx (by unfold maxLen; omega), fun i hi => by omega⟩, ⟨hb9.os, hb9.tape, hb9.output, hb9.size, hb9.block⟩⟩
      obtain ⟨W1, hW1⟩ : ∃ W1, (w.alloc (.cells cs 5)).drewN 2 = W1 := ⟨_, rfl⟩
      rw [hW1] at hcall hB0
      have HB0 : Hid (Bf w W1 T 0 (flat f)) := hB0
      obtain ⟨q1, q2⟩ := H.out W1 hB0.below 0 (by omega)
      rw [Nat.add_zero] at q1
      have HF0 : Hid (From W1 (A 0) 128 (f 0)) := q2
      clear hrunM hB0 hW1 q2 hmx
      have hFF : Hid (∀ j i, i < 128 → flat f (j * 128 + i) = f j i) := fun j i hi => by
        unfold flat
        rw [show (j * 128 + i) / 128 = j by omega, show (j * 128 + i) % 128 = i by omega]
      go_wp2_with (refine Bf.copy rfl _ _ rfl HB0.out T T _ rfl (A 0) 128 (C 0) (f 0) rfl HF0.out (by omega) (by omega) (fun _ => rfl) ?q1 ?_)
      case q1 => exact fun i hi => by have := hFF.out 0 i hi; simpa using this
      intro w2 hB2
      have HB2 : Hid (Bf w w2 T 128 (flat f)) := hB2
      clear hB2
      clear HB0 HF0 q1 hcall
      go_wp2
      go_loopw [9, 72] (fun s9 s72 wr => ∃ j : Nat, j ≤ N - 1 ∧ s72 = .int .i64 (j : Int) ∧ s9 = .int .i64 (((j + 1) * 128 : Nat) : Int) ∧ Bf w wr T ((j + 1) * 128) (flat f)) (fun _ i _ => N - 1 - (intOf i).toNat)
      case atStart => exact ⟨0, Nat.zero_le _, rfl, rfl, HB2.out⟩
      case round =>
        obtain ⟨j, hj, rfl, rfl, hBr⟩ := hrel
        by_cases hlt2 : j < N - 1
        · have hjz : (j : Int) < ((N - 1 : Nat) : Int) := by omega
          have hj0 : (0 : Int) ≤ (j : Int) := by omega
          obtain ⟨acc, hacc⟩ : ∃ acc, (j + 1) * 128 = acc := ⟨_, rfl⟩
          have hn2 : (j + 1 + 1) * 128 = acc + 128 := by rw [← hacc]; exact Nat.succ_mul (j + 1) 128
          have e5 : ((((j + 1 + 1) * 128 : Nat)) : Int) = (acc : Int) + 128 := by rw [hn2]; exact Int.natCast_add acc 128
          have e6 : ((j + 1 : Nat) : Int) = (j : Int) + 1 := Int.natCast_add j 1
          have HE1 : Hid (Value.int .i64 ((j : Int) + 1) = .int .i64 ((j + 1 : Nat) : Int)) := congrArg (Value.int .i64) e6.symm
          have HE2 : Hid (Value.int .i64 ((acc : Int) + 128) = .int .i64 (((j + 1 + 1) * 128 : Nat) : Int)) := congrArg (Value.int .i64) e5.symm
          have HE3 : Hid ((j + 1 + 1) * 128 = acc + 128) := hn2
          clear e5 e6 hn2
          have hj1 : j + 1 ≤ N - 1 := by omega
          have HMs : Hid (N - 1 - (intOf (Value.int .i64 ((j : Int) + 1))).toNat < N - 1 - (intOf (Value.int .i64 (j : Int))).toNat) := (by simp only [intOf]; omega : N - 1 - (intOf (Value.int .i64 ((j : Int) + 1))).toNat < N - 1 - (intOf (Value.int .i64 (j : Int))).toNat)
          rw [hacc] at hBr ⊢
          have HBr : Hid (Bf w wr T acc (flat f)) := hBr
          obtain ⟨p1, p2⟩ := H.out wr hBr.below (1 + j) (by omega)
          rw [← Nat.add_assoc] at p1
          have e0 : (0 : Int) ≤ (acc : Int) := by omega
          have e1 : (acc : Int) ≤ (T : Int) := by omega
          have e2 : (acc : Int) < (T : Int) := by omega
          have e3 : ¬ (T : Int) = (acc : Int) := by omega
          have e4 : ¬ T = acc := by omega
          clear hBr p2
          go_wp2_with (refine Bf.copy rfl _ _ rfl HBr.out (T - acc) (T - acc) _ rfl none 0 0 (fun _ => 0) rfl (.inl ⟨rfl, rfl⟩) (by omega) (by omega) (fun h => by omega) (fun i hi => by omega) ?_)
          intro w3 hB3
          have HB3 : Hid (Bf w w3 T acc (flat f)) := hB3
          obtain ⟨r1, r2⟩ := H.out w3 hB3.below (1 + j) (by omega)
          rw [← Nat.add_assoc] at r1
          have HF3 : Hid (From w3 (A (1 + j)) 128 (f (1 + j))) := r2
          have HFg : Hid (∀ i, i < 128 → flat f (acc + i) = f (1 + j) i) := fun i hi => by
            have := hFF.out (1 + j) i hi
            rw [← hacc, show (j + 1) * 128 = (1 + j) * 128 by omega]
            exact this
          have hfit : acc + 128 ≤ T := by omega
          have hfit2 : 128 ≤ T - acc := by omega
          clear hB3 r2
          go_wp2_with (refine Bf.copy rfl _ _ rfl HB3.out (T - acc) (T - acc) _ rfl (A (1 + j)) 128 (C (1 + j)) (f (1 + j)) rfl HF3.out hfit2 hfit (fun _ => rfl) HFg.out ?_)
          intro w4 hB4
          have HB4 : Hid (Bf w w4 T (acc + 128) (flat f)) := hB4
          clear hB4
          have HR : Hid (∃ j1 : Nat, j1 ≤ N - 1 ∧ Value.int .i64 ((j : Int) + 1) = .int .i64 (j1 : Int) ∧ Value.int .i64 ((acc : Int) + 128) = .int .i64 (((j1 + 1) * 128 : Nat) : Int) ∧ Bf w w4 T ((j1 + 1) * 128) (flat f)) := ⟨j + 1, hj1, HE1.out, HE2.out, HE3.out ▸ HB4.out⟩
          go_wp2_with fail
          refine And.intro ?_ ?_
          · exact HR.out
          · exact HMs.out
        · obtain rfl : j = N - 1 := by omega
          have hjz : ¬ (((N - 1 : Nat) : Int) < ((N - 1 : Nat) : Int)) := by omega
          have hE : (N - 1 + 1) * 128 = T := by omega
          rw [hE] at hBr
          have HBr : Hid (Bf w wr T T (flat f)) := hBr
          clear hBr
          go_wp2
          go_ret
          exact ⟨_, rfl, rfl, HBr.out⟩

/-- bytes.Join of slices of 128 bytes: their bytes, one behind the other, in a block of their own. -/
theorem joinB (a0 : Option Addr) (N c0 : Nat) (A : Nat → Option Addr) (L C : Nat → Nat) (f : Nat → Nat → Int) (w : World) (h : Img w a0 N A L C f) (hL : ∀ i, i < N → L i = 128) (h2 : 1 ≤ N) (h3 : N ≤ 4096) (hc : N ≤ c0) :
    Calls Tryd.prog 58 #[.slice a0 N c0, .slice none 0 0] w fun e w' => ∃ g c, e = .returned (.slice (some ⟨g, 0, none⟩) (N * 128) c) ∧ OwnC w' g (N * 128) c (flat f) ∧ w.heap.size ≤ g ∧ g < w'.heap.size ∧ Below w.heap.size w w' := by
  by_cases h1 : N = 1
  · subst h1
    refine (join_one a0 c0 A L C f w h (hL 0 (by omega))).mono ?_
    rintro e w' ⟨g, c, rfl, ho, hb⟩
    obtain ⟨x1, x2, _⟩ := row_cap ho
    obtain ⟨x3, x4⟩ := World.ownsRow.lt ho g rfl
    refine ⟨g, c, rfl, ⟨x1, x2, c, ?_⟩, x3, x4, hb⟩
    have h9 : Own w' 0 (.slice (some ⟨g, 0, none⟩) 128 c) (lst (f 0) 128) := ho.mono (Nat.zero_le _)
    exact h9.ext (fun i hi => by
      unfold flat
      rw [show i / 128 = 0 by omega, show i % 128 = i by omega])
  · refine (join_many a0 N c0 A L C f w h hL (by omega) h3 hc).mono ?_
    rintro e w' ⟨g, rfl, rfl, hB⟩
    obtain ⟨⟨cur, k1, k2, k3, k4⟩, hb⟩ := hB
    have hgl : w.heap.size < w'.heap.size := (Array.getElem?_eq_some_iff.1 k1).1
    refine ⟨w.heap.size, N * 128, rfl, ⟨Nat.le_refl _, by omega, cur.length, ?_⟩, Nat.le_refl _, hgl, hb⟩
    unfold Own
    rw [lst_length]
    refine ⟨by simp [lst_length], .inr ⟨w.heap.size, cur.length, cur.toArray, rfl, Nat.zero_le _, k1, k2, k3, by simp, ?_⟩⟩
    apply List.ext_getElem?
    intro i
    simp only [Nat.mul_one, List.getElem?_take, List.getElem?_map]
    by_cases hi : i < N * 128
    · rw [if_pos hi, lst_get _ _ i hi]
      simpa using k4 i hi
    · rw [if_neg hi, List.getElem?_eq_none (by rw [lst_length]; omega)]
      rfl
end Go.Proofs.YtmjoklppibfdmaaDoor

namespace Go.Proofs.YtmjoklppibfdmaaDoor
open Go.RowKit
set_option linter.unusedVariables false

/-- Bytes of one's own, and what over makes around them: a disk. -/
theorem dk_over {w w1 : World} {n g c : Nat} {dur : Nat → Int} {MI : Array Value} (hb : Below w.heap.size w w1) (ho : OwnC w1 g (n * 128) c dur) (hg : w.heap.size ≤ g) (hgl : g < w1.heap.size) (hMI : MI.toList = (lst (fun _ => 0) n).map (Value.int .i64)) (y1 : ∀ i, 0 ≤ dur i ∧ dur i ≤ 255) (n1 : 1 ≤ n) (n2 : n ≤ 4096) (wf : World)
    (hf : wf = ((w1.alloc (.cells MI 3)).alloc (.cells #[.slice (some ⟨g, 0, none⟩) (n * 128) c, .slice (some ⟨w1.heap.size, 0, none⟩) n n, .slice none 0 0, .slice none 0 0] 93)).alloc (.cells #[.pointer (some ⟨w1.heap.size + 1, 0, none⟩)] 88)) :
    Dk wf (w1.heap.size + 2) (fun k => w.heap.size ≤ k ∧ k < wf.heap.size) n dur 0 (fun _ => 0) (fun _ => 0) ∧ Below w.heap.size w wf := by
  have s1 := hb.size
  have hI : OwnI (w1.alloc (.cells MI 3)) 0 (.slice (some ⟨w1.heap.size, 0, none⟩) n n) (lst (fun _ => 0) n) := by
    have := ownI_made (w := w1) (MB := MI) (xs := lst (fun _ => 0) n) hMI (by rw [lst_length]; omega)
    rw [lst_length] at this
    exact this
  have hsz : wf.heap.size = w1.heap.size + 3 := by rw [hf]; simp
  subst hf
  refine ⟨⟨w1.heap.size + 1, g, w1.heap.size, c, n, .slice none 0 0, .slice none 0 0, ?_⟩, ?_⟩
  · refine ⟨heap_alloc_at _ _ _ (by simp), ?_, ?_, ?_, World.ownsRow_nil _ _ _ _, ?_, (fun h => by cases h), (fun h => by cases h), ⟨by omega, by omega⟩, ⟨by omega, by omega⟩, ⟨hg, by omega⟩, ⟨by omega, by omega⟩, (fun k h => by cases h), (fun k h => by cases h), fun k h => h.2, fun j h => by omega, y1, fun _ => by decide, n1, n2⟩
    · rw [heap_alloc_past _ _ _ (by simp), heap_alloc_at _ _ _ (by simp)]
    · exact ho.map fun C hoC => World.ownsRow.alloc (World.ownsRow.alloc (World.ownsRow.alloc hoC _) _) _
    · exact World.ownsRow.alloc (World.ownsRow.alloc hI _) _
    · rw [Nat.zero_mul]; exact World.ownsRow_nil _ _ _ _
  · exact ((hb.alloc (by omega) _).alloc (by simp; omega) _).alloc (by simp; omega) _

/-- Whether an image may be a disk's. -/
def Fits (N : Nat) (L : Nat → Nat) : Prop := 1 ≤ N ∧ N ≤ 4096 ∧ ∀ i, i < N → L i = 128

set_option maxRecDepth 100000 in
set_option maxHeartbeats 2000000 in
theorem dOf_size (ag : Option Addr) (N cg : Nat) (w : World) (hN : N < 1 ∨ 4096 < N) :
    Calls Tryd.prog 23 #[.slice ag N cg] w fun e w' => e = .returned (.tuple #[.pointer none, .int .i64 1]) ∧ Below w.heap.size w w' := by
  by_cases h0 : N < 1
  · obtain rfl : N = 0 := by omega
    clear hN
    go_enter Tryd.func23, Tryd.ntmps23
    go_wp2
    go_ret2
    exact ⟨rfl, Below.refl _ _⟩
  · have h1 : (1 : Int) ≤ (N : Int) := by omega
    have h2 : ¬ (N : Int) ≤ 4096 := by omega
    clear hN
    go_enter Tryd.func23, Tryd.ntmps23
    go_wp2
    go_ret2
    exact ⟨rfl, Below.refl _ _⟩

set_option maxRecDepth 100000 in
set_option maxHeartbeats 2000000 in
theorem dOf_in (ag : Option Addr) (N cg : Nat) (A : Nat → Option Addr) (L C : Nat → Nat) (f : Nat → Nat → Int) (w : World) (h : Img w ag N A L C f) (n1 : 1 ≤ N) (n2 : N ≤ 4096) (hc : N ≤ cg) (hby : ∀ i j, 0 ≤ f i j ∧ f i j ≤ 255) :
    Calls Tryd.prog 23 #[.slice ag N cg] w fun e w' => ((∃ i, i < N ∧ L i ≠ 128) ∧ e = .returned (.tuple #[.pointer none, .int .i64 1]) ∧ Below w.heap.size w w') ∨ ((∀ i, i < N → L i = 128) ∧ ∃ D, e = .returned (.tuple #[.pointer (some ⟨D, 0, none⟩), .int .i64 0]) ∧ Dk w' D (fun k => w.heap.size ≤ k ∧ k < w'.heap.size) N (flat f) 0 (fun _ => 0) (fun _ => 0) ∧ Below w.heap.size w w') := by
  have H : Hid (Img w ag N A L C f) := h
  have h1 : (1 : Int) ≤ (N : Int) := by omega
  have h2 : (N : Int) ≤ 4096 := by omega
  have HBy : Hid (∀ i, 0 ≤ flat f i ∧ flat f i ≤ 255) := fun i => hby _ _
  clear h hby
  go_enter Tryd.func23, Tryd.ntmps23
  go_wp2
  go_loopw [12] (fun i wr => w = wr ∧ ∃ k : Nat, k ≤ N ∧ i = .int .i64 (k : Int) ∧ ∀ j, j < k → L j = 128) (fun i _ => N - (intOf i).toNat)
  case atStart => exact ⟨rfl, 0, Nat.zero_le _, rfl, fun j hj => by omega⟩
  case round =>
    obtain ⟨rfl, k, hk, rfl, hA⟩ := hrel
    have HA : Hid (∀ j, j < k → L j = 128) := hA
    clear hA
    by_cases hlt : k < N
    · have hlt' : (k : Int) < (N : Int) := by omega
      have hk0 : (0 : Int) ≤ (k : Int) := by omega
      obtain ⟨b, off, rfl, p1, _⟩ := H.out k hlt
      by_cases hL : L k = 128
      · have hL' : (L k : Int) = 128 := by omega
        have HA2 : Hid (∀ j, j < k + 1 → L j = 128) := fun j hj => by
          by_cases e : j = k
          · rw [e]; exact hL
          · exact HA.out j (by omega)
        rw [hL] at p1
        go_wp2
        go_roundw
        case rel => exact ⟨by first | rfl | trivial, k + 1, by omega, by go_num, HA2.out⟩
        case measure => simp [intOf]; omega
      · have hL' : ¬ (L k : Int) = 128 := by omega
        have hL2 : ((L k : Int) == 128) = false := beq_eq_false_iff_ne.2 hL'
        have HN : Hid (∃ i, i < N ∧ L i ≠ 128) := ⟨k, hlt, hL⟩
        go_wp2
        go_ret2
        exact .inl ⟨HN.out, rfl, Below.refl _ _⟩
    · obtain rfl : k = N := by omega
      obtain ⟨MI, hMI⟩ : ∃ MI, madeCells #[.int .i64 0] k = MI := ⟨_, rfl⟩
      have hmi : ∀ w : World, (Instr.makeSlice 89 (.int .i64 (k : Int)) (.int .i64 (k : Int))).run Tryd.prog w = .ok (.slice (some ⟨w.heap.size, 0, none⟩) k k) (w.alloc (.cells MI 3)) := fun w => by
        rw [← hMI]
        exact run_make_row' (P := Tryd.prog) 89 3 (.int .i64 0) 8 Tryd.underlying89 info3 rfl .i64 .i64 k (by omega) (by omega) w
      have HMI : Hid (MI.toList = (lst (fun _ => 0) k).map (Value.int .i64)) := (by rw [← hMI, made_ints] : MI.toList = (lst (fun _ => 0) k).map (Value.int .i64))
      clear hMI
      have hq : ((k : Int) * 128).tdiv 128 = (k : Int) := by rw [Int.tdiv_eq_ediv_of_nonneg (by omega)]; omega
      have hq2 : ((k : Int) * 128) / 128 = (k : Int) := by omega
      go_wp2_with fail
      refine (joinB ag k cg A L C f w H.out HA.out n1 n2 hc).mono ?_
      rintro e w1 ⟨g, c, rfl, ho, hg, hgl, hb⟩
      have HZ : Hid (∀ wf, wf = ((w1.alloc (.cells MI 3)).alloc (.cells #[.slice (some ⟨g, 0, none⟩) (k * 128) c, .slice (some ⟨w1.heap.size, 0, none⟩) k k, .slice none 0 0, .slice none 0 0] 93)).alloc (.cells #[.pointer (some ⟨w1.heap.size + 1, 0, none⟩)] 88) → Dk wf (w1.heap.size + 2) (fun q => w.heap.size ≤ q ∧ q < wf.heap.size) k (flat f) 0 (fun _ => 0) (fun _ => 0) ∧ Below w.heap.size w wf) := fun wf hf => dk_over hb ho hg hgl HMI.out HBy.out n1 n2 wf hf
      clear ho hb hg hgl
      go_wp2
      go_ret2
      obtain ⟨z1, z2⟩ := HZ.out _ rfl
      exact .inr ⟨HA.out, _, by simp, z1, z2⟩
end Go.Proofs.YtmjoklppibfdmaaDoor
