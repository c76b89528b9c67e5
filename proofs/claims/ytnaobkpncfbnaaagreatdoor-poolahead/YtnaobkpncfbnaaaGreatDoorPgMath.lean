/-
  Plain facts of a page's sector: read back it is what was written (dec_back); with one byte turned it is refused (dec_turned). No condition but those that each theorem names.
-/
import Derived.Test.YtnaobkpncfbnaaaGreatDoorDec
namespace Go.Proofs.YtnaobkpncfbnaaaGreatDoor
open Go.RowKit
set_option linter.unusedVariables false

theorem rd_ext {f g : Nat → Int} : ∀ k, (∀ i, i < k → f i = g i) → rd f k = rd g k
  | 0, _ => rfl
  | k + 1, h => by rw [rd, rd, rd_ext k (fun i hi => h i (by omega)), h k (by omega)]
theorem rd_leAt (s : Nat) : ∀ k, rd (leAt s) k = s % 256 ^ k
  | 0 => by simp [rd, Nat.mod_one]
  | k + 1 => by
    rw [rd, rd_leAt s k]
    unfold leAt
    rw [Int.toNat_natCast, Nat.pow_succ, Nat.mod_mul, Nat.mul_comm]
theorem rd_inj {f g : Nat → Int} (hf : ∀ i, 0 ≤ f i ∧ f i ≤ 255) (hg : ∀ i, 0 ≤ g i ∧ g i ≤ 255) : ∀ k, rd f k = rd g k → ∀ i, i < k → f i = g i
  | 0, _, i, hi => by omega
  | k + 1, h, i, hi => by
    have h1 := rd_lt hf k
    have h2 := rd_lt hg k
    rw [rd, rd] at h
    have hp : 0 < 256 ^ k := Nat.pos_of_ne_zero (by intro e; rw [e] at h1; omega)
    have e1 : (rd f k + (f k).toNat * 256 ^ k) % 256 ^ k = rd f k := by rw [Nat.add_mul_mod_self_right, Nat.mod_eq_of_lt h1]
    have e2 : (rd g k + (g k).toNat * 256 ^ k) % 256 ^ k = rd g k := by rw [Nat.add_mul_mod_self_right, Nat.mod_eq_of_lt h2]
    have e3 : rd f k = rd g k := by rw [← e1, ← e2, h]
    by_cases e : i = k
    · subst e
      rw [e3] at h
      have h5 : (f i).toNat = (g i).toNat := Nat.eq_of_mul_eq_mul_right hp (Nat.add_left_cancel h)
      have := hf i
      have := hg i
      omega
    · exact rd_inj hf hg k e3 i (by omega)
theorem body_congr {hd f g : Nat → Int} (s : Nat) (h : ∀ i, i < 112 → g i = f i) : body hd s 112 g = body hd s 112 f := by
  funext i
  unfold body
  show ov _ 12 112 g i = ov _ 12 112 f i
  unfold ov
  by_cases e : 12 ≤ i ∧ i < 12 + 112
  · rw [if_pos e, if_pos e, h _ (by omega)]
  · rw [if_neg e, if_neg e]
theorem pg_congr {f g : Nat → Int} (s : Nat) (h : ∀ i, i < 112 → g i = f i) : pg s g = pg s f := by
  unfold pg sec
  rw [body_congr s h]
theorem pg_notnil (s : Nat) (f : Nat → Int) : ¬ Nil (pg s f) 128 := fun h => by
  have := h 0 (by omega)
  rw [pg_head s f 0 (by omega)] at this
  revert this
  decide
theorem sum_lt4 {f : Nat → Int} (h : ∀ i, 0 ≤ f i ∧ f i ≤ 255) : sumS f < 256 ^ 4 := by
  have := Crc.sum_lt (lstN f 124) (lstN_by h 124)
  have e : (256 : Nat) ^ 4 = 2 ^ 32 := by decide
  rw [e]
  exact this
theorem pg_sealed (s : Nat) {f : Nat → Int} (h : ∀ i, 0 ≤ f i ∧ f i ≤ 255) : rd (sh (pg s f) 124) 4 = sumS (pg s f) := by
  rw [rd_ext (f := sh (pg s f) 124) 4 (g := leAt (sumS (body hdP s 112 f))) (fun i hi => pg_sum s f i hi), rd_leAt, pg_sumS, Nat.mod_eq_of_lt (sum_lt4 (body_by hdP_by h s 112))]
theorem pg_numS (s : Nat) (f : Nat → Int) (hs : s ≤ 4611686018427387904) : numS (pg s f) = (s : Int) := by
  have h8 : s < 256 ^ 8 := by
    have : (256 : Nat) ^ 8 = 18446744073709551616 := by decide
    omega
  unfold numS
  rw [rd_ext (f := sh (pg s f) 4) 8 (g := leAt s) (fun i hi => pg_num s f i hi), rd_leAt, Nat.mod_eq_of_lt h8, Wm.w64 _ (by omega)]
theorem pg_loads (s : Nat) (f : Nat → Int) : ∀ i, i < 112 → sh (pg s f) 12 i = f i := fun i hi => pg_load s f i hi

theorem dec_back {z : Int} {f : Nat → Int} (hk : EncOk z 112) (h : ∀ i, 0 ≤ f i ∧ f i ≤ 255) : dec (encF z f) 128 = (z, lst f 112, 0) := by
  obtain ⟨h1, h2, _⟩ := hk
  obtain ⟨s, rfl⟩ := Int.eq_ofNat_of_zero_le h1
  unfold dec
  rw [if_neg (by simp)]
  by_cases h3 : (s : Int) = 0 ∧ Nil f 112
  · have e : encF (s : Int) f = fun _ => 0 := by unfold encF; rw [if_pos h3]
    have hz : Nil (fun _ => 0) 128 := fun i _ => rfl
    rw [e, if_pos hz, h3.1, lst_ext (g := f) (fun i hi => (h3.2 i hi).symm)]
  · have e : encF (s : Int) f = pg s f := by unfold encF; rw [if_neg h3, Int.toNat_natCast]
    have hn := pg_numS s f (by omega)
    rw [e, if_neg (pg_notnil s f), if_neg (by simpa using pg_sealed s h), if_pos, hn, lst_ext (pg_loads s f)]
    refine ⟨by rw [hn]; exact ⟨h1, h2, rfl⟩, ?_⟩
    rw [hn]
    have e2 : encF (s : Int) (sh (pg s f) 12) = pg s f := by
      unfold encF
      rw [if_neg, Int.toNat_natCast, pg_congr s (pg_loads s f)]
      intro h4
      exact h3 ⟨h4.1, fun i hi => by rw [← pg_loads s f i hi]; exact h4.2 i hi⟩
    rw [e2]

theorem lstN_split (f : Nat → Int) (n t : Nat) (ht : t < n) : lstN f n = lstN f t ++ (f t).toNat :: (List.range (n - t - 1)).map (fun i => (f (t + 1 + i)).toNat) := by
  apply List.ext_getElem?
  intro i
  unfold lstN
  by_cases h1 : i < t
  · simp [List.getElem?_append, h1, show i < n by omega]
  · by_cases h2 : i = t
    · subst h2
      simp [ht]
    · obtain ⟨j, rfl⟩ : ∃ j, i = t + 1 + j := ⟨i - t - 1, by omega⟩
      simp only [List.getElem?_append, List.length_map, List.length_range, if_neg h1, show t + 1 + j - t = j + 1 by omega, List.getElem?_cons_succ, List.getElem?_map]
      by_cases h3 : t + 1 + j < n
      · rw [List.getElem?_range h3, List.getElem?_range (by omega)]
        rfl
      · rw [List.getElem?_eq_none (by simp; omega), List.getElem?_eq_none (by simp; omega)]
        rfl
theorem sum_turn {f g : Nat → Int} (hf : ∀ i, 0 ≤ f i ∧ f i ≤ 255) (hg : ∀ i, 0 ≤ g i ∧ g i ≤ 255) (n t : Nat) (ht : t < n) (hne : g t ≠ f t) (h : ∀ i, i ≠ t → g i = f i) : Crc.sum (lstN g n) ≠ Crc.sum (lstN f n) := by
  rw [lstN_split g n t ht, lstN_split f n t ht]
  have e1 : lstN g t = lstN f t := lstN_ext fun i hi => h i (by omega)
  have e2 : (List.range (n - t - 1)).map (fun i => (g (t + 1 + i)).toNat) = (List.range (n - t - 1)).map (fun i => (f (t + 1 + i)).toNat) := List.map_congr_left fun i _ => by rw [h _ (by omega)]
  rw [e1, e2]
  intro he
  have a := hf t
  have b := hg t
  have := Crc.sum_turned (lstN f t) _ (g t).toNat (f t).toNat (lstN_by hf t) (fun z hz => by
    obtain ⟨i, _, rfl⟩ := List.mem_map.1 hz
    have := hf (t + 1 + i)
    omega) (by omega) (by omega) he
  omega

theorem dec_turned {s : Nat} {f g : Nat → Int} (hs : 1 ≤ s) (hs2 : s ≤ 4611686018427387904) (hf : ∀ i, 0 ≤ f i ∧ f i ≤ 255) (hg : ∀ i, 0 ≤ g i ∧ g i ≤ 255) (t : Nat) (ht : t < 128) (hne : g t ≠ pg s f t) (h : ∀ i, i ≠ t → g i = pg s f i) : dec g 128 = (0, [], 13) := by
  unfold dec
  rw [if_neg (by simp), if_neg, if_pos]
  · by_cases h1 : t < 124
    · have e1 : rd (sh g 124) 4 = rd (sh (pg s f) 124) 4 := rd_ext 4 fun i hi => h (124 + i) (by omega)
      rw [e1, pg_sealed s hf]
      exact fun e => sum_turn (pg_by s hf) hg 124 t h1 hne h e.symm
    · have e1 : sumS g = sumS (pg s f) := by
        unfold sumS
        rw [lstN_ext fun i hi => h i (by omega)]
      rw [e1, ← pg_sealed s hf]
      intro e
      have := rd_inj (sh_by hg 124) (sh_by (pg_by s hf) 124) 4 e (t - 124) (by omega)
      unfold sh at this
      rw [show 124 + (t - 124) = t by omega] at this
      exact hne this
  · intro hn
    by_cases h1 : t = 0
    · have hz : ∀ i, i < 8 → leAt s i = 0 := fun i hi => by
        rw [← pg_num s f i hi, ← h (4 + i) (by omega)]
        exact hn (4 + i) (by omega)
      have h8 : s < 256 ^ 8 := by
        have : (256 : Nat) ^ 8 = 18446744073709551616 := by decide
        omega
      have e := rd_leAt s 8
      rw [rd_ext (f := leAt s) 8 (g := fun _ => 0) hz, Nat.mod_eq_of_lt h8] at e
      have e0 : rd (fun _ => 0) 8 = 0 := by decide
      omega
    · have := hn 0 (by omega)
      rw [h 0 (by omega), pg_head s f 0 (by omega)] at this
      revert this
      decide
end Go.Proofs.YtnaobkpncfbnaaaGreatDoor
