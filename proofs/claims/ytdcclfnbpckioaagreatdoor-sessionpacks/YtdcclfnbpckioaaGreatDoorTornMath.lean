/-
  Plain facts for WireTorn: a number's bytes are read as the number; a frame that is cut is short; one with a byte of its load or of its sum turned has another sum. And wire.Unframe in one word (unf).
-/
import Derived.Test.YtdcclfnbpckioaaGreatDoorUnf
namespace Go.Proofs.YtdcclfnbpckioaaGreatDoor
open Go.RowKit
set_option linter.unusedVariables false

/-- What bytes come to as a frame: the error, the load, what stands behind. -/
def unf (f : Nat → Int) (n : Nat) : Int × List Int × List Int :=
  if (Wm.num f n).2.2 ≠ 0 then ((Wm.num f n).2.2, [], [])
  else if 65536 < (Wm.num f n).1 then (12, [], [])
  else if n - (Wm.num f n).2.1.toNat < (Wm.num f n).1.toNat + 4 then (10, [], [])
  else if rd (sh f ((Wm.num f n).2.1.toNat + (Wm.num f n).1.toNat)) 4 ≠ Crc.sum (lstN (sh f (Wm.num f n).2.1.toNat) (Wm.num f n).1.toNat) then (13, [], [])
  else (0, lst (sh f (Wm.num f n).2.1.toNat) (Wm.num f n).1.toNat, lst (sh f ((Wm.num f n).2.1.toNat + (Wm.num f n).1.toNat + 4)) (n - (Wm.num f n).2.1.toNat - ((Wm.num f n).1.toNat + 4)))

theorem own_nil (w : World) (B : Nat) : Own w B (.slice none 0 0) [] := World.ownsRow_nil _ _ _ _

theorem putB_pos (n : Nat) : 1 ≤ (putB n).length := by rw [putB]; split <;> simp

/-- A number's bytes are read as it; fewer of them are short. -/
theorem numAt_put (g : Nat → Int) (L : Nat) : ∀ r k n, (putB n).length ≤ r → (∀ i, i < (putB n).length → g (k + i) = (putB n).getD i 0) → (0 < k → 0 < n) →
    Wm.numAt g L r k = if k + (putB n).length ≤ L then (Wm.accum g k + (n : Int) * 2 ^ (7 * k), ((k + (putB n).length : Nat) : Int), 0) else (0, 0, 10) := by
  intro r
  induction r with
  | zero => intro k n h; have := putB_pos n; omega
  | succ r ih =>
    intro k n h hg h0
    by_cases hL : L ≤ k
    · rw [if_neg (by have := putB_pos n; omega), Wm.numAt, if_pos hL]
    · rw [Wm.numAt, if_neg hL]
      by_cases hn : n < 128
      · have hp := putB_small n hn
        have hgk := hg 0 (by rw [hp]; simp)
        rw [hp] at hgk ⊢
        simp at hgk
        rw [if_neg (by omega), if_neg (by omega), if_pos (by simp; omega), Wm.accum, hgk]
        have e : ((n : Int) % 128) = (n : Int) := by omega
        rw [e]
        simp
      · have hp := putB_more n hn
        have hgk := hg 0 (by rw [hp]; simp)
        have hgk' : g k = ((n % 128 + 128 : Nat) : Int) := by rw [hp] at hgk; simpa using hgk
        have hlen : (putB n).length = (putB (n / 128)).length + 1 := by rw [hp]; simp
        rw [if_pos (by omega), ih (k + 1) (n / 128) (by omega) (fun i hi => ?_) (fun _ => by omega), hlen]
        · have e : (g k % 128) = ((n % 128 : Nat) : Int) := by rw [hgk']; omega
          rw [Wm.accum, e, Wm.pow7]
          have e2 : ((n / 128 : Nat) : Int) * (2 ^ (7 * k) * 128) + ((n % 128 : Nat) : Int) * 2 ^ (7 * k) = (n : Int) * 2 ^ (7 * k) := by
            have : (n : Int) = ((n / 128 : Nat) : Int) * 128 + ((n % 128 : Nat) : Int) := by omega
            rw [this, Int.add_mul, Int.mul_assoc, Int.mul_comm 128]
          have e3 : Wm.accum g k + ((n % 128 : Nat) : Int) * 2 ^ (7 * k) + ((n / 128 : Nat) : Int) * (2 ^ (7 * k) * 128) = Wm.accum g k + (n : Int) * 2 ^ (7 * k) := by rw [← e2]; omega
          rw [e3, show k + 1 + (putB (n / 128)).length = k + ((putB (n / 128)).length + 1) by omega]
        · have := hg (i + 1) (by omega)
          rw [show k + 1 + i = k + (i + 1) by omega, this, hp]
          simp

theorem num_put (g : Nat → Int) (L n : Nat) (hn : n ≤ 9223372036854775807) (hg : ∀ i, i < (putB n).length → g i = (putB n).getD i 0) :
    Wm.num g L = if (putB n).length ≤ L then ((n : Int), (((putB n).length : Nat) : Int), 0) else (0, 0, 10) := by
  have := numAt_put g L 9 0 n (putB_le n hn) (fun i hi => by rw [Nat.zero_add]; exact hg i hi) (fun h => absurd h (by omega))
  show Wm.numAt g L 9 0 = _
  simpa [Wm.accum] using this

theorem frameB_len (f : Nat → Int) (n : Nat) : (frameB f n).length = (putB n).length + n + 4 := by
  simp only [frameB, List.length_append, lst_length]
  rfl
theorem fn_left (A B : List Int) (i : Nat) (h : i < A.length) : fn (A ++ B) i = A.getD i 0 := by simp [fn, List.getD, List.getElem?_append_left h]
theorem fn_right (A B : List Int) (i : Nat) : fn (A ++ B) (A.length + i) = fn B i := by simp [fn, List.getD, List.getElem?_append_right (Nat.le_add_right _ _)]
theorem frame_head (f : Nat → Int) (n i : Nat) (h : i < (putB n).length) : fn (frameB f n) i = (putB n).getD i 0 := by
  unfold frameB
  rw [List.append_assoc]
  exact fn_left _ _ i h
theorem frame_load (f : Nat → Int) (n i : Nat) (h : i < n) : fn (frameB f n) ((putB n).length + i) = f i := by
  unfold frameB
  rw [List.append_assoc, fn_right, fn_left _ _ i (by rw [lst_length]; exact h)]
  exact lst_getD f n i h
theorem frame_sum (f : Nat → Int) (n i : Nat) (h : i < 4) : fn (frameB f n) ((putB n).length + n + i) = fourAt (Crc.sum (lstN f n)) i := by
  unfold frameB
  have e : (putB n ++ lst f n).length = (putB n).length + n := by rw [List.length_append, lst_length]
  rw [← e, fn_right]
  have hk : i = 0 ∨ i = 1 ∨ i = 2 ∨ i = 3 := by omega
  rcases hk with h | h | h | h <;> subst h <;> rfl

/-- A beginning of a frame is short (P1.6). -/
theorem unf_cut (f : Nat → Int) (n cut : Nat) (hn : n ≤ 65536) (hcut : cut < (putB n).length + n + 4) : (unf (fn (frameB f n)) cut).1 = 10 := by
  have h := num_put (fn (frameB f n)) cut n (by omega) (fun i hi => frame_head f n i hi)
  unfold unf
  rw [h]
  by_cases hc : (putB n).length ≤ cut
  · rw [if_pos hc]
    rw [if_neg (by simp), if_neg (by simp only; omega), if_pos (by simp only [Int.toNat_natCast]; omega)]
  · rw [if_neg hc]
    rw [if_pos (by decide)]

theorem rd4 (f : Nat → Int) : rd f 4 = (f 0).toNat + (f 1).toNat * 256 + (f 2).toNat * 65536 + (f 3).toNat * 16777216 := by simp [rd]
theorem rd_four (s : Nat) (h : s < 2 ^ 32) (g : Nat → Int) (hg : ∀ i, i < 4 → g i = fourAt s i) : rd g 4 = s := by
  rw [rd4, hg 0 (by omega), hg 1 (by omega), hg 2 (by omega), hg 3 (by omega)]
  simp [fourAt]
  omega

theorem lstN_split (g : Nat → Int) (n j : Nat) (h : j < n) : lstN g n = lstN g j ++ (g j).toNat :: lstN (sh g (j + 1)) (n - j - 1) := by
  have e : n = j + (1 + (n - j - 1)) := by omega
  apply List.ext_getElem?
  intro i
  by_cases hi : i < n
  · have l1 : (lstN g n)[i]? = some (g i).toNat := by simp [lstN, hi]
    rw [l1]
    have ll : (lstN g j).length = j := by simp [lstN]
    by_cases h1 : i < j
    · rw [List.getElem?_append_left (by omega)]
      simp [lstN, h1]
    · rw [List.getElem?_append_right (by omega), ll]
      by_cases h2 : i = j
      · subst h2; simp
      · obtain ⟨q, hq⟩ : ∃ q, i = j + 1 + q := ⟨i - j - 1, by omega⟩
        subst hq
        rw [show j + 1 + q - j = q + 1 by omega, List.getElem?_cons_succ]
        unfold lstN
        rw [List.getElem?_map, List.getElem?_range (by omega)]
        rfl
  · rw [List.getElem?_eq_none (by simp [lstN]; omega), List.getElem?_eq_none (by simp [lstN]; omega)]

theorem lstN_congr {g g' : Nat → Int} {n : Nat} (h : ∀ i, i < n → g i = g' i) : lstN g n = lstN g' n := by
  apply List.map_congr_left
  intro i hi
  rw [h i (List.mem_range.1 hi)]

/-- A frame with one byte of its load or of its sum turned has another sum (P1.7). -/
theorem unf_turned (f : Nat → Int) (n t : Nat) (g : Nat → Int) (hn : n ≤ 65536) (hby : ∀ i, 0 ≤ f i ∧ f i ≤ 255) (hg : ∀ i, 0 ≤ g i ∧ g i ≤ 255) (ht0 : (putB n).length ≤ t) (ht1 : t < (putB n).length + n + 4)
    (hsame : ∀ i, i < (putB n).length + n + 4 → i ≠ t → g i = fn (frameB f n) i) (hdiff : g t ≠ fn (frameB f n) t) : (unf g ((putB n).length + n + 4)).1 = 13 := by
  have h := num_put g ((putB n).length + n + 4) n (by omega) (fun i hi => by rw [hsame i (by omega) (by omega)]; exact frame_head f n i hi)
  have h' : Wm.num g ((putB n).length + n + 4) = ((n : Int), (((putB n).length : Nat) : Int), 0) := by rw [h, if_pos (by omega)]
  clear h
  unfold unf
  rw [h']
  rw [if_neg (by simp), if_neg (by simp only; omega), if_neg (by simp only [Int.toNat_natCast]; omega)]
  simp only [Int.toNat_natCast]
  have hs := Crc.sum_lt (lstN f n) (lstN_by hby n)
  rw [if_pos]
  intro heq
  generalize hh : (putB n).length = hd at *
  by_cases hp : t < hd + n
  · have h1 : rd (sh g (hd + n)) 4 = Crc.sum (lstN f n) := rd_four _ hs _ (fun i hi => by
      have := hsame (hd + n + i) (by omega) (by omega)
      rw [sh, this, ← hh]
      exact frame_sum f n i hi)
    rw [h1] at heq
    obtain ⟨j, hj⟩ : ∃ j, t = hd + j := ⟨t - hd, by omega⟩
    have hjn : j < n := by omega
    have hl : ∀ i, i < n → i ≠ j → sh g hd i = f i := fun i hi hne => by
      have := hsame (hd + i) (by omega) (by omega)
      rw [sh, this, ← hh]
      exact frame_load f n i hi
    have hd2 : sh g hd j ≠ f j := by
      intro e
      apply hdiff
      rw [hj, ← hh, frame_load f n j hjn, hh]
      exact e
    rw [lstN_split f n j hjn, lstN_split (sh g hd) n j hjn] at heq
    rw [lstN_congr (g := sh g hd) (g' := f) (fun i hi => hl i (by omega) (by omega)), lstN_congr (g := sh (sh g hd) (j + 1)) (g' := sh f (j + 1)) (fun i hi => hl (j + 1 + i) (by omega) (by omega))] at heq
    have b1 := hby j
    have b2 := sh_by hg hd j
    have := Crc.sum_turned _ _ _ _ (lstN_by hby j) (lstN_by (sh_by hby (j + 1)) _) (by omega) (by omega) heq
    omega
  · have h1 : lstN (sh g hd) n = lstN f n := lstN_congr (fun i hi => by
      have := hsame (hd + i) (by omega) (by omega)
      rw [sh, this, ← hh]
      exact frame_load f n i hi)
    rw [h1] at heq
    have h2 : rd (sh (fn (frameB f n)) (hd + n)) 4 = Crc.sum (lstN f n) := rd_four _ hs _ (fun i hi => by rw [sh, ← hh]; exact frame_sum f n i hi)
    rw [← h2, rd4, rd4] at heq
    obtain ⟨j, hj⟩ : ∃ j, t = hd + n + j := ⟨t - (hd + n), by omega⟩
    have hj4 : j < 4 := by omega
    have same : ∀ i, i < 4 → i ≠ j → sh g (hd + n) i = sh (fn (frameB f n)) (hd + n) i := fun i hi hne => hsame (hd + n + i) (by omega) (by omega)
    have b : ∀ i, i < 4 → 0 ≤ sh (fn (frameB f n)) (hd + n) i ∧ sh (fn (frameB f n)) (hd + n) i ≤ 255 := fun i hi => by
      have e : sh (fn (frameB f n)) (hd + n) i = fourAt (Crc.sum (lstN f n)) i := by rw [sh, ← hh]; exact frame_sum f n i hi
      rw [e]
      unfold fourAt
      omega
    have b' := fun i => sh_by hg (hd + n) i
    have dj : sh g (hd + n) j ≠ sh (fn (frameB f n)) (hd + n) j := by
      rw [sh, sh, ← hj]
      exact hdiff
    have hk : j = 0 ∨ j = 1 ∨ j = 2 ∨ j = 3 := by omega
    have c0 := b 0 (by omega)
    have c1 := b 1 (by omega)
    have c2 := b 2 (by omega)
    have c3 := b 3 (by omega)
    have d0 := b' 0
    have d1 := b' 1
    have d2 := b' 2
    have d3 := b' 3
    rcases hk with h | h | h | h <;> subst h
    · have s1 := same 1 (by omega) (by omega); have s2 := same 2 (by omega) (by omega); have s3 := same 3 (by omega) (by omega); rw [s1, s2, s3] at heq; omega
    · have s1 := same 0 (by omega) (by omega); have s2 := same 2 (by omega) (by omega); have s3 := same 3 (by omega) (by omega); rw [s1, s2, s3] at heq; omega
    · have s1 := same 0 (by omega) (by omega); have s2 := same 1 (by omega) (by omega); have s3 := same 3 (by omega) (by omega); rw [s1, s2, s3] at heq; omega
    · have s1 := same 0 (by omega) (by omega); have s2 := same 1 (by omega) (by omega); have s3 := same 2 (by omega) (by omega); rw [s1, s2, s3] at heq; omega
end Go.Proofs.YtdcclfnbpckioaaGreatDoor
