/-
  A log's sectors by their bytes: which of them are right, what a log has in all. No program, no condition.
-/
import Derived.Test.YtnaobkpncfbnaaaGreatDoorGa
namespace Go.Proofs.YtnaobkpncfbnaaaGreatDoor
open Go.RowKit
set_option linter.unusedVariables false

/-- The head of a log's sector. -/
def hdL (p u : Nat) : Nat → Int := fn [76, (u : Int), ((p % 256 : Nat) : Int), ((p / 256 % 256 : Nat) : Int)]
/-- The sector at a place of a log: its first record's number, so many bytes of f. -/
def lsec (p N u : Nat) (f : Nat → Int) : Nat → Int := sec (hdL p u) N u f
/-- A sector's bytes on a disk. -/
def secAt (dur : Nat → Int) (p : Nat) : Nat → Int := sh dur (p * 128)
structure Right (s : Nat → Int) (p N u : Nat) : Prop where
  hu : u ≤ 112
  h1 : 1 ≤ N
  h2 : N ≤ 4611686018427387904
  eq : ∀ i, i < 128 → s i = lsec p N u (sh s 12) i

theorem hdL_by {p u : Nat} (h : u ≤ 112) (i : Nat) : 0 ≤ hdL p u i ∧ hdL p u i ≤ 255 := by
  refine fn_by (fun x hx => ?_) i
  simp only [List.mem_cons, List.not_mem_nil, or_false] at hx
  rcases hx with rfl | rfl | rfl | rfl <;> omega
theorem sec_head (hd : Nat → Int) (N u : Nat) (f : Nat → Int) (i : Nat) (h : i < 4) : sec hd N u f i = hd i := by
  unfold sec body ov
  rw [if_neg (by omega), if_neg (by omega), if_neg (by omega), if_pos (by omega), Nat.sub_zero]
theorem sec_num (hd : Nat → Int) (N u : Nat) (f : Nat → Int) (i : Nat) (h : i < 8) : sec hd N u f (4 + i) = leAt N i := by
  unfold sec body ov
  rw [if_neg (by omega), if_neg (by omega), if_pos (by omega), show 4 + i - 4 = i by omega]
theorem sec_load (hd : Nat → Int) (N u : Nat) (f : Nat → Int) (i : Nat) (h : i < u) (hu : u ≤ 112) : sec hd N u f (12 + i) = f i := by
  unfold sec body ov
  rw [if_neg (by omega), if_pos (by omega), show 12 + i - 12 = i by omega]
theorem body_ext {hd : Nat → Int} {N u : Nat} {f g : Nat → Int} (h : ∀ i, i < u → f i = g i) : body hd N u f = body hd N u g := by
  funext i
  unfold body ov
  by_cases e : 12 ≤ i ∧ i < 12 + u
  · rw [if_pos e, if_pos e, h _ (by omega)]
  · rw [if_neg e, if_neg e]
theorem sec_ext {hd : Nat → Int} {N u : Nat} {f g : Nat → Int} (h : ∀ i, i < u → f i = g i) : sec hd N u f = sec hd N u g := by
  unfold sec
  rw [body_ext h]
theorem rd_le (N : Nat) {f : Nat → Int} : ∀ (k : Nat) (h : ∀ i, i < k → f i = leAt N i), rd f k = N % 256 ^ k
  | 0, _ => by simp [rd, Nat.mod_one]
  | k + 1, h => by
    rw [rd, rd_le N k (fun i hi => h i (by omega)), h k (by omega), Nat.mod_pow_succ]
    unfold leAt
    rw [Int.toNat_natCast, Nat.mul_comm]
theorem Right.used {s : Nat → Int} {p N u : Nat} (h : Right s p N u) : s 1 = (u : Int) := by
  rw [h.eq 1 (by decide)]
  unfold lsec
  rw [sec_head _ _ _ _ 1 (by decide)]
  rfl
theorem Right.num {s : Nat → Int} {p N u : Nat} (h : Right s p N u) : numS s = (N : Int) := by
  have h2 := h.h2
  unfold numS
  rw [rd_le N 8 (fun i hi => ?_)]
  · rw [Nat.mod_eq_of_lt (by have : (256 : Nat) ^ 8 = 18446744073709551616 := by decide
                             omega)]
    unfold wrap64
    omega
  · show s (4 + i) = _
    rw [h.eq _ (by omega)]
    exact sec_num _ _ _ _ i hi
theorem Right.uniq {s : Nat → Int} {p N u N' u' : Nat} (h : Right s p N u) (k : Right s p N' u') : N = N' ∧ u = u' := by
  have a := h.used
  have b := k.used
  have c := h.num
  have d := k.num
  rw [a] at b
  rw [c] at d
  omega
theorem Right.ext {s s' : Nat → Int} {p N u : Nat} (h : Right s p N u) (e : ∀ i, i < 128 → s i = s' i) : Right s' p N u := by
  refine ⟨h.hu, h.h1, h.h2, fun i hi => ?_⟩
  rw [← e i hi, h.eq i hi]
  unfold lsec
  rw [sec_ext (fun j hj => ?_)]
  have := h.hu
  exact e _ (by omega)
theorem lsec_right (p : Nat) {N u : Nat} {f : Nat → Int} (hu : u ≤ 112) (h1 : 1 ≤ N) (h2 : N ≤ 4611686018427387904) : Right (lsec p N u f) p N u := by
  refine ⟨hu, h1, h2, fun i hi => ?_⟩
  show sec _ _ _ _ _ = sec _ _ _ _ _
  rw [sec_ext (fun j hj => ?_)]
  exact (sec_load _ _ _ _ j hj hu).symm
theorem blank_wrong {s : Nat → Int} {p N u : Nat} (h : s 0 = 0) : ¬ Right s p N u := fun k => by
  have := k.eq 0 (by decide)
  rw [h] at this
  unfold lsec at this
  rw [sec_head _ _ _ _ 0 (by decide)] at this
  have e : hdL p u 0 = 76 := rfl
  rw [e] at this
  exact absurd this (by decide)
theorem secAt_by {dur : Nat → Int} (h : ∀ i, 0 ≤ dur i ∧ dur i ≤ 255) (p i : Nat) : 0 ≤ secAt dur p i ∧ secAt dur p i ≤ 255 := h _

/-- The bytes of a log, sector behind sector. -/
def lg (dur : Nat → Int) (j : Nat) : Int := dur (j / 112 * 128 + 12 + j % 112)
theorem lg_at (dur : Nat → Int) (p i : Nat) (h : i < 112) : lg dur (p * 112 + i) = sh (secAt dur p) 12 i := by
  unfold lg secAt sh
  rw [show (p * 112 + i) / 112 = p by omega, show (p * 112 + i) % 112 = i by omega]
  congr 1
  omega
/-- The first k sectors are a log's, all but the last full; so many bytes. -/
structure Taken (dur : Nat → Int) (first tot k : Nat) : Prop where
  none : k = 0 → first = 0 ∧ tot = 0
  full : ∀ p, p + 1 < k → Right (secAt dur p) p first 112
  last : ∀ q, k = q + 1 → q * 112 ≤ tot ∧ tot ≤ q * 112 + 112 ∧ Right (secAt dur q) q first (tot - q * 112)
/-- Where a log's sectors end. -/
def Ends (dur : Nat → Int) (n first tot k : Nat) : Prop := k = n ∨ (0 < k ∧ tot < k * 112) ∨ ∀ N u, Right (secAt dur k) k N u → 0 < k ∧ N ≠ first
/-- What a log of n sectors has. -/
def Has (dur : Nat → Int) (n first tot : Nat) : Prop := ∃ k, k ≤ n ∧ Taken dur first tot k ∧ Ends dur n first tot k
theorem Taken.nil (dur : Nat → Int) : Taken dur 0 0 0 := ⟨fun _ => ⟨rfl, rfl⟩, fun p h => by omega, fun q h => by omega⟩
theorem Taken.step {dur : Nat → Int} {first tot k N u : Nat} (h : Taken dur first tot k) (ht : tot = k * 112) (hr : Right (secAt dur k) k N u) (hf : k = 0 ∨ N = first) : Taken dur N (tot + u) (k + 1) := by
  have hu := hr.hu
  refine ⟨fun e => by omega, fun p hp => ?_, fun q hq => ?_⟩
  · by_cases e : p + 1 < k
    · rcases hf with h0 | rfl
      · omega
      · exact h.full p e
    · obtain rfl : k = p + 1 := by omega
      rcases hf with h0 | rfl
      · omega
      · have := (h.last p rfl).2.2
        rw [show tot - p * 112 = 112 by omega] at this
        exact this
  · obtain rfl : q = k := by omega
    refine ⟨by omega, by omega, ?_⟩
    rw [show tot + u - q * 112 = u by omega]
    exact hr
/-- Of every sector that was taken. -/
theorem Taken.at {dur : Nat → Int} {first tot k : Nat} (h : Taken dur first tot k) (p : Nat) (hp : p < k) : ∃ u, Right (secAt dur p) p first u ∧ (p + 1 < k → u = 112) ∧ (p + 1 = k → u = tot - p * 112) := by
  by_cases e : p + 1 < k
  · exact ⟨112, h.full p e, fun _ => rfl, fun e' => by omega⟩
  · obtain rfl : k = p + 1 := by omega
    exact ⟨_, (h.last p rfl).2.2, fun e' => by omega, fun _ => rfl⟩
theorem Has.uniq {dur : Nat → Int} {n f t f' t' : Nat} (h : Has dur n f t) (h' : Has dur n f' t') : f = f' ∧ t = t' := by
  obtain ⟨k, hk, hT, hE⟩ := h
  obtain ⟨k', hk', hT', hE'⟩ := h'
  have key : ∀ {f t f' t' k k' : Nat}, k' ≤ n → Taken dur f t k → Ends dur n f t k → Taken dur f' t' k' → ¬ k < k' := by
    intro f t f' t' k k' hk' hT hE hT' hlt
    obtain ⟨u', r', _, e2⟩ := hT'.at k hlt
    have hff : 0 < k → f = f' := fun h0 => by
      obtain ⟨a, ra, _⟩ := hT.at 0 h0
      obtain ⟨b, rb, _⟩ := hT'.at 0 (by omega)
      exact (ra.uniq rb).1
    rcases hE with rfl | ⟨h0, hlt2⟩ | hN
    · omega
    · obtain ⟨q, rfl⟩ : ∃ q, k = q + 1 := ⟨k - 1, by omega⟩
      have l1 := (hT.last q rfl)
      have l2 := hT'.full q (by omega)
      have := (l1.2.2.uniq l2).2
      omega
    · have := hN f' u' r'
      exact this.2 (hff this.1).symm
  have e : k = k' := by
    have a := key hk' hT hE hT'
    have b := key hk hT' hE' hT
    omega
  subst e
  rcases Nat.eq_zero_or_pos k with rfl | h0
  · have a := hT.none rfl
    have b := hT'.none rfl
    omega
  · obtain ⟨q, rfl⟩ : ∃ q, k = q + 1 := ⟨k - 1, by omega⟩
    obtain ⟨a1, a2, a3⟩ := hT.last q rfl
    obtain ⟨b1, b2, b3⟩ := hT'.last q rfl
    have := a3.uniq b3
    omega
theorem Has.le {dur : Nat → Int} {n f t : Nat} (h : Has dur n f t) : t ≤ n * 112 := by
  obtain ⟨k, hk, hT, _⟩ := h
  rcases Nat.eq_zero_or_pos k with rfl | h0
  · have := hT.none rfl; omega
  · obtain ⟨q, rfl⟩ : ∃ q, k = q + 1 := ⟨k - 1, by omega⟩
    have := hT.last q rfl
    omega
theorem Has.first {dur : Nat → Int} {n f t : Nat} (h : Has dur n f t) : f ≤ 4611686018427387904 ∧ (f = 0 → t = 0) := by
  obtain ⟨k, hk, hT, _⟩ := h
  rcases Nat.eq_zero_or_pos k with rfl | h0
  · have := hT.none rfl; omega
  · obtain ⟨u, hr, _⟩ := hT.at 0 h0
    exact ⟨hr.h2, fun e => by have := hr.h1; omega⟩
end Go.Proofs.YtnaobkpncfbnaaaGreatDoor
