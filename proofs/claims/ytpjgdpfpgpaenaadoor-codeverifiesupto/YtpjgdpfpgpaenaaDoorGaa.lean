/-
  Whole numbers by their digits in a base: which digit stands where, how many there are, how a number that is cut off at a place goes on. No program, no condition.
  Which texts are numbers, and which number each one is: a text is one just where it is the decimal numeral of a whole number of at most 200 digits. No program, no condition.
-/
import Derived.Lib.ItoaNum
import Derived.Lib.Hide
import Derived.Lib.AtoiAllCases
namespace Go.Proofs.YtpjgdpfpgpaenaaDoor
open Go

theorem div_pow_succ (v b i : Nat) : v / b ^ (i + 1) = v / b ^ i / b := by rw [Nat.pow_succ, Nat.div_div_eq_div_mul]
theorem pow_pos' (b i : Nat) (h : 0 < b) : 0 < b ^ i := Nat.pos_of_ne_zero (fun e => by have := Nat.pow_eq_zero.1 e; omega)

/-- The limb of nine digits at a place. -/
def lb (v i : Nat) : Nat := v / 1000000000 ^ i % 1000000000
/-- How many limbs a number has (nought has none). -/
def ln (v : Nat) : Nat := if h : v = 0 then 0 else ln (v / 1000000000) + 1
decreasing_by omega

theorem ln_zero : ln 0 = 0 := by rw [ln]; simp
theorem ln_pos {v : Nat} (h : v ≠ 0) : ln v = ln (v / 1000000000) + 1 := by rw [ln, dif_neg h]
theorem lb_lt (v i : Nat) : lb v i < 1000000000 := Nat.mod_lt _ (by decide)
theorem lb_zero (v : Nat) : lb v 0 = v % 1000000000 := by simp [lb]
theorem lb_succ (v i : Nat) : lb v (i + 1) = lb (v / 1000000000) i := by
  unfold lb
  rw [Nat.pow_succ, Nat.mul_comm, Nat.div_div_eq_div_mul]
theorem lt_pow_ln : ∀ (v : Nat), v < 1000000000 ^ ln v := by
  intro v
  induction v using Nat.strongRecOn with
  | _ v ih =>
    by_cases h : v = 0
    · subst h; rw [ln_zero]; decide
    · rw [ln_pos h, Nat.pow_succ]
      have := ih (v / 1000000000) (by omega)
      omega
theorem pow_ln_le : ∀ (v : Nat), v ≠ 0 → 1000000000 ^ (ln v - 1) ≤ v := by
  intro v
  induction v using Nat.strongRecOn with
  | _ v ih =>
    intro h
    rw [ln_pos h]
    by_cases h2 : v / 1000000000 = 0
    · rw [h2, ln_zero]; simp; omega
    · have := ih (v / 1000000000) (by omega) h2
      have e : ln (v / 1000000000) + 1 - 1 = ln (v / 1000000000) - 1 + 1 := by
        have := ln_pos h2
        omega
      rw [e, Nat.pow_succ]
      omega
theorem ln_le {v k : Nat} (h : v < 1000000000 ^ k) : ln v ≤ k := by
  by_cases h0 : v = 0
  · subst h0; rw [ln_zero]; omega
  · have h1 := pow_ln_le v h0
    by_cases h2 : ln v ≤ k
    · exact h2
    · exfalso
      have := Nat.pow_le_pow_right (n := 1000000000) (by decide) (show k ≤ ln v - 1 by omega)
      omega
theorem ln_mono {a b : Nat} (h : a ≤ b) : ln a ≤ ln b := ln_le (Nat.lt_of_le_of_lt h (lt_pow_ln b))
theorem lt_of_ln {a b : Nat} (h : ln a < ln b) : a < b := Nat.lt_of_not_le (fun k => by have := ln_mono k; omega)
theorem div_ln {v i : Nat} (h : ln v ≤ i) : v / 1000000000 ^ i = 0 :=
  Nat.div_eq_of_lt (Nat.lt_of_lt_of_le (lt_pow_ln v) (Nat.pow_le_pow_right (by decide) h))
theorem lb_out {v i : Nat} (h : ln v ≤ i) : lb v i = 0 := by unfold lb; rw [div_ln h]
theorem lb_top {v : Nat} (h : v ≠ 0) : lb v (ln v - 1) ≠ 0 := by
  have h1 := pow_ln_le v h
  have h2 := lt_pow_ln v
  have h3 := ln_pos h
  unfold lb
  have h4 : v / 1000000000 ^ (ln v - 1) < 1000000000 := Nat.div_lt_of_lt_mul (by rw [← Nat.pow_succ, show (ln v - 1).succ = ln v by omega]; exact h2)
  have h5 : 0 < v / 1000000000 ^ (ln v - 1) := Nat.div_pos h1 (pow_pos' _ _ (by decide))
  rw [Nat.mod_eq_of_lt h4]
  omega
theorem ln_eq_zero {v : Nat} : ln v = 0 ↔ v = 0 := by
  constructor
  · intro h
    by_cases h0 : v = 0
    · exact h0
    · rw [ln_pos h0] at h; omega
  · rintro rfl; exact ln_zero
/-- Where k places hold v, and the last one is not 0, v has k limbs. -/
theorem ln_unique {v k : Nat} (h : v < 1000000000 ^ k) (h0 : k = 0 ∨ lb v (k - 1) ≠ 0) : ln v = k := by
  rcases h0 with rfl | h0
  · rw [ln_eq_zero]; simpa using h
  · have h1 := ln_le h
    by_cases h2 : ln v ≤ k - 1
    · exact absurd (lb_out h2) h0
    · omega

/-- One number is cut at each place of another one. -/
theorem lt_of_top {a b i : Nat} (h : a / 1000000000 ^ (i + 1) = b / 1000000000 ^ (i + 1)) (h2 : lb a i < lb b i) : a < b := by
  unfold lb at h2
  rw [div_pow_succ, div_pow_succ] at h
  have h3 : a / 1000000000 ^ i < b / 1000000000 ^ i := by omega
  exact Nat.lt_of_not_le (fun k => by have := Nat.div_le_div_right (c := 1000000000 ^ i) k; omega)
theorem top_step {a b i : Nat} (h : a / 1000000000 ^ (i + 1) = b / 1000000000 ^ (i + 1)) (h2 : lb a i = lb b i) : a / 1000000000 ^ i = b / 1000000000 ^ i := by
  unfold lb at h2
  rw [div_pow_succ, div_pow_succ] at h
  omega

/-- A sum's carry at a place. -/
theorem plus_step {n m c i : Nat} (h : c + n / 1000000000 ^ i + m / 1000000000 ^ i = (n + m) / 1000000000 ^ i) :
    (c + (lb n i + lb m i)) % 1000000000 = lb (n + m) i ∧ (c + (lb n i + lb m i)) / 1000000000 + n / 1000000000 ^ (i + 1) + m / 1000000000 ^ (i + 1) = (n + m) / 1000000000 ^ (i + 1) := by
  unfold lb
  rw [div_pow_succ, div_pow_succ, div_pow_succ]
  omega
/-- What is borrowed at a place. -/
theorem minus_step {n m c i : Nat} (hc : c ≤ 1) (h : n / 1000000000 ^ i = m / 1000000000 ^ i + c + (n - m) / 1000000000 ^ i) :
    (lb n i + 1000000000 - lb m i - c) % 1000000000 = lb (n - m) i ∧ (lb n i + 1000000000 - lb m i - c) / 1000000000 ≤ 1 ∧ n / 1000000000 ^ (i + 1) = m / 1000000000 ^ (i + 1) + (1 - (lb n i + 1000000000 - lb m i - c) / 1000000000) + (n - m) / 1000000000 ^ (i + 1) := by
  unfold lb
  rw [div_pow_succ, div_pow_succ, div_pow_succ]
  omega
/-- A product's carry at a place: x and a times m. -/
theorem times_step {x a m c j : Nat} (h : c + x / 1000000000 ^ j + a * (m / 1000000000 ^ j) = (x + a * m) / 1000000000 ^ j) :
    (c + (lb x j + a * lb m j)) % 1000000000 = lb (x + a * m) j ∧ (c + (lb x j + a * lb m j)) / 1000000000 + x / 1000000000 ^ (j + 1) + a * (m / 1000000000 ^ (j + 1)) = (x + a * m) / 1000000000 ^ (j + 1) := by
  unfold lb
  rw [div_pow_succ, div_pow_succ, div_pow_succ]
  have e : a * (m / 1000000000 ^ j) = 1000000000 * (a * (m / 1000000000 ^ j / 1000000000)) + a * (m / 1000000000 ^ j % 1000000000) := by
    rw [← Nat.mul_assoc, Nat.mul_comm 1000000000 a, Nat.mul_assoc, ← Nat.mul_add, Nat.div_add_mod]
  omega
end Go.Proofs.YtpjgdpfpgpaenaaDoor

namespace Go.Proofs.YtpjgdpfpgpaenaaDoor
open Go

def isDg (c : UInt8) : Prop := 48 ≤ c.toNat ∧ c.toNat ≤ 57
def dval (l : List UInt8) : Nat := l.foldl (fun a c => a * 10 + (c.toNat - 48)) 0
theorem dval_snoc (l : List UInt8) (c : UInt8) : dval (l ++ [c]) = dval l * 10 + (c.toNat - 48) := by simp [dval]

theorem concat_of {α : Type} (l : List α) (h : l ≠ []) : ∃ a c, l = a ++ [c] := ⟨l.dropLast, l.getLast h, (List.dropLast_concat_getLast h).symm⟩
theorem ofNat_dg {c : UInt8} (h : isDg c) : UInt8.ofNat (48 + (c.toNat - 48)) = c := by
  rw [show 48 + (c.toNat - 48) = c.toNat by have := h.1; omega]
  exact UInt8.ofNat_toNat

theorem dec_form : ∀ (n : Nat) (l : List UInt8), l.length = n → l ≠ [] → (∀ c ∈ l, isDg c) → (l.head? = some 48 → l.length = 1) → l = Lib.decDigits (dval l) := by
  intro n
  induction n with
  | zero => intro l h hne; exact absurd (List.length_eq_zero_iff.1 h) hne
  | succ n ih =>
    intro l h hne hd h0
    obtain ⟨a, c, rfl⟩ := concat_of l hne
    have hc := hd c (by simp)
    rw [dval_snoc]
    by_cases ha : a = []
    · subst ha
      have : c.toNat - 48 < 10 := by have := hc.2; omega
      simp only [List.nil_append, dval, List.foldl_nil, Nat.zero_mul, Nat.zero_add]
      rw [Lib.decDigits_one this, ofNat_dg hc]
    · have hl : a.length = n := by simpa using h
      have hn : n ≠ 0 := fun e => ha (List.length_eq_zero_iff.1 (by omega))
      have hh : (a ++ [c]).head? = a.head? := by cases a with | nil => exact absurd rfl ha | cons x y => rfl
      have hz : a.head? ≠ some 48 := fun e => by
        have := h0 (by rw [hh]; exact e)
        omega
      have e := ih a hl ha (fun x hx => hd x (by simp [hx])) (fun e => absurd e hz)
      have hp : dval a ≠ 0 := fun e0 => hz (by rw [e, e0, Lib.decDigits_one (by decide)]; rfl)
      have hlt : c.toNat - 48 < 10 := by have := hc.2; omega
      rw [Lib.decDigits, dif_neg (by omega), show (dval a * 10 + (c.toNat - 48)) / 10 = dval a by omega, show (dval a * 10 + (c.toNat - 48)) % 10 = c.toNat - 48 by omega, ofNat_dg hc, ← e]

theorem dec_ne (u : Nat) : Lib.decDigits u ≠ [] := fun e => by
  have := Lib.decDigits_length u
  have := Lib.nDigits_pos u
  rw [e] at *
  simp at *
  omega
theorem dec_dg (u : Nat) : ∀ c ∈ Lib.decDigits u, isDg c := by
  intro c hc
  rw [Lib.decDigits_eq] at hc
  obtain ⟨t, _, rfl⟩ := List.mem_map.1 hc
  unfold isDg Lib.dg
  have : u / 10 ^ (Lib.nDigits u - 1 - t) % 10 < 10 := Nat.mod_lt _ (by decide)
  generalize u / 10 ^ (Lib.nDigits u - 1 - t) % 10 = d at *
  rw [UInt8.toNat_ofNat']
  omega
theorem dec_head (u : Nat) : (Lib.decDigits u).head? = some 48 → u = 0 := by
  induction u using Nat.strongRecOn with
  | _ u ih =>
    by_cases h : u < 10
    · rw [Lib.decDigits_one h]
      intro e
      have e2 : UInt8.ofNat (48 + u) = 48 := by simpa using e
      have := congrArg UInt8.toNat e2
      rw [UInt8.toNat_ofNat'] at this
      simp at this
      omega
    · rw [Lib.decDigits, dif_neg h]
      intro e
      have hh : (Lib.decDigits (u / 10) ++ [UInt8.ofNat (48 + u % 10)]).head? = (Lib.decDigits (u / 10)).head? := by
        generalize hd : Lib.decDigits (u / 10) = l
        cases l with
        | nil => exact absurd hd (dec_ne _)
        | cons x y => rfl
      have := ih (u / 10) (by omega) (by rw [← hh]; exact e)
      omega
theorem dec_len1 (u : Nat) (h : (Lib.decDigits u).head? = some 48) : (Lib.decDigits u).length = 1 := by
  rw [dec_head u h, Lib.decDigits_one (by decide)]; rfl
theorem dval_dec (u : Nat) : dval (Lib.decDigits u) = u := by
  induction u using Nat.strongRecOn with
  | _ u ih =>
    by_cases h : u < 10
    · rw [Lib.decDigits_one h]
      simp only [dval, List.foldl_cons, List.foldl_nil, Nat.zero_mul, Nat.zero_add]
      rw [UInt8.toNat_ofNat']
      omega
    · rw [Lib.decDigits, dif_neg h, dval_snoc, ih (u / 10) (by omega), UInt8.toNat_ofNat']
      omega
theorem dec_inj {a b : Nat} (h : Lib.decDigits a = Lib.decDigits b) : a = b := by rw [← dval_dec a, ← dval_dec b, h]

/-- Digits, at most 200, without noughts ahead. -/
def digs (l : List UInt8) : Prop := l ≠ [] ∧ l.length ≤ 200 ∧ (∀ c ∈ l, isDg c) ∧ (l.head? = some 48 → l.length = 1)
/-- A number's text. -/
def canP (l : List UInt8) : Prop := digs l ∨ ∃ r, l = 45 :: r ∧ digs r ∧ r.head? ≠ some 48
theorem digs_iff (l : List UInt8) : digs l ↔ ∃ u : Nat, l = Lib.decDigits u ∧ Lib.nDigits u ≤ 200 := by
  constructor
  · rintro ⟨h1, h2, h3, h4⟩
    have e := dec_form l.length l rfl h1 h3 h4
    exact ⟨dval l, e, by rw [← Lib.decDigits_length, ← e]; exact h2⟩
  · rintro ⟨u, rfl, h⟩
    exact ⟨dec_ne u, by rw [Lib.decDigits_length]; exact h, dec_dg u, dec_len1 u⟩
theorem canP_iff (l : List UInt8) : canP l ↔ ∃ v : Int, l = Lib.itoa v ∧ Lib.nDigits v.natAbs ≤ 200 := by
  constructor
  · rintro (h | ⟨r, rfl, h, h0⟩)
    · obtain ⟨u, rfl, hu⟩ := (digs_iff l).1 h
      exact ⟨u, by simp [Lib.itoa], by simpa using hu⟩
    · obtain ⟨u, rfl, hu⟩ := (digs_iff r).1 h
      have hne : u ≠ 0 := fun e => h0 (by rw [e, Lib.decDigits_one (by decide)]; rfl)
      refine ⟨-(u : Int), ?_, by simpa using hu⟩
      have : (-(u : Int)) < 0 := by omega
      unfold Lib.itoa
      rw [if_pos this]
      simp
  · rintro ⟨v, rfl, hv⟩
    by_cases h : v < 0
    · refine .inr ⟨Lib.decDigits v.natAbs, by simp [Lib.itoa, h], (digs_iff _).2 ⟨_, rfl, hv⟩, fun e => ?_⟩
      have := dec_head _ e
      omega
    · refine .inl ((digs_iff _).2 ⟨v.natAbs, ?_, hv⟩)
      simp [Lib.itoa, h]
      congr 1
      omega
theorem itoa_inj {a b : Int} (h : Lib.itoa a = Lib.itoa b) : a = b := by
  have hm : ∀ (u : Nat) (r : List UInt8), Lib.decDigits u ≠ 45 :: r := fun u r e => by
    have := dec_dg u 45 (by rw [e]; simp)
    exact absurd this.1 (by decide)
  unfold Lib.itoa at h
  by_cases ha : a < 0 <;> by_cases hb : b < 0
  · rw [if_pos ha, if_pos hb] at h
    injection h with _ h
    have := dec_inj h
    omega
  · rw [if_pos ha, if_neg hb] at h
    exact absurd h.symm (hm _ _)
  · rw [if_neg ha, if_pos hb] at h
    exact absurd h (hm _ _)
  · rw [if_neg ha, if_neg hb] at h
    have := dec_inj h
    omega

/-- The text of a number. -/
def txt (v : Int) : ByteArray := ⟨(Lib.itoa v).toArray⟩
theorem txt_inj {a b : Int} (h : txt a = txt b) : a = b := itoa_inj (by
  have := congrArg (fun s : ByteArray => s.data.toList) h
  simpa [txt] using this)
theorem txt_data (v : Int) : (txt v).data.toList = Lib.itoa v := by simp [txt]
/-- A number's text, and which one. -/
def IsNum (s : ByteArray) (v : Int) : Prop := s = txt v ∧ Lib.nDigits v.natAbs ≤ 200
theorem canP_num (s : ByteArray) : canP s.data.toList ↔ ∃ v, IsNum s v := by
  rw [canP_iff]
  constructor
  · rintro ⟨v, h, hv⟩
    refine ⟨v, ?_, hv⟩
    cases s with
    | mk d => simp only [txt] at h ⊢; rw [← h]
  · rintro ⟨v, rfl, hv⟩
    exact ⟨v, txt_data v, hv⟩
end Go.Proofs.YtpjgdpfpgpaenaaDoor
