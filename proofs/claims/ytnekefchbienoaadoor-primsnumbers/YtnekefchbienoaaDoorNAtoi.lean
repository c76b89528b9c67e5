/-
  How strconv.Atoi reads a number's text: its number, or that it is out of range. No program, no condition.
-/
import Derived.Test.YtnekefchbienoaaDoorNumText
import Derived.Lib.AtoiAllCases
namespace Go.Proofs.YtnekefchbienoaaDoor
open Go

def dv (acc : Nat) (l : List UInt8) : Nat := l.foldl (fun a c => a * 10 + (c.toNat - 48)) acc
theorem dv_le : ∀ (l : List UInt8) (acc : Nat), acc ≤ dv acc l
  | [], acc => Nat.le_refl _
  | c :: r, acc => by
    have := dv_le r (acc * 10 + (c.toNat - 48))
    show acc ≤ dv (acc * 10 + (c.toNat - 48)) r
    omega
theorem parse_dv : ∀ (l : List UInt8) (acc : Nat), (∀ c ∈ l, isDg c) → acc < 18446744073709551616 → Lib.parseUint10 acc l = if dv acc l < 18446744073709551616 then .ok (dv acc l) else .range
  | [], acc, _, h => by
    show Lib.NumEnd.ok acc = _
    rw [if_pos (show dv acc [] < _ from h)]; rfl
  | c :: r, acc, hd, h => by
    have hc : 48 ≤ c.toNat ∧ c.toNat ≤ 57 := hd c (by simp)
    have hl := dv_le r (acc * 10 + (c.toNat - 48))
    have e : dv acc (c :: r) = dv (acc * 10 + (c.toNat - 48)) r := rfl
    rw [Lib.parseUint10, if_pos hc, e]
    by_cases h1 : 1844674407370955162 ≤ acc
    · rw [if_pos h1, if_neg (by omega)]
    · rw [if_neg h1]
      by_cases h2 : 18446744073709551616 ≤ acc * 10 + (c.toNat - 48)
      · rw [if_pos h2, if_neg (by omega)]
      · rw [if_neg h2]
        exact parse_dv r _ (fun x hx => hd x (by simp [hx])) (by omega)
theorem parse_dec (u : Nat) : Lib.parseMag (Lib.decDigits u) = if u < 18446744073709551616 then .ok u else .range := by
  unfold Lib.parseMag
  rw [if_neg (dec_ne u), parse_dv _ 0 (dec_dg u) (by decide)]
  have e : dv 0 (Lib.decDigits u) = u := dval_dec u
  rw [e]
theorem atoi_txt (v : Int) : Lib.atoiAll (txt v).data.toList = if -9223372036854775808 ≤ v ∧ v ≤ 9223372036854775807 then .ok v else .range := by
  rw [txt_data]
  unfold Lib.itoa
  by_cases h : v < 0
  · rw [if_pos h, Lib.atoiAll_minus, parse_dec]
    by_cases h1 : v.natAbs < 18446744073709551616
    · rw [if_pos h1]
      by_cases h2 : -9223372036854775808 ≤ v
      · rw [if_pos ⟨h2, by omega⟩]
        unfold Lib.signed
        simp only
        rw [if_neg (by omega)]
        congr 1
        omega
      · rw [if_neg (by omega)]
        unfold Lib.signed
        simp only
        rw [if_pos (by omega)]
    · rw [if_neg h1, if_neg (by omega)]; rfl
  · rw [if_neg h]
    have hd := dec_dg v.toNat
    have hne := dec_ne v.toNat
    have hp := parse_dec v.toNat
    generalize Lib.decDigits v.toNat = l at *
    cases l with
    | nil => exact absurd rfl hne
    | cons c r =>
      have hc := hd c (by simp)
      rw [Lib.atoiAll_plain c r (by have := hc.1; omega) (by have := hc.1; omega), hp]
      by_cases h1 : v.toNat < 18446744073709551616
      · rw [if_pos h1]
        by_cases h2 : v ≤ 9223372036854775807
        · rw [if_pos ⟨by omega, h2⟩]
          unfold Lib.signless
          simp only
          rw [if_neg (by omega)]
          congr 1
          omega
        · rw [if_neg (by omega)]
          unfold Lib.signless
          simp only
          rw [if_pos (by omega)]
      · rw [if_neg h1, if_neg (by omega)]; rfl
end Go.Proofs.YtnekefchbienoaaDoor
