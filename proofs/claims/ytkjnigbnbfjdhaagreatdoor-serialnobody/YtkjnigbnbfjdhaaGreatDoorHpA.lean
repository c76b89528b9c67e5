/-
  Contracts of a heap's small parts: leads, word, number, missing, told, kept, count, isOld, isRoot, mayHave, mayBeRoom.
-/
import Derived.Test.YtkjnigbnbfjdhaaGreatDoorHpM
import Derived.Laws.BitsAllLaws
namespace Go.Proofs.YtkjnigbnbfjdhaaGreatDoor
open Go.RowKit
set_option linter.unusedVariables false

/-- A heap's own block. -/
def Hd (w : World) (h : Nat) (so : Value) (oc om : Int) (sy : Value) (yc ym : Int) (sr st : Value) (sft mi ma : Int) (sp : Bool) : Prop := w.heap[h]? = some (.cells #[so, .int .i64 oc, .int .i64 om, sy, .int .i64 yc, .int .i64 ym, sr, st, .int .i64 sft, .int .i64 mi, .int .i64 ma, .bool sp] 37 (0, 0))
theorem hget {w : World} {h : Nat} {so : Value} {oc om : Int} {sy : Value} {yc ym : Int} {sr st : Value} {sft mi ma : Int} {sp : Bool} (k : Hd w h so oc om sy yc ym sr st sft mi ma sp) : w.cell? ⟨h, 0, none⟩ = some so ∧ w.cell? ⟨h, 1, none⟩ = some (.int .i64 oc) ∧ w.cell? ⟨h, 2, none⟩ = some (.int .i64 om) ∧ w.cell? ⟨h, 3, none⟩ = some sy ∧ w.cell? ⟨h, 4, none⟩ = some (.int .i64 yc) ∧ w.cell? ⟨h, 5, none⟩ = some (.int .i64 ym) ∧ w.cell? ⟨h, 6, none⟩ = some sr ∧ w.cell? ⟨h, 7, none⟩ = some st ∧ w.cell? ⟨h, 8, none⟩ = some (.int .i64 sft) ∧ w.cell? ⟨h, 9, none⟩ = some (.int .i64 mi) ∧ w.cell? ⟨h, 10, none⟩ = some (.int .i64 ma) ∧ w.cell? ⟨h, 11, none⟩ = some (.bool sp) :=
  ⟨by rw [cells_at k 0]; rfl, by rw [cells_at k 1]; rfl, by rw [cells_at k 2]; rfl, by rw [cells_at k 3]; rfl, by rw [cells_at k 4]; rfl, by rw [cells_at k 5]; rfl, by rw [cells_at k 6]; rfl, by rw [cells_at k 7]; rfl, by rw [cells_at k 8]; rfl, by rw [cells_at k 9]; rfl, by rw [cells_at k 10]; rfl, by rw [cells_at k 11]; rfl⟩

/-- A word as it is kept, and as it is told: none, or the object's of a number. -/
def kw : Option Nat → Int
  | none => 0
  | some j => 2 * (j : Int) + 2
def tw (sft : Nat) : Option Nat → Int
  | none => 0
  | some j => 2 * (j : Int) + 2 + (sft : Int)
def Dr (w w' : World) : Prop := ∃ q, w' = w.drewN q
theorem Dr.refl (w : World) : Dr w w := ⟨0, rfl⟩
theorem Dr.below {w w' : World} {B : Nat} (h : Dr w w') : Below B w w' := by obtain ⟨q, rfl⟩ := h; exact blw_drewN q (Below.refl _ _)
theorem drewN_drewN (w : World) (p q : Nat) : (w.drewN p).drewN q = w.drewN (p + q) := by
  induction q with
  | zero => rfl
  | succ q ih => show ((w.drewN p).drewN q).drew = (w.drewN (p + q)).drew; rw [ih]
theorem Dr.trans {a b c : World} (h : Dr a b) (k : Dr b c) : Dr a c := by obtain ⟨p, rfl⟩ := h; obtain ⟨q, rfl⟩ := k; exact ⟨p + q, drewN_drewN a p q⟩
theorem Dr.drew {a b : World} (h : Dr a b) : Dr a b.drew := h.trans ⟨1, rfl⟩
theorem and1_i64 (a : Nat) (ha : a < 4611686018427387904) : bits .and .i64 (a : Int) 1 = ((a % 2 : Nat) : Int) := by
  have hx : a &&& 1 < 2 ^ 63 := Nat.and_lt_two_pow _ (by decide)
  show IntKind.i64.wrap ((BitVec.ofInt 64 (a : Int) &&& BitVec.ofInt 64 ((1 : Nat) : Int)).toNat : Int) = _
  rw [BitVec.toNat_and, ofInt_u64 a (by omega), ofInt_u64 1 (by decide), nat_mask1]
  simp only [IntKind.wrap, IntKind.bits, IntKind.signed]
  have : a % 2 < 2 := Nat.mod_lt _ (by decide)
  generalize a % 2 = c at *
  simp
  omega
theorem and_even (j : Nat) (sft : Nat) (hj : j ≤ 1000000000) (hs : sft % 2 = 0) (hs2 : sft ≤ 4000000000000) : bits .and .i64 (2 * (j : Int) + 2 + (sft : Int)) 1 = 0 := by
  have := and1_i64 (2 * j + 2 + sft) (by omega)
  rw [show (((2 * j + 2 + sft : Nat) : Int)) = 2 * (j : Int) + 2 + (sft : Int) by omega, show (2 * j + 2 + sft) % 2 = 0 by omega] at this
  exact this
theorem and_odd (j : Nat) (hj : j ≤ 1000000000) : bits .and .i64 (2 * (j : Int) + 1) 1 = 1 := by
  have := and1_i64 (2 * j + 1) (by omega)
  rw [show (((2 * j + 1 : Nat) : Int)) = 2 * (j : Int) + 1 by omega, show (2 * j + 1) % 2 = 1 by omega] at this
  exact this

theorem h_leads (o : Option Nat) (w : World) (ho : ∀ j, o = some j → j ≤ 1000000000) : Calls Tryz.prog 179 #[.int .i64 (kw o)] w fun r w' => r = .returned (.bool o.isSome) ∧ w' = w := by
  cases o with
  | none =>
    show Calls Tryz.prog 179 #[.int .i64 0] w _
    go_enter Tryz.func179, Tryz.ntmps179
    go_wp2
    go_ret
    exact ⟨rfl, rfl⟩
  | some j =>
    have hj := ho j rfl
    show Calls Tryz.prog 179 #[.int .i64 (2 * (j : Int) + 2)] w _
    have d1 : decide ((0 : Int) < 2 * (j : Int) + 2) = true := decide_eq_true (by omega)
    have a1 : bits .and .i64 (2 * (j : Int) + 2) 1 = 0 := by simpa using and_even j 0 hj rfl (by decide)
    clear ho
    generalize 2 * (j : Int) + 2 = z at *
    go_enter Tryz.func179, Tryz.ntmps179
    go_wp2
    go_ret
    exact ⟨rfl, rfl⟩
theorem h_leads_odd (j : Nat) (w : World) (hj : j ≤ 1000000000) : Calls Tryz.prog 179 #[.int .i64 (2 * (j : Int) + 1)] w fun r w' => r = .returned (.bool false) ∧ w' = w := by
  have d1 : decide ((0 : Int) < 2 * (j : Int) + 1) = true := decide_eq_true (by omega)
  have a1 := and_odd j hj
  generalize 2 * (j : Int) + 1 = z at *
  go_enter Tryz.func179, Tryz.ntmps179
  go_wp2
  go_ret
  exact ⟨rfl, rfl⟩
theorem h_word (j : Nat) (w : World) (hj : j ≤ 1000000000) : Calls Tryz.prog 176 #[.int .i64 (j : Int)] w fun r w' => r = .returned (.int .i64 (2 * (j : Int) + 2)) ∧ w' = w := by
  go_enter Tryz.func176, Tryz.ntmps176
  go_wp2
  go_ret
  exact ⟨rfl, rfl⟩
theorem h_number (j : Nat) (w : World) (hj : j ≤ 1000000000) : Calls Tryz.prog 181 #[.int .i64 (2 * (j : Int) + 2)] w fun r w' => r = .returned (.int .i64 (j : Int)) ∧ w' = w := by
  have e1 : (2 * (j : Int) + 2).tdiv 2 = (j : Int) + 1 := by rw [Int.tdiv_eq_ediv_of_nonneg (by omega)]; omega
  go_enter Tryz.func181, Tryz.ntmps181
  go_wp2
  go_ret
  exact ⟨by simp, rfl⟩
theorem h_missing {w : World} {h : Nat} {so : Value} {oc om : Int} {sy : Value} {yc ym : Int} {sr st : Value} {sft mi ma : Int} {sp : Bool} (k : Hd w h so oc om sy yc ym sr st sft mi ma sp) (hy : (ym == 0) = false) : Calls Tryz.prog 95 #[.pointer (some ⟨h, 0, none⟩)] w fun r w' => r = .returned (.bool false) ∧ w' = w := by
  obtain ⟨_, _, _, _, _, c5, _⟩ := hget k
  clear k
  go_enter Tryz.func95, Tryz.ntmps95
  go_wp2
  go_ret
  exact ⟨rfl, rfl⟩
theorem h_missing_zero {w : World} {h : Nat} {so : Value} {oc om : Int} {sy : Value} {yc : Int} {sr st : Value} {sft mi ma : Int} {sp : Bool} (k : Hd w h so oc om sy yc 0 sr st sft mi ma sp) : Calls Tryz.prog 95 #[.pointer (some ⟨h, 0, none⟩)] w fun r w' => r = .returned (.bool true) ∧ w' = w := by
  obtain ⟨_, _, _, _, _, c5, _⟩ := hget k
  clear k
  go_enter Tryz.func95, Tryz.ntmps95
  go_wp2
  go_ret
  exact ⟨rfl, rfl⟩
theorem h_missing_nil (w : World) : Calls Tryz.prog 95 #[.pointer none] w fun r w' => r = .returned (.bool true) ∧ w' = w := by
  go_enter Tryz.func95, Tryz.ntmps95
  go_wp2
  go_ret
  exact ⟨rfl, rfl⟩
theorem h_count {w : World} {h no ny co cy : Nat} {ao ay : Option Addr} {oc om : Int} {yc ym : Int} {sr st : Value} {sft mi ma : Int} {sp : Bool} (k : Hd w h (.slice ao no co) oc om (.slice ay ny cy) yc ym sr st sft mi ma sp) (h1 : no ≤ 1000000) (h2 : ny ≤ 1000000) : Calls Tryz.prog 177 #[.pointer (some ⟨h, 0, none⟩)] w fun r w' => r = .returned (.int .i64 ((no + ny : Nat) : Int)) ∧ ∃ q, w' = w.drewN q := by
  obtain ⟨c0, _, _, c3, _⟩ := hget k
  clear k
  have h1' : (no : Int) ≤ 1000000 := by omega
  have h2' : (ny : Int) ≤ 1000000 := by omega
  go_enter Tryz.func177, Tryz.ntmps177
  go_wp2_with fail
  go_quiet (fail)
  go_wp2
  go_ret
  exact ⟨by simp, _, rfl⟩
theorem h_told {w : World} {h : Nat} {so : Value} {oc om : Int} {sy : Value} {yc ym : Int} {sr st : Value} {sft : Nat} {mi ma : Int} {sp : Bool} (k : Hd w h so oc om sy yc ym sr st (sft : Int) mi ma sp) (o : Option Nat) (ho : ∀ j, o = some j → j ≤ 1000000000) (hs : sft ≤ 4000000000000) : Calls Tryz.prog 175 #[.pointer (some ⟨h, 0, none⟩), .int .i64 (kw o)] w fun r w' => r = .returned (.int .i64 (tw sft o)) ∧ w' = w := by
  obtain ⟨_, _, _, _, _, _, _, _, c8, _⟩ := hget k
  clear k
  have HL : Hid (Calls Tryz.prog 179 #[.int .i64 (kw o)] w fun r w' => r = .returned (.bool o.isSome) ∧ w' = w) := h_leads o w ho
  cases o with
  | none =>
    have HL2 : Hid (Calls Tryz.prog 179 #[.int .i64 0] w fun r w' => r = .returned (.bool false) ∧ w' = w) := HL.out
    show Calls Tryz.prog 175 #[.pointer (some ⟨h, 0, none⟩), .int .i64 0] w fun r w' => r = .returned (.int .i64 0) ∧ w' = w
    clear HL ho
    go_enter Tryz.func175, Tryz.ntmps175
    go_wp2_with fail
    refine HL2.out.mono ?_
    rintro r w1 ⟨rfl, hw⟩
    obtain rfl : w = w1 := hw.symm
    clear hw
    go_wp2
    go_ret
    exact ⟨rfl, rfl⟩
  | some j =>
    have hj := ho j rfl
    have HL2 : Hid (Calls Tryz.prog 179 #[.int .i64 (2 * (j : Int) + 2)] w fun r w' => r = .returned (.bool true) ∧ w' = w) := HL.out
    show Calls Tryz.prog 175 #[.pointer (some ⟨h, 0, none⟩), .int .i64 (2 * (j : Int) + 2)] w fun r w' => r = .returned (.int .i64 (2 * (j : Int) + 2 + (sft : Int))) ∧ w' = w
    clear HL ho
    go_enter Tryz.func175, Tryz.ntmps175
    go_wp2_with fail
    refine HL2.out.mono ?_
    rintro r w1 ⟨rfl, hw⟩
    obtain rfl : w = w1 := hw.symm
    clear hw
    go_wp2
    go_ret
    exact ⟨rfl, rfl⟩
theorem h_told_odd {w : World} {h : Nat} (j : Nat) (hj : j ≤ 1000000000) : Calls Tryz.prog 175 #[.pointer (some ⟨h, 0, none⟩), .int .i64 (2 * (j : Int) + 1)] w fun r w' => r = .returned (.int .i64 (2 * (j : Int) + 1)) ∧ w' = w := by
  have HL2 : Hid (Calls Tryz.prog 179 #[.int .i64 (2 * (j : Int) + 1)] w fun r w' => r = .returned (.bool false) ∧ w' = w) := h_leads_odd j w hj
  go_enter Tryz.func175, Tryz.ntmps175
  go_wp2_with fail
  refine HL2.out.mono ?_
  rintro r w1 ⟨rfl, hw⟩
  obtain rfl : w = w1 := hw.symm
  clear hw
  go_wp2
  go_ret
  exact ⟨rfl, rfl⟩
theorem h_kept_odd {w : World} {h : Nat} (j : Nat) (hj : j ≤ 1000000000) : Calls Tryz.prog 164 #[.pointer (some ⟨h, 0, none⟩), .int .i64 (2 * (j : Int) + 1)] w fun r w' => r = .returned (.tuple #[.int .i64 (2 * (j : Int) + 1), .bool true]) ∧ Dr w w' := by
  have a1 := and_odd j hj
  generalize 2 * (j : Int) + 1 = z at *
  go_enter Tryz.func164, Tryz.ntmps164
  go_wp2
  go_ret2
  exact ⟨rfl, Dr.refl _⟩
theorem h_kept {w : World} {h no ny co cy : Nat} {ao ay : Option Addr} {oc om : Int} {yc ym : Int} {sr st : Value} {sft : Nat} {mi ma : Int} {sp : Bool} (k : Hd w h (.slice ao no co) oc om (.slice ay ny cy) yc ym sr st (sft : Int) mi ma sp) (h1 : no ≤ 1000000) (h2 : ny ≤ 1000000) (o : Option Nat) (ho : ∀ j, o = some j → j < no + ny) (hs : sft ≤ 4000000000000) (hs2 : sft % 2 = 0) : Calls Tryz.prog 164 #[.pointer (some ⟨h, 0, none⟩), .int .i64 (tw sft o)] w fun r w' => r = .returned (.tuple #[.int .i64 (kw o), .bool true]) ∧ Dr w w' := by
  cases o with
  | none =>
    show Calls Tryz.prog 164 #[.pointer (some ⟨h, 0, none⟩), .int .i64 0] w fun r w' => r = .returned (.tuple #[.int .i64 0, .bool true]) ∧ Dr w w'
    have a1 : bits .and .i64 0 1 = 0 := by decide
    clear ho k
    go_enter Tryz.func164, Tryz.ntmps164
    go_wp2
    go_ret2
    exact ⟨rfl, Dr.refl _⟩
  | some j =>
    have hj := ho j rfl
    have HCt : Hid (∀ wq, Dr w wq → Calls Tryz.prog 177 #[.pointer (some ⟨h, 0, none⟩)] wq fun r w' => r = .returned (.int .i64 ((no + ny : Nat) : Int)) ∧ Dr w w') := fun wq hq => by
      obtain ⟨q, rfl⟩ := hq
      exact (h_count (w := w.drewN q) k h1 h2).mono fun r w' ⟨hr, hw⟩ => ⟨hr, (show Dr w (w.drewN q) from ⟨q, rfl⟩).trans hw⟩
    have HWd : Hid (∀ wq, Dr w wq → Calls Tryz.prog 176 #[.int .i64 (((no + ny : Nat) : Int) - 1)] wq fun r w' => r = .returned (.int .i64 (2 * (((no + ny : Nat) : Int) - 1) + 2)) ∧ Dr w w') := fun wq hq => by
      have := h_word (no + ny - 1) wq (by omega)
      rw [show ((no + ny - 1 : Nat) : Int) = ((no + ny : Nat) : Int) - 1 by omega] at this
      exact this.mono fun r w' ⟨hr, hw⟩ => ⟨hr, by rw [hw]; exact hq⟩
    have HS : Hid (∀ wq, Dr w wq → wq.cell? ⟨h, 8, none⟩ = some (.int .i64 (sft : Int))) := fun wq hq => by
      obtain ⟨q, rfl⟩ := hq
      exact (hget (w := w.drewN q) k).2.2.2.2.2.2.2.2.1
    have c8 := HS.out w (Dr.refl w)
    show Calls Tryz.prog 164 #[.pointer (some ⟨h, 0, none⟩), .int .i64 (2 * (j : Int) + 2 + (sft : Int))] w fun r w' => r = .returned (.tuple #[.int .i64 (2 * (j : Int) + 2), .bool true]) ∧ Dr w w'
    have a1 := and_even j sft (by omega) hs2 hs
    obtain ⟨z, hz⟩ : ∃ z, 2 * (j : Int) + 2 + (sft : Int) = z := ⟨_, rfl⟩
    rw [hz] at a1 ⊢
    have d1 : decide (z ≤ 0) = false := decide_eq_false (by omega)
    have d2 : decide (z ≤ (sft : Int)) = false := decide_eq_false (by omega)
    obtain ⟨N, hN⟩ : ∃ N : Int, ((no + ny : Nat) : Int) = N := ⟨_, rfl⟩
    rw [hN] at HCt HWd
    have b1 : -9223372036854775808 ≤ z - (sft : Int) ∧ z - (sft : Int) ≤ 9223372036854775807 := by omega
    have b2 : 0 ≤ N - 1 ∧ N - 1 ≤ 9223372036854775807 := by omega
    have d3 : decide (2 * (N - 1) + 2 < z - (sft : Int)) = false := decide_eq_false (by omega)
    have HZ : Hid (z - (sft : Int) = 2 * (j : Int) + 2) := by show z - (sft : Int) = _; omega
    have w1 : IntKind.i64.wrap (z - (sft : Int)) = z - (sft : Int) := by rw [IntKind.wrap_i64]; omega
    have w2 : IntKind.i64.wrap (N - 1) = N - 1 := by rw [IntKind.wrap_i64]; omega
    have k0 : Dr w w := Dr.refl w
    clear ho k hz hN hj
    go_enter Tryz.func164, Tryz.ntmps164
    go_wp2_with fail
    go_region_held2 (fun wq => wq.cell? ⟨h, 8, none⟩ = some (.int .i64 (sft : Int)))
      (first | exact HS.out _ (by assumption) | exact HS.out _ (Dr.drew (by assumption)) | go_keep)
      (first
        | (go_at_call 177; refine (HCt.out _ (by first | exact k0 | exact k0.drew)).mono ?_; rintro e' w1 ⟨rfl, k1⟩)
        | (go_at_call 176; refine (HWd.out _ k1).mono ?_; rintro e' w2 ⟨rfl, k2⟩))
    have c9 := HS.out _ k2
    go_wp2
    go_ret2
    rw [HZ.out]
    exact ⟨rfl, k2⟩
end Go.Proofs.YtkjnigbnbfjdhaaGreatDoor
