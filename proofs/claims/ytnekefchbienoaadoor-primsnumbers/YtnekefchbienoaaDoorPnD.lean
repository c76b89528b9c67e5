/-
  What a heap with one text tells of its word, and any heap of an odd one: find, Kind, String.
-/
import Derived.Test.YtnekefchbienoaaDoorPnC
namespace Go.Proofs.YtnekefchbienoaaDoor
open Go.RowKit
set_option linter.unusedVariables false

theorem and_oddI (n : Int) : bits .and .i64 (2 * n + 1) 1 = 1 := by
  show IntKind.i64.wrap ((BitVec.ofInt 64 (2 * n + 1) &&& BitVec.ofInt 64 ((1 : Nat) : Int)).toNat : Int) = 1
  rw [BitVec.toNat_and, ofInt_u64 1 (by decide), nat_mask1]
  have e : (BitVec.ofInt 64 (2 * n + 1)).toNat % 2 = 1 := by
    rw [BitVec.toNat_ofInt]
    omega
  rw [e]
  rfl
theorem t_find {y : Int} {w : World} {h : Nat} {kd : Int} {s : ByteArray} (k : Tx y w h kd s) (hy : (y == 0) = false) : Calls Tryd.prog 26 #[.pointer (some ⟨h, 0, none⟩), .int .i64 2] w fun r w' => ∃ g, r = .returned (.pointer (some ⟨g, 0, none⟩)) ∧ w'.cell? ⟨g, 0, none⟩ = some (.int .i64 kd) ∧ w'.cell? ⟨g, 2, none⟩ = some (.string s) ∧ Dr w w' := by
  obtain ⟨g, c, k1, k2, _, k4, _⟩ := k
  obtain ⟨c0, _, _, c3, _⟩ := hget k1
  have HM : Hid (Calls Tryd.prog 31 #[.pointer (some ⟨h, 0, none⟩)] w fun r w' => r = .returned (.bool false) ∧ w' = w) := h_missing k1 hy
  have HK : Hid (Calls Tryd.prog 38 #[.pointer (some ⟨h, 0, none⟩), .int .i64 2] w fun r w' => r = .returned (.tuple #[.int .i64 2, .bool true]) ∧ Dr w w') := h_kept (sft := 0) k1 (by decide) (by decide) (some 0) (fun i hi => by cases hi; decide) (by decide) rfl
  have HL : Hid (∀ wq, Dr w wq → Calls Tryd.prog 39 #[.int .i64 2] wq fun r w' => r = .returned (.bool true) ∧ Dr w w') := fun wq hq => (h_leads (some 0) wq (fun i hi => by cases hi; decide)).mono fun r w' ⟨hr, hw⟩ => ⟨hr, by rw [hw]; exact hq⟩
  have HO : Hid (∀ wq, Dr w wq → Calls Tryd.prog 40 #[.pointer (some ⟨h, 0, none⟩), .int .i64 2] wq fun r w' => r = .returned (.bool false) ∧ Dr w w') := fun wq hq => by
    have c0' : wq.cell? ⟨h, 0, none⟩ = some (.slice none 0 0) := by obtain ⟨q, rfl⟩ := hq; exact c0
    exact (h_isOld c0' (by decide) 0 (by decide)).mono fun r w' ⟨hr, hw⟩ => ⟨hr, hq.trans hw⟩
  have HN : Hid (∀ wq, Dr w wq → Calls Tryd.prog 41 #[.int .i64 2] wq fun r w' => r = .returned (.int .i64 0) ∧ Dr w w') := fun wq hq => (h_number 0 wq (by decide)).mono fun r w' ⟨hr, hw⟩ => ⟨hr, by rw [hw]; exact hq⟩
  have HS : Hid (∀ wq, Dr w wq → wq.cell? ⟨h, 0, none⟩ = some (.slice none 0 0) ∧ wq.cell? ⟨h, 3, none⟩ = some (.slice (some ⟨g, 0, none⟩) 1 c)) := fun wq hq => by obtain ⟨q, rfl⟩ := hq; exact ⟨c0, c3⟩
  have HE : Hid (∀ wq, Dr w wq → wq.cell? ⟨g, 0, none⟩ = some (.int .i64 kd) ∧ wq.cell? ⟨g, 2, none⟩ = some (.string s)) := fun wq hq => by obtain ⟨q, rfl⟩ := hq; exact ⟨k2, k4⟩
  clear k1 k2 k4 hy
  go_enter Tryd.func26, Tryd.ntmps26
  go_wp2_with fail
  refine HM.out.mono ?_
  rintro r w1 ⟨rfl, hw⟩
  obtain rfl : w = w1 := hw.symm
  clear hw HM
  go_wp2_with fail
  refine HK.out.mono ?_
  rintro r w1 ⟨rfl, q1⟩
  clear HK
  go_wp2_with fail
  refine (HL.out _ q1).mono ?_
  rintro r w2 ⟨rfl, q2⟩
  clear HL
  go_wp2_with fail
  refine (HO.out _ q2).mono ?_
  rintro r w3 ⟨rfl, q3⟩
  clear HO c0 c3
  obtain ⟨c0, c3⟩ := HS.out _ q3
  go_wp2_with fail
  go_region_held (fun wq => wq.cell? ⟨h, 0, none⟩ = some (.slice none 0 0) ∧ wq.cell? ⟨h, 3, none⟩ = some (.slice (some ⟨g, 0, none⟩) 1 c))
    (first | exact HS.out _ (by assumption) | exact HS.out _ (Dr.drew (by assumption)) | go_keep)
    (first
      | (go_at_call 41; refine (HN.out _ (by first | exact q3 | exact q3.drew)).mono ?_; rintro e' w4 ⟨rfl, q4⟩))
  go_wp2
  go_ret
  exact ⟨g, rfl, (HE.out _ q4).1, (HE.out _ q4).2, q4⟩
/-- Kept of an odd word. -/
theorem o_kept {w : World} {h : Nat} (n : Int) : Calls Tryd.prog 38 #[.pointer (some ⟨h, 0, none⟩), .int .i64 (2 * n + 1)] w fun r w' => r = .returned (.tuple #[.int .i64 (2 * n + 1), .bool true]) ∧ w' = w := by
  have a1 := and_oddI n
  generalize 2 * n + 1 = z at *
  go_enter Tryd.func38, Tryd.ntmps38
  go_wp2
  go_ret2
  exact ⟨rfl, rfl⟩
theorem o_leads {w : World} (n : Int) : Calls Tryd.prog 39 #[.int .i64 (2 * n + 1)] w fun r w' => r = .returned (.bool false) ∧ w' = w := by
  have a1 := and_oddI n
  generalize 2 * n + 1 = z at *
  by_cases hz : 0 < z
  · have d1 : decide (0 < z) = true := decide_eq_true hz
    go_enter Tryd.func39, Tryd.ntmps39
    go_wp2
    go_ret
    exact ⟨rfl, rfl⟩
  · have d1 : decide (0 < z) = false := decide_eq_false hz
    go_enter Tryd.func39, Tryd.ntmps39
    go_wp2
    go_ret
    exact ⟨rfl, rfl⟩
theorem o_find {w : World} {h : Nat} {so : Value} {oc om : Int} {sy : Value} {yc ym : Int} {sr st : Value} {sft mi ma : Int} {sp : Bool} (k : Hd w h so oc om sy yc ym sr st sft mi ma sp) (hy : (ym == 0) = false) (n : Int) : Calls Tryd.prog 26 #[.pointer (some ⟨h, 0, none⟩), .int .i64 (2 * n + 1)] w fun r w' => r = .returned (.pointer none) ∧ w' = w := by
  have HM : Hid (Calls Tryd.prog 31 #[.pointer (some ⟨h, 0, none⟩)] w fun r w' => r = .returned (.bool false) ∧ w' = w) := h_missing k hy
  have HK : Hid (Calls Tryd.prog 38 #[.pointer (some ⟨h, 0, none⟩), .int .i64 (2 * n + 1)] w fun r w' => r = .returned (.tuple #[.int .i64 (2 * n + 1), .bool true]) ∧ w' = w) := o_kept n
  have HL : Hid (Calls Tryd.prog 39 #[.int .i64 (2 * n + 1)] w fun r w' => r = .returned (.bool false) ∧ w' = w) := o_leads n
  generalize 2 * n + 1 = z at *
  clear k hy
  go_enter Tryd.func26, Tryd.ntmps26
  go_wp2_with fail
  refine HM.out.mono ?_
  rintro r w1 ⟨rfl, hw⟩
  obtain rfl : w = w1 := hw.symm
  clear hw HM
  go_wp2_with fail
  refine HK.out.mono ?_
  rintro r w1 ⟨rfl, hw⟩
  obtain rfl : w = w1 := hw.symm
  clear hw HK
  go_wp2_with fail
  refine HL.out.mono ?_
  rintro r w1 ⟨rfl, hw⟩
  obtain rfl : w = w1 := hw.symm
  clear hw HL
  go_wp2
  go_ret
  exact ⟨rfl, rfl⟩
theorem o_kind {w : World} {h : Nat} {so : Value} {oc om : Int} {sy : Value} {yc ym : Int} {sr st : Value} {sft mi ma : Int} {sp : Bool} (k : Hd w h so oc om sy yc ym sr st sft mi ma sp) (hy : (ym == 0) = false) (n : Int) : Calls Tryd.prog 10 #[.pointer (some ⟨h, 0, none⟩), .int .i64 (2 * n + 1)] w fun r w' => r = .returned (.int .i64 0) ∧ w' = w := by
  have HC : Hid (Calls Tryd.prog 26 #[.pointer (some ⟨h, 0, none⟩), .int .i64 (2 * n + 1)] w fun r w' => r = .returned (.pointer none) ∧ w' = w) := o_find k hy n
  generalize 2 * n + 1 = z at *
  clear k hy
  go_enter Tryd.func10, Tryd.ntmps10
  go_wp2_with fail
  refine HC.out.mono ?_
  rintro r w1 ⟨rfl, hw⟩
  obtain rfl : w = w1 := hw.symm
  clear hw
  go_wp2
  go_ret
  exact ⟨rfl, rfl⟩
theorem t_kind {y : Int} {w : World} {h : Nat} {kd : Int} {s : ByteArray} (k : Tx y w h kd s) (hy : (y == 0) = false) : Calls Tryd.prog 10 #[.pointer (some ⟨h, 0, none⟩), .int .i64 2] w fun r w' => r = .returned (.int .i64 kd) ∧ Dr w w' := by
  have HC : Hid (Calls Tryd.prog 26 #[.pointer (some ⟨h, 0, none⟩), .int .i64 2] w fun r w' => ∃ g, r = .returned (.pointer (some ⟨g, 0, none⟩)) ∧ w'.cell? ⟨g, 0, none⟩ = some (.int .i64 kd) ∧ w'.cell? ⟨g, 2, none⟩ = some (.string s) ∧ Dr w w') := t_find k hy
  clear k hy
  go_enter Tryd.func10, Tryd.ntmps10
  go_wp2_with fail
  refine HC.out.mono ?_
  rintro r w1 ⟨g, rfl, c0, c2, q⟩
  go_wp2
  go_ret
  exact ⟨rfl, q⟩
theorem t_string {y : Int} {w : World} {h : Nat} {kd : Int} {s : ByteArray} (k : Tx y w h kd s) (hy : (y == 0) = false) : Calls Tryd.prog 20 #[.pointer (some ⟨h, 0, none⟩), .int .i64 2] w fun r w' => r = .returned (.string s) ∧ Dr w w' := by
  have HC : Hid (Calls Tryd.prog 26 #[.pointer (some ⟨h, 0, none⟩), .int .i64 2] w fun r w' => ∃ g, r = .returned (.pointer (some ⟨g, 0, none⟩)) ∧ w'.cell? ⟨g, 0, none⟩ = some (.int .i64 kd) ∧ w'.cell? ⟨g, 2, none⟩ = some (.string s) ∧ Dr w w') := t_find k hy
  clear k hy
  go_enter Tryd.func20, Tryd.ntmps20
  go_wp2_with fail
  refine HC.out.mono ?_
  rintro r w1 ⟨g, rfl, c0, c2, q⟩
  go_wp2
  go_ret
  exact ⟨rfl, q⟩
end Go.Proofs.YtnekefchbienoaaDoor
