/-
  Contracts of the document's Quo and Rem. Condition: texts of at most 2^48 bytes.
-/
import Derived.Test.YtcnlclocnnijgaaDoorNRDiv
namespace Go.Proofs.YtcnlclocnnijgaaDoor
open Go.RowKit
set_option linter.unusedVariables false

/-- The quotient, cut towards nought, and the rest. -/
def quoI (x y : Int) : Int := sg (decide (x < 0) != decide (y < 0)) (x.natAbs / y.natAbs)
def remI (x y : Int) : Int := sg (decide (x < 0)) (x.natAbs % y.natAbs)

set_option maxRecDepth 100000 in
set_option maxHeartbeats 1000000 in
theorem rDivide_no {a b : ByteArray} (h : ¬ ((∃ x, IsNum a x) ∧ ∃ y, IsNum b y)) (hsa : a.size ≤ 281474976710656) (hsb : b.size ≤ 281474976710656) (w : World) :
    Calls Tryd.prog 44 #[.string a, .string b] w fun e w' => e = .returned (.tuple #[.agg #[.slice none 0 0, .bool false], .agg #[.slice none 0 0, .bool false], .int .i64 90]) ∧ Below w.heap.size w w' := by
  have HB2 : Hid (∀ o o' : Obj, Below w.heap.size w ((w.alloc o).alloc o')) := fun o o' => ((Below.refl _ w).alloc (Nat.le_refl _) o).alloc (by simp) o'
  by_cases ha : ∃ x, IsNum a x
  · have hb : ¬ ∃ y, IsNum b y := fun hb => h ⟨ha, hb⟩
    obtain ⟨x, ha⟩ := ha
    have HA : Hid (IsNum a x) := ha
    have HB : Hid (¬ ∃ y, IsNum b y) := hb
    clear h ha hb
    go_enter Tryd.func44, Tryd.ntmps44
    go_wp2_with fail
    refine (rCan_yes HA.out _).mono ?_
    rintro e w1 ⟨rfl, hw⟩
    subst hw
    go_wp2_with fail
    refine (rCan_no HB.out _ hsb).mono ?_
    rintro e w1 ⟨rfl, hw⟩
    subst hw
    go_wp2
    refine bodyPost_ret (v := .tuple #[.agg #[.slice none 0 0, .bool false], .agg #[.slice none 0 0, .bool false], .int .i64 90]) (by simp [results, Tryd.results44, go_sem]) rfl ?_
    exact ⟨rfl, HB2.out _ _⟩
  · have HA : Hid (¬ ∃ y, IsNum a y) := ha
    clear h ha
    go_enter Tryd.func44, Tryd.ntmps44
    go_wp2_with fail
    refine (rCan_no HA.out _ hsa).mono ?_
    rintro e w1 ⟨rfl, hw⟩
    subst hw
    go_wp2
    refine bodyPost_ret (v := .tuple #[.agg #[.slice none 0 0, .bool false], .agg #[.slice none 0 0, .bool false], .int .i64 90]) (by simp [results, Tryd.results44, go_sem]) rfl ?_
    exact ⟨rfl, HB2.out _ _⟩
set_option maxRecDepth 100000 in
set_option maxHeartbeats 1000000 in
theorem rDivide_zero {a b : ByteArray} {x : Int} (ha : IsNum a x) (hb : IsNum b 0) (w : World) :
    Calls Tryd.prog 44 #[.string a, .string b] w fun e w' => e = .returned (.tuple #[.agg #[.slice none 0 0, .bool false], .agg #[.slice none 0 0, .bool false], .int .i64 92]) ∧ Below w.heap.size w w' := by
  have HB2 : Hid (∀ o o' : Obj, Below w.heap.size w ((w.alloc o).alloc o')) := fun o o' => ((Below.refl _ w).alloc (Nat.le_refl _) o).alloc (by simp) o'
  have hb0 : (b.toList == [48]) = true := by
    have h1 : b.data.toList = Lib.itoa 0 := by rw [hb.1]; exact txt_data 0
    have h2 : Lib.itoa 0 = [48] := Lib.decDigits_one (by decide)
    rw [ByteArray.toList_eq, h1, h2]; rfl
  have HA : Hid (IsNum a x) := ha
  have HB : Hid (IsNum b 0) := hb
  clear ha hb
  go_enter Tryd.func44, Tryd.ntmps44
  go_wp2_with fail
  refine (rCan_yes HA.out _).mono ?_
  rintro e w1 ⟨rfl, hw⟩
  subst hw
  go_wp2_with fail
  refine (rCan_yes HB.out _).mono ?_
  rintro e w1 ⟨rfl, hw⟩
  subst hw
  go_wp2
  refine bodyPost_ret (v := .tuple #[.agg #[.slice none 0 0, .bool false], .agg #[.slice none 0 0, .bool false], .int .i64 92]) (by simp [results, Tryd.results44, go_sem]) rfl ?_
  exact ⟨rfl, HB2.out _ _⟩

set_option maxRecDepth 100000 in
set_option maxHeartbeats 1000000 in
theorem rQuo_ok {a b : ByteArray} {x y : Int} (ha : IsNum a x) (hb : IsNum b y) (hy0 : y ≠ 0) (w : World) :
    Calls Tryd.prog 22 #[.string a, .string b] w fun e w' => e = .returned (.tuple #[.string (resT (quoI x y)), .int .i64 (resE (quoI x y))]) ∧ Below w.heap.size w w' := by
  have HD : Hid (Calls Tryd.prog 44 #[.string a, .string b] w fun e w' => ∃ qa qn qc qb ra rn rc rb, e = .returned (.tuple #[.agg #[.slice qa qn qc, .bool qb], .agg #[.slice ra rn rc, .bool rb], .int .i64 0]) ∧ Hid (∀ o o' : Obj, Calls Tryd.prog 36 #[.agg #[.slice qa qn qc, .bool qb]] ((w'.alloc o).alloc o') fun e w' => e = .returned (.tuple #[.string (resT (quoI x y)), .int .i64 (resE (quoI x y))]) ∧ Below w.heap.size w w')) := by
    refine (rDivide_ok ha hb hy0 w).mono ?_
    rintro e w1 ⟨q, r, n, m, rfl, hq, hr, hn, hm, b1⟩
    obtain ⟨qa, qc, rfl, _⟩ := id hq
    obtain ⟨ra, rc, rfl, _⟩ := id hr
    refine ⟨_, _, _, _, _, _, _, _, rfl, fun o o' => ?_⟩
    have k : Below w1.heap.size w1 ((w1.alloc o).alloc o') := ((Below.refl _ w1).alloc (Nat.le_refl _) o).alloc (by simp) o'
    have kk := b1.trans (k.mono b1.size)
    refine (rBText _ _ _ _ _ (hq.below k (Nat.le_refl _)) (by omega)).mono ?_
    rintro e w2 ⟨rfl, b2⟩
    exact ⟨rfl, kk.trans (b2.mono kk.size)⟩
  clear ha hb
  go_enter Tryd.func22, Tryd.ntmps22
  go_wp2_with fail
  refine HD.out.mono ?_
  rintro e w1 ⟨qa, qn, qc, qb, ra, rn, rc, rb, rfl, HT⟩
  clear HD
  go_wp2_with fail
  refine (HT.out _ _).mono ?_
  rintro e w2 ⟨rfl, b2⟩
  go_wp2
  go_ret2
  exact ⟨rfl, b2⟩
set_option maxRecDepth 100000 in
theorem rQuo_err {a b : ByteArray} {E : Int} (w : World) (hE : (E == 0) = false) (hD : Calls Tryd.prog 44 #[.string a, .string b] w fun e w' => e = .returned (.tuple #[.agg #[.slice none 0 0, .bool false], .agg #[.slice none 0 0, .bool false], .int .i64 E]) ∧ Below w.heap.size w w') :
    Calls Tryd.prog 22 #[.string a, .string b] w fun e w' => e = .returned (.tuple #[.string ⟨#[]⟩, .int .i64 E]) ∧ Below w.heap.size w w' := by
  have HD : Hid (Calls Tryd.prog 44 #[.string a, .string b] w fun e w' => e = .returned (.tuple #[.agg #[.slice none 0 0, .bool false], .agg #[.slice none 0 0, .bool false], .int .i64 E]) ∧ Hid (∀ o o' : Obj, Below w.heap.size w ((w'.alloc o).alloc o'))) := by
    refine hD.mono ?_
    rintro e w1 ⟨rfl, b1⟩
    exact ⟨rfl, fun o o' => (b1.alloc b1.size o).alloc (by have := b1.size; simp; omega) o'⟩
  clear hD
  go_enter Tryd.func22, Tryd.ntmps22
  go_wp2_with fail
  refine HD.out.mono ?_
  rintro e w1 ⟨rfl, HB⟩
  go_wp2
  go_ret2
  exact ⟨rfl, HB.out _ _⟩

set_option maxRecDepth 100000 in
set_option maxHeartbeats 1000000 in
theorem rRem_ok {a b : ByteArray} {x y : Int} (ha : IsNum a x) (hb : IsNum b y) (hy0 : y ≠ 0) (w : World) :
    Calls Tryd.prog 24 #[.string a, .string b] w fun e w' => e = .returned (.tuple #[.string (resT (remI x y)), .int .i64 (resE (remI x y))]) ∧ Below w.heap.size w w' := by
  have HD : Hid (Calls Tryd.prog 44 #[.string a, .string b] w fun e w' => ∃ qa qn qc qb ra rn rc rb, e = .returned (.tuple #[.agg #[.slice qa qn qc, .bool qb], .agg #[.slice ra rn rc, .bool rb], .int .i64 0]) ∧ Hid (∀ o o' : Obj, Calls Tryd.prog 36 #[.agg #[.slice ra rn rc, .bool rb]] ((w'.alloc o).alloc o') fun e w' => e = .returned (.tuple #[.string (resT (remI x y)), .int .i64 (resE (remI x y))]) ∧ Below w.heap.size w w')) := by
    refine (rDivide_ok ha hb hy0 w).mono ?_
    rintro e w1 ⟨q, r, n, m, rfl, hq, hr, hn, hm, b1⟩
    obtain ⟨qa, qc, rfl, _⟩ := id hq
    obtain ⟨ra, rc, rfl, _⟩ := id hr
    refine ⟨_, _, _, _, _, _, _, _, rfl, fun o o' => ?_⟩
    have k : Below w1.heap.size w1 ((w1.alloc o).alloc o') := ((Below.refl _ w1).alloc (Nat.le_refl _) o).alloc (by simp) o'
    have kk := b1.trans (k.mono b1.size)
    refine (rBText _ _ _ _ _ (hr.below k (Nat.le_refl _)) (by omega)).mono ?_
    rintro e w2 ⟨rfl, b2⟩
    exact ⟨rfl, kk.trans (b2.mono kk.size)⟩
  clear ha hb
  go_enter Tryd.func24, Tryd.ntmps24
  go_wp2_with fail
  refine HD.out.mono ?_
  rintro e w1 ⟨qa, qn, qc, qb, ra, rn, rc, rb, rfl, HT⟩
  clear HD
  go_wp2_with fail
  refine (HT.out _ _).mono ?_
  rintro e w2 ⟨rfl, b2⟩
  go_wp2
  go_ret2
  exact ⟨rfl, b2⟩
set_option maxRecDepth 100000 in
theorem rRem_err {a b : ByteArray} {E : Int} (w : World) (hE : (E == 0) = false) (hD : Calls Tryd.prog 44 #[.string a, .string b] w fun e w' => e = .returned (.tuple #[.agg #[.slice none 0 0, .bool false], .agg #[.slice none 0 0, .bool false], .int .i64 E]) ∧ Below w.heap.size w w') :
    Calls Tryd.prog 24 #[.string a, .string b] w fun e w' => e = .returned (.tuple #[.string ⟨#[]⟩, .int .i64 E]) ∧ Below w.heap.size w w' := by
  have HD : Hid (Calls Tryd.prog 44 #[.string a, .string b] w fun e w' => e = .returned (.tuple #[.agg #[.slice none 0 0, .bool false], .agg #[.slice none 0 0, .bool false], .int .i64 E]) ∧ Hid (∀ o o' : Obj, Below w.heap.size w ((w'.alloc o).alloc o'))) := by
    refine hD.mono ?_
    rintro e w1 ⟨rfl, b1⟩
    exact ⟨rfl, fun o o' => (b1.alloc b1.size o).alloc (by have := b1.size; simp; omega) o'⟩
  clear hD
  go_enter Tryd.func24, Tryd.ntmps24
  go_wp2_with fail
  refine HD.out.mono ?_
  rintro e w1 ⟨rfl, HB⟩
  go_wp2
  go_ret2
  exact ⟨rfl, HB.out _ _⟩
end Go.Proofs.YtcnlclocnnijgaaDoor
