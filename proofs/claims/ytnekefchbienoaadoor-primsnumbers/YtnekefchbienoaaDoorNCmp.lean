/-
  Contract of the document's Compare. Condition: both texts are numbers.
-/
import Derived.Test.YtnekefchbienoaaDoorNSize
namespace Go.Proofs.YtnekefchbienoaaDoor
open Go.RowKit
set_option linter.unusedVariables false

theorem rCan_yes {s : ByteArray} {v : Int} (h : IsNum s v) (w : World) : Calls Tryd.prog 34 #[.string s] w fun e w' => e = .returned (.bool true) ∧ w' = w := by
  have hs := h.dgs.size
  have hl := h.dgs.le
  have hp := h.dgs.p1
  refine (rCan s w (by omega)).mono ?_
  rintro e w' ⟨⟨b, rfl, hb⟩, rfl⟩
  rw [hb.2 ((canP_num s).2 ⟨v, h⟩)]
  exact ⟨rfl, rfl⟩
theorem rCan_no {s : ByteArray} (h : ¬ ∃ v, IsNum s v) (w : World) (hs : s.size ≤ 281474976710656) : Calls Tryd.prog 34 #[.string s] w fun e w' => e = .returned (.bool false) ∧ w' = w := by
  refine (rCan s w hs).mono ?_
  rintro e w' ⟨⟨b, rfl, hb⟩, rfl⟩
  have : b = false := Bool.eq_false_iff.2 (fun e => h ((canP_num s).1 (hb.1 e)))
  rw [this]
  exact ⟨rfl, rfl⟩
theorem nCan_yes {s : ByteArray} {v : Int} (h : IsNum s v) (w : World) : Calls Tryd.prog 13 #[.string s] w fun e w' => e = .returned (.bool true) ∧ w' = w := by
  refine (nCan s w).mono ?_
  rintro e w' ⟨⟨b, rfl, hb⟩, rfl⟩
  rw [hb.2 ((canP_num s).2 ⟨v, h⟩)]
  exact ⟨rfl, rfl⟩
theorem nCan_false {s : ByteArray} (h : ¬ ∃ v, IsNum s v) (w : World) : Calls Tryd.prog 13 #[.string s] w fun e w' => e = .returned (.bool false) ∧ w' = w := by
  refine (nCan s w).mono ?_
  rintro e w' ⟨⟨b, rfl, hb⟩, rfl⟩
  have : b = false := Bool.eq_false_iff.2 (fun e => h ((canP_num s).1 (hb.1 e)))
  rw [this]
  exact ⟨rfl, rfl⟩
/-- The document's number of a text. -/
theorem rOf {s : ByteArray} {v : Int} (h : IsNum s v) (w : World) :
    Calls Tryd.prog 54 #[.string s] w fun e w' => ∃ g c, e = .returned (.agg #[.slice (some ⟨g, 0, none⟩) (Lib.nDigits v.natAbs) c, .bool (decide (v < 0))]) ∧ OwN .i64 3 w' w.heap.size (.slice (some ⟨g, 0, none⟩) (Lib.nDigits v.natAbs) c) (Lib.nDigits v.natAbs) (fun i => (dd v.natAbs i : Int)) ∧ Dig w' (.slice (some ⟨g, 0, none⟩) (Lib.nDigits v.natAbs) c) (Lib.nDigits v.natAbs) v.natAbs ∧ Below w.heap.size w w' := by
  refine (rOfB s _ _ _ w h.dgs).mono ?_
  rintro e w' ⟨d, rfl, ho, hb⟩
  have hn := Lib.nDigits_pos v.natAbs
  rcases ho.open with ⟨_, e⟩ | ⟨g, c, rfl, _⟩
  · omega
  · refine ⟨g, c, ?_, ho, ⟨ho.rd, Lib.lt_pow_nDigits _, by have := h.2; omega⟩, hb⟩
    congr 4
    by_cases h0 : v < 0
    · simp [h0]
    · simp [h0]

set_option maxRecDepth 100000 in
set_option maxHeartbeats 1000000 in
theorem rCompare {a b : ByteArray} {x y : Int} (ha : IsNum a x) (hb : IsNum b y) (w : World) :
    Calls Tryd.prog 37 #[.string a, .string b] w fun e w' => e = .returned (.tuple #[.int .i64 (cmpI x y), .int .i64 0]) ∧ Below w.heap.size w w' := by
  have HA : Hid (IsNum a x) := ha
  have HB : Hid (IsNum b y) := hb
  clear ha hb
  go_enter Tryd.func37, Tryd.ntmps37
  go_wp2_with fail
  refine (rCan_yes HA.out w).mono ?_
  rintro e w1 ⟨rfl, hw⟩
  obtain rfl : w = w1 := hw.symm
  clear hw
  go_wp2_with fail
  refine (rCan_yes HB.out w).mono ?_
  rintro e w1 ⟨rfl, hw⟩
  obtain rfl : w = w1 := hw.symm
  clear hw
  go_wp2_with fail
  refine (rOf HA.out w).mono ?_
  rintro e w1 ⟨g, c, rfl, _, D1, b1⟩
  go_wp2_with fail
  refine (rOf HB.out w1).mono ?_
  rintro e w2 ⟨g', c', rfl, _, D2, b2⟩
  have hB2 : Below w.heap.size w w2 := b1.trans (b2.mono b1.size)
  have HB3 : Hid (∀ p q : Obj, Below w.heap.size w ((w2.alloc p).alloc q)) := fun p q => (hB2.alloc hB2.size p).alloc (by have := hB2.size; simp; omega) q
  have HD : Hid (∀ p q : Obj, Dig ((w2.alloc p).alloc q) (.slice (some ⟨g, 0, none⟩) (Lib.nDigits x.natAbs) c) (Lib.nDigits x.natAbs) x.natAbs ∧ Dig ((w2.alloc p).alloc q) (.slice (some ⟨g', 0, none⟩) (Lib.nDigits y.natAbs) c') (Lib.nDigits y.natAbs) y.natAbs) := fun p q => by
    have k : Below w2.heap.size w2 ((w2.alloc p).alloc q) := ((Below.refl _ w2).alloc (Nat.le_refl _) p).alloc (by simp) q
    exact ⟨(D1.below b2 (Nat.le_refl _)).below k (Nat.le_refl _), D2.below k (Nat.le_refl _)⟩
  clear D1 D2 b1 b2
  generalize Lib.nDigits x.natAbs = n at *
  generalize Lib.nDigits y.natAbs = m at *
  by_cases hx : x < 0
  · have ex : decide (x < 0) = true := by simpa using hx
    by_cases hy : y < 0
    · have ey : decide (y < 0) = true := by simpa using hy
      have HE : Hid (cmpI (y.natAbs : Int) (x.natAbs : Int) = cmpI x y) := by
        show _ = _
        rcases Int.lt_trichotomy x y with h | h | h
        · rw [cmpI_lt h, cmpI_lt (by omega)]
        · rw [cmpI_eq h, cmpI_eq (by omega)]
        · rw [cmpI_gt h, cmpI_gt (by omega)]
      rw [ex, ey]
      clear ex ey hx hy
      go_wp2_with fail
      refine (rSize _ _ m n y.natAbs x.natAbs _ (HD.out _ _).2 (HD.out _ _).1).mono ?_
      rintro e w3 ⟨rfl, hw⟩
      rw [HE.out]
      subst hw
      go_wp2
      go_ret2
      exact ⟨rfl, HB3.out _ _⟩
    · have ey : decide (y < 0) = false := by simpa using hy
      have HE : Hid (cmpI x y = -1) := cmpI_lt (by omega)
      rw [ex, ey]
      clear ex ey hx hy
      go_wp2
      go_ret2
      exact ⟨by rw [HE.out]; rfl, HB3.out _ _⟩
  · have ex : decide (x < 0) = false := by simpa using hx
    by_cases hy : y < 0
    · have ey : decide (y < 0) = true := by simpa using hy
      have HE : Hid (cmpI x y = 1) := cmpI_gt (by omega)
      rw [ex, ey]
      clear ex ey hx hy
      go_wp2
      go_ret2
      exact ⟨by rw [HE.out]; rfl, HB3.out _ _⟩
    · have ey : decide (y < 0) = false := by simpa using hy
      have HE : Hid (cmpI (x.natAbs : Int) (y.natAbs : Int) = cmpI x y) := by
        show _ = _
        rcases Int.lt_trichotomy x y with h | h | h
        · rw [cmpI_lt h, cmpI_lt (by omega)]
        · rw [cmpI_eq h, cmpI_eq (by omega)]
        · rw [cmpI_gt h, cmpI_gt (by omega)]
      rw [ex, ey]
      clear ex ey hx hy
      go_wp2_with fail
      refine (rSize _ _ n m x.natAbs y.natAbs _ (HD.out _ _).1 (HD.out _ _).2).mono ?_
      rintro e w3 ⟨rfl, hw⟩
      rw [HE.out]
      subst hw
      go_wp2
      go_ret2
      exact ⟨rfl, HB3.out _ _⟩
end Go.Proofs.YtnekefchbienoaaDoor
