/-
  Contracts of the document's Add. Condition: texts of at most 2^48 bytes.
-/
import Derived.Test.YtcnlclocnnijgaaDoorNRText
import Derived.Test.YtcnlclocnnijgaaDoorNOrder
namespace Go.Proofs.YtcnlclocnnijgaaDoor
open Go.RowKit
set_option linter.unusedVariables false

theorem rOfG {s : ByteArray} {x : Int} (h : IsNum s x) (w : World) :
    Calls Tryd.prog 35 #[.string s] w fun e w' => ∃ ao n c, e = .returned (.agg #[.slice ao n c, .bool (decide (x < 0))]) ∧ Hid (Bg w' (.agg #[.slice ao n c, .bool (decide (x < 0))]) (decide (x < 0)) n x.natAbs) ∧ n ≤ 200 ∧ Below w.heap.size w w' := by
  refine (rOf h w).mono ?_
  rintro e w' ⟨g, c, rfl, _, hd, hb⟩
  exact ⟨_, _, _, rfl, ⟨_, _, rfl, hd, Lib.nDigits_pos _⟩, h.2, hb⟩

set_option maxRecDepth 100000 in
set_option maxHeartbeats 1000000 in
theorem rAdd_ok {a b : ByteArray} {x y : Int} (ha : IsNum a x) (hb : IsNum b y) (w : World) :
    Calls Tryd.prog 16 #[.string a, .string b] w fun e w' => e = .returned (.tuple #[.string (resT (x + y)), .int .i64 (resE (x + y))]) ∧ Below w.heap.size w w' := by
  have HA : Hid (IsNum a x) := ha
  have HB : Hid (IsNum b y) := hb
  have hx := sg_self x
  have hy := sg_self y
  have HSg : Hid (sg (decide (x < 0)) x.natAbs + sg (decide (y < 0)) y.natAbs = x + y) := by show _ = _; rw [hx, hy]
  clear ha hb hx hy
  go_enter Tryd.func16, Tryd.ntmps16
  go_wp2_with fail
  refine (rCan_yes HA.out w).mono ?_
  rintro e w1 ⟨rfl, hw⟩
  obtain rfl : w = w1 := hw.symm
  clear hw
  go_wp2_with fail
  refine (rCan_yes HB.out w).mono ?_
  rintro e w1 ⟨rfl, hw⟩
  obtain rfl : w = w1 := hw.symm
  clear hw
  go_wp2_with fail
  refine (rOfG HA.out w).mono ?_
  rintro e w1 ⟨xa, xn, xc, rfl, hx, ln1, b1⟩
  go_wp2_with fail
  refine (rOfG HB.out w1).mono ?_
  rintro e w2 ⟨ya, yn, yc, rfl, hy, ln2, b2⟩
  have B2 : Below w.heap.size w w2 := b1.trans (b2.mono b1.size)
  have HX : Hid (Calls Tryd.prog 34 #[.agg #[.slice xa xn xc, .bool (decide (x < 0))], .agg #[.slice ya yn yc, .bool (decide (y < 0))]] w2 fun e w' => ∃ so sn sc sb, e = .returned (.agg #[.slice so sn sc, .bool sb]) ∧ Hid (Calls Tryd.prog 36 #[.agg #[.slice so sn sc, .bool sb]] w' fun e w' => e = .returned (.tuple #[.string (resT (x + y)), .int .i64 (resE (x + y))]) ∧ Below w.heap.size w w')) := by
    refine (rBSum _ _ _ _ xn yn _ _ w2 (hx.out.below b2 (Nat.le_refl _)) hy.out (by omega) (by omega)).mono ?_
    rintro e w3 ⟨v', b', n', u', rfl, hg, hs, hn, hb⟩
    have hB3 : Below w.heap.size w w3 := B2.trans (hb.mono B2.size)
    rw [HSg.out] at hs
    obtain ⟨so, sc, rfl, _⟩ := id hg
    refine ⟨_, _, _, _, rfl, ?_⟩
    have := rBText _ b' n' u' w3 hg (by omega)
    rw [hs] at this
    refine this.mono ?_
    rintro e w4 ⟨rfl, hb4⟩
    exact ⟨rfl, hB3.trans (hb4.mono hB3.size)⟩
  clear hx hy b1 b2
  generalize decide (x < 0) = bx at *
  generalize decide (y < 0) = by' at *
  go_wp2_with fail
  refine HX.out.mono ?_
  rintro e w3 ⟨so, sn, sc, sb, rfl, HY⟩
  clear HX
  go_wp2_with fail
  refine HY.out.mono ?_
  rintro e w4 ⟨rfl, b4⟩
  go_wp2
  go_ret2
  exact ⟨rfl, b4⟩
set_option maxRecDepth 100000 in
theorem rAdd_no {a b : ByteArray} (h : ¬ ((∃ x, IsNum a x) ∧ ∃ y, IsNum b y)) (hsa : a.size ≤ 281474976710656) (hsb : b.size ≤ 281474976710656) (w : World) :
    Calls Tryd.prog 16 #[.string a, .string b] w fun e w' => e = .returned (.tuple #[.string ⟨#[]⟩, .int .i64 90]) ∧ Below w.heap.size w w' := by
  by_cases ha : ∃ x, IsNum a x
  · have hb : ¬ ∃ y, IsNum b y := fun hb => h ⟨ha, hb⟩
    obtain ⟨x, ha⟩ := ha
    have HA : Hid (IsNum a x) := ha
    have HB : Hid (¬ ∃ y, IsNum b y) := hb
    clear h ha hb
    go_enter Tryd.func16, Tryd.ntmps16
    go_wp2_with fail
    refine (rCan_yes HA.out w).mono ?_
    rintro e w1 ⟨rfl, hw⟩
    obtain rfl : w = w1 := hw.symm
    clear hw
    go_wp2_with fail
    refine (rCan_no HB.out w hsb).mono ?_
    rintro e w1 ⟨rfl, hw⟩
    obtain rfl : w = w1 := hw.symm
    clear hw
    go_wp2
    go_ret2
    exact ⟨rfl, Below.refl _ _⟩
  · have HA : Hid (¬ ∃ y, IsNum a y) := ha
    clear h ha
    go_enter Tryd.func16, Tryd.ntmps16
    go_wp2_with fail
    refine (rCan_no HA.out w hsa).mono ?_
    rintro e w1 ⟨rfl, hw⟩
    obtain rfl : w = w1 := hw.symm
    clear hw
    go_wp2
    go_ret2
    exact ⟨rfl, Below.refl _ _⟩

/-- What the program's and the document's sum of two texts answer, numbers or not. -/
theorem add_any (a b : ByteArray) (hsa : a.size ≤ 281474976710656) (hsb : b.size ≤ 281474976710656) : ∃ (T : ByteArray) (E : Int),
    Hid (∀ wq, Tb wq → Calls Tryd.prog 15 #[.string a, .string b] wq fun e w' => e = .returned (.tuple #[.string T, .int .i64 E]) ∧ Below wq.heap.size wq w') ∧
    Hid (∀ wq, Calls Tryd.prog 16 #[.string a, .string b] wq fun e w' => e = .returned (.tuple #[.string T, .int .i64 E]) ∧ Below wq.heap.size wq w') ∧
    Hid (E = 0 → ∃ x y, IsNum a x ∧ IsNum b y ∧ IsNum T (x + y)) := by
  by_cases h : (∃ x, IsNum a x) ∧ ∃ y, IsNum b y
  · obtain ⟨⟨x, ha⟩, y, hb⟩ := h
    refine ⟨_, _, fun wq hq => nAdd_ok ha hb wq hq, fun wq => rAdd_ok ha hb wq, fun e => ⟨x, y, ha, hb, ?_⟩⟩
    unfold resE at e
    split at e
    · rename_i h; unfold resT; rw [if_pos h]; exact ⟨rfl, h⟩
    · omega
  · exact ⟨_, _, fun wq hq => nAdd_no h wq, fun wq => rAdd_no h hsa hsb wq, fun e => by omega⟩
theorem mul_any (a b : ByteArray) : ∃ (T : ByteArray) (E : Int),
    Hid (∀ wq, Tb wq → Calls Tryd.prog 19 #[.string a, .string b] wq fun e w' => e = .returned (.tuple #[.string T, .int .i64 E]) ∧ Below wq.heap.size wq w') ∧
    Hid (E = 0 → ∃ x y, IsNum a x ∧ IsNum b y ∧ IsNum T (x * y)) := by
  by_cases h : (∃ x, IsNum a x) ∧ ∃ y, IsNum b y
  · obtain ⟨⟨x, ha⟩, y, hb⟩ := h
    refine ⟨_, _, fun wq hq => nMul_ok ha hb wq hq, fun e => ⟨x, y, ha, hb, ?_⟩⟩
    unfold resE at e
    split at e
    · rename_i h; unfold resT; rw [if_pos h]; exact ⟨rfl, h⟩
    · omega
  · exact ⟨_, _, fun wq hq => nMul_no h wq, fun e => by omega⟩
end Go.Proofs.YtcnlclocnnijgaaDoor
