/-
  Contracts of the document's Sub. Condition: texts of at most 2^48 bytes.
-/
import Derived.Test.YtcnlclocnnijgaaDoorNRAdd
namespace Go.Proofs.YtcnlclocnnijgaaDoor
open Go.RowKit
set_option linter.unusedVariables false

theorem sg_turn (y : Int) : sg (!decide (y < 0)) y.natAbs = -y := by
  unfold sg
  by_cases h : y < 0
  · simp [h]; omega
  · simp [h]; omega

set_option maxRecDepth 100000 in
set_option maxHeartbeats 2000000 in
theorem rSub_ok {a b : ByteArray} {x y : Int} (ha : IsNum a x) (hb : IsNum b y) (w : World) :
    Calls Tryd.prog 18 #[.string a, .string b] w fun e w' => e = .returned (.tuple #[.string (resT (x - y)), .int .i64 (resE (x - y))]) ∧ Below w.heap.size w w' := by
  have HA : Hid (IsNum a x) := ha
  have HB : Hid (IsNum b y) := hb
  have hx := sg_self x
  have hy := sg_turn y
  have HSg : Hid (sg (decide (x < 0)) x.natAbs + sg (!decide (y < 0)) y.natAbs = x - y) := by show _ = _; rw [hx, hy]; omega
  clear ha hb hx hy
  go_enter Tryd.func18, Tryd.ntmps18
  go_wp2_with fail
  refine (rCan_yes HA.out w).mono ?_
  rintro e w1 ⟨rfl, hw⟩
  obtain rfl : w = w1 := hw.symm
  clear hw
  go_wp2_with fail
  refine (rCan_yes HB.out w).mono ?_
  rintro e w1 ⟨rfl, hw⟩
  obtain rfl : w = w1 := hw.symm
  clear hw
  go_wp2_with fail
  refine (rOfG HB.out w).mono ?_
  rintro e w1 ⟨ya, yn, yc, rfl, hy, ln1, b1⟩
  obtain ⟨W0, hW0⟩ : ∃ W0, w1.alloc (.cells #[.slice ya yn yc, .bool (!decide (y < 0))] 51) = W0 := ⟨_, rfl⟩
  have hk0 : Below w1.heap.size w1 W0 := by rw [← hW0]; exact (Below.refl _ w1).alloc (Nat.le_refl _) _
  have hsz : W0.heap.size = w1.heap.size + 1 := by rw [← hW0]; simp
  have hX0 : W0.heap[w1.heap.size]? = some (.cells #[.slice ya yn yc, .bool (!decide (y < 0))] 51 (0, 0)) := by
    rw [← hW0]
    exact heap_alloc_at _ _ _ rfl
  have B0 : Below w.heap.size w W0 := b1.trans (hk0.mono b1.size)
  have hb0 : Below W0.heap.size W0 W0.drew := blw_drewN 1 (Below.refl _ W0)
  have HS : Hid (∀ wq, Below W0.heap.size W0 wq → wq.cell? ⟨w1.heap.size, 0, none⟩ = some (.slice ya yn yc) ∧ wq.cell? ⟨w1.heap.size, 1, none⟩ = some (.bool (!decide (y < 0)))) := fun wq hq => by
    have e0 : wq.heap[w1.heap.size]? = _ := (hq.block _ (by omega)).trans hX0
    exact ⟨by rw [cells_at e0 0]; rfl, by rw [cells_at e0 1]; rfl⟩
  have HC1 : Hid (∀ wq, Below W0.heap.size W0 wq → Calls Tryd.prog 35 #[.string a] wq fun e w' => ∃ ao n c, e = .returned (.agg #[.slice ao n c, .bool (decide (x < 0))]) ∧ Hid (Bg w' (.agg #[.slice ao n c, .bool (decide (x < 0))]) (decide (x < 0)) n x.natAbs ∧ n ≤ 200) ∧ Below W0.heap.size W0 w') := fun wq hq => by
    refine (rOfG HA.out wq).mono ?_
    rintro e w2 ⟨xa, xn, xc, rfl, h1, h2, h3⟩
    exact ⟨xa, xn, xc, rfl, ⟨h1.out, h2⟩, hq.trans (h3.mono hq.size)⟩
  have HC2 : Hid (∀ w2 xa xn xc, Below W0.heap.size W0 w2 → Hid (Bg w2 (.agg #[.slice xa xn xc, .bool (decide (x < 0))]) (decide (x < 0)) xn x.natAbs ∧ xn ≤ 200) → Calls Tryd.prog 34 #[.agg #[.slice xa xn xc, .bool (decide (x < 0))], .agg #[.slice ya yn yc, .bool (!decide (y < 0))]] w2 fun e w' => ∃ so sn sc sb, e = .returned (.agg #[.slice so sn sc, .bool sb]) ∧ Below W0.heap.size W0 w' ∧ Hid (Calls Tryd.prog 36 #[.agg #[.slice so sn sc, .bool sb]] w' fun e w' => e = .returned (.tuple #[.string (resT (x - y)), .int .i64 (resE (x - y))]) ∧ Below W0.heap.size W0 w')) := fun w2 xa xn xc hq hx => by
    have k2 : Below w1.heap.size w1 w2 := hk0.trans (hq.mono (by omega))
    obtain ⟨yo, yd, e, yD, y1⟩ := hy.out
    have hyB : Bg w1 (.agg #[.slice ya yn yc, .bool (!decide (y < 0))]) (!decide (y < 0)) yn y.natAbs := ⟨yo, yd, by cases e; rfl, by cases e; exact yD, y1⟩
    refine (rBSum _ _ _ _ xn yn _ _ w2 hx.out.1 (hyB.below k2 (Nat.le_refl _)) (by have := hx.out.2; omega) (by omega)).mono ?_
    rintro e w3 ⟨v', b', n', u', rfl, hg, hs, hn, hb⟩
    have hB3 : Below W0.heap.size W0 w3 := hq.trans (hb.mono hq.size)
    rw [HSg.out] at hs
    obtain ⟨so, sc, rfl, _⟩ := id hg
    refine ⟨_, _, _, _, rfl, hB3, ?_⟩
    have := rBText _ b' n' u' w3 hg (by omega)
    rw [hs] at this
    refine this.mono ?_
    rintro e w4 ⟨rfl, hb4⟩
    exact ⟨rfl, hB3.trans (hb4.mono hB3.size)⟩
  have HF : Hid (∀ wq, Below W0.heap.size W0 wq → Below w.heap.size w wq) := fun wq hq => B0.trans (hq.mono (by have := b1.size; omega))
  clear hy b1 B0 hX0 hk0
  generalize decide (x < 0) = bx at *
  generalize decide (y < 0) = by' at *
  go_wp2_with fail
  go_region_held (fun wq => wq.cell? ⟨w1.heap.size, 0, none⟩ = some (.slice ya yn yc) ∧ wq.cell? ⟨w1.heap.size, 1, none⟩ = some (.bool (!by')))
    (first | exact HS.out _ (by assumption) | go_keep)
    (first
      | (go_at_call 35; refine (HC1.out _ hb0).mono ?_; rintro e' w2 ⟨xa, xn, xc, rfl, hx, k2⟩)
      | (go_at_call 34; refine (HC2.out _ _ _ _ k2 hx).mono ?_; rintro e' w3 ⟨so, sn, sc, sb, rfl, k3, HY⟩)
      | (go_at_call 36; refine HY.out.mono ?_; rintro e' w4 ⟨rfl, k4⟩))
  go_wp2
  go_ret2
  exact ⟨rfl, HF.out _ k4⟩
set_option maxRecDepth 100000 in
theorem rSub_no {a b : ByteArray} (h : ¬ ((∃ x, IsNum a x) ∧ ∃ y, IsNum b y)) (hsa : a.size ≤ 281474976710656) (hsb : b.size ≤ 281474976710656) (w : World) :
    Calls Tryd.prog 18 #[.string a, .string b] w fun e w' => e = .returned (.tuple #[.string ⟨#[]⟩, .int .i64 90]) ∧ Below w.heap.size w w' := by
  by_cases ha : ∃ x, IsNum a x
  · have hb : ¬ ∃ y, IsNum b y := fun hb => h ⟨ha, hb⟩
    obtain ⟨x, ha⟩ := ha
    have HA : Hid (IsNum a x) := ha
    have HB : Hid (¬ ∃ y, IsNum b y) := hb
    clear h ha hb
    go_enter Tryd.func18, Tryd.ntmps18
    go_wp2_with fail
    refine (rCan_yes HA.out w).mono ?_
    rintro e w1 ⟨rfl, hw⟩
    obtain rfl : w = w1 := hw.symm
    clear hw
    go_wp2_with fail
    refine (rCan_no HB.out w hsb).mono ?_
    rintro e w1 ⟨rfl, hw⟩
    obtain rfl : w = w1 := hw.symm
    clear hw
    go_wp2
    go_ret2
    exact ⟨rfl, Below.refl _ _⟩
  · have HA : Hid (¬ ∃ y, IsNum a y) := ha
    clear h ha
    go_enter Tryd.func18, Tryd.ntmps18
    go_wp2_with fail
    refine (rCan_no HA.out w hsa).mono ?_
    rintro e w1 ⟨rfl, hw⟩
    obtain rfl : w = w1 := hw.symm
    clear hw
    go_wp2
    go_ret2
    exact ⟨rfl, Below.refl _ _⟩
end Go.Proofs.YtcnlclocnnijgaaDoor
