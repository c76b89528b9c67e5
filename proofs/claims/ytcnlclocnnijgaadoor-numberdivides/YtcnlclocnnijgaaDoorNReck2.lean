/-
  The program's sums, differences and products, and how two numbers compare: contracts at every two texts. Condition: the library's table of powers of ten is as it starts.
-/
import Derived.Test.YtcnlclocnnijgaaDoorNReck
namespace Go.Proofs.YtcnlclocnnijgaaDoor
open Go.RowKit
set_option linter.unusedVariables false


set_option maxRecDepth 100000 in
set_option maxHeartbeats 2000000 in
theorem reckon_add {a b : ByteArray} {x y z : Int} (ha : IsNum a x) (hb : IsNum b y) (hd : Does 33 x y z) (w : World) (htab : Lib.TabIs Tryd.prog w "internal/strconv.uint64pow10" .u64 Lib.pow10Tab) :
    Calls Tryd.prog 32 #[.string a, .string b, .func (.func 33) #[] #[]] w fun e w' => e = .returned (.tuple #[.string (resT z), .int .i64 (resE z)]) ∧ Below w.heap.size w w' := by
  have HA : Hid (IsNum a x) := ha
  have HB : Hid (IsNum b y) := hb
  have HD : Hid (Does 33 x y z) := hd
  have HT : Hid (∀ wq, Below w.heap.size w wq → Lib.TabIs Tryd.prog wq "internal/strconv.uint64pow10" .u64 Lib.pow10Tab) := fun wq hq => tab_below htab hq (Nat.le_refl _)
  clear ha hb hd htab
  by_cases hbig : Lib.nDigits z.natAbs ≤ 200
  · have HC : Hid (∀ w, Calls Tryd.prog 12 #[.string (txt z)] w fun e w' => e = .returned (.bool true) ∧ w' = w) := fun w => nCan_yes ⟨rfl, hbig⟩ w
    have HE : Hid (resT z = txt z ∧ resE z = 0) := ⟨by unfold resT; rw [if_pos hbig], by unfold resE; rw [if_pos hbig]⟩
    clear hbig
    go_enter Tryd.func32, Tryd.ntmps32
    go_wp2_with fail
    refine (nCan_yes HA.out w).mono ?_
    rintro e w1 ⟨rfl, hw⟩
    obtain rfl : w = w1 := hw.symm
    clear hw
    go_wp2_with fail
    refine (nCan_yes HB.out w).mono ?_
    rintro e w1 ⟨rfl, hw⟩
    obtain rfl : w = w1 := hw.symm
    clear hw
    go_wp2_with fail
    refine (nRead HA.out w).mono ?_
    rintro e w1 ⟨vx, rfl, hx, lx, b1⟩
    obtain ⟨xb, xa, xn, xc, rfl⟩ := hx.agg
    go_wp2_with fail
    refine (nRead HB.out w1).mono ?_
    rintro e w2 ⟨vy, rfl, hy, ly, b2⟩
    obtain ⟨yb, ya, yn, yc, rfl⟩ := hy.agg
    have B2 : Below w.heap.size w w2 := b1.trans (b2.mono b1.size)
    have HX : Hid (Calls Tryd.prog 33 #[.agg #[.bool xb, .slice xa xn xc], .agg #[.bool yb, .slice ya yn yc]] w2 fun e w' => ∃ v', e = .returned v' ∧ Wh w' v' z ∧ Below w2.heap.size w2 w') := HD.out w2 _ _ (hx.below b2 (Nat.le_refl _)) hy lx ly
    clear hx hy b1 b2
    go_wp2_with fail
    refine HX.out.mono ?_
    rintro e w3 ⟨vz, rfl, hz, b3⟩
    obtain ⟨zb, za, zn, zc, rfl⟩ := hz.agg
    have B3 : Below w.heap.size w w3 := B2.trans (b3.mono B2.size)
    have HY : Hid (Calls Tryd.prog 55 #[.agg #[.bool zb, .slice za zn zc]] w3 fun e w' => e = .returned (.string (txt z)) ∧ Below w3.heap.size w3 w') := hText _ z w3 hz (HT.out w3 B3)
    clear hz b3 B2 HX
    go_wp2_with fail
    refine HY.out.mono ?_
    rintro e w4 ⟨rfl, b4⟩
    have B4 : Below w.heap.size w w4 := B3.trans (b4.mono B3.size)
    clear b4 B3 HY
    go_wp2_with fail
    refine (HC.out w4).mono ?_
    rintro e w5 ⟨rfl, hw⟩
    obtain rfl : w4 = w5 := hw.symm
    clear hw
    go_wp2
    go_ret2
    exact ⟨by rw [HE.out.1, HE.out.2]; rfl, B4⟩
  · have HC : Hid (∀ w, Calls Tryd.prog 12 #[.string (txt z)] w fun e w' => e = .returned (.bool false) ∧ w' = w) := fun w => nCan_false (can_txt hbig) w
    have HE : Hid (resT z = ⟨#[]⟩ ∧ resE z = 91) := ⟨by unfold resT; rw [if_neg hbig], by unfold resE; rw [if_neg hbig]⟩
    clear hbig
    go_enter Tryd.func32, Tryd.ntmps32
    go_wp2_with fail
    refine (nCan_yes HA.out w).mono ?_
    rintro e w1 ⟨rfl, hw⟩
    obtain rfl : w = w1 := hw.symm
    clear hw
    go_wp2_with fail
    refine (nCan_yes HB.out w).mono ?_
    rintro e w1 ⟨rfl, hw⟩
    obtain rfl : w = w1 := hw.symm
    clear hw
    go_wp2_with fail
    refine (nRead HA.out w).mono ?_
    rintro e w1 ⟨vx, rfl, hx, lx, b1⟩
    obtain ⟨xb, xa, xn, xc, rfl⟩ := hx.agg
    go_wp2_with fail
    refine (nRead HB.out w1).mono ?_
    rintro e w2 ⟨vy, rfl, hy, ly, b2⟩
    obtain ⟨yb, ya, yn, yc, rfl⟩ := hy.agg
    have B2 : Below w.heap.size w w2 := b1.trans (b2.mono b1.size)
    have HX : Hid (Calls Tryd.prog 33 #[.agg #[.bool xb, .slice xa xn xc], .agg #[.bool yb, .slice ya yn yc]] w2 fun e w' => ∃ v', e = .returned v' ∧ Wh w' v' z ∧ Below w2.heap.size w2 w') := HD.out w2 _ _ (hx.below b2 (Nat.le_refl _)) hy lx ly
    clear hx hy b1 b2
    go_wp2_with fail
    refine HX.out.mono ?_
    rintro e w3 ⟨vz, rfl, hz, b3⟩
    obtain ⟨zb, za, zn, zc, rfl⟩ := hz.agg
    have B3 : Below w.heap.size w w3 := B2.trans (b3.mono B2.size)
    have HY : Hid (Calls Tryd.prog 55 #[.agg #[.bool zb, .slice za zn zc]] w3 fun e w' => e = .returned (.string (txt z)) ∧ Below w3.heap.size w3 w') := hText _ z w3 hz (HT.out w3 B3)
    clear hz b3 B2 HX
    go_wp2_with fail
    refine HY.out.mono ?_
    rintro e w4 ⟨rfl, b4⟩
    have B4 : Below w.heap.size w w4 := B3.trans (b4.mono B3.size)
    clear b4 B3 HY
    go_wp2_with fail
    refine (HC.out w4).mono ?_
    rintro e w5 ⟨rfl, hw⟩
    obtain rfl : w4 = w5 := hw.symm
    clear hw
    go_wp2
    go_ret2
    exact ⟨by rw [HE.out.1, HE.out.2]; rfl, B4⟩

set_option maxRecDepth 100000 in
set_option maxHeartbeats 2000000 in
theorem reckon_sub {a b : ByteArray} {x y z : Int} (ha : IsNum a x) (hb : IsNum b y) (hd : Does 37 x y z) (w : World) (htab : Lib.TabIs Tryd.prog w "internal/strconv.uint64pow10" .u64 Lib.pow10Tab) :
    Calls Tryd.prog 32 #[.string a, .string b, .func (.func 37) #[] #[]] w fun e w' => e = .returned (.tuple #[.string (resT z), .int .i64 (resE z)]) ∧ Below w.heap.size w w' := by
  have HA : Hid (IsNum a x) := ha
  have HB : Hid (IsNum b y) := hb
  have HD : Hid (Does 37 x y z) := hd
  have HT : Hid (∀ wq, Below w.heap.size w wq → Lib.TabIs Tryd.prog wq "internal/strconv.uint64pow10" .u64 Lib.pow10Tab) := fun wq hq => tab_below htab hq (Nat.le_refl _)
  clear ha hb hd htab
  by_cases hbig : Lib.nDigits z.natAbs ≤ 200
  · have HC : Hid (∀ w, Calls Tryd.prog 12 #[.string (txt z)] w fun e w' => e = .returned (.bool true) ∧ w' = w) := fun w => nCan_yes ⟨rfl, hbig⟩ w
    have HE : Hid (resT z = txt z ∧ resE z = 0) := ⟨by unfold resT; rw [if_pos hbig], by unfold resE; rw [if_pos hbig]⟩
    clear hbig
    go_enter Tryd.func32, Tryd.ntmps32
    go_wp2_with fail
    refine (nCan_yes HA.out w).mono ?_
    rintro e w1 ⟨rfl, hw⟩
    obtain rfl : w = w1 := hw.symm
    clear hw
    go_wp2_with fail
    refine (nCan_yes HB.out w).mono ?_
    rintro e w1 ⟨rfl, hw⟩
    obtain rfl : w = w1 := hw.symm
    clear hw
    go_wp2_with fail
    refine (nRead HA.out w).mono ?_
    rintro e w1 ⟨vx, rfl, hx, lx, b1⟩
    obtain ⟨xb, xa, xn, xc, rfl⟩ := hx.agg
    go_wp2_with fail
    refine (nRead HB.out w1).mono ?_
    rintro e w2 ⟨vy, rfl, hy, ly, b2⟩
    obtain ⟨yb, ya, yn, yc, rfl⟩ := hy.agg
    have B2 : Below w.heap.size w w2 := b1.trans (b2.mono b1.size)
    have HX : Hid (Calls Tryd.prog 37 #[.agg #[.bool xb, .slice xa xn xc], .agg #[.bool yb, .slice ya yn yc]] w2 fun e w' => ∃ v', e = .returned v' ∧ Wh w' v' z ∧ Below w2.heap.size w2 w') := HD.out w2 _ _ (hx.below b2 (Nat.le_refl _)) hy lx ly
    clear hx hy b1 b2
    go_wp2_with fail
    refine HX.out.mono ?_
    rintro e w3 ⟨vz, rfl, hz, b3⟩
    obtain ⟨zb, za, zn, zc, rfl⟩ := hz.agg
    have B3 : Below w.heap.size w w3 := B2.trans (b3.mono B2.size)
    have HY : Hid (Calls Tryd.prog 55 #[.agg #[.bool zb, .slice za zn zc]] w3 fun e w' => e = .returned (.string (txt z)) ∧ Below w3.heap.size w3 w') := hText _ z w3 hz (HT.out w3 B3)
    clear hz b3 B2 HX
    go_wp2_with fail
    refine HY.out.mono ?_
    rintro e w4 ⟨rfl, b4⟩
    have B4 : Below w.heap.size w w4 := B3.trans (b4.mono B3.size)
    clear b4 B3 HY
    go_wp2_with fail
    refine (HC.out w4).mono ?_
    rintro e w5 ⟨rfl, hw⟩
    obtain rfl : w4 = w5 := hw.symm
    clear hw
    go_wp2
    go_ret2
    exact ⟨by rw [HE.out.1, HE.out.2]; rfl, B4⟩
  · have HC : Hid (∀ w, Calls Tryd.prog 12 #[.string (txt z)] w fun e w' => e = .returned (.bool false) ∧ w' = w) := fun w => nCan_false (can_txt hbig) w
    have HE : Hid (resT z = ⟨#[]⟩ ∧ resE z = 91) := ⟨by unfold resT; rw [if_neg hbig], by unfold resE; rw [if_neg hbig]⟩
    clear hbig
    go_enter Tryd.func32, Tryd.ntmps32
    go_wp2_with fail
    refine (nCan_yes HA.out w).mono ?_
    rintro e w1 ⟨rfl, hw⟩
    obtain rfl : w = w1 := hw.symm
    clear hw
    go_wp2_with fail
    refine (nCan_yes HB.out w).mono ?_
    rintro e w1 ⟨rfl, hw⟩
    obtain rfl : w = w1 := hw.symm
    clear hw
    go_wp2_with fail
    refine (nRead HA.out w).mono ?_
    rintro e w1 ⟨vx, rfl, hx, lx, b1⟩
    obtain ⟨xb, xa, xn, xc, rfl⟩ := hx.agg
    go_wp2_with fail
    refine (nRead HB.out w1).mono ?_
    rintro e w2 ⟨vy, rfl, hy, ly, b2⟩
    obtain ⟨yb, ya, yn, yc, rfl⟩ := hy.agg
    have B2 : Below w.heap.size w w2 := b1.trans (b2.mono b1.size)
    have HX : Hid (Calls Tryd.prog 37 #[.agg #[.bool xb, .slice xa xn xc], .agg #[.bool yb, .slice ya yn yc]] w2 fun e w' => ∃ v', e = .returned v' ∧ Wh w' v' z ∧ Below w2.heap.size w2 w') := HD.out w2 _ _ (hx.below b2 (Nat.le_refl _)) hy lx ly
    clear hx hy b1 b2
    go_wp2_with fail
    refine HX.out.mono ?_
    rintro e w3 ⟨vz, rfl, hz, b3⟩
    obtain ⟨zb, za, zn, zc, rfl⟩ := hz.agg
    have B3 : Below w.heap.size w w3 := B2.trans (b3.mono B2.size)
    have HY : Hid (Calls Tryd.prog 55 #[.agg #[.bool zb, .slice za zn zc]] w3 fun e w' => e = .returned (.string (txt z)) ∧ Below w3.heap.size w3 w') := hText _ z w3 hz (HT.out w3 B3)
    clear hz b3 B2 HX
    go_wp2_with fail
    refine HY.out.mono ?_
    rintro e w4 ⟨rfl, b4⟩
    have B4 : Below w.heap.size w w4 := B3.trans (b4.mono B3.size)
    clear b4 B3 HY
    go_wp2_with fail
    refine (HC.out w4).mono ?_
    rintro e w5 ⟨rfl, hw⟩
    obtain rfl : w4 = w5 := hw.symm
    clear hw
    go_wp2
    go_ret2
    exact ⟨by rw [HE.out.1, HE.out.2]; rfl, B4⟩

set_option maxRecDepth 100000 in
set_option maxHeartbeats 2000000 in
theorem reckon_mul {a b : ByteArray} {x y z : Int} (ha : IsNum a x) (hb : IsNum b y) (hd : Does 39 x y z) (w : World) (htab : Lib.TabIs Tryd.prog w "internal/strconv.uint64pow10" .u64 Lib.pow10Tab) :
    Calls Tryd.prog 32 #[.string a, .string b, .func (.func 39) #[] #[]] w fun e w' => e = .returned (.tuple #[.string (resT z), .int .i64 (resE z)]) ∧ Below w.heap.size w w' := by
  have HA : Hid (IsNum a x) := ha
  have HB : Hid (IsNum b y) := hb
  have HD : Hid (Does 39 x y z) := hd
  have HT : Hid (∀ wq, Below w.heap.size w wq → Lib.TabIs Tryd.prog wq "internal/strconv.uint64pow10" .u64 Lib.pow10Tab) := fun wq hq => tab_below htab hq (Nat.le_refl _)
  clear ha hb hd htab
  by_cases hbig : Lib.nDigits z.natAbs ≤ 200
  · have HC : Hid (∀ w, Calls Tryd.prog 12 #[.string (txt z)] w fun e w' => e = .returned (.bool true) ∧ w' = w) := fun w => nCan_yes ⟨rfl, hbig⟩ w
    have HE : Hid (resT z = txt z ∧ resE z = 0) := ⟨by unfold resT; rw [if_pos hbig], by unfold resE; rw [if_pos hbig]⟩
    clear hbig
    go_enter Tryd.func32, Tryd.ntmps32
    go_wp2_with fail
    refine (nCan_yes HA.out w).mono ?_
    rintro e w1 ⟨rfl, hw⟩
    obtain rfl : w = w1 := hw.symm
    clear hw
    go_wp2_with fail
    refine (nCan_yes HB.out w).mono ?_
    rintro e w1 ⟨rfl, hw⟩
    obtain rfl : w = w1 := hw.symm
    clear hw
    go_wp2_with fail
    refine (nRead HA.out w).mono ?_
    rintro e w1 ⟨vx, rfl, hx, lx, b1⟩
    obtain ⟨xb, xa, xn, xc, rfl⟩ := hx.agg
    go_wp2_with fail
    refine (nRead HB.out w1).mono ?_
    rintro e w2 ⟨vy, rfl, hy, ly, b2⟩
    obtain ⟨yb, ya, yn, yc, rfl⟩ := hy.agg
    have B2 : Below w.heap.size w w2 := b1.trans (b2.mono b1.size)
    have HX : Hid (Calls Tryd.prog 39 #[.agg #[.bool xb, .slice xa xn xc], .agg #[.bool yb, .slice ya yn yc]] w2 fun e w' => ∃ v', e = .returned v' ∧ Wh w' v' z ∧ Below w2.heap.size w2 w') := HD.out w2 _ _ (hx.below b2 (Nat.le_refl _)) hy lx ly
    clear hx hy b1 b2
    go_wp2_with fail
    refine HX.out.mono ?_
    rintro e w3 ⟨vz, rfl, hz, b3⟩
    obtain ⟨zb, za, zn, zc, rfl⟩ := hz.agg
    have B3 : Below w.heap.size w w3 := B2.trans (b3.mono B2.size)
    have HY : Hid (Calls Tryd.prog 55 #[.agg #[.bool zb, .slice za zn zc]] w3 fun e w' => e = .returned (.string (txt z)) ∧ Below w3.heap.size w3 w') := hText _ z w3 hz (HT.out w3 B3)
    clear hz b3 B2 HX
    go_wp2_with fail
    refine HY.out.mono ?_
    rintro e w4 ⟨rfl, b4⟩
    have B4 : Below w.heap.size w w4 := B3.trans (b4.mono B3.size)
    clear b4 B3 HY
    go_wp2_with fail
    refine (HC.out w4).mono ?_
    rintro e w5 ⟨rfl, hw⟩
    obtain rfl : w4 = w5 := hw.symm
    clear hw
    go_wp2
    go_ret2
    exact ⟨by rw [HE.out.1, HE.out.2]; rfl, B4⟩
  · have HC : Hid (∀ w, Calls Tryd.prog 12 #[.string (txt z)] w fun e w' => e = .returned (.bool false) ∧ w' = w) := fun w => nCan_false (can_txt hbig) w
    have HE : Hid (resT z = ⟨#[]⟩ ∧ resE z = 91) := ⟨by unfold resT; rw [if_neg hbig], by unfold resE; rw [if_neg hbig]⟩
    clear hbig
    go_enter Tryd.func32, Tryd.ntmps32
    go_wp2_with fail
    refine (nCan_yes HA.out w).mono ?_
    rintro e w1 ⟨rfl, hw⟩
    obtain rfl : w = w1 := hw.symm
    clear hw
    go_wp2_with fail
    refine (nCan_yes HB.out w).mono ?_
    rintro e w1 ⟨rfl, hw⟩
    obtain rfl : w = w1 := hw.symm
    clear hw
    go_wp2_with fail
    refine (nRead HA.out w).mono ?_
    rintro e w1 ⟨vx, rfl, hx, lx, b1⟩
    obtain ⟨xb, xa, xn, xc, rfl⟩ := hx.agg
    go_wp2_with fail
    refine (nRead HB.out w1).mono ?_
    rintro e w2 ⟨vy, rfl, hy, ly, b2⟩
    obtain ⟨yb, ya, yn, yc, rfl⟩ := hy.agg
    have B2 : Below w.heap.size w w2 := b1.trans (b2.mono b1.size)
    have HX : Hid (Calls Tryd.prog 39 #[.agg #[.bool xb, .slice xa xn xc], .agg #[.bool yb, .slice ya yn yc]] w2 fun e w' => ∃ v', e = .returned v' ∧ Wh w' v' z ∧ Below w2.heap.size w2 w') := HD.out w2 _ _ (hx.below b2 (Nat.le_refl _)) hy lx ly
    clear hx hy b1 b2
    go_wp2_with fail
    refine HX.out.mono ?_
    rintro e w3 ⟨vz, rfl, hz, b3⟩
    obtain ⟨zb, za, zn, zc, rfl⟩ := hz.agg
    have B3 : Below w.heap.size w w3 := B2.trans (b3.mono B2.size)
    have HY : Hid (Calls Tryd.prog 55 #[.agg #[.bool zb, .slice za zn zc]] w3 fun e w' => e = .returned (.string (txt z)) ∧ Below w3.heap.size w3 w') := hText _ z w3 hz (HT.out w3 B3)
    clear hz b3 B2 HX
    go_wp2_with fail
    refine HY.out.mono ?_
    rintro e w4 ⟨rfl, b4⟩
    have B4 : Below w.heap.size w w4 := B3.trans (b4.mono B3.size)
    clear b4 B3 HY
    go_wp2_with fail
    refine (HC.out w4).mono ?_
    rintro e w5 ⟨rfl, hw⟩
    obtain rfl : w4 = w5 := hw.symm
    clear hw
    go_wp2
    go_ret2
    exact ⟨by rw [HE.out.1, HE.out.2]; rfl, B4⟩

set_option maxRecDepth 100000 in
theorem reckon_no_add {a b : ByteArray} (h : ¬ ((∃ x, IsNum a x) ∧ ∃ y, IsNum b y)) (w : World) :
    Calls Tryd.prog 32 #[.string a, .string b, .func (.func 33) #[] #[]] w fun e w' => e = .returned (.tuple #[.string ⟨#[]⟩, .int .i64 90]) ∧ Below w.heap.size w w' := by
  by_cases ha : ∃ x, IsNum a x
  · have hb : ¬ ∃ y, IsNum b y := fun hb => h ⟨ha, hb⟩
    obtain ⟨x, ha⟩ := ha
    have HA : Hid (IsNum a x) := ha
    have HB : Hid (¬ ∃ y, IsNum b y) := hb
    clear h ha hb
    go_enter Tryd.func32, Tryd.ntmps32
    go_wp2_with fail
    refine (nCan_yes HA.out w).mono ?_
    rintro e w1 ⟨rfl, hw⟩
    obtain rfl : w = w1 := hw.symm
    clear hw
    go_wp2_with fail
    refine (nCan_false HB.out w).mono ?_
    rintro e w1 ⟨rfl, hw⟩
    obtain rfl : w = w1 := hw.symm
    clear hw
    go_wp2
    go_ret2
    exact ⟨rfl, Below.refl _ _⟩
  · have HA : Hid (¬ ∃ y, IsNum a y) := ha
    clear h ha
    go_enter Tryd.func32, Tryd.ntmps32
    go_wp2_with fail
    refine (nCan_false HA.out w).mono ?_
    rintro e w1 ⟨rfl, hw⟩
    obtain rfl : w = w1 := hw.symm
    clear hw
    go_wp2
    go_ret2
    exact ⟨rfl, Below.refl _ _⟩

set_option maxRecDepth 100000 in
theorem reckon_no_sub {a b : ByteArray} (h : ¬ ((∃ x, IsNum a x) ∧ ∃ y, IsNum b y)) (w : World) :
    Calls Tryd.prog 32 #[.string a, .string b, .func (.func 37) #[] #[]] w fun e w' => e = .returned (.tuple #[.string ⟨#[]⟩, .int .i64 90]) ∧ Below w.heap.size w w' := by
  by_cases ha : ∃ x, IsNum a x
  · have hb : ¬ ∃ y, IsNum b y := fun hb => h ⟨ha, hb⟩
    obtain ⟨x, ha⟩ := ha
    have HA : Hid (IsNum a x) := ha
    have HB : Hid (¬ ∃ y, IsNum b y) := hb
    clear h ha hb
    go_enter Tryd.func32, Tryd.ntmps32
    go_wp2_with fail
    refine (nCan_yes HA.out w).mono ?_
    rintro e w1 ⟨rfl, hw⟩
    obtain rfl : w = w1 := hw.symm
    clear hw
    go_wp2_with fail
    refine (nCan_false HB.out w).mono ?_
    rintro e w1 ⟨rfl, hw⟩
    obtain rfl : w = w1 := hw.symm
    clear hw
    go_wp2
    go_ret2
    exact ⟨rfl, Below.refl _ _⟩
  · have HA : Hid (¬ ∃ y, IsNum a y) := ha
    clear h ha
    go_enter Tryd.func32, Tryd.ntmps32
    go_wp2_with fail
    refine (nCan_false HA.out w).mono ?_
    rintro e w1 ⟨rfl, hw⟩
    obtain rfl : w = w1 := hw.symm
    clear hw
    go_wp2
    go_ret2
    exact ⟨rfl, Below.refl _ _⟩

set_option maxRecDepth 100000 in
theorem reckon_no_mul {a b : ByteArray} (h : ¬ ((∃ x, IsNum a x) ∧ ∃ y, IsNum b y)) (w : World) :
    Calls Tryd.prog 32 #[.string a, .string b, .func (.func 39) #[] #[]] w fun e w' => e = .returned (.tuple #[.string ⟨#[]⟩, .int .i64 90]) ∧ Below w.heap.size w w' := by
  by_cases ha : ∃ x, IsNum a x
  · have hb : ¬ ∃ y, IsNum b y := fun hb => h ⟨ha, hb⟩
    obtain ⟨x, ha⟩ := ha
    have HA : Hid (IsNum a x) := ha
    have HB : Hid (¬ ∃ y, IsNum b y) := hb
    clear h ha hb
    go_enter Tryd.func32, Tryd.ntmps32
    go_wp2_with fail
    refine (nCan_yes HA.out w).mono ?_
    rintro e w1 ⟨rfl, hw⟩
    obtain rfl : w = w1 := hw.symm
    clear hw
    go_wp2_with fail
    refine (nCan_false HB.out w).mono ?_
    rintro e w1 ⟨rfl, hw⟩
    obtain rfl : w = w1 := hw.symm
    clear hw
    go_wp2
    go_ret2
    exact ⟨rfl, Below.refl _ _⟩
  · have HA : Hid (¬ ∃ y, IsNum a y) := ha
    clear h ha
    go_enter Tryd.func32, Tryd.ntmps32
    go_wp2_with fail
    refine (nCan_false HA.out w).mono ?_
    rintro e w1 ⟨rfl, hw⟩
    obtain rfl : w = w1 := hw.symm
    clear hw
    go_wp2
    go_ret2
    exact ⟨rfl, Below.refl _ _⟩

set_option maxRecDepth 100000 in
theorem nAdd_ok {a b : ByteArray} {x y : Int} (ha : IsNum a x) (hb : IsNum b y) (w : World) (htab : Lib.TabIs Tryd.prog w "internal/strconv.uint64pow10" .u64 Lib.pow10Tab) :
    Calls Tryd.prog 15 #[.string a, .string b] w fun e w' => e = .returned (.tuple #[.string (resT (x + y)), .int .i64 (resE (x + y))]) ∧ Below w.heap.size w w' := by
  have HC := reckon_add ha hb (does_plus x y) w htab
  generalize resT (x + y) = T at *
  generalize resE (x + y) = R at *
  clear ha hb htab
  go_enter Tryd.func15, Tryd.ntmps15
  go_wp2_with fail
  refine HC.mono ?_
  rintro e w1 ⟨rfl, b1⟩
  go_wp2
  go_ret2
  exact ⟨rfl, b1⟩
set_option maxRecDepth 100000 in
theorem nAdd_no {a b : ByteArray} (h : ¬ ((∃ x, IsNum a x) ∧ ∃ y, IsNum b y)) (w : World) :
    Calls Tryd.prog 15 #[.string a, .string b] w fun e w' => e = .returned (.tuple #[.string ⟨#[]⟩, .int .i64 90]) ∧ Below w.heap.size w w' := by
  have HC := reckon_no_add h w
  clear h
  go_enter Tryd.func15, Tryd.ntmps15
  go_wp2_with fail
  refine HC.mono ?_
  rintro e w1 ⟨rfl, b1⟩
  go_wp2
  go_ret2
  exact ⟨rfl, b1⟩

set_option maxRecDepth 100000 in
theorem nSub_ok {a b : ByteArray} {x y : Int} (ha : IsNum a x) (hb : IsNum b y) (w : World) (htab : Lib.TabIs Tryd.prog w "internal/strconv.uint64pow10" .u64 Lib.pow10Tab) :
    Calls Tryd.prog 17 #[.string a, .string b] w fun e w' => e = .returned (.tuple #[.string (resT (x - y)), .int .i64 (resE (x - y))]) ∧ Below w.heap.size w w' := by
  have HC := reckon_sub ha hb (does_minus x y) w htab
  generalize resT (x - y) = T at *
  generalize resE (x - y) = R at *
  clear ha hb htab
  go_enter Tryd.func17, Tryd.ntmps17
  go_wp2_with fail
  refine HC.mono ?_
  rintro e w1 ⟨rfl, b1⟩
  go_wp2
  go_ret2
  exact ⟨rfl, b1⟩
set_option maxRecDepth 100000 in
theorem nSub_no {a b : ByteArray} (h : ¬ ((∃ x, IsNum a x) ∧ ∃ y, IsNum b y)) (w : World) :
    Calls Tryd.prog 17 #[.string a, .string b] w fun e w' => e = .returned (.tuple #[.string ⟨#[]⟩, .int .i64 90]) ∧ Below w.heap.size w w' := by
  have HC := reckon_no_sub h w
  clear h
  go_enter Tryd.func17, Tryd.ntmps17
  go_wp2_with fail
  refine HC.mono ?_
  rintro e w1 ⟨rfl, b1⟩
  go_wp2
  go_ret2
  exact ⟨rfl, b1⟩

set_option maxRecDepth 100000 in
theorem nMul_ok {a b : ByteArray} {x y : Int} (ha : IsNum a x) (hb : IsNum b y) (w : World) (htab : Lib.TabIs Tryd.prog w "internal/strconv.uint64pow10" .u64 Lib.pow10Tab) :
    Calls Tryd.prog 19 #[.string a, .string b] w fun e w' => e = .returned (.tuple #[.string (resT (x * y)), .int .i64 (resE (x * y))]) ∧ Below w.heap.size w w' := by
  have HC := reckon_mul ha hb (does_times x y) w htab
  generalize resT (x * y) = T at *
  generalize resE (x * y) = R at *
  clear ha hb htab
  go_enter Tryd.func19, Tryd.ntmps19
  go_wp2_with fail
  refine HC.mono ?_
  rintro e w1 ⟨rfl, b1⟩
  go_wp2
  go_ret2
  exact ⟨rfl, b1⟩
set_option maxRecDepth 100000 in
theorem nMul_no {a b : ByteArray} (h : ¬ ((∃ x, IsNum a x) ∧ ∃ y, IsNum b y)) (w : World) :
    Calls Tryd.prog 19 #[.string a, .string b] w fun e w' => e = .returned (.tuple #[.string ⟨#[]⟩, .int .i64 90]) ∧ Below w.heap.size w w' := by
  have HC := reckon_no_mul h w
  clear h
  go_enter Tryd.func19, Tryd.ntmps19
  go_wp2_with fail
  refine HC.mono ?_
  rintro e w1 ⟨rfl, b1⟩
  go_wp2
  go_ret2
  exact ⟨rfl, b1⟩
end Go.Proofs.YtcnlclocnnijgaaDoor
