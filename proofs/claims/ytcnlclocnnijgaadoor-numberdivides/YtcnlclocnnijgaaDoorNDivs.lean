/-
  NumberDivides, walked. Conditions: texts of at most 2^48 bytes; the library's table of powers of ten is as it starts.
-/
import Derived.Test.YtcnlclocnnijgaaDoorNDivide
import Derived.Test.YtcnlclocnnijgaaDoorNOrder
namespace Go.Proofs
open Go.Shelf
def Tryd.lays99_ren : Go.Shelf.Ren := ⟨fun | 99 => 27 | 206 => 49 | n => n, fun | 9 => 9 | 4 => 4 | 3 => 3 | n => n, fun | n => n⟩
theorem Tryd.lays99 : Go.Proofs.Lays.n99 Tryd.prog Tryd.lays99_ren := {
  mixed := by kernel_rfl
  f99 := Tryd.func27.trans (congrArg some (by kernel_rfl))
  f206 := Tryd.func49.trans (congrArg some (by kernel_rfl))
  t3 := Tryd.underlying3
  a3 := Tryd.isAgg3
  z3 := Tryd.sizeOf3
  v3 := Tryd.zeroValue3
  t4 := Tryd.underlying4
  a4 := Tryd.isAgg4
  z4 := Tryd.sizeOf4
  v4 := Tryd.zeroValue4
  t9 := Tryd.underlying9
  a9 := Tryd.isAgg9
  z9 := Tryd.sizeOf9
  v9 := Tryd.zeroValue9 }
def Tryd.lays101_ren : Go.Shelf.Ren := ⟨fun | 101 => 28 | 206 => 49 | 208 => 50 | n => n, fun | 9 => 9 | 4 => 4 | 3 => 3 | n => n, fun | n => n⟩
theorem Tryd.lays101 : Go.Proofs.Lays.n101 Tryd.prog Tryd.lays101_ren := {
  mixed := by kernel_rfl
  f101 := Tryd.func28.trans (congrArg some (by kernel_rfl))
  f206 := Tryd.func49.trans (congrArg some (by kernel_rfl))
  f208 := Tryd.func50.trans (congrArg some (by kernel_rfl))
  t3 := Tryd.underlying3
  a3 := Tryd.isAgg3
  z3 := Tryd.sizeOf3
  v3 := Tryd.zeroValue3
  t4 := Tryd.underlying4
  a4 := Tryd.isAgg4
  z4 := Tryd.sizeOf4
  v4 := Tryd.zeroValue4
  t9 := Tryd.underlying9
  a9 := Tryd.isAgg9
  z9 := Tryd.sizeOf9
  v9 := Tryd.zeroValue9 }
end Go.Proofs
namespace Go.Proofs.YtcnlclocnnijgaaDoor
open Go.RowKit
set_option linter.unusedVariables false

/-- A number's text and a - ahead of it. -/
theorem hp_num {s : ByteArray} {x : Int} (h : IsNum s x) : Lib.hasPrefix s.data.toList [45] = decide (x < 0) ∧ (⟨(Lib.trimPrefix s.data.toList [45]).toArray⟩ : ByteArray) = txt (x.natAbs : Int) := by
  have hs := h.dgs.size
  have hn := Lib.nDigits_pos x.natAbs
  have hpos : 0 < s.size := by omega
  have hdl : s.data.toList = Lib.itoa x := by rw [h.1]; exact txt_data x
  by_cases hx : x < 0
  · have e1 : Lib.hasPrefix s.data.toList [45] = true := by
      rw [hdl]
      unfold Lib.itoa
      rw [if_pos hx]
      simp [Lib.hasPrefix, List.isPrefixOf]
    refine ⟨by rw [e1]; simpa using hx, ?_⟩
    apply ByteArray.ext
    apply Array.toList_inj.1
    unfold Lib.trimPrefix
    rw [if_pos e1, hdl, txt_data]
    unfold Lib.itoa
    rw [if_pos hx, if_neg (by omega)]
    simp
  · have e0 : s = txt (x.natAbs : Int) := by rw [h.1]; congr 1; omega
    have hno : s[0] ≠ 45 := fun e => by
      have := h.dgs.by_ 0 hpos (by rw [if_neg hx]; omega)
      rw [e] at this
      simp at this
      omega
    have e1 : Lib.hasPrefix s.data.toList [45] = false := by
      rw [bytes_tail s hpos]; simp [Lib.hasPrefix, List.isPrefixOf]; exact fun e => hno e.symm
    refine ⟨by rw [e1]; simpa using hx, ?_⟩
    rw [← e0]
    unfold Lib.trimPrefix
    rw [if_neg (by rw [e1]; decide)]
theorem hasP {s : ByteArray} {x : Int} (h : IsNum s x) (w : World) : Calls Tryd.prog 27 #[.string s, .string ⟨#[45]⟩] w fun e w' => e = .returned (.bool (decide (x < 0))) ∧ w' = w := by
  have := Any.strings_HasPrefix Tryd.lays99 s ⟨#[45]⟩ w
  rw [← (hp_num h).1]
  exact this
theorem trimP {s : ByteArray} {x : Int} (h : IsNum s x) (w : World) : Calls Tryd.prog 28 #[.string s, .string ⟨#[45]⟩] w fun e w' => e = .returned (.string (txt (x.natAbs : Int))) ∧ w' = w := by
  have := Any.strings_TrimPrefix Tryd.lays101 s ⟨#[45]⟩ w
  rw [← (hp_num h).2]
  exact this

/-- What a quotient and its rest make. -/
theorem sg_int (b : Bool) (n : Nat) : sg b n = if b then -(n : Int) else (n : Int) := rfl
theorem quo_mul (x y : Int) : quoI x y * y = sg (decide (x < 0)) (x.natAbs / y.natAbs * y.natAbs) := by
  unfold quoI
  generalize x.natAbs / y.natAbs = Q
  by_cases hx : x < 0
  · by_cases hy : y < 0
    · have e : y = -(y.natAbs : Int) := by omega
      simp only [hx, hy, decide_true, bne_self_eq_false, sg_int, Bool.false_eq_true, if_false, if_true]
      rw [Int.natCast_mul]
      generalize (y.natAbs : Int) = Y at *
      rw [e, Int.mul_neg]
    · have e : y = (y.natAbs : Int) := by omega
      simp only [hx, hy, decide_true, decide_false, sg_int, if_true, Bool.bne_false]
      rw [Int.natCast_mul]
      generalize (y.natAbs : Int) = Y at *
      rw [e, Int.neg_mul]
  · by_cases hy : y < 0
    · have e : y = -(y.natAbs : Int) := by omega
      simp only [hx, hy, decide_true, decide_false, sg_int, Bool.false_bne, if_true, Bool.false_eq_true, if_false]
      rw [Int.natCast_mul]
      generalize (y.natAbs : Int) = Y at *
      rw [e, Int.neg_mul_neg]
    · have e : y = (y.natAbs : Int) := by omega
      simp only [hx, hy, decide_false, sg_int, bne_self_eq_false, Bool.false_eq_true, if_false]
      rw [Int.natCast_mul]
      generalize (y.natAbs : Int) = Y at *
      rw [e]
theorem quo_rem (x y : Int) : quoI x y * y + remI x y = x := by
  rw [quo_mul]
  unfold remI
  have h := Nat.div_add_mod x.natAbs y.natAbs
  rw [Nat.mul_comm] at h
  generalize x.natAbs / y.natAbs * y.natAbs = P at *
  generalize x.natAbs % y.natAbs = R at *
  by_cases hx : x < 0
  · simp only [hx, decide_true, sg_int, if_true]; omega
  · simp only [hx, decide_false, sg_int, Bool.false_eq_true, if_false]; omega
theorem fits {z : Int} (h : Lib.nDigits z.natAbs ≤ 200) : resT z = txt z ∧ resE z = 0 := ⟨by unfold resT; rw [if_pos h], by unfold resE; rw [if_pos h]⟩

set_option maxRecDepth 100000 in
set_option maxHeartbeats 2000000 in
theorem divides_on (a b Q R P R' B' : ByteArray) (s z : Bool) (w : World)
    (H1 : Hid (∀ wq, Tb wq → Calls Tryd.prog 21 #[.string a, .string b] wq fun e w' => e = .returned (.tuple #[.string Q, .int .i64 0]) ∧ Below wq.heap.size wq w'))
    (H2 : Hid (∀ wq, Tb wq → Calls Tryd.prog 23 #[.string a, .string b] wq fun e w' => e = .returned (.tuple #[.string R, .int .i64 0]) ∧ Below wq.heap.size wq w'))
    (H3 : Hid (∀ wq, Tb wq → Calls Tryd.prog 19 #[.string Q, .string b] wq fun e w' => e = .returned (.tuple #[.string P, .int .i64 0]) ∧ Below wq.heap.size wq w'))
    (H4 : Hid (∀ wq, Tb wq → Calls Tryd.prog 15 #[.string P, .string R] wq fun e w' => e = .returned (.tuple #[.string a, .int .i64 0]) ∧ Below wq.heap.size wq w'))
    (H5 : Hid (z = false → ∀ wq, Calls Tryd.prog 27 #[.string R, .string ⟨#[45]⟩] wq fun e w' => e = .returned (.bool s) ∧ w' = wq))
    (H6 : Hid (∀ wq, Calls Tryd.prog 27 #[.string a, .string ⟨#[45]⟩] wq fun e w' => e = .returned (.bool s) ∧ w' = wq))
    (H7 : Hid (∀ wq, Calls Tryd.prog 28 #[.string R, .string ⟨#[45]⟩] wq fun e w' => e = .returned (.string R') ∧ w' = wq))
    (H8 : Hid (∀ wq, Calls Tryd.prog 28 #[.string b, .string ⟨#[45]⟩] wq fun e w' => e = .returned (.string B') ∧ w' = wq))
    (H9 : Hid (∀ wq, Calls Tryd.prog 25 #[.string R', .string B'] wq fun e w' => e = .returned (.tuple #[.int .i64 (-1), .int .i64 0]) ∧ Below wq.heap.size wq w'))
    (hz : (R.toList == [48]) = z) (ht : Tb w) :
    Calls Tryd.prog 7 #[.string a, .string b] w fun e w' => e = .returned (.bool true) ∧ Below w.heap.size w w' := by
  have HT : Hid (∀ wq, Below w.heap.size w wq → Tb wq) := fun wq hq => ht.below hq
  have q1 : (a.toList == a.toList) = true := by simp
  have q2 : (s != s) = false := by simp
  clear ht
  cases z with
  | true =>
    go_enter Tryd.func7, Tryd.ntmps7
    go_wp2_with fail
    refine (H1.out w (HT.out w (Below.refl _ _))).mono ?_
    rintro e w1 ⟨rfl, B1⟩
    go_wp2_with fail
    refine (H2.out w1 (HT.out w1 B1)).mono ?_
    rintro e w2 ⟨rfl, b2⟩
    have B2 := B1.trans (b2.mono B1.size)
    go_wp2_with fail
    refine (H3.out w2 (HT.out w2 B2)).mono ?_
    rintro e w3 ⟨rfl, b3⟩
    have B3 := B2.trans (b3.mono B2.size)
    go_wp2_with fail
    refine (H4.out w3 (HT.out w3 B3)).mono ?_
    rintro e w4 ⟨rfl, b4⟩
    have B4 := B3.trans (b4.mono B3.size)
    clear B1 b2 b3 b4 B2 B3 H1 H2 H3 H4 H5 H6
    go_wp2_with fail
    refine (H7.out w4).mono ?_
    rintro e w5 ⟨rfl, hw⟩
    obtain rfl : w4 = w5 := hw.symm
    clear hw
    go_wp2_with fail
    refine (H8.out w4).mono ?_
    rintro e w5 ⟨rfl, hw⟩
    obtain rfl : w4 = w5 := hw.symm
    clear hw
    go_wp2_with fail
    refine (H9.out w4).mono ?_
    rintro e w5 ⟨rfl, b5⟩
    have B5 := B4.trans (b5.mono B4.size)
    clear H7 H8 H9 B4 b5
    go_wp2
    go_ret
    exact ⟨rfl, B5⟩
  | false =>
    go_enter Tryd.func7, Tryd.ntmps7
    go_wp2_with fail
    refine (H1.out w (HT.out w (Below.refl _ _))).mono ?_
    rintro e w1 ⟨rfl, B1⟩
    go_wp2_with fail
    refine (H2.out w1 (HT.out w1 B1)).mono ?_
    rintro e w2 ⟨rfl, b2⟩
    have B2 := B1.trans (b2.mono B1.size)
    go_wp2_with fail
    refine (H3.out w2 (HT.out w2 B2)).mono ?_
    rintro e w3 ⟨rfl, b3⟩
    have B3 := B2.trans (b3.mono B2.size)
    go_wp2_with fail
    refine (H4.out w3 (HT.out w3 B3)).mono ?_
    rintro e w4 ⟨rfl, b4⟩
    have B4 := B3.trans (b4.mono B3.size)
    clear B1 b2 b3 b4 B2 B3 H1 H2 H3 H4
    go_wp2_with fail
    refine (H5.out (by trivial) w4).mono ?_
    rintro e w5 ⟨rfl, hw⟩
    obtain rfl : w4 = w5 := hw.symm
    clear hw
    go_wp2_with fail
    refine (H6.out w4).mono ?_
    rintro e w5 ⟨rfl, hw⟩
    obtain rfl : w4 = w5 := hw.symm
    clear hw H5 H6
    go_wp2_with fail
    refine (H7.out w4).mono ?_
    rintro e w5 ⟨rfl, hw⟩
    obtain rfl : w4 = w5 := hw.symm
    clear hw
    go_wp2_with fail
    refine (H8.out w4).mono ?_
    rintro e w5 ⟨rfl, hw⟩
    obtain rfl : w4 = w5 := hw.symm
    clear hw
    go_wp2_with fail
    refine (H9.out w4).mono ?_
    rintro e w5 ⟨rfl, b5⟩
    have B5 := B4.trans (b5.mono B4.size)
    clear H7 H8 H9 B4 b5
    go_wp2
    go_ret
    exact ⟨rfl, B5⟩

set_option maxRecDepth 100000 in
set_option maxHeartbeats 2000000 in
theorem divides_zero {a b : ByteArray} {x : Int} (ha : IsNum a x) (hb : IsNum b 0) (w : World) :
    Calls Tryd.prog 7 #[.string a, .string b] w fun e w' => e = .returned (.bool true) ∧ Below w.heap.size w w' := by
  have H1 : Hid (∀ wq, Calls Tryd.prog 21 #[.string a, .string b] wq fun e w' => e = .returned (.tuple #[.string ⟨#[]⟩, .int .i64 92]) ∧ Below wq.heap.size wq w') := fun wq => nQuo_zero ha hb wq
  have H2 : Hid (∀ wq, Calls Tryd.prog 23 #[.string a, .string b] wq fun e w' => e = .returned (.tuple #[.string ⟨#[]⟩, .int .i64 92]) ∧ Below wq.heap.size wq w') := fun wq => nRem_zero ha hb wq
  have HA : Hid (IsNum a x) := ha
  have hb0 := zero_yes hb
  clear ha hb
  go_enter Tryd.func7, Tryd.ntmps7
  go_wp2_with fail
  refine (H1.out w).mono ?_
  rintro e w1 ⟨rfl, B1⟩
  go_wp2_with fail
  refine (H2.out w1).mono ?_
  rintro e w2 ⟨rfl, b2⟩
  have B2 := B1.trans (b2.mono B1.size)
  clear H1 H2 B1 b2
  go_wp2_with fail
  refine (nCan_yes HA.out w2).mono ?_
  rintro e w3 ⟨rfl, hw⟩
  obtain rfl : w2 = w3 := hw.symm
  clear hw
  go_wp2
  go_ret
  exact ⟨rfl, B2⟩

set_option maxRecDepth 100000 in
set_option maxHeartbeats 2000000 in
theorem divides_no {a b : ByteArray} (h : ¬ ((∃ x, IsNum a x) ∧ ∃ y, IsNum b y)) (w : World) :
    Calls Tryd.prog 7 #[.string a, .string b] w fun e w' => e = .returned (.bool true) ∧ Below w.heap.size w w' := by
  have H1 : Hid (∀ wq, Calls Tryd.prog 21 #[.string a, .string b] wq fun e w' => e = .returned (.tuple #[.string ⟨#[]⟩, .int .i64 90]) ∧ Below wq.heap.size wq w') := fun wq => nQuo_no h wq
  have H2 : Hid (∀ wq, Calls Tryd.prog 23 #[.string a, .string b] wq fun e w' => e = .returned (.tuple #[.string ⟨#[]⟩, .int .i64 90]) ∧ Below wq.heap.size wq w') := fun wq => nRem_no h wq
  by_cases ha : ∃ x, IsNum a x
  · have hb : ¬ ∃ y, IsNum b y := fun hb => h ⟨ha, hb⟩
    obtain ⟨x, ha⟩ := ha
    have HA : Hid (IsNum a x) := ha
    have HB : Hid (¬ ∃ y, IsNum b y) := hb
    clear h ha hb
    go_enter Tryd.func7, Tryd.ntmps7
    go_wp2_with fail
    refine (H1.out w).mono ?_
    rintro e w1 ⟨rfl, B1⟩
    go_wp2_with fail
    refine (H2.out w1).mono ?_
    rintro e w2 ⟨rfl, b2⟩
    have B2 := B1.trans (b2.mono B1.size)
    clear H1 H2 B1 b2
    go_wp2_with fail
    refine (nCan_yes HA.out w2).mono ?_
    rintro e w3 ⟨rfl, hw⟩
    obtain rfl : w2 = w3 := hw.symm
    clear hw
    go_wp2_with fail
    refine (nCan_false HB.out w2).mono ?_
    rintro e w3 ⟨rfl, hw⟩
    obtain rfl : w2 = w3 := hw.symm
    clear hw
    go_wp2
    go_ret
    exact ⟨rfl, B2⟩
  · have HA : Hid (¬ ∃ y, IsNum a y) := ha
    clear h ha
    go_enter Tryd.func7, Tryd.ntmps7
    go_wp2_with fail
    refine (H1.out w).mono ?_
    rintro e w1 ⟨rfl, B1⟩
    go_wp2_with fail
    refine (H2.out w1).mono ?_
    rintro e w2 ⟨rfl, b2⟩
    have B2 := B1.trans (b2.mono B1.size)
    clear H1 H2 B1 b2
    go_wp2_with fail
    refine (nCan_false HA.out w2).mono ?_
    rintro e w3 ⟨rfl, hw⟩
    obtain rfl : w2 = w3 := hw.symm
    clear hw
    go_wp2
    go_ret
    exact ⟨rfl, B2⟩

theorem nd_mono : ∀ (v u : Nat), u ≤ v → Lib.nDigits u ≤ Lib.nDigits v := by
  intro v
  induction v using Nat.strongRecOn with
  | ind v ih =>
    intro u h
    by_cases hu : u < 10
    · rw [Lib.nDigits_small hu]
      exact Lib.nDigits_pos v
    · rw [Lib.nDigits_big hu, Lib.nDigits_big (by omega : ¬ v < 10)]
      have := ih (v / 10) (by omega) (u / 10) (by omega)
      omega
theorem digits_le {u v : Nat} (h : u ≤ v) (hv : Lib.nDigits v ≤ 200) : Lib.nDigits u ≤ 200 := Nat.le_trans (nd_mono v u h) hv
theorem divides_walk (a b : ByteArray) (w : World) (hsa : a.size ≤ 281474976710656) (hsb : b.size ≤ 281474976710656) (ht : Tb w) :
    Calls Tryd.prog 7 #[.string a, .string b] w fun e w' => e = .returned (.bool true) ∧ Below w.heap.size w w' := by
  by_cases h : (∃ x, IsNum a x) ∧ ∃ y, IsNum b y
  · obtain ⟨⟨x, ha⟩, y, hb⟩ := h
    by_cases hy : y = 0
    · subst hy
      exact divides_zero ha hb w
    · have dx := ha.2
      have dq : Lib.nDigits (quoI x y).natAbs ≤ 200 := by
        unfold quoI
        rw [sg_abs]
        exact digits_le (Nat.div_le_self _ _) dx
      have ar : (remI x y).natAbs = x.natAbs % y.natAbs := by unfold remI; rw [sg_abs]
      have dr : Lib.nDigits (remI x y).natAbs ≤ 200 := by
        rw [ar]
        exact digits_le (Nat.mod_le _ _) dx
      have dm : Lib.nDigits (quoI x y * y).natAbs ≤ 200 := by
        rw [quo_mul, sg_abs]
        exact digits_le (Nat.div_mul_le_self _ _) dx
      have hq : IsNum (txt (quoI x y)) (quoI x y) := ⟨rfl, dq⟩
      have hr : IsNum (txt (remI x y)) (remI x y) := ⟨rfl, dr⟩
      have hp : IsNum (txt (quoI x y * y)) (quoI x y * y) := ⟨rfl, dm⟩
      have hlt : x.natAbs % y.natAbs < y.natAbs := Nat.mod_lt _ (by omega)
      refine divides_on a b (txt (quoI x y)) (txt (remI x y)) (txt (quoI x y * y)) (txt ((remI x y).natAbs : Int)) (txt (y.natAbs : Int)) (decide (x < 0)) ((txt (remI x y)).toList == [48]) w
        (fun wq hq' => ?_) (fun wq hq' => ?_) (fun wq hq' => ?_) (fun wq hq' => ?_) (fun hz wq => ?_) (fun wq => hasP ha wq) (fun wq => trimP hr wq) (fun wq => trimP hb wq) (fun wq => ?_) rfl ht
      · have := nQuo_ok ha hb hy wq hq'
        rw [(fits dq).1, (fits dq).2] at this
        exact this
      · have := nRem_ok ha hb hy wq hq'
        rw [(fits dr).1, (fits dr).2] at this
        exact this
      · have := nMul_ok hq hb wq hq'
        rw [(fits dm).1, (fits dm).2] at this
        exact this
      · have := nAdd_ok hp hr wq hq'
        rw [quo_rem, (fits dx).1, (fits dx).2, ← ha.1] at this
        exact this
      · have h0 : remI x y ≠ 0 := fun e => by
          rw [e] at hr hz
          rw [zero_yes hr] at hz
          cases hz
        have e : decide (remI x y < 0) = decide (x < 0) := by
          unfold remI at h0 ⊢
          by_cases hx : x < 0
          · simp only [hx, decide_true, sg_int, if_true] at h0 ⊢
            simp; omega
          · simp only [hx, decide_false, sg_int, Bool.false_eq_true, if_false] at h0 ⊢
            simp; omega
        rw [← e]
        exact hasP hr wq
      · have h1 : IsNum (txt ((remI x y).natAbs : Int)) ((remI x y).natAbs : Int) := ⟨rfl, by simpa using dr⟩
        have h2 : IsNum (txt (y.natAbs : Int)) (y.natAbs : Int) := ⟨rfl, by simpa using hb.2⟩
        have := nCompare_ok h1 h2 wq
        rw [cmpI_lt (by rw [ar]; omega)] at this
        exact this
  · exact divides_no h w
end Go.Proofs.YtcnlclocnnijgaaDoor
