/-
  The program's Compare; NumberOrder, walked. Condition: the library's table of powers of ten is as it starts.
-/
import Derived.Test.YtcnlclocnnijgaaDoorNReck2
namespace Go.Proofs.YtcnlclocnnijgaaDoor
open Go.RowKit
set_option linter.unusedVariables false

set_option maxRecDepth 100000 in
theorem nCompare_ok {a b : ByteArray} {x y : Int} (ha : IsNum a x) (hb : IsNum b y) (w : World) :
    Calls Tryd.prog 25 #[.string a, .string b] w fun e w' => e = .returned (.tuple #[.int .i64 (cmpI x y), .int .i64 0]) ∧ Below w.heap.size w w' := by
  have HA : Hid (IsNum a x) := ha
  have HB : Hid (IsNum b y) := hb
  clear ha hb
  go_enter Tryd.func25, Tryd.ntmps25
  go_wp2_with fail
  refine (nCan_yes HA.out w).mono ?_
  rintro e w1 ⟨rfl, hw⟩
  obtain rfl : w = w1 := hw.symm
  clear hw
  go_wp2_with fail
  refine (nCan_yes HB.out w).mono ?_
  rintro e w1 ⟨rfl, hw⟩
  obtain rfl : w = w1 := hw.symm
  clear hw
  go_wp2_with fail
  refine (nRead HA.out w).mono ?_
  rintro e w1 ⟨vx, rfl, hx, _, b1⟩
  obtain ⟨xb, xa, xn, xc, rfl⟩ := hx.agg
  go_wp2_with fail
  refine (nRead HB.out w1).mono ?_
  rintro e w2 ⟨vy, rfl, hy, _, b2⟩
  obtain ⟨yb, ya, yn, yc, rfl⟩ := hy.agg
  have B2 : Below w.heap.size w w2 := b1.trans (b2.mono b1.size)
  have HX : Hid (Calls Tryd.prog 47 #[.agg #[.bool xb, .slice xa xn xc], .agg #[.bool yb, .slice ya yn yc]] w2 fun e w' => e = .returned (.int .i64 (cmpI x y)) ∧ Below w2.heap.size w2 w') := hCompare _ _ x y w2 (hx.below b2 (Nat.le_refl _)) hy
  clear hx hy b1 b2
  go_wp2_with fail
  refine HX.out.mono ?_
  rintro e w3 ⟨rfl, b3⟩
  have B3 : Below w.heap.size w w3 := B2.trans (b3.mono B2.size)
  clear b3 B2 HX
  go_wp2
  go_ret2
  exact ⟨rfl, B3⟩
set_option maxRecDepth 100000 in
theorem nCompare_no {a b : ByteArray} (h : ¬ ((∃ x, IsNum a x) ∧ ∃ y, IsNum b y)) (w : World) :
    Calls Tryd.prog 25 #[.string a, .string b] w fun e w' => e = .returned (.tuple #[.int .i64 0, .int .i64 90]) ∧ Below w.heap.size w w' := by
  by_cases ha : ∃ x, IsNum a x
  · have hb : ¬ ∃ y, IsNum b y := fun hb => h ⟨ha, hb⟩
    obtain ⟨x, ha⟩ := ha
    have HA : Hid (IsNum a x) := ha
    have HB : Hid (¬ ∃ y, IsNum b y) := hb
    clear h ha hb
    go_enter Tryd.func25, Tryd.ntmps25
    go_wp2_with fail
    refine (nCan_yes HA.out w).mono ?_
    rintro e w1 ⟨rfl, hw⟩
    obtain rfl : w = w1 := hw.symm
    clear hw
    go_wp2_with fail
    refine (nCan_false HB.out w).mono ?_
    rintro e w1 ⟨rfl, hw⟩
    obtain rfl : w = w1 := hw.symm
    clear hw
    go_wp2
    go_ret2
    exact ⟨rfl, Below.refl _ _⟩
  · have HA : Hid (¬ ∃ y, IsNum a y) := ha
    clear h ha
    go_enter Tryd.func25, Tryd.ntmps25
    go_wp2_with fail
    refine (nCan_false HA.out w).mono ?_
    rintro e w1 ⟨rfl, hw⟩
    obtain rfl : w = w1 := hw.symm
    clear hw
    go_wp2
    go_ret2
    exact ⟨rfl, Below.refl _ _⟩

/-- The library's table of powers of ten, in words. -/
def Tb (w : World) : Prop := Lib.TabIs Tryd.prog w "internal/strconv.uint64pow10" .u64 Lib.pow10Tab
theorem Tb.below {w w' : World} (h : Tb w) (hb : Below w.heap.size w w') : Tb w' := tab_below h hb (Nat.le_refl _)

set_option maxRecDepth 100000 in
set_option maxHeartbeats 2000000 in
theorem order_no {a b : ByteArray} (h : ¬ ((∃ x, IsNum a x) ∧ ∃ y, IsNum b y)) (w : World) :
    Calls Tryd.prog 6 #[.string a, .string b] w fun e w' => e = .returned (.bool true) ∧ Below w.heap.size w w' := by
  have h' : ¬ ((∃ x, IsNum b x) ∧ ∃ y, IsNum a y) := fun k => h ⟨k.2, k.1⟩
  have H1 : Hid (∀ wq, Calls Tryd.prog 15 #[.string a, .string b] wq fun e w' => e = .returned (.tuple #[.string ⟨#[]⟩, .int .i64 90]) ∧ Below wq.heap.size wq w') := fun wq => nAdd_no h wq
  have H2 : Hid (∀ wq, Calls Tryd.prog 15 #[.string b, .string a] wq fun e w' => e = .returned (.tuple #[.string ⟨#[]⟩, .int .i64 90]) ∧ Below wq.heap.size wq w') := fun wq => nAdd_no h' wq
  have H3 : Hid (∀ wq, Calls Tryd.prog 19 #[.string a, .string b] wq fun e w' => e = .returned (.tuple #[.string ⟨#[]⟩, .int .i64 90]) ∧ Below wq.heap.size wq w') := fun wq => nMul_no h wq
  have H4 : Hid (∀ wq, Calls Tryd.prog 19 #[.string b, .string a] wq fun e w' => e = .returned (.tuple #[.string ⟨#[]⟩, .int .i64 90]) ∧ Below wq.heap.size wq w') := fun wq => nMul_no h' wq
  have go : ∀ (ca cb : Bool), (ca && cb) = false → (∀ wq, Calls Tryd.prog 12 #[.string a] wq fun e w' => e = .returned (.bool ca) ∧ w' = wq) → (∀ wq, Calls Tryd.prog 12 #[.string b] wq fun e w' => e = .returned (.bool cb) ∧ w' = wq) →
      Calls Tryd.prog 6 #[.string a, .string b] w fun e w' => e = .returned (.bool true) ∧ Below w.heap.size w w' := fun ca cb hcc k1 k2 => by
    have HC1 : Hid (∀ wq, Calls Tryd.prog 12 #[.string a] wq fun e w' => e = .returned (.bool ca) ∧ w' = wq) := k1
    have HC2 : Hid (∀ wq, Calls Tryd.prog 12 #[.string b] wq fun e w' => e = .returned (.bool cb) ∧ w' = wq) := k2
    clear k1 k2 h h'
    go_enter Tryd.func6, Tryd.ntmps6
    go_wp2_with fail
    refine (H1.out w).mono ?_
    rintro e w1 ⟨rfl, b1⟩
    go_wp2_with fail
    refine (H2.out w1).mono ?_
    rintro e w2 ⟨rfl, b2⟩
    go_wp2_with fail
    refine (H3.out w2).mono ?_
    rintro e w3 ⟨rfl, b3⟩
    go_wp2_with fail
    refine (H4.out w3).mono ?_
    rintro e w4 ⟨rfl, b4⟩
    have B2 := b1.trans (b2.mono b1.size)
    have B3 := B2.trans (b3.mono B2.size)
    have B4 := B3.trans (b4.mono B3.size)
    clear b1 b2 b3 b4 B2 B3 H1 H2 H3 H4
    go_wp2_with fail
    refine (HC1.out w4).mono ?_
    rintro e w5 ⟨rfl, hw⟩
    obtain rfl : w4 = w5 := hw.symm
    clear hw
    cases ca with
    | false =>
      go_wp2
      go_ret
      exact ⟨rfl, B4⟩
    | true =>
      obtain rfl : cb = false := by simpa using hcc
      go_wp2_with fail
      refine (HC2.out w4).mono ?_
      rintro e w5 ⟨rfl, hw⟩
      obtain rfl : w4 = w5 := hw.symm
      clear hw
      go_wp2
      go_ret
      exact ⟨rfl, B4⟩
  by_cases ha : ∃ x, IsNum a x
  · have hb : ¬ ∃ y, IsNum b y := fun hb => h ⟨ha, hb⟩
    obtain ⟨x, ha⟩ := ha
    exact go true false rfl (fun wq => nCan_yes ha wq) (fun wq => nCan_false hb wq)
  · by_cases hb : ∃ x, IsNum b x
    · obtain ⟨y, hb⟩ := hb
      exact go false true rfl (fun wq => nCan_false ha wq) (fun wq => nCan_yes hb wq)
    · exact go false false rfl (fun wq => nCan_false ha wq) (fun wq => nCan_false hb wq)

set_option maxRecDepth 100000 in
set_option maxHeartbeats 2000000 in
theorem order_ok {a b : ByteArray} {x y : Int} (ha : IsNum a x) (hb : IsNum b y) (w : World) (ht : Tb w) :
    Calls Tryd.prog 6 #[.string a, .string b] w fun e w' => e = .returned (.bool true) ∧ Below w.heap.size w w' := by
  have H1 : Hid (∀ wq, Tb wq → Calls Tryd.prog 15 #[.string a, .string b] wq fun e w' => e = .returned (.tuple #[.string (resT (x + y)), .int .i64 (resE (x + y))]) ∧ Below wq.heap.size wq w') := fun wq h => nAdd_ok ha hb wq h
  have H2 : Hid (∀ wq, Tb wq → Calls Tryd.prog 15 #[.string b, .string a] wq fun e w' => e = .returned (.tuple #[.string (resT (x + y)), .int .i64 (resE (x + y))]) ∧ Below wq.heap.size wq w') := fun wq h => by rw [Int.add_comm x y]; exact nAdd_ok hb ha wq h
  have H3 : Hid (∀ wq, Tb wq → Calls Tryd.prog 19 #[.string a, .string b] wq fun e w' => e = .returned (.tuple #[.string (resT (x * y)), .int .i64 (resE (x * y))]) ∧ Below wq.heap.size wq w') := fun wq h => nMul_ok ha hb wq h
  have H4 : Hid (∀ wq, Tb wq → Calls Tryd.prog 19 #[.string b, .string a] wq fun e w' => e = .returned (.tuple #[.string (resT (x * y)), .int .i64 (resE (x * y))]) ∧ Below wq.heap.size wq w') := fun wq h => by rw [Int.mul_comm x y]; exact nMul_ok hb ha wq h
  have HT : Hid (∀ wq, Below w.heap.size w wq → Tb wq) := fun wq hq => ht.below hq
  by_cases hbig : Lib.nDigits (x + y).natAbs ≤ 200
  · have hs : IsNum (txt (x + y)) (x + y) := ⟨rfl, hbig⟩
    have e1 : resT (x + y) = txt (x + y) := by unfold resT; rw [if_pos hbig]
    have e2 : resE (x + y) = 0 := by unfold resE; rw [if_pos hbig]
    have ha2 : a = txt x := ha.1
    have e3 : resT (x + y - y) = txt x := by rw [show x + y - y = x by omega]; unfold resT; rw [if_pos ha.2]
    have e4 : resE (x + y - y) = 0 := by rw [show x + y - y = x by omega]; unfold resE; rw [if_pos ha.2]
    have H5 : Hid (∀ wq, Tb wq → Calls Tryd.prog 17 #[.string (txt (x + y)), .string b] wq fun e w' => e = .returned (.tuple #[.string a, .int .i64 0]) ∧ Below wq.heap.size wq w') := fun wq h => by
      have := nSub_ok hs hb wq h
      rw [e3, e4, ← ha2] at this
      exact this
    have H6 : Hid (∀ wq, Calls Tryd.prog 25 #[.string a, .string a] wq fun e w' => e = .returned (.tuple #[.int .i64 0, .int .i64 0]) ∧ Below wq.heap.size wq w') := fun wq => by
      have := nCompare_ok ha ha wq
      rw [cmpI_eq rfl] at this
      exact this
    rw [e1, e2] at H1 H2
    clear ha hb ht hs e1 e2 e3 e4 ha2 hbig
    generalize txt (x + y) = T at *
    generalize resT (x * y) = M at *
    generalize resE (x * y) = R at *
    have q1 : (T.toList == T.toList) = true := by simp
    have q2 : (M.toList == M.toList) = true := by simp
    have q3 : (R == R) = true := by simp
    have q4 : (a.toList == a.toList) = true := by simp
    go_enter Tryd.func6, Tryd.ntmps6
    go_wp2_with fail
    refine (H1.out w (HT.out w (Below.refl _ _))).mono ?_
    rintro e w1 ⟨rfl, B1⟩
    go_wp2_with fail
    refine (H2.out w1 (HT.out w1 B1)).mono ?_
    rintro e w2 ⟨rfl, b2⟩
    have B2 := B1.trans (b2.mono B1.size)
    go_wp2_with fail
    refine (H3.out w2 (HT.out w2 B2)).mono ?_
    rintro e w3 ⟨rfl, b3⟩
    have B3 := B2.trans (b3.mono B2.size)
    go_wp2_with fail
    refine (H4.out w3 (HT.out w3 B3)).mono ?_
    rintro e w4 ⟨rfl, b4⟩
    have B4 := B3.trans (b4.mono B3.size)
    clear B1 b2 b3 b4 B2 B3 H1 H2 H3 H4
    go_wp2_with fail
    refine (H5.out w4 (HT.out w4 B4)).mono ?_
    rintro e w5 ⟨rfl, b5⟩
    have B5 := B4.trans (b5.mono B4.size)
    clear b5 B4
    go_wp2_with fail
    refine (H6.out w5).mono ?_
    rintro e w6 ⟨rfl, b6⟩
    have B6 := B5.trans (b6.mono B5.size)
    clear b6 B5
    go_wp2
    go_ret
    exact ⟨rfl, B6⟩
  · have e1 : resT (x + y) = ⟨#[]⟩ := by unfold resT; rw [if_neg hbig]
    have e2 : resE (x + y) = 91 := by unfold resE; rw [if_neg hbig]
    rw [e1, e2] at H1 H2
    clear ha hb ht e1 e2 hbig
    generalize resT (x * y) = M at *
    generalize resE (x * y) = R at *
    have q2 : (M.toList == M.toList) = true := by simp
    have q3 : (R == R) = true := by simp
    go_enter Tryd.func6, Tryd.ntmps6
    go_wp2_with fail
    refine (H1.out w (HT.out w (Below.refl _ _))).mono ?_
    rintro e w1 ⟨rfl, B1⟩
    go_wp2_with fail
    refine (H2.out w1 (HT.out w1 B1)).mono ?_
    rintro e w2 ⟨rfl, b2⟩
    have B2 := B1.trans (b2.mono B1.size)
    go_wp2_with fail
    refine (H3.out w2 (HT.out w2 B2)).mono ?_
    rintro e w3 ⟨rfl, b3⟩
    have B3 := B2.trans (b3.mono B2.size)
    go_wp2_with fail
    refine (H4.out w3 (HT.out w3 B3)).mono ?_
    rintro e w4 ⟨rfl, b4⟩
    have B4 := B3.trans (b4.mono B3.size)
    clear B1 b2 b3 b4 B2 B3 H1 H2 H3 H4
    go_wp2
    go_ret
    exact ⟨rfl, B4⟩
theorem order_walk (a b : ByteArray) (w : World) (ht : Tb w) :
    Calls Tryd.prog 6 #[.string a, .string b] w fun e w' => e = .returned (.bool true) ∧ Below w.heap.size w w' := by
  by_cases h : (∃ x, IsNum a x) ∧ ∃ y, IsNum b y
  · obtain ⟨⟨x, ha⟩, y, hb⟩ := h
    exact order_ok ha hb w ht
  · exact order_no h w
end Go.Proofs.YtcnlclocnnijgaaDoor
