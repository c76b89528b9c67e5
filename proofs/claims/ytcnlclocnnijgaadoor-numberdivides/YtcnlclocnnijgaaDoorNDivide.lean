/-
  The program's quotients and rests: contracts at every two texts. Condition: the library's table of powers of ten is as it starts.
-/
import Derived.Test.YtcnlclocnnijgaaDoorNOverS
import Derived.Test.YtcnlclocnnijgaaDoorNRQuo
import Derived.Test.YtcnlclocnnijgaaDoorNReck2
namespace Go.Proofs.YtcnlclocnnijgaaDoor
open Go.RowKit
set_option linter.unusedVariables false

set_option maxRecDepth 100000 in
set_option maxHeartbeats 2000000 in
theorem does_quo (x y : Int) (hy0 : y ≠ 0) : Does 41 x y (quoI x y) := fun w vx vy hx hy lx ly => by
  obtain ⟨ao, c, rfl, hs, hl⟩ := hx
  obtain ⟨bo, d, rfl, ht, hm⟩ := hy
  have hsg : sg (decide (x < 0) != decide (y < 0)) (x.natAbs / y.natAbs) = quoI x y := rfl
  have hlm : ln (x.natAbs / y.natAbs) ≤ 500 := Nat.le_trans (ln_mono (Nat.div_le_self _ _)) hl
  generalize hn : ln x.natAbs = n at *
  generalize hm0 : ln y.natAbs = m at *
  generalize decide (x < 0) = bx at *
  generalize decide (y < 0) = by' at *
  obtain ⟨W0, hW0⟩ : ∃ W0, ((w.alloc (.cells #[.bool bx, .slice ao n c] 48)).alloc (.cells #[.bool by', .slice bo m d] 48)).alloc (.cells #[.bool false, .slice none 0 0] 48) = W0 := ⟨_, rfl⟩
  have hsz : W0.heap.size = w.heap.size + 3 := by rw [← hW0]; simp
  have hB0 : Below w.heap.size w W0 := by rw [← hW0]; exact (((Below.refl _ w).alloc (Nat.le_refl _) _).alloc (by simp) _).alloc (by first | (simp; done) | (simp; omega)) _
  have hX0 : W0.heap[w.heap.size]? = some (.cells #[.bool bx, .slice ao n c] 48 (0, 0)) := by
    rw [← hW0, Below.heap_alloc _ _ _ (by first | (simp; done) | (simp; omega)), Below.heap_alloc _ _ _ (by simp)]
    exact heap_alloc_at _ _ _ rfl
  have hX1 : W0.heap[w.heap.size + 1]? = some (.cells #[.bool by', .slice bo m d] 48 (0, 0)) := by
    rw [← hW0, Below.heap_alloc _ _ _ (by simp)]
    exact heap_alloc_at _ _ _ (by simp)
  have hX2 : W0.heap[w.heap.size + 1 + 1]? = some (.cells #[.bool false, .slice none 0 0] 48 (0, 0)) := by
    rw [← hW0]
    exact heap_alloc_at _ _ _ (by simp)
  have HS : Hid (∀ wq, Below W0.heap.size W0 wq → wq.cell? ⟨w.heap.size, 0, none⟩ = some (.bool bx) ∧ wq.cell? ⟨w.heap.size, 1, none⟩ = some (.slice ao n c) ∧ wq.cell? ⟨w.heap.size + 1, 0, none⟩ = some (.bool by') ∧ wq.cell? ⟨w.heap.size + 1, 1, none⟩ = some (.slice bo m d)) := fun wq hq => by
    have e0 : wq.heap[w.heap.size]? = _ := (hq.block _ (by omega)).trans hX0
    have e1 : wq.heap[w.heap.size + 1]? = _ := (hq.block _ (by omega)).trans hX1
    exact ⟨by rw [cells_at e0 0]; rfl, by rw [cells_at e0 1]; rfl, by rw [cells_at e1 0]; rfl, by rw [cells_at e1 1]; rfl⟩
  have HC1 : Hid (Calls Tryd.prog 42 #[.slice ao n c, .slice bo m d] W0 fun e w' => ∃ qa qn qc ra rn rc, e = .returned (.tuple #[.slice qa qn qc, .slice ra rn rc]) ∧ Hid (Sz w' (.slice qa qn qc) (x.natAbs / y.natAbs)) ∧ Below W0.heap.size W0 w') := by
    refine (over _ _ x.natAbs y.natAbs W0 (hs.below hB0 (Nat.le_refl _)) (ht.below hB0 (Nat.le_refl _)) (by omega) (by omega) (by omega)).mono ?_
    rintro e w' ⟨q, r, rfl, hq, hr, hb⟩
    obtain ⟨qa, qc, rfl, _⟩ := hq.sz.open
    obtain ⟨ra, rc, rfl, _⟩ := hr.sz.open
    exact ⟨_, _, _, _, _, _, rfl, hq.sz, hb⟩
  have HC2 : Hid (∀ w1 v, Below W0.heap.size W0 w1 → Sz w1 v (x.natAbs / y.natAbs) → Calls Tryd.prog 43 #[.bool (bx != by'), v] w1 fun e w' => ∃ b' sl, e = .returned (.agg #[.bool b', sl]) ∧ (∃ a' n' c', sl = .slice a' n' c') ∧ BoxF w' (w.heap.size + 1 + 1) (.bool false) (.slice none 0 0) (.bool b') sl ∧ Below W0.heap.size W0 w' ∧ Hid (∀ wf : World, wf.heap = ((w'.setCell ⟨w.heap.size + 1 + 1, 0, none⟩ (.bool b')).setCell ⟨w.heap.size + 1 + 1, 1, none⟩ sl).heap → wf.os = w'.os → wf.tape = w'.tape → wf.output = w'.output → Wh wf (.agg #[.bool b', sl]) (quoI x y) ∧ Below w.heap.size w wf)) := fun w1 v hq hs1 => by
    refine (signed_to _ v _ (w.heap.size + 1 + 1) 48 (.slice none 0 0) false w w1 (quoI x y) hs1 hlm hsg ((hq.block _ (by omega)).trans hX2) (hB0.trans (hq.mono (by omega))) (by omega)).mono ?_
    rintro e w' ⟨b', sl, q1, q2, q3, q4, q5⟩
    exact ⟨b', sl, q1, q2, q3, hq.trans (q4.mono hq.size), q5⟩
  clear hs ht hsg hlm hX0 hX1 hX2 hB0 hn hm0
  obtain ⟨d0, d1, d2, d3⟩ := HS.out W0 (Below.refl _ _)
  go_enter Tryd.func41, Tryd.ntmps41
  go_wp2_with fail
  refine HC1.out.mono ?_
  rintro e w1 ⟨qa, qn, qc, ra, rn, rc, rfl, z1, k1⟩
  obtain ⟨f0, f1, f2, f3⟩ := HS.out w1 k1
  have C2 := HC2.out _ _ k1 z1.out
  clear HC1 d0 d1 d2 d3
  go_wp2_with fail
  refine C2.mono ?_
  rintro e w2 ⟨b2, sl2, rfl, ⟨a2, n2, c2, rfl⟩, ⟨x0, x1, x2, x3, x4, x5⟩, k2, HX⟩
  clear HC2 C2
  go_wp2
  refine bodyPost_ret (v := .agg #[.bool b2, .slice a2 n2 c2]) (by simp [results, Tryd.results41, go_sem, x4, x5]) rfl ?_
  exact ⟨_, rfl, HX.out _ (by rfl) (by rfl) (by rfl) (by rfl)⟩

set_option maxRecDepth 100000 in
set_option maxHeartbeats 2000000 in
theorem does_rem (x y : Int) (hy0 : y ≠ 0) : Does 45 x y (remI x y) := fun w vx vy hx hy lx ly => by
  obtain ⟨ao, c, rfl, hs, hl⟩ := hx
  obtain ⟨bo, d, rfl, ht, hm⟩ := hy
  have hsg : sg (decide (x < 0)) (x.natAbs % y.natAbs) = remI x y := rfl
  have hlm : ln (x.natAbs % y.natAbs) ≤ 500 := Nat.le_trans (ln_mono (Nat.mod_le _ _)) hl
  generalize hn : ln x.natAbs = n at *
  generalize hm0 : ln y.natAbs = m at *
  generalize decide (x < 0) = bx at *
  generalize decide (y < 0) = by' at *
  obtain ⟨W0, hW0⟩ : ∃ W0, ((w.alloc (.cells #[.bool bx, .slice ao n c] 48)).alloc (.cells #[.bool by', .slice bo m d] 48)).alloc (.cells #[.bool false, .slice none 0 0] 48) = W0 := ⟨_, rfl⟩
  have hsz : W0.heap.size = w.heap.size + 3 := by rw [← hW0]; simp
  have hB0 : Below w.heap.size w W0 := by rw [← hW0]; exact (((Below.refl _ w).alloc (Nat.le_refl _) _).alloc (by simp) _).alloc (by first | (simp; done) | (simp; omega)) _
  have hX0 : W0.heap[w.heap.size]? = some (.cells #[.bool bx, .slice ao n c] 48 (0, 0)) := by
    rw [← hW0, Below.heap_alloc _ _ _ (by first | (simp; done) | (simp; omega)), Below.heap_alloc _ _ _ (by simp)]
    exact heap_alloc_at _ _ _ rfl
  have hX1 : W0.heap[w.heap.size + 1]? = some (.cells #[.bool by', .slice bo m d] 48 (0, 0)) := by
    rw [← hW0, Below.heap_alloc _ _ _ (by simp)]
    exact heap_alloc_at _ _ _ (by simp)
  have hX2 : W0.heap[w.heap.size + 1 + 1]? = some (.cells #[.bool false, .slice none 0 0] 48 (0, 0)) := by
    rw [← hW0]
    exact heap_alloc_at _ _ _ (by simp)
  have HS : Hid (∀ wq, Below W0.heap.size W0 wq → wq.cell? ⟨w.heap.size, 0, none⟩ = some (.bool bx) ∧ wq.cell? ⟨w.heap.size, 1, none⟩ = some (.slice ao n c) ∧ wq.cell? ⟨w.heap.size + 1, 0, none⟩ = some (.bool by') ∧ wq.cell? ⟨w.heap.size + 1, 1, none⟩ = some (.slice bo m d)) := fun wq hq => by
    have e0 : wq.heap[w.heap.size]? = _ := (hq.block _ (by omega)).trans hX0
    have e1 : wq.heap[w.heap.size + 1]? = _ := (hq.block _ (by omega)).trans hX1
    exact ⟨by rw [cells_at e0 0]; rfl, by rw [cells_at e0 1]; rfl, by rw [cells_at e1 0]; rfl, by rw [cells_at e1 1]; rfl⟩
  have HC1 : Hid (Calls Tryd.prog 42 #[.slice ao n c, .slice bo m d] W0 fun e w' => ∃ qa qn qc ra rn rc, e = .returned (.tuple #[.slice qa qn qc, .slice ra rn rc]) ∧ Hid (Sz w' (.slice ra rn rc) (x.natAbs % y.natAbs)) ∧ Below W0.heap.size W0 w') := by
    refine (over _ _ x.natAbs y.natAbs W0 (hs.below hB0 (Nat.le_refl _)) (ht.below hB0 (Nat.le_refl _)) (by omega) (by omega) (by omega)).mono ?_
    rintro e w' ⟨q, r, rfl, hq, hr, hb⟩
    obtain ⟨qa, qc, rfl, _⟩ := hq.sz.open
    obtain ⟨ra, rc, rfl, _⟩ := hr.sz.open
    exact ⟨_, _, _, _, _, _, rfl, hr.sz, hb⟩
  have HC2 : Hid (∀ w1 v, Below W0.heap.size W0 w1 → Sz w1 v (x.natAbs % y.natAbs) → Calls Tryd.prog 43 #[.bool (bx), v] w1 fun e w' => ∃ b' sl, e = .returned (.agg #[.bool b', sl]) ∧ (∃ a' n' c', sl = .slice a' n' c') ∧ BoxF w' (w.heap.size + 1 + 1) (.bool false) (.slice none 0 0) (.bool b') sl ∧ Below W0.heap.size W0 w' ∧ Hid (∀ wf : World, wf.heap = ((w'.setCell ⟨w.heap.size + 1 + 1, 0, none⟩ (.bool b')).setCell ⟨w.heap.size + 1 + 1, 1, none⟩ sl).heap → wf.os = w'.os → wf.tape = w'.tape → wf.output = w'.output → Wh wf (.agg #[.bool b', sl]) (remI x y) ∧ Below w.heap.size w wf)) := fun w1 v hq hs1 => by
    refine (signed_to _ v _ (w.heap.size + 1 + 1) 48 (.slice none 0 0) false w w1 (remI x y) hs1 hlm hsg ((hq.block _ (by omega)).trans hX2) (hB0.trans (hq.mono (by omega))) (by omega)).mono ?_
    rintro e w' ⟨b', sl, q1, q2, q3, q4, q5⟩
    exact ⟨b', sl, q1, q2, q3, hq.trans (q4.mono hq.size), q5⟩
  clear hs ht hsg hlm hX0 hX1 hX2 hB0 hn hm0
  obtain ⟨d0, d1, d2, d3⟩ := HS.out W0 (Below.refl _ _)
  go_enter Tryd.func45, Tryd.ntmps45
  go_wp2_with fail
  refine HC1.out.mono ?_
  rintro e w1 ⟨qa, qn, qc, ra, rn, rc, rfl, z1, k1⟩
  obtain ⟨f0, f1, f2, f3⟩ := HS.out w1 k1
  have C2 := HC2.out _ _ k1 z1.out
  clear HC1 d0 d1 d2 d3
  go_wp2_with fail
  refine C2.mono ?_
  rintro e w2 ⟨b2, sl2, rfl, ⟨a2, n2, c2, rfl⟩, ⟨x0, x1, x2, x3, x4, x5⟩, k2, HX⟩
  clear HC2 C2
  go_wp2
  refine bodyPost_ret (v := .agg #[.bool b2, .slice a2 n2 c2]) (by simp [results, Tryd.results45, go_sem, x4, x5]) rfl ?_
  exact ⟨_, rfl, HX.out _ (by rfl) (by rfl) (by rfl) (by rfl)⟩
end Go.Proofs.YtcnlclocnnijgaaDoor
namespace Go.Proofs.YtcnlclocnnijgaaDoor
open Go.RowKit
set_option linter.unusedVariables false

theorem zero_yes {b : ByteArray} (hb : IsNum b 0) : (b.toList == [48]) = true := by
  have h1 : b.data.toList = Lib.itoa 0 := by rw [hb.1]; exact txt_data 0
  have h2 : Lib.itoa 0 = [48] := Lib.decDigits_one (by decide)
  rw [ByteArray.toList_eq, h1, h2]; rfl
theorem zero_no {b : ByteArray} {y : Int} (hb : IsNum b y) (hy0 : y ≠ 0) : (b.toList == [48]) = false := by
  rw [beq_eq_false_iff_ne]
  intro e
  have h1 : b.data.toList = Lib.itoa y := by rw [hb.1]; exact txt_data y
  have h2 : Lib.itoa 0 = [48] := Lib.decDigits_one (by decide)
  have h3 : b.data.toList = [48] := by rw [← ByteArray.toList_eq, e]
  exact hy0 (itoa_inj (by rw [← h1, h3, h2]))
theorem zero_num {b : ByteArray} (h : (b.toList == [48]) = true) : IsNum b 0 := by
  have h1 : b.toList = [48] := by simpa using h
  have h2 : Lib.itoa 0 = [48] := Lib.decDigits_one (by decide)
  refine ⟨?_, by rw [show Int.natAbs 0 = 0 from rfl, ← Lib.decDigits_length, Lib.decDigits_one (by decide)]; decide⟩
  apply ByteArray.ext
  apply Array.toList_inj.1
  rw [← ByteArray.toList_eq, h1, txt_data, h2]

set_option maxRecDepth 100000 in
set_option maxHeartbeats 2000000 in
theorem reckon_quo {a b : ByteArray} {x y z : Int} (ha : IsNum a x) (hb : IsNum b y) (hd : Does 41 x y z) (w : World) (htab : Lib.TabIs Tryd.prog w "internal/strconv.uint64pow10" .u64 Lib.pow10Tab) :
    Calls Tryd.prog 32 #[.string a, .string b, .func (.func 41) #[] #[]] w fun e w' => e = .returned (.tuple #[.string (resT z), .int .i64 (resE z)]) ∧ Below w.heap.size w w' := by
  have HA : Hid (IsNum a x) := ha
  have HB : Hid (IsNum b y) := hb
  have HD : Hid (Does 41 x y z) := hd
  have HT : Hid (∀ wq, Below w.heap.size w wq → Lib.TabIs Tryd.prog wq "internal/strconv.uint64pow10" .u64 Lib.pow10Tab) := fun wq hq => tab_below htab hq (Nat.le_refl _)
  clear ha hb hd htab
  by_cases hbig : Lib.nDigits z.natAbs ≤ 200
  · have HC : Hid (∀ w, Calls Tryd.prog 12 #[.string (txt z)] w fun e w' => e = .returned (.bool true) ∧ w' = w) := fun w => nCan_yes ⟨rfl, hbig⟩ w
    have HE : Hid (resT z = txt z ∧ resE z = 0) := ⟨by unfold resT; rw [if_pos hbig], by unfold resE; rw [if_pos hbig]⟩
    clear hbig
    go_enter Tryd.func32, Tryd.ntmps32
    go_wp2_with fail
    refine (nCan_yes HA.out w).mono ?_
    rintro e w1 ⟨rfl, hw⟩
    obtain rfl : w = w1 := hw.symm
    clear hw
    go_wp2_with fail
    refine (nCan_yes HB.out w).mono ?_
    rintro e w1 ⟨rfl, hw⟩
    obtain rfl : w = w1 := hw.symm
    clear hw
    go_wp2_with fail
    refine (nRead HA.out w).mono ?_
    rintro e w1 ⟨vx, rfl, hx, lx, b1⟩
    obtain ⟨xb, xa, xn, xc, rfl⟩ := hx.agg
    go_wp2_with fail
    refine (nRead HB.out w1).mono ?_
    rintro e w2 ⟨vy, rfl, hy, ly, b2⟩
    obtain ⟨yb, ya, yn, yc, rfl⟩ := hy.agg
    have B2 : Below w.heap.size w w2 := b1.trans (b2.mono b1.size)
    have HX : Hid (Calls Tryd.prog 41 #[.agg #[.bool xb, .slice xa xn xc], .agg #[.bool yb, .slice ya yn yc]] w2 fun e w' => ∃ v', e = .returned v' ∧ Wh w' v' z ∧ Below w2.heap.size w2 w') := HD.out w2 _ _ (hx.below b2 (Nat.le_refl _)) hy lx ly
    clear hx hy b1 b2
    go_wp2_with fail
    refine HX.out.mono ?_
    rintro e w3 ⟨vz, rfl, hz, b3⟩
    obtain ⟨zb, za, zn, zc, rfl⟩ := hz.agg
    have B3 : Below w.heap.size w w3 := B2.trans (b3.mono B2.size)
    have HY : Hid (Calls Tryd.prog 55 #[.agg #[.bool zb, .slice za zn zc]] w3 fun e w' => e = .returned (.string (txt z)) ∧ Below w3.heap.size w3 w') := hText _ z w3 hz (HT.out w3 B3)
    clear hz b3 B2 HX
    go_wp2_with fail
    refine HY.out.mono ?_
    rintro e w4 ⟨rfl, b4⟩
    have B4 : Below w.heap.size w w4 := B3.trans (b4.mono B3.size)
    clear b4 B3 HY
    go_wp2_with fail
    refine (HC.out w4).mono ?_
    rintro e w5 ⟨rfl, hw⟩
    obtain rfl : w4 = w5 := hw.symm
    clear hw
    go_wp2
    go_ret2
    exact ⟨by rw [HE.out.1, HE.out.2]; rfl, B4⟩
  · have HC : Hid (∀ w, Calls Tryd.prog 12 #[.string (txt z)] w fun e w' => e = .returned (.bool false) ∧ w' = w) := fun w => nCan_false (can_txt hbig) w
    have HE : Hid (resT z = ⟨#[]⟩ ∧ resE z = 91) := ⟨by unfold resT; rw [if_neg hbig], by unfold resE; rw [if_neg hbig]⟩
    clear hbig
    go_enter Tryd.func32, Tryd.ntmps32
    go_wp2_with fail
    refine (nCan_yes HA.out w).mono ?_
    rintro e w1 ⟨rfl, hw⟩
    obtain rfl : w = w1 := hw.symm
    clear hw
    go_wp2_with fail
    refine (nCan_yes HB.out w).mono ?_
    rintro e w1 ⟨rfl, hw⟩
    obtain rfl : w = w1 := hw.symm
    clear hw
    go_wp2_with fail
    refine (nRead HA.out w).mono ?_
    rintro e w1 ⟨vx, rfl, hx, lx, b1⟩
    obtain ⟨xb, xa, xn, xc, rfl⟩ := hx.agg
    go_wp2_with fail
    refine (nRead HB.out w1).mono ?_
    rintro e w2 ⟨vy, rfl, hy, ly, b2⟩
    obtain ⟨yb, ya, yn, yc, rfl⟩ := hy.agg
    have B2 : Below w.heap.size w w2 := b1.trans (b2.mono b1.size)
    have HX : Hid (Calls Tryd.prog 41 #[.agg #[.bool xb, .slice xa xn xc], .agg #[.bool yb, .slice ya yn yc]] w2 fun e w' => ∃ v', e = .returned v' ∧ Wh w' v' z ∧ Below w2.heap.size w2 w') := HD.out w2 _ _ (hx.below b2 (Nat.le_refl _)) hy lx ly
    clear hx hy b1 b2
    go_wp2_with fail
    refine HX.out.mono ?_
    rintro e w3 ⟨vz, rfl, hz, b3⟩
    obtain ⟨zb, za, zn, zc, rfl⟩ := hz.agg
    have B3 : Below w.heap.size w w3 := B2.trans (b3.mono B2.size)
    have HY : Hid (Calls Tryd.prog 55 #[.agg #[.bool zb, .slice za zn zc]] w3 fun e w' => e = .returned (.string (txt z)) ∧ Below w3.heap.size w3 w') := hText _ z w3 hz (HT.out w3 B3)
    clear hz b3 B2 HX
    go_wp2_with fail
    refine HY.out.mono ?_
    rintro e w4 ⟨rfl, b4⟩
    have B4 : Below w.heap.size w w4 := B3.trans (b4.mono B3.size)
    clear b4 B3 HY
    go_wp2_with fail
    refine (HC.out w4).mono ?_
    rintro e w5 ⟨rfl, hw⟩
    obtain rfl : w4 = w5 := hw.symm
    clear hw
    go_wp2
    go_ret2
    exact ⟨by rw [HE.out.1, HE.out.2]; rfl, B4⟩

set_option maxRecDepth 100000 in
set_option maxHeartbeats 2000000 in
theorem reckon_no_quo {a b : ByteArray} (h : ¬ ((∃ x, IsNum a x) ∧ ∃ y, IsNum b y)) (w : World) :
    Calls Tryd.prog 32 #[.string a, .string b, .func (.func 41) #[] #[]] w fun e w' => e = .returned (.tuple #[.string ⟨#[]⟩, .int .i64 90]) ∧ Below w.heap.size w w' := by
  by_cases ha : ∃ x, IsNum a x
  · have hb : ¬ ∃ y, IsNum b y := fun hb => h ⟨ha, hb⟩
    obtain ⟨x, ha⟩ := ha
    have HA : Hid (IsNum a x) := ha
    have HB : Hid (¬ ∃ y, IsNum b y) := hb
    clear h ha hb
    go_enter Tryd.func32, Tryd.ntmps32
    go_wp2_with fail
    refine (nCan_yes HA.out w).mono ?_
    rintro e w1 ⟨rfl, hw⟩
    obtain rfl : w = w1 := hw.symm
    clear hw
    go_wp2_with fail
    refine (nCan_false HB.out w).mono ?_
    rintro e w1 ⟨rfl, hw⟩
    obtain rfl : w = w1 := hw.symm
    clear hw
    go_wp2
    go_ret2
    exact ⟨rfl, Below.refl _ _⟩
  · have HA : Hid (¬ ∃ y, IsNum a y) := ha
    clear h ha
    go_enter Tryd.func32, Tryd.ntmps32
    go_wp2_with fail
    refine (nCan_false HA.out w).mono ?_
    rintro e w1 ⟨rfl, hw⟩
    obtain rfl : w = w1 := hw.symm
    clear hw
    go_wp2
    go_ret2
    exact ⟨rfl, Below.refl _ _⟩

set_option maxRecDepth 100000 in
set_option maxHeartbeats 2000000 in
theorem divide_quo_zero {a b : ByteArray} {x : Int} (ha : IsNum a x) (hb : IsNum b 0) (w : World) :
    Calls Tryd.prog 40 #[.string a, .string b, .func (.func 41) #[] #[]] w fun e w' => e = .returned (.tuple #[.string ⟨#[]⟩, .int .i64 92]) ∧ Below w.heap.size w w' := by
  have hb0 := zero_yes hb
  have HA : Hid (IsNum a x) := ha
  clear ha hb
  go_enter Tryd.func40, Tryd.ntmps40
  go_wp2_with fail
  refine (nCan_yes HA.out w).mono ?_
  rintro e w1 ⟨rfl, hw⟩
  obtain rfl : w = w1 := hw.symm
  clear hw
  go_wp2
  go_ret2
  exact ⟨rfl, Below.refl _ _⟩
set_option maxRecDepth 100000 in
set_option maxHeartbeats 2000000 in
/-- Where b is not nought's text. -/
theorem divide_quo_on {a b : ByteArray} (hb0 : (b.toList == [48]) = false) (T : ByteArray) (E : Int) (w : World) (HC : Calls Tryd.prog 32 #[.string a, .string b, .func (.func 41) #[] #[]] w fun e w' => e = .returned (.tuple #[.string T, .int .i64 E]) ∧ Below w.heap.size w w') :
    Calls Tryd.prog 40 #[.string a, .string b, .func (.func 41) #[] #[]] w fun e w' => e = .returned (.tuple #[.string T, .int .i64 E]) ∧ Below w.heap.size w w' := by
  go_enter Tryd.func40, Tryd.ntmps40
  go_wp2_with fail
  refine HC.mono ?_
  rintro e w1 ⟨rfl, b1⟩
  go_wp2
  go_ret2
  exact ⟨rfl, b1⟩
set_option maxRecDepth 100000 in
set_option maxHeartbeats 2000000 in
/-- Where b is nought's text, and a no number. -/
theorem divide_quo_off {a b : ByteArray} (hb0 : (b.toList == [48]) = true) (ha : ¬ ∃ x, IsNum a x) (w : World) (HC : Calls Tryd.prog 32 #[.string a, .string b, .func (.func 41) #[] #[]] w fun e w' => e = .returned (.tuple #[.string ⟨#[]⟩, .int .i64 90]) ∧ Below w.heap.size w w') :
    Calls Tryd.prog 40 #[.string a, .string b, .func (.func 41) #[] #[]] w fun e w' => e = .returned (.tuple #[.string ⟨#[]⟩, .int .i64 90]) ∧ Below w.heap.size w w' := by
  have HA : Hid (¬ ∃ x, IsNum a x) := ha
  clear ha
  go_enter Tryd.func40, Tryd.ntmps40
  go_wp2_with fail
  refine (nCan_false HA.out w).mono ?_
  rintro e w1 ⟨rfl, hw⟩
  obtain rfl : w = w1 := hw.symm
  clear hw
  go_wp2_with fail
  refine HC.mono ?_
  rintro e w1 ⟨rfl, b1⟩
  go_wp2
  go_ret2
  exact ⟨rfl, b1⟩
set_option maxRecDepth 100000 in
theorem nQuo_of {a b : ByteArray} (T : ByteArray) (E : Int) (w : World) (HC : Calls Tryd.prog 40 #[.string a, .string b, .func (.func 41) #[] #[]] w fun e w' => e = .returned (.tuple #[.string T, .int .i64 E]) ∧ Below w.heap.size w w') :
    Calls Tryd.prog 21 #[.string a, .string b] w fun e w' => e = .returned (.tuple #[.string T, .int .i64 E]) ∧ Below w.heap.size w w' := by
  go_enter Tryd.func21, Tryd.ntmps21
  go_wp2_with fail
  refine HC.mono ?_
  rintro e w1 ⟨rfl, b1⟩
  go_wp2
  go_ret2
  exact ⟨rfl, b1⟩
theorem nQuo_ok {a b : ByteArray} {x y : Int} (ha : IsNum a x) (hb : IsNum b y) (hy0 : y ≠ 0) (w : World) (htab : Lib.TabIs Tryd.prog w "internal/strconv.uint64pow10" .u64 Lib.pow10Tab) :
    Calls Tryd.prog 21 #[.string a, .string b] w fun e w' => e = .returned (.tuple #[.string (resT (quoI x y)), .int .i64 (resE (quoI x y))]) ∧ Below w.heap.size w w' :=
  nQuo_of _ _ w (divide_quo_on (zero_no hb hy0) _ _ w (reckon_quo ha hb (does_quo x y hy0) w htab))
theorem nQuo_zero {a b : ByteArray} {x : Int} (ha : IsNum a x) (hb : IsNum b 0) (w : World) :
    Calls Tryd.prog 21 #[.string a, .string b] w fun e w' => e = .returned (.tuple #[.string ⟨#[]⟩, .int .i64 92]) ∧ Below w.heap.size w w' :=
  nQuo_of _ _ w (divide_quo_zero ha hb w)
theorem nQuo_no {a b : ByteArray} (h : ¬ ((∃ x, IsNum a x) ∧ ∃ y, IsNum b y)) (w : World) :
    Calls Tryd.prog 21 #[.string a, .string b] w fun e w' => e = .returned (.tuple #[.string ⟨#[]⟩, .int .i64 90]) ∧ Below w.heap.size w w' := by
  refine nQuo_of _ _ w ?_
  by_cases hb0 : (b.toList == [48]) = true
  · refine divide_quo_off hb0 (fun ha => h ⟨ha, 0, zero_num hb0⟩) w (reckon_no_quo h w)
  · exact divide_quo_on (by simpa using hb0) _ _ w (reckon_no_quo h w)

set_option maxRecDepth 100000 in
set_option maxHeartbeats 2000000 in
theorem reckon_rem {a b : ByteArray} {x y z : Int} (ha : IsNum a x) (hb : IsNum b y) (hd : Does 45 x y z) (w : World) (htab : Lib.TabIs Tryd.prog w "internal/strconv.uint64pow10" .u64 Lib.pow10Tab) :
    Calls Tryd.prog 32 #[.string a, .string b, .func (.func 45) #[] #[]] w fun e w' => e = .returned (.tuple #[.string (resT z), .int .i64 (resE z)]) ∧ Below w.heap.size w w' := by
  have HA : Hid (IsNum a x) := ha
  have HB : Hid (IsNum b y) := hb
  have HD : Hid (Does 45 x y z) := hd
  have HT : Hid (∀ wq, Below w.heap.size w wq → Lib.TabIs Tryd.prog wq "internal/strconv.uint64pow10" .u64 Lib.pow10Tab) := fun wq hq => tab_below htab hq (Nat.le_refl _)
  clear ha hb hd htab
  by_cases hbig : Lib.nDigits z.natAbs ≤ 200
  · have HC : Hid (∀ w, Calls Tryd.prog 12 #[.string (txt z)] w fun e w' => e = .returned (.bool true) ∧ w' = w) := fun w => nCan_yes ⟨rfl, hbig⟩ w
    have HE : Hid (resT z = txt z ∧ resE z = 0) := ⟨by unfold resT; rw [if_pos hbig], by unfold resE; rw [if_pos hbig]⟩
    clear hbig
    go_enter Tryd.func32, Tryd.ntmps32
    go_wp2_with fail
    refine (nCan_yes HA.out w).mono ?_
    rintro e w1 ⟨rfl, hw⟩
    obtain rfl : w = w1 := hw.symm
    clear hw
    go_wp2_with fail
    refine (nCan_yes HB.out w).mono ?_
    rintro e w1 ⟨rfl, hw⟩
    obtain rfl : w = w1 := hw.symm
    clear hw
    go_wp2_with fail
    refine (nRead HA.out w).mono ?_
    rintro e w1 ⟨vx, rfl, hx, lx, b1⟩
    obtain ⟨xb, xa, xn, xc, rfl⟩ := hx.agg
    go_wp2_with fail
    refine (nRead HB.out w1).mono ?_
    rintro e w2 ⟨vy, rfl, hy, ly, b2⟩
    obtain ⟨yb, ya, yn, yc, rfl⟩ := hy.agg
    have B2 : Below w.heap.size w w2 := b1.trans (b2.mono b1.size)
    have HX : Hid (Calls Tryd.prog 45 #[.agg #[.bool xb, .slice xa xn xc], .agg #[.bool yb, .slice ya yn yc]] w2 fun e w' => ∃ v', e = .returned v' ∧ Wh w' v' z ∧ Below w2.heap.size w2 w') := HD.out w2 _ _ (hx.below b2 (Nat.le_refl _)) hy lx ly
    clear hx hy b1 b2
    go_wp2_with fail
    refine HX.out.mono ?_
    rintro e w3 ⟨vz, rfl, hz, b3⟩
    obtain ⟨zb, za, zn, zc, rfl⟩ := hz.agg
    have B3 : Below w.heap.size w w3 := B2.trans (b3.mono B2.size)
    have HY : Hid (Calls Tryd.prog 55 #[.agg #[.bool zb, .slice za zn zc]] w3 fun e w' => e = .returned (.string (txt z)) ∧ Below w3.heap.size w3 w') := hText _ z w3 hz (HT.out w3 B3)
    clear hz b3 B2 HX
    go_wp2_with fail
    refine HY.out.mono ?_
    rintro e w4 ⟨rfl, b4⟩
    have B4 : Below w.heap.size w w4 := B3.trans (b4.mono B3.size)
    clear b4 B3 HY
    go_wp2_with fail
    refine (HC.out w4).mono ?_
    rintro e w5 ⟨rfl, hw⟩
    obtain rfl : w4 = w5 := hw.symm
    clear hw
    go_wp2
    go_ret2
    exact ⟨by rw [HE.out.1, HE.out.2]; rfl, B4⟩
  · have HC : Hid (∀ w, Calls Tryd.prog 12 #[.string (txt z)] w fun e w' => e = .returned (.bool false) ∧ w' = w) := fun w => nCan_false (can_txt hbig) w
    have HE : Hid (resT z = ⟨#[]⟩ ∧ resE z = 91) := ⟨by unfold resT; rw [if_neg hbig], by unfold resE; rw [if_neg hbig]⟩
    clear hbig
    go_enter Tryd.func32, Tryd.ntmps32
    go_wp2_with fail
    refine (nCan_yes HA.out w).mono ?_
    rintro e w1 ⟨rfl, hw⟩
    obtain rfl : w = w1 := hw.symm
    clear hw
    go_wp2_with fail
    refine (nCan_yes HB.out w).mono ?_
    rintro e w1 ⟨rfl, hw⟩
    obtain rfl : w = w1 := hw.symm
    clear hw
    go_wp2_with fail
    refine (nRead HA.out w).mono ?_
    rintro e w1 ⟨vx, rfl, hx, lx, b1⟩
    obtain ⟨xb, xa, xn, xc, rfl⟩ := hx.agg
    go_wp2_with fail
    refine (nRead HB.out w1).mono ?_
    rintro e w2 ⟨vy, rfl, hy, ly, b2⟩
    obtain ⟨yb, ya, yn, yc, rfl⟩ := hy.agg
    have B2 : Below w.heap.size w w2 := b1.trans (b2.mono b1.size)
    have HX : Hid (Calls Tryd.prog 45 #[.agg #[.bool xb, .slice xa xn xc], .agg #[.bool yb, .slice ya yn yc]] w2 fun e w' => ∃ v', e = .returned v' ∧ Wh w' v' z ∧ Below w2.heap.size w2 w') := HD.out w2 _ _ (hx.below b2 (Nat.le_refl _)) hy lx ly
    clear hx hy b1 b2
    go_wp2_with fail
    refine HX.out.mono ?_
    rintro e w3 ⟨vz, rfl, hz, b3⟩
    obtain ⟨zb, za, zn, zc, rfl⟩ := hz.agg
    have B3 : Below w.heap.size w w3 := B2.trans (b3.mono B2.size)
    have HY : Hid (Calls Tryd.prog 55 #[.agg #[.bool zb, .slice za zn zc]] w3 fun e w' => e = .returned (.string (txt z)) ∧ Below w3.heap.size w3 w') := hText _ z w3 hz (HT.out w3 B3)
    clear hz b3 B2 HX
    go_wp2_with fail
    refine HY.out.mono ?_
    rintro e w4 ⟨rfl, b4⟩
    have B4 : Below w.heap.size w w4 := B3.trans (b4.mono B3.size)
    clear b4 B3 HY
    go_wp2_with fail
    refine (HC.out w4).mono ?_
    rintro e w5 ⟨rfl, hw⟩
    obtain rfl : w4 = w5 := hw.symm
    clear hw
    go_wp2
    go_ret2
    exact ⟨by rw [HE.out.1, HE.out.2]; rfl, B4⟩

set_option maxRecDepth 100000 in
set_option maxHeartbeats 2000000 in
theorem reckon_no_rem {a b : ByteArray} (h : ¬ ((∃ x, IsNum a x) ∧ ∃ y, IsNum b y)) (w : World) :
    Calls Tryd.prog 32 #[.string a, .string b, .func (.func 45) #[] #[]] w fun e w' => e = .returned (.tuple #[.string ⟨#[]⟩, .int .i64 90]) ∧ Below w.heap.size w w' := by
  by_cases ha : ∃ x, IsNum a x
  · have hb : ¬ ∃ y, IsNum b y := fun hb => h ⟨ha, hb⟩
    obtain ⟨x, ha⟩ := ha
    have HA : Hid (IsNum a x) := ha
    have HB : Hid (¬ ∃ y, IsNum b y) := hb
    clear h ha hb
    go_enter Tryd.func32, Tryd.ntmps32
    go_wp2_with fail
    refine (nCan_yes HA.out w).mono ?_
    rintro e w1 ⟨rfl, hw⟩
    obtain rfl : w = w1 := hw.symm
    clear hw
    go_wp2_with fail
    refine (nCan_false HB.out w).mono ?_
    rintro e w1 ⟨rfl, hw⟩
    obtain rfl : w = w1 := hw.symm
    clear hw
    go_wp2
    go_ret2
    exact ⟨rfl, Below.refl _ _⟩
  · have HA : Hid (¬ ∃ y, IsNum a y) := ha
    clear h ha
    go_enter Tryd.func32, Tryd.ntmps32
    go_wp2_with fail
    refine (nCan_false HA.out w).mono ?_
    rintro e w1 ⟨rfl, hw⟩
    obtain rfl : w = w1 := hw.symm
    clear hw
    go_wp2
    go_ret2
    exact ⟨rfl, Below.refl _ _⟩

set_option maxRecDepth 100000 in
set_option maxHeartbeats 2000000 in
theorem divide_rem_zero {a b : ByteArray} {x : Int} (ha : IsNum a x) (hb : IsNum b 0) (w : World) :
    Calls Tryd.prog 40 #[.string a, .string b, .func (.func 45) #[] #[]] w fun e w' => e = .returned (.tuple #[.string ⟨#[]⟩, .int .i64 92]) ∧ Below w.heap.size w w' := by
  have hb0 := zero_yes hb
  have HA : Hid (IsNum a x) := ha
  clear ha hb
  go_enter Tryd.func40, Tryd.ntmps40
  go_wp2_with fail
  refine (nCan_yes HA.out w).mono ?_
  rintro e w1 ⟨rfl, hw⟩
  obtain rfl : w = w1 := hw.symm
  clear hw
  go_wp2
  go_ret2
  exact ⟨rfl, Below.refl _ _⟩
set_option maxRecDepth 100000 in
set_option maxHeartbeats 2000000 in
/-- Where b is not nought's text. -/
theorem divide_rem_on {a b : ByteArray} (hb0 : (b.toList == [48]) = false) (T : ByteArray) (E : Int) (w : World) (HC : Calls Tryd.prog 32 #[.string a, .string b, .func (.func 45) #[] #[]] w fun e w' => e = .returned (.tuple #[.string T, .int .i64 E]) ∧ Below w.heap.size w w') :
    Calls Tryd.prog 40 #[.string a, .string b, .func (.func 45) #[] #[]] w fun e w' => e = .returned (.tuple #[.string T, .int .i64 E]) ∧ Below w.heap.size w w' := by
  go_enter Tryd.func40, Tryd.ntmps40
  go_wp2_with fail
  refine HC.mono ?_
  rintro e w1 ⟨rfl, b1⟩
  go_wp2
  go_ret2
  exact ⟨rfl, b1⟩
set_option maxRecDepth 100000 in
set_option maxHeartbeats 2000000 in
/-- Where b is nought's text, and a no number. -/
theorem divide_rem_off {a b : ByteArray} (hb0 : (b.toList == [48]) = true) (ha : ¬ ∃ x, IsNum a x) (w : World) (HC : Calls Tryd.prog 32 #[.string a, .string b, .func (.func 45) #[] #[]] w fun e w' => e = .returned (.tuple #[.string ⟨#[]⟩, .int .i64 90]) ∧ Below w.heap.size w w') :
    Calls Tryd.prog 40 #[.string a, .string b, .func (.func 45) #[] #[]] w fun e w' => e = .returned (.tuple #[.string ⟨#[]⟩, .int .i64 90]) ∧ Below w.heap.size w w' := by
  have HA : Hid (¬ ∃ x, IsNum a x) := ha
  clear ha
  go_enter Tryd.func40, Tryd.ntmps40
  go_wp2_with fail
  refine (nCan_false HA.out w).mono ?_
  rintro e w1 ⟨rfl, hw⟩
  obtain rfl : w = w1 := hw.symm
  clear hw
  go_wp2_with fail
  refine HC.mono ?_
  rintro e w1 ⟨rfl, b1⟩
  go_wp2
  go_ret2
  exact ⟨rfl, b1⟩
set_option maxRecDepth 100000 in
theorem nRem_of {a b : ByteArray} (T : ByteArray) (E : Int) (w : World) (HC : Calls Tryd.prog 40 #[.string a, .string b, .func (.func 45) #[] #[]] w fun e w' => e = .returned (.tuple #[.string T, .int .i64 E]) ∧ Below w.heap.size w w') :
    Calls Tryd.prog 23 #[.string a, .string b] w fun e w' => e = .returned (.tuple #[.string T, .int .i64 E]) ∧ Below w.heap.size w w' := by
  go_enter Tryd.func23, Tryd.ntmps23
  go_wp2_with fail
  refine HC.mono ?_
  rintro e w1 ⟨rfl, b1⟩
  go_wp2
  go_ret2
  exact ⟨rfl, b1⟩
theorem nRem_ok {a b : ByteArray} {x y : Int} (ha : IsNum a x) (hb : IsNum b y) (hy0 : y ≠ 0) (w : World) (htab : Lib.TabIs Tryd.prog w "internal/strconv.uint64pow10" .u64 Lib.pow10Tab) :
    Calls Tryd.prog 23 #[.string a, .string b] w fun e w' => e = .returned (.tuple #[.string (resT (remI x y)), .int .i64 (resE (remI x y))]) ∧ Below w.heap.size w w' :=
  nRem_of _ _ w (divide_rem_on (zero_no hb hy0) _ _ w (reckon_rem ha hb (does_rem x y hy0) w htab))
theorem nRem_zero {a b : ByteArray} {x : Int} (ha : IsNum a x) (hb : IsNum b 0) (w : World) :
    Calls Tryd.prog 23 #[.string a, .string b] w fun e w' => e = .returned (.tuple #[.string ⟨#[]⟩, .int .i64 92]) ∧ Below w.heap.size w w' :=
  nRem_of _ _ w (divide_rem_zero ha hb w)
theorem nRem_no {a b : ByteArray} (h : ¬ ((∃ x, IsNum a x) ∧ ∃ y, IsNum b y)) (w : World) :
    Calls Tryd.prog 23 #[.string a, .string b] w fun e w' => e = .returned (.tuple #[.string ⟨#[]⟩, .int .i64 90]) ∧ Below w.heap.size w w' := by
  refine nRem_of _ _ w ?_
  by_cases hb0 : (b.toList == [48]) = true
  · refine divide_rem_off hb0 (fun ha => h ⟨ha, 0, zero_num hb0⟩) w (reckon_no_rem h w)
  · exact divide_rem_on (by simpa using hb0) _ _ w (reckon_no_rem h w)
end Go.Proofs.YtcnlclocnnijgaaDoor
