/-
  Whole numbers of the program: contracts of read, plus, times and compare. Condition: at most 200 limbs each.
-/
import Derived.Test.YtcnlclocnnijgaaDoorNWhole
import Derived.Deep.RegionHeld
namespace Go.Proofs.YtcnlclocnnijgaaDoor
open Go.RowKit
set_option linter.unusedVariables false

theorem isNum_abs {s : ByteArray} {x : Int} (h : IsNum s x) : IsNum (txt (x.natAbs : Int)) (x.natAbs : Int) := ⟨rfl, by simpa using h.2⟩
theorem cut_num {s : ByteArray} {x : Int} (h : IsNum s x) : Cut s (txt (x.natAbs : Int)) (decide (x < 0)) := by
  intro w
  have hs := h.dgs.size
  have hn := Lib.nDigits_pos x.natAbs
  have hpos : 0 < s.size := by omega
  have hdl : s.data.toList = Lib.itoa x := by rw [h.1]; exact txt_data x
  by_cases hx : x < 0
  · have e0 : s[0] = 45 := by
      have := bytes_get s 0 hpos
      rw [hdl] at this
      unfold Lib.itoa at this
      rw [if_pos hx] at this
      simpa using this.symm
    have e1 : s.extract 1 s.size = txt (x.natAbs : Int) := by
      apply ByteArray.ext
      apply Array.toList_inj.1
      rw [Lib.extract_to_end, hdl, txt_data]
      unfold Lib.itoa
      rw [if_pos hx, if_neg (by omega)]
      simp
    have ex : decide (x < 0) = true := by simpa using hx
    rw [ex, ← e1]
    exact cut_yes s w hpos e0
  · have e1 : s = txt (x.natAbs : Int) := by rw [h.1]; congr 1; omega
    have ex : decide (x < 0) = false := by simpa using hx
    have hno : ∀ h : 0 < s.size, s[0] ≠ 45 := fun h0 e => by
      have := h.dgs.by_ 0 h0 (by rw [if_neg hx]; omega)
      rw [e] at this
      simp at this
      omega
    rw [ex, ← e1]
    exact cut_no s w hno
theorem ln_of_digits {u : Nat} (h : Lib.nDigits u ≤ 200) : ln u ≤ 23 := by
  refine ln_le (Nat.lt_of_lt_of_le (Lib.lt_pow_nDigits u) ?_)
  rw [← pow9]
  exact Nat.pow_le_pow_right (by decide) (by omega)

set_option maxRecDepth 100000 in
theorem nRead {s : ByteArray} {x : Int} (h : IsNum s x) (w : World) :
    Calls Tryd.prog 46 #[.string s] w fun e w' => ∃ v', e = .returned v' ∧ Wh w' v' x ∧ ln x.natAbs ≤ 23 ∧ Below w.heap.size w w' := by
  have HC : Hid (Cut s (txt (x.natAbs : Int)) (decide (x < 0))) := cut_num h
  have hln := ln_of_digits h.2
  have HR : Hid (∀ o : Obj, o = .cells #[.bool false, .slice none 0 0] 48 → Calls Tryd.prog 67 #[.string (txt (x.natAbs : Int))] (w.alloc o) fun e w' => ∃ v, e = .returned v ∧ (∃ a n c, v = .slice a n c) ∧ Hid (Calls Tryd.prog 43 #[.bool (decide (x < 0)), v] w' fun e w' => ∃ b' sl, e = .returned (.agg #[.bool b', sl]) ∧ (∃ a' n' c', sl = .slice a' n' c') ∧ BoxF w' w.heap.size (.bool false) (.slice none 0 0) (.bool b') sl ∧ Hid (Wh ((w'.setCell ⟨w.heap.size, 0, none⟩ (.bool b')).setCell ⟨w.heap.size, 1, none⟩ sl) (.agg #[.bool b', sl]) x ∧ Below w.heap.size w ((w'.setCell ⟨w.heap.size, 0, none⟩ (.bool b')).setCell ⟨w.heap.size, 1, none⟩ sl)))) := fun o ho => by
    subst ho
    have k : Below w.heap.size w (w.alloc (.cells #[.bool false, .slice none 0 0] 48)) := (Below.refl _ w).alloc (Nat.le_refl _) _
    have hd := (isNum_abs h).dgs
    rw [if_neg (by omega), show ((x.natAbs : Int)).natAbs = x.natAbs by omega] at hd
    refine (readSize (txt (x.natAbs : Int)) x.natAbs _ _ hd).mono ?_
    rintro e w1 ⟨v, rfl, ho, hb⟩
    have k1 : Below w.heap.size w w1 := k.trans (hb.mono k.size)
    refine ⟨v, rfl, ?_, ?_⟩
    · obtain ⟨ao, c, e, _⟩ := ho.sz.open
      exact ⟨_, _, _, e⟩
    · refine (signed (decide (x < 0)) v x.natAbs w1 ho.sz (by omega)).mono ?_
      rintro e w2 ⟨v', rfl, hw, hb2⟩
      rw [sg_self] at hw
      obtain ⟨a', c', rfl, _⟩ := id hw
      have hX : w2.heap[w.heap.size]? = some (.cells #[.bool false, .slice none 0 0] 48 (0, 0)) := by
        rw [hb2.block _ (by have := hb.size; simp at this; omega), hb.block _ (by simp)]
        exact heap_alloc_at _ _ _ rfl
      exact ⟨_, _, rfl, ⟨_, _, _, rfl⟩, boxF hX _ _, stored hX hw (k1.trans (hb2.mono k1.size)) (Nat.le_refl _)⟩
  generalize decide (x < 0) = b at *
  generalize txt (x.natAbs : Int) = E at *
  clear h
  go_enter Tryd.func46, Tryd.ntmps46
  go_wp2_with fail
  refine (HC.out _).mono ?_
  rintro e w1 ⟨rfl, hw⟩
  subst hw
  go_wp2_with fail
  refine (HR.out _ rfl).mono ?_
  rintro e w1 ⟨v, rfl, ⟨a, n, c, rfl⟩, HS⟩
  go_wp2_with fail
  refine HS.out.mono ?_
  rintro e w2 ⟨b', sl, rfl, ⟨a', n', c', rfl⟩, ⟨c0, c1, f0, f1, s0, s1⟩, HX⟩
  go_wp2
  refine bodyPost_ret (v := .agg #[.bool b', .slice a' n' c']) (by simp [results, Tryd.results46, go_sem, s0, s1]) rfl ?_
  exact ⟨_, rfl, HX.out.1, hln, HX.out.2⟩

theorem sg_mul (x y : Int) : sg (decide (x < 0) != decide (y < 0)) (x.natAbs * y.natAbs) = x * y := by
  unfold sg
  have e : ((x.natAbs * y.natAbs : Nat) : Int) = (x.natAbs : Int) * (y.natAbs : Int) := by simp
  rw [e]
  by_cases hx : x < 0 <;> by_cases hy : y < 0
  · have h1 : (x.natAbs : Int) = -x := by omega
    have h2 : (y.natAbs : Int) = -y := by omega
    simp [hx, hy, h1, h2, Int.neg_mul_neg]
  · have h1 : (x.natAbs : Int) = -x := by omega
    have h2 : (y.natAbs : Int) = y := by omega
    simp [hx, hy, h1, h2, Int.neg_mul]
  · have h1 : (x.natAbs : Int) = x := by omega
    have h2 : (y.natAbs : Int) = -y := by omega
    simp [hx, hy, h1, h2, Int.mul_neg]
  · have h1 : (x.natAbs : Int) = x := by omega
    have h2 : (y.natAbs : Int) = y := by omega
    simp [hx, hy, h1, h2]
theorem ln_mul (a b : Nat) : ln (a * b) ≤ ln a + ln b := ln_le (by
  rw [Nat.pow_add]
  exact Nat.mul_lt_mul'' (lt_pow_ln a) (lt_pow_ln b))
theorem ln_add (a b : Nat) : ln (a + b) ≤ max (ln a) (ln b) + 1 := ln_le (by
  have a1 := lt_pow_ln a
  have a2 := lt_pow_ln b
  have a3 := Nat.pow_le_pow_right (n := 1000000000) (by decide) (Nat.le_max_left (ln a) (ln b))
  have a4 := Nat.pow_le_pow_right (n := 1000000000) (by decide) (Nat.le_max_right (ln a) (ln b))
  rw [Nat.pow_succ]
  omega)
/-- What signed answers, and what is there when it is stored into a box. -/
theorem signed_to (b : Bool) (s : Value) (n X : Nat) (T : TypeId) (v0 : Value) (b0 : Bool) (w0 w : World) (z : Int) (hs : Sz w s n) (hl : ln n ≤ 500) (hz : sg b n = z) (hX : w.heap[X]? = some (.cells #[.bool b0, v0] T (0, 0))) (hb : Below w0.heap.size w0 w) (hBX : w0.heap.size ≤ X) :
    Calls Tryd.prog 43 #[.bool b, s] w fun e w' => ∃ b' sl, e = .returned (.agg #[.bool b', sl]) ∧ (∃ a' n' c', sl = .slice a' n' c') ∧ BoxF w' X (.bool b0) v0 (.bool b') sl ∧ Below w.heap.size w w' ∧ Hid (∀ wf : World, wf.heap = ((w'.setCell ⟨X, 0, none⟩ (.bool b')).setCell ⟨X, 1, none⟩ sl).heap → wf.os = w'.os → wf.tape = w'.tape → wf.output = w'.output → Wh wf (.agg #[.bool b', sl]) z ∧ Below w0.heap.size w0 wf) := by
  refine (signed b s n w hs hl).mono ?_
  rintro e w' ⟨v', rfl, hw, hb2⟩
  rw [hz] at hw
  obtain ⟨a', c', rfl, _⟩ := id hw
  have hX' : w'.heap[X]? = some (.cells #[.bool b0, v0] T (0, 0)) := by
    rw [hb2.block _ (Array.getElem?_eq_some_iff.1 hX).1]; exact hX
  obtain ⟨q1, q2⟩ := stored hX' hw (hb.trans (hb2.mono hb.size)) hBX
  refine ⟨_, _, rfl, ⟨_, _, _, rfl⟩, boxF hX' _ _, hb2, fun wf e1 e2 e3 e4 => ⟨?_, ?_⟩⟩
  · obtain ⟨a, c, e, k1, k2⟩ := q1
    refine ⟨a, c, e, ⟨?_, k1.2⟩, k2⟩
    obtain ⟨a2, c2, f1, f2, f3, f4⟩ := k1.1
    refine ⟨a2, c2, f1, f2, f3, f4.imp id ?_⟩
    rintro ⟨g, f5, f6⟩
    refine ⟨g, f5, fun i hi => ?_⟩
    rw [World.cell?_of_block (w := (w'.setCell ⟨X, 0, none⟩ _).setCell ⟨X, 1, none⟩ _) (by rw [e1])]
    exact f6 i hi
  · exact ⟨e2.trans q2.os, e3.trans q2.tape, e4.trans q2.output, by rw [e1]; exact q2.size, fun k hk => by rw [e1]; exact q2.block k hk⟩

set_option maxRecDepth 100000 in
set_option maxHeartbeats 2000000 in
theorem hTimes (vx vy : Value) (x y : Int) (w : World) (hx : Wh w vx x) (hy : Wh w vy y) (lx : ln x.natAbs ≤ 200) (ly : ln y.natAbs ≤ 200) :
    Calls Tryd.prog 39 #[vx, vy] w fun e w' => ∃ v', e = .returned v' ∧ Wh w' v' (x * y) ∧ Below w.heap.size w w' := by
  obtain ⟨ao, c, rfl, hs, hl⟩ := hx
  obtain ⟨bo, d, rfl, ht, hm⟩ := hy
  have hsg := sg_mul x y
  have hlm := ln_mul x.natAbs y.natAbs
  generalize hn : ln x.natAbs = n at *
  generalize hm0 : ln y.natAbs = m at *
  generalize decide (x < 0) = bx at *
  generalize decide (y < 0) = by' at *
  obtain ⟨W0, hW0⟩ : ∃ W0, ((w.alloc (.cells #[.bool bx, .slice ao n c] 48)).alloc (.cells #[.bool by', .slice bo m d] 48)).alloc (.cells #[.bool false, .slice none 0 0] 48) = W0 := ⟨_, rfl⟩
  have hsz : W0.heap.size = w.heap.size + 3 := by rw [← hW0]; simp
  have hB0 : Below w.heap.size w W0 := by rw [← hW0]; exact (((Below.refl _ w).alloc (Nat.le_refl _) _).alloc (by simp) _).alloc (by first | (simp; done) | (simp; omega)) _
  have hX0 : W0.heap[w.heap.size]? = some (.cells #[.bool bx, .slice ao n c] 48 (0, 0)) := by
    rw [← hW0, Below.heap_alloc _ _ _ (by first | (simp; done) | (simp; omega)), Below.heap_alloc _ _ _ (by simp)]
    exact heap_alloc_at _ _ _ rfl
  have hX1 : W0.heap[w.heap.size + 1]? = some (.cells #[.bool by', .slice bo m d] 48 (0, 0)) := by
    rw [← hW0, Below.heap_alloc _ _ _ (by simp)]
    exact heap_alloc_at _ _ _ (by simp)
  have hX2 : W0.heap[w.heap.size + 1 + 1]? = some (.cells #[.bool false, .slice none 0 0] 48 (0, 0)) := by
    rw [← hW0]
    exact heap_alloc_at _ _ _ (by simp)
  have hb0 : Below W0.heap.size W0 W0.drew := blw_drewN 1 (Below.refl _ W0)
  have HS : Hid (∀ wq, Below W0.heap.size W0 wq → wq.cell? ⟨w.heap.size, 0, none⟩ = some (.bool bx) ∧ wq.cell? ⟨w.heap.size, 1, none⟩ = some (.slice ao n c) ∧ wq.cell? ⟨w.heap.size + 1, 0, none⟩ = some (.bool by') ∧ wq.cell? ⟨w.heap.size + 1, 1, none⟩ = some (.slice bo m d)) := fun wq hq => by
    have e0 : wq.heap[w.heap.size]? = _ := (hq.block _ (by omega)).trans hX0
    have e1 : wq.heap[w.heap.size + 1]? = _ := (hq.block _ (by omega)).trans hX1
    exact ⟨by rw [cells_at e0 0]; rfl, by rw [cells_at e0 1]; rfl, by rw [cells_at e1 0]; rfl, by rw [cells_at e1 1]; rfl⟩
  have HS2 : Hid (∀ wq u u', Below W0.heap.size W0 wq → ((wq.setCell ⟨w.heap.size + 1 + 1, 0, none⟩ u).setCell ⟨w.heap.size + 1 + 1, 1, none⟩ u').cell? ⟨w.heap.size, 0, none⟩ = some (.bool bx) ∧ ((wq.setCell ⟨w.heap.size + 1 + 1, 0, none⟩ u).setCell ⟨w.heap.size + 1 + 1, 1, none⟩ u').cell? ⟨w.heap.size, 1, none⟩ = some (.slice ao n c) ∧ ((wq.setCell ⟨w.heap.size + 1 + 1, 0, none⟩ u).setCell ⟨w.heap.size + 1 + 1, 1, none⟩ u').cell? ⟨w.heap.size + 1, 0, none⟩ = some (.bool by') ∧ ((wq.setCell ⟨w.heap.size + 1 + 1, 0, none⟩ u).setCell ⟨w.heap.size + 1 + 1, 1, none⟩ u').cell? ⟨w.heap.size + 1, 1, none⟩ = some (.slice bo m d)) := fun wq u u' hq => by
    obtain ⟨q1, q2, q3, q4⟩ := HS.out wq hq
    exact ⟨by rw [World.cell?_setCell_other _ _ _ _ (by first | (simp; done) | (simp; omega)), World.cell?_setCell_other _ _ _ _ (by first | (simp; done) | (simp; omega))]; exact q1, by rw [World.cell?_setCell_other _ _ _ _ (by first | (simp; done) | (simp; omega)), World.cell?_setCell_other _ _ _ _ (by first | (simp; done) | (simp; omega))]; exact q2, by rw [World.cell?_setCell_other _ _ _ _ (by simp), World.cell?_setCell_other _ _ _ _ (by simp)]; exact q3, by rw [World.cell?_setCell_other _ _ _ _ (by simp), World.cell?_setCell_other _ _ _ _ (by simp)]; exact q4⟩
  have HC1 : Hid (∀ wq, Below W0.heap.size W0 wq → Calls Tryd.prog 61 #[.slice ao n c, .slice bo m d] wq fun e w' => ∃ v, e = .returned v ∧ (∃ a' n' c', v = .slice a' n' c') ∧ Hid (Sz w' v (x.natAbs * y.natAbs)) ∧ Below W0.heap.size W0 w') := fun wq hq => by
    have k : Below w.heap.size w wq := hB0.trans (hq.mono (by omega))
    refine (sTimes _ _ x.natAbs y.natAbs wq (hs.below k (Nat.le_refl _)) (ht.below k (Nat.le_refl _)) (by omega) (by omega)).mono ?_
    rintro e w' ⟨v, rfl, ho, hb⟩
    obtain ⟨a', c', e, _⟩ := ho.sz.open
    exact ⟨v, rfl, ⟨_, _, _, e⟩, ho.sz, hq.trans (hb.mono hq.size)⟩
  have HC2 : Hid (∀ w1 v, Below W0.heap.size W0 w1 → Sz w1 v (x.natAbs * y.natAbs) → Calls Tryd.prog 43 #[.bool (bx != by'), v] w1 fun e w' => ∃ b' sl, e = .returned (.agg #[.bool b', sl]) ∧ (∃ a' n' c', sl = .slice a' n' c') ∧ BoxF w' (w.heap.size + 1 + 1) (.bool false) (.slice none 0 0) (.bool b') sl ∧ Below W0.heap.size W0 w' ∧ Hid (∀ wf : World, wf.heap = ((w'.setCell ⟨w.heap.size + 1 + 1, 0, none⟩ (.bool b')).setCell ⟨w.heap.size + 1 + 1, 1, none⟩ sl).heap → wf.os = w'.os → wf.tape = w'.tape → wf.output = w'.output → Wh wf (.agg #[.bool b', sl]) (x * y) ∧ Below w.heap.size w wf)) := fun w1 v hq hs1 => by
    refine (signed_to _ v _ (w.heap.size + 1 + 1) 48 (.slice none 0 0) false w w1 (x * y) hs1 (by omega) hsg ((hq.block _ (by omega)).trans hX2) (hB0.trans (hq.mono (by omega))) (by omega)).mono ?_
    rintro e w' ⟨b', sl, q1, q2, q3, q4, q5⟩
    exact ⟨b', sl, q1, q2, q3, hq.trans (q4.mono hq.size), q5⟩
  clear hs ht hsg hlm hX0 hX1 hX2 hB0 hn hm0
  go_enter Tryd.func39, Tryd.ntmps39
  go_wp2_with fail
  go_region_held (fun wq => wq.cell? ⟨w.heap.size, 0, none⟩ = some (.bool bx) ∧ wq.cell? ⟨w.heap.size, 1, none⟩ = some (.slice ao n c) ∧ wq.cell? ⟨w.heap.size + 1, 0, none⟩ = some (.bool by') ∧ wq.cell? ⟨w.heap.size + 1, 1, none⟩ = some (.slice bo m d))
    (first | exact HS.out _ (by assumption) | exact HS2.out _ _ _ (by assumption) | go_keep)
    (first
      | (go_at_call 61; refine (HC1.out _ hb0).mono ?_; rintro e' w1 ⟨v1, rfl, ⟨a1, n1, c1, rfl⟩, z1, k1⟩)
      | (go_at_call 43; refine (HC2.out _ _ k1 z1.out).mono ?_; rintro e' w2 ⟨b2, sl2, rfl, ⟨a2, n2, c2, rfl⟩, ⟨x0, x1, x2, x3, x4, x5⟩, k2, HX⟩))
  go_wp2
  refine bodyPost_ret (v := .agg #[.bool b2, .slice a2 n2 c2]) (by simp [results, Tryd.results39, go_sem, x4, x5]) rfl ?_
  exact ⟨_, rfl, HX.out _ (by rfl) (by rfl) (by rfl) (by rfl)⟩
end Go.Proofs.YtcnlclocnnijgaaDoor
