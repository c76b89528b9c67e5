/-
  Contract of the document's divide, where both are numbers and the second is not nought. No other condition.
-/
import Derived.Test.YtcnlclocnnijgaaDoorNRMul
import Derived.Test.YtcnlclocnnijgaaDoorNumDiv10
namespace Go.Proofs.YtcnlclocnnijgaaDoor
open Go.RowKit
set_option linter.unusedVariables false

/-- A row in the block B stays where only later blocks change. -/
theorem OwN.keep {w w' : World} {B n : Nat} {f : Nat → Int} (h : OwN .i64 3 w B (.slice (some ⟨B, 0, none⟩) n n) n f) (hb : Below (B + 1) w w') : OwN .i64 3 w' B (.slice (some ⟨B, 0, none⟩) n n) n f := by
  refine ⟨h.1, ?_⟩
  rcases h.2 with h1 | ⟨b, cap, cur, h1, h2, h3, h4⟩
  · exact .inl h1
  · cases h1
    exact .inr ⟨B, n, cur, rfl, h2, by rw [hb.block B (by omega)]; exact h3, h4⟩
def qcell (w : World) (B i : Nat) : Nat := ((w.cell? ⟨B, i, none⟩).map (fun v => (intOf v).toNat)).getD 0
/-- The rest with one more digit ahead. -/
theorem cons_row {w w' : World} {B nr r d : Nat} {v' : Value} (hd : d < 10) (h : w'.ownsRow B 3 1 v' (1 + nr) ([Value.int .i64 (d : Int)] ++ (lst (fun i => (dd r i : Int)) nr).map (Value.int .i64))) : OwN .i64 3 w' B v' (nr + 1) (fun i => (dd (10 * r + d) i : Int)) := by
  unfold OwN
  have e : (lst (fun i => (dd (10 * r + d) i : Int)) (nr + 1)).map (Value.int .i64) = [Value.int .i64 (d : Int)] ++ (lst (fun i => (dd r i : Int)) nr).map (Value.int .i64) := by
    apply List.ext_getElem?
    intro i
    cases i with
    | zero => rw [List.getElem?_map, lst_get _ _ 0 (by omega)]; simp [dd_cons_zero r d hd]
    | succ i =>
      rw [List.getElem?_map, List.singleton_append, List.getElem?_cons_succ, List.getElem?_map]
      by_cases hi : i < nr
      · rw [lst_get _ _ _ (by omega), lst_get _ _ _ hi, dd_cons_succ r d i hd]
      · rw [List.getElem?_eq_none (by rw [lst_length]; omega), List.getElem?_eq_none (by rw [lst_length]; omega)]
  rw [e, Nat.add_comm nr 1]
  exact h

set_option maxRecDepth 100000 in
set_option maxHeartbeats 4000000 in
theorem rDivide_ok {a b : ByteArray} {x y : Int} (ha : IsNum a x) (hb : IsNum b y) (hy0 : y ≠ 0) (w : World) :
    Calls Tryd.prog 44 #[.string a, .string b] w fun e w' => ∃ q r n m, e = .returned (.tuple #[q, r, .int .i64 0]) ∧ Bg w' q (decide (x < 0) != decide (y < 0)) n (x.natAbs / y.natAbs) ∧ Bg w' r (decide (x < 0)) m (x.natAbs % y.natAbs) ∧ n ≤ 1000 ∧ m ≤ 1000 ∧ Below w.heap.size w w' := by
  have HA : Hid (IsNum a x) := ha
  have HB : Hid (IsNum b y) := hb
  obtain ⟨i0, hi, hz0, hz1, hz2⟩ := info_parts info3
  have ln1 : Lib.nDigits x.natAbs ≤ 200 := ha.2
  have ln2 : Lib.nDigits y.natAbs ≤ 200 := hb.2
  have lp1 := Lib.nDigits_pos x.natAbs
  have lp2 := Lib.nDigits_pos y.natAbs
  have hX9 := Lib.lt_pow_nDigits x.natAbs
  have hY9 := Lib.lt_pow_nDigits y.natAbs
  have hb0 : (b.toList == [48]) = false := by
    rw [beq_eq_false_iff_ne]
    intro e
    have h1 : b.data.toList = Lib.itoa y := by rw [hb.1]; exact txt_data y
    have h2 : Lib.itoa 0 = [48] := Lib.decDigits_one (by decide)
    have h3 : b.data.toList = [48] := by rw [← ByteArray.toList_eq, e]
    exact hy0 (itoa_inj (by rw [← h1, h3, h2]))
  have hYp : 0 < y.natAbs := by omega
  clear ha hb
  go_enter Tryd.func44, Tryd.ntmps44
  go_wp2_with fail
  refine (rCan_yes HA.out _).mono ?_
  rintro e wa ⟨rfl, hw⟩
  obtain ⟨Wa, hWa⟩ : ∃ Wa, (w.alloc (.cells #[.slice none 0 0, .bool false] 51)).alloc (.cells #[.slice none 0 0, .bool false] 51) = Wa := ⟨_, rfl⟩
  rw [hWa] at hw
  obtain rfl : Wa = wa := hw.symm
  clear hw
  go_wp2_with fail
  refine (rCan_yes HB.out _).mono ?_
  rintro e wb ⟨rfl, hw⟩
  obtain rfl : Wa = wb := hw.symm
  clear hw
  go_wp2_with fail
  refine (rOf HA.out Wa).mono ?_
  rintro e w1 ⟨gx, cx, rfl, _, hx, b1⟩
  go_wp2_with fail
  refine (rOf HB.out w1).mono ?_
  rintro e w2 ⟨gy, cy, rfl, _, hy, b2⟩
  have hx2 := hx.below b2 (Nat.le_refl _)
  have B2 : Below Wa.heap.size Wa w2 := b1.trans (b2.mono b1.size)
  have hWs : Wa.heap.size = w.heap.size + 2 := by rw [← hWa]; simp
  have hWb : Below w.heap.size w Wa := by rw [← hWa]; exact ((Below.refl _ w).alloc (Nat.le_refl _) _).alloc (by simp) _
  have hR0 : Wa.heap[w.heap.size]? = some (.cells #[.slice none 0 0, .bool false] 51 (0, 0)) := by
    rw [← hWa, Below.heap_alloc _ _ _ (by simp)]
    exact heap_alloc_at _ _ _ rfl
  have hR1 : Wa.heap[w.heap.size + 1]? = some (.cells #[.slice none 0 0, .bool false] 51 (0, 0)) := by
    rw [← hWa]
    exact heap_alloc_at _ _ _ (by simp)
  generalize hu0 : x.natAbs = u at *
  generalize hv0 : y.natAbs = v at *
  generalize Lib.nDigits u = n at *
  generalize Lib.nDigits v = m at *
  generalize hbx : decide (x < 0) = bx at *
  generalize hby : decide (y < 0) = by' at *
  have HU : Hid (u = x.natAbs ∧ v = y.natAbs ∧ bx = decide (x < 0) ∧ by' = decide (y < 0)) := ⟨hu0.symm, hv0.symm, hbx.symm, hby.symm⟩
  clear hu0 hv0 hbx hby
  obtain ⟨W0, hW0⟩ : ∃ W0, (w2.alloc (.cells #[.slice (some ⟨gx, 0, none⟩) n cx, .bool bx] 51)).alloc (.cells #[.slice (some ⟨gy, 0, none⟩) m cy, .bool by'] 51) = W0 := ⟨_, rfl⟩
  have hsz : W0.heap.size = w2.heap.size + 2 := by rw [← hW0]; simp
  have hk0 : Below w2.heap.size w2 W0 := by rw [← hW0]; exact ((Below.refl _ w2).alloc (Nat.le_refl _) _).alloc (by simp) _
  have hX0 : W0.heap[w2.heap.size]? = some (.cells #[.slice (some ⟨gx, 0, none⟩) n cx, .bool bx] 51 (0, 0)) := by
    rw [← hW0, Below.heap_alloc _ _ _ (by simp)]
    exact heap_alloc_at _ _ _ rfl
  have hX1 : W0.heap[w2.heap.size + 1]? = some (.cells #[.slice (some ⟨gy, 0, none⟩) m cy, .bool by'] 51 (0, 0)) := by
    rw [← hW0]
    exact heap_alloc_at _ _ _ (by simp)
  have hs2 := B2.size
  have hw2 : w.heap.size + 2 ≤ w2.heap.size := by omega
  have HW2 : Hid (w.heap.size + 2 ≤ w2.heap.size ∧ w2.heap.size + 2 ≤ W0.heap.size) := ⟨hw2, by omega⟩
  have hQW : ∀ wq, Below W0.heap.size W0 wq → Below Wa.heap.size Wa wq := fun wq hq => B2.trans ((hk0.trans (hq.mono (by omega))).mono hs2)
  have HF : Hid (∀ wq, Below W0.heap.size W0 wq → Below w.heap.size w wq) := fun wq hq => hWb.trans ((hQW wq hq).mono hWb.size)
  have HRs : Hid (∀ wq, Below W0.heap.size W0 wq → wq.heap[w.heap.size]? = some (.cells #[.slice none 0 0, .bool false] 51 (0, 0)) ∧ wq.heap[w.heap.size + 1]? = some (.cells #[.slice none 0 0, .bool false] 51 (0, 0))) := fun wq hq =>
    ⟨((hQW wq hq).block _ (by omega)).trans hR0, ((hQW wq hq).block _ (by omega)).trans hR1⟩
  have HS : Hid (∀ wq, Below W0.heap.size W0 wq → (wq.cell? ⟨w2.heap.size, 0, none⟩ = some (.slice (some ⟨gx, 0, none⟩) n cx) ∧ wq.cell? ⟨w2.heap.size, 1, none⟩ = some (.bool bx) ∧ wq.cell? ⟨w2.heap.size + 1, 0, none⟩ = some (.slice (some ⟨gy, 0, none⟩) m cy) ∧ wq.cell? ⟨w2.heap.size + 1, 1, none⟩ = some (.bool by')) ∧ (∀ i, i < n → wq.cell? ⟨gx, i, none⟩ = some (.int .i64 (dd u i : Int))) ∧ Dig wq (.slice (some ⟨gy, 0, none⟩) m cy) m v) := fun wq hq => by
    have e0 : wq.heap[w2.heap.size]? = _ := (hq.block _ (by omega)).trans hX0
    have e1 : wq.heap[w2.heap.size + 1]? = _ := (hq.block _ (by omega)).trans hX1
    have k : Below w2.heap.size w2 wq := hk0.trans (hq.mono (by omega))
    refine ⟨⟨by rw [cells_at e0 0]; rfl, by rw [cells_at e0 1]; rfl, by rw [cells_at e1 0]; rfl, by rw [cells_at e1 1]; rfl⟩, fun i hi => ?_, hy.below k (Nat.le_refl _)⟩
    obtain ⟨_, _, e, _, _, hr⟩ := (hx2.below k (Nat.le_refl _)).1
    cases e
    rcases hr with h0 | ⟨g, e, hg⟩
    · omega
    · cases e; exact hg i hi
  have hcx : n ≤ cx ∧ cx ≤ 9223372036854775807 := by obtain ⟨_, _, e, h1, h2, _⟩ := hx.1; cases e; exact ⟨h1, h2⟩
  have hcy : m ≤ cy ∧ cy ≤ 9223372036854775807 := by obtain ⟨_, _, e, h1, h2, _⟩ := hy.1; cases e; exact ⟨h1, h2⟩
  obtain ⟨MB, hMB⟩ : ∃ MB, madeCells #[.int .i64 0] n = MB := ⟨_, rfl⟩
  have hmk : ∀ wq : World, (Instr.makeSlice 49 (.int .i64 (n : Int)) (.int .i64 (n : Int))).run Tryd.prog wq = .ok (.slice (some ⟨wq.heap.size, 0, none⟩) n n) (wq.alloc (.cells MB 3)) := fun wq => by
    have h := make_ints n (by omega) wq
    rw [hMB] at h
    exact h
  have HQ0 : Hid (∀ o, OwN .i64 3 ((W0.alloc (.cells MB 3)).alloc o) W0.heap.size (.slice (some ⟨W0.heap.size, 0, none⟩) n n) n (fun j => if j < n then 0 else (dd (u / v) j : Int))) := fun o => by
    rw [← hMB]
    have h1 := (own_makes .i64 3 n (by omega) W0).ext (g := fun j => if j < n then 0 else (dd (u / v) j : Int)) (fun j hj => by rw [if_pos hj])
    exact h1.keep ((Below.refl _ _).alloc (by simp) o)
  have HL : Hid (∀ (wq : World) (z : Int), W0.heap.size + 1 ≤ wq.heap.size → (wq.alloc (.cells #[.int .i64 z] 3)).ownsRow (W0.heap.size + 1) 3 1 (.slice (some ⟨wq.heap.size, 0, none⟩) 1 1) 1 [.int .i64 z]) := fun wq z h => by
    have := World.ownsRow_lit (base := W0.heap.size + 1) (e := 3) (size := 1) wq #[.int .i64 z] 1 h (by unfold maxLen; omega) rfl
    simpa using this
  have HR9 : Hid (∀ k, n ≤ k → u / 10 ^ k = 0) := fun k hk => Nat.div_eq_of_lt (Nat.lt_of_lt_of_le hX9 (Nat.pow_le_pow_right (by decide) hk))
  have HY9 : Hid (v < 10 ^ m) := hY9
  have HX9 : Hid (u < 10 ^ n) := hX9
  have HD : Hid (∀ i, (10 * (u / 10 ^ (i + 1) % v) + dd u i) % v = u / 10 ^ i % v ∧ (10 * (u / 10 ^ (i + 1) % v) + dd u i) / v = dd (u / v) i ∧ 10 * (u / 10 ^ (i + 1) % v) + dd u i < 10 * v) := fun i => div_down u v i hYp
  obtain ⟨⟨g1, g2, g3, g4⟩, _⟩ := HS.out W0 (Below.refl _ _)
  have al : ∀ o o', ((W0.alloc o).alloc o').cell? ⟨w2.heap.size, 0, none⟩ = some (.slice (some ⟨gx, 0, none⟩) n cx) := fun o o' => (HS.out _ (((Below.refl _ _).alloc (Nat.le_refl _) o).alloc (by simp) o')).1.1
  clear hMB hx hx2 hy hX0 hX1 hk0 b1 b2 B2 hX9 hY9 hR0 hR1 hWb hWa hQW hs2 hWs hsz hw2
  go_wp2
  go_loopw [10, 11] (fun r i wr => ∃ (k nr : Nat) (z : Int), k ≤ n ∧ i = .int .i64 z ∧ z = (k : Int) - 1 ∧ nr ≤ 1 + m + (n - k) ∧ 1 ≤ nr ∧ Hid (u / 10 ^ k % v < 10 ^ nr) ∧ Hid (OwN .i64 3 wr (W0.heap.size + 1) r nr (fun j => (dd (u / 10 ^ k % v) j : Int))) ∧ Hid (OwN .i64 3 wr W0.heap.size (.slice (some ⟨W0.heap.size, 0, none⟩) n n) n (fun j => if j < k then 0 else (dd (u / v) j : Int))) ∧ Hid (W0.heap.size + 1 ≤ wr.heap.size) ∧ Below W0.heap.size W0 wr) (fun _ i _ => (intOf i + 1).toNat)
  case atStart =>
    refine ⟨n, 1, (n : Int) - 1, Nat.le_refl _, by first | rfl | go_num, rfl, by omega, Nat.le_refl _, ?_, ?_, HQ0.out _, by show _ ≤ _; simp, ((Below.refl _ W0).alloc (Nat.le_refl _) _).alloc (by simp) _⟩
    · show _ < _
      rw [HR9.out n (Nat.le_refl _), Nat.zero_mod]; decide
    · show OwN _ _ _ _ _ _ _
      rw [HR9.out n (Nat.le_refl _), Nat.zero_mod]
      have h := HL.out (W0.alloc (.cells MB 3)) 0 (by simp)
      unfold OwN
      have e : (lst (fun j => (dd 0 j : Int)) 1).map (Value.int .i64) = [.int .i64 0] := by simp [lst, dd]
      rw [e]
      simpa using h
  case round =>
    obtain ⟨k, nr, z, hk, rfl, hz, hnr, hnr1, hlt, ho, hoq, hsz, hb⟩ := hrel
    obtain ⟨⟨d1, d2, d3, d4⟩, d5, d6⟩ := HS.out wr hb
    cases k with
    | zero =>
      obtain rfl : z = -1 := by omega
      obtain ⟨hr0, hr1⟩ := HRs.out wr hb
      rcases ho.out.open with ⟨_, e⟩ | ⟨bb, cc, rfl, q1, q2, q3, q4⟩
      · omega
      have c00 : wr.cell? ⟨w.heap.size, 0, none⟩ = some (.slice none 0 0) := by rw [cells_at hr0 0]; rfl
      have c01 : wr.cell? ⟨w.heap.size, 1, none⟩ = some (.bool false) := by rw [cells_at hr0 1]; rfl
      have c10 : wr.cell? ⟨w.heap.size + 1, 0, none⟩ = some (.slice none 0 0) := by rw [cells_at hr1 0]; rfl
      have c11 : wr.cell? ⟨w.heap.size + 1, 1, none⟩ = some (.bool false) := by rw [cells_at hr1 1]; rfl
      have f00 := cells_free hr0 0
      have f01 := cells_free hr0 1
      have f10 := cells_free hr1 0
      have f11 := cells_free hr1 1
      obtain ⟨hw2, hw3⟩ := HW2.out
      have A1 : ∀ a b, ((wr.setCell ⟨w.heap.size, 0, none⟩ a).setCell ⟨w.heap.size, 1, none⟩ b).cell? ⟨w2.heap.size, 1, none⟩ = some (.bool bx) := fun a b => by rw [World.cell?_setCell_other _ _ _ _ (by first | (simp; done) | (simp; omega)), World.cell?_setCell_other _ _ _ _ (by first | (simp; done) | (simp; omega))]; exact d2
      have A2 : ∀ a b, ((wr.setCell ⟨w.heap.size, 0, none⟩ a).setCell ⟨w.heap.size, 1, none⟩ b).cell? ⟨w2.heap.size + 1, 1, none⟩ = some (.bool by') := fun a b => by rw [World.cell?_setCell_other _ _ _ _ (by first | (simp; done) | (simp; omega)), World.cell?_setCell_other _ _ _ _ (by first | (simp; done) | (simp; omega))]; exact d4
      have A3 : ∀ a b, ((wr.setCell ⟨w.heap.size + 1, 0, none⟩ a).setCell ⟨w.heap.size + 1, 1, none⟩ b).cell? ⟨w2.heap.size, 1, none⟩ = some (.bool bx) := fun a b => by rw [World.cell?_setCell_other _ _ _ _ (by first | (simp; done) | (simp; omega)), World.cell?_setCell_other _ _ _ _ (by first | (simp; done) | (simp; omega))]; exact d2
      have A4 : ∀ a b, ((wr.setCell ⟨w.heap.size + 1, 0, none⟩ a).setCell ⟨w.heap.size + 1, 1, none⟩ b).cell? ⟨w2.heap.size + 1, 1, none⟩ = some (.bool by') := fun a b => by rw [World.cell?_setCell_other _ _ _ _ (by first | (simp; done) | (simp; omega)), World.cell?_setCell_other _ _ _ _ (by first | (simp; done) | (simp; omega))]; exact d4
      have A5 : ∀ a b, ((wr.setCell ⟨w.heap.size, 0, none⟩ a).setCell ⟨w.heap.size, 1, none⟩ b).cell? ⟨w.heap.size + 1, 0, none⟩ = some (.slice none 0 0) := fun a b => by rw [World.cell?_setCell_other _ _ _ _ (by simp), World.cell?_setCell_other _ _ _ _ (by simp)]; exact c10
      have A6 : ∀ a b, ((wr.setCell ⟨w.heap.size, 0, none⟩ a).setCell ⟨w.heap.size, 1, none⟩ b).cell? ⟨w.heap.size + 1, 1, none⟩ = some (.bool false) := fun a b => by rw [World.cell?_setCell_other _ _ _ _ (by simp), World.cell?_setCell_other _ _ _ _ (by simp)]; exact c11
      have A7 : ∀ a b, ((wr.setCell ⟨w.heap.size + 1, 0, none⟩ a).setCell ⟨w.heap.size + 1, 1, none⟩ b).cell? ⟨w.heap.size, 0, none⟩ = some (.slice none 0 0) := fun a b => by rw [World.cell?_setCell_other _ _ _ _ (by simp), World.cell?_setCell_other _ _ _ _ (by simp)]; exact c00
      have A8 : ∀ a b, ((wr.setCell ⟨w.heap.size + 1, 0, none⟩ a).setCell ⟨w.heap.size + 1, 1, none⟩ b).cell? ⟨w.heap.size, 1, none⟩ = some (.bool false) := fun a b => by rw [World.cell?_setCell_other _ _ _ _ (by simp), World.cell?_setCell_other _ _ _ _ (by simp)]; exact c01
      have HO := ho.out
      have HOQ := hoq.out
      have HH : Hid (OwN .i64 3 wr (W0.heap.size + 1) (.slice (some ⟨bb, 0, none⟩) nr cc) nr (fun j => (dd (u % v) j : Int)) ∧ OwN .i64 3 wr W0.heap.size (.slice (some ⟨W0.heap.size, 0, none⟩) n n) n (fun j => (dd (u / v) j : Int)) ∧ u % v < 10 ^ nr) := by
        have e9 : u / 10 ^ 0 % v = u % v := by simp
        rw [e9] at HO
        have := hlt.out
        rw [e9] at this
        exact ⟨HO, HOQ.ext (fun j _ => by rw [if_neg (by omega)]), this⟩
      have hne : ∀ (W : World) (a b c d : Value), (W.cell? ⟨w.heap.size, 0, none⟩).isSome = true → (W.cell? ⟨w.heap.size, 1, none⟩).isSome = true → (W.cell? ⟨w.heap.size + 1, 0, none⟩).isSome = true → (W.cell? ⟨w.heap.size + 1, 1, none⟩).isSome = true →
          ((((W.setCell ⟨w.heap.size, 0, none⟩ a).setCell ⟨w.heap.size, 1, none⟩ b).setCell ⟨w.heap.size + 1, 0, none⟩ c).setCell ⟨w.heap.size + 1, 1, none⟩ d).cell? ⟨w.heap.size, 0, none⟩ = some a ∧
          ((((W.setCell ⟨w.heap.size, 0, none⟩ a).setCell ⟨w.heap.size, 1, none⟩ b).setCell ⟨w.heap.size + 1, 0, none⟩ c).setCell ⟨w.heap.size + 1, 1, none⟩ d).cell? ⟨w.heap.size, 1, none⟩ = some b ∧
          ((((W.setCell ⟨w.heap.size, 0, none⟩ a).setCell ⟨w.heap.size, 1, none⟩ b).setCell ⟨w.heap.size + 1, 0, none⟩ c).setCell ⟨w.heap.size + 1, 1, none⟩ d).cell? ⟨w.heap.size + 1, 0, none⟩ = some c ∧
          ((((W.setCell ⟨w.heap.size, 0, none⟩ a).setCell ⟨w.heap.size, 1, none⟩ b).setCell ⟨w.heap.size + 1, 0, none⟩ c).setCell ⟨w.heap.size + 1, 1, none⟩ d).cell? ⟨w.heap.size + 1, 1, none⟩ = some d := fun W a b c d h1 h2 h3 h4 => by
        refine ⟨?_, ?_, ?_, ?_⟩
        · rw [World.cell?_setCell_other _ _ _ _ (by simp), World.cell?_setCell_other _ _ _ _ (by simp), World.cell?_setCell_other _ _ _ _ (by simp), World.cell?_setCell_same' _ _ _ h1]
        · rw [World.cell?_setCell_other _ _ _ _ (by simp), World.cell?_setCell_other _ _ _ _ (by simp), World.cell?_setCell_same' _ _ _ (by rw [World.cell?_setCell_other _ _ _ _ (by simp)]; exact h2)]
        · rw [World.cell?_setCell_other _ _ _ _ (by simp), World.cell?_setCell_same' _ _ _ (by rw [World.cell?_setCell_other _ _ _ _ (by simp), World.cell?_setCell_other _ _ _ _ (by simp)]; exact h3)]
        · rw [World.cell?_setCell_same' _ _ _ (by rw [World.cell?_setCell_other _ _ _ _ (by simp), World.cell?_setCell_other _ _ _ _ (by simp), World.cell?_setCell_other _ _ _ _ (by simp)]; exact h4)]
      obtain ⟨r00, r01, r10, r11⟩ := hne wr (.slice (some ⟨W0.heap.size, 0, none⟩) n n) (.bool (!(bx == by'))) (.slice (some ⟨bb, 0, none⟩) nr cc) (.bool bx) (by rw [c00]; rfl) (by rw [c01]; rfl) (by rw [c10]; rfl) (by rw [c11]; rfl)
      have HE : Hid (∀ wf : World, wf.heap = ((((wr.setCell ⟨w.heap.size, 0, none⟩ (.slice (some ⟨W0.heap.size, 0, none⟩) n n)).setCell ⟨w.heap.size, 1, none⟩ (.bool (!(bx == by')))).setCell ⟨w.heap.size + 1, 0, none⟩ (.slice (some ⟨bb, 0, none⟩) nr cc)).setCell ⟨w.heap.size + 1, 1, none⟩ (.bool bx)).heap → wf.os = wr.os → wf.tape = wr.tape → wf.output = wr.output → ∃ q r n' m', Ending.returned (.tuple #[.agg #[.slice (some ⟨W0.heap.size, 0, none⟩) n n, .bool (!(bx == by'))], .agg #[.slice (some ⟨bb, 0, none⟩) nr cc, .bool bx], .int .i64 0]) = .returned (.tuple #[q, r, .int .i64 0]) ∧ Bg wf q (bx != by') n' (u / v) ∧ Bg wf r bx m' (u % v) ∧ n' ≤ 1000 ∧ m' ≤ 1000 ∧ Below w.heap.size w wf) := fun wf e1 e2 e3 e4 => by
        obtain ⟨o1, o2, o3⟩ := HH.out
        have k1 := HF.out wr hb
        have k2 : Below w.heap.size w ((((wr.setCell ⟨w.heap.size, 0, none⟩ (.slice (some ⟨W0.heap.size, 0, none⟩) n n)).setCell ⟨w.heap.size, 1, none⟩ (.bool (!(bx == by')))).setCell ⟨w.heap.size + 1, 0, none⟩ (.slice (some ⟨bb, 0, none⟩) nr cc)).setCell ⟨w.heap.size + 1, 1, none⟩ (.bool bx)) := (((k1.setCell (p := ⟨w.heap.size, 0, none⟩) (Nat.le_refl _) _).setCell (p := ⟨w.heap.size, 1, none⟩) (Nat.le_refl _) _).setCell (p := ⟨w.heap.size + 1, 0, none⟩) (by show w.heap.size ≤ w.heap.size + 1; omega) _).setCell (p := ⟨w.heap.size + 1, 1, none⟩) (by show w.heap.size ≤ w.heap.size + 1; omega) _
        have n1 : ∀ g, (Value.slice (some ⟨bb, 0, none⟩) nr cc).ownBlock = some g → g = bb := fun g h => by cases h; rfl
        have n2 : ∀ g, (Value.slice (some ⟨W0.heap.size, 0, none⟩) n n).ownBlock = some g → g = W0.heap.size := fun g h => by cases h; rfl
        have p1 := (World.ownsRow.lt o1 bb rfl).1
        have m1 : (Value.slice (some ⟨bb, 0, none⟩) nr cc).ownBlock ≠ some w.heap.size := fun h => by have := n1 _ h; omega
        have m2 : (Value.slice (some ⟨bb, 0, none⟩) nr cc).ownBlock ≠ some (w.heap.size + 1) := fun h => by have := n1 _ h; omega
        have m3 : (Value.slice (some ⟨W0.heap.size, 0, none⟩) n n).ownBlock ≠ some w.heap.size := fun h => by have := n2 _ h; omega
        have m4 : (Value.slice (some ⟨W0.heap.size, 0, none⟩) n n).ownBlock ≠ some (w.heap.size + 1) := fun h => by have := n2 _ h; omega
        have q1 : OwN .i64 3 wf (W0.heap.size + 1) (.slice (some ⟨bb, 0, none⟩) nr cc) nr (fun j => (dd (u % v) j : Int)) := row_heap (row_set (row_set (row_set (row_set o1 m1 _ _) m1 _ _) m2 _ _) m2 _ _) e1
        have q2 : OwN .i64 3 wf W0.heap.size (.slice (some ⟨W0.heap.size, 0, none⟩) n n) n (fun j => (dd (u / v) j : Int)) := row_heap (row_set (row_set (row_set (row_set o2 m3 _ _) m3 _ _) m4 _ _) m4 _ _) e1
        refine ⟨_, _, n, nr, rfl, ⟨_, _, rfl, ⟨q2.rd, Nat.lt_of_le_of_lt (Nat.div_le_self u v) HX9.out, by omega⟩, by omega⟩, ⟨_, _, rfl, ⟨q1.rd, o3, by omega⟩, by omega⟩, by omega, by omega, ⟨e2.trans k1.os, e3.trans k1.tape, e4.trans k1.output, by rw [e1]; exact k2.size, fun k hk => by rw [e1]; exact k2.block k hk⟩⟩
      clear hne d5 d6 hz hr0 hr1 ho hoq HO HOQ hw2 hw3 hlt
      go_wp2_with fail
      go_region
      go_wp2
      refine bodyPost_ret (v := .tuple #[.agg #[.slice (some ⟨W0.heap.size, 0, none⟩) n n, .bool (!(bx == by'))], .agg #[.slice (some ⟨bb, 0, none⟩) nr cc, .bool bx], .int .i64 0]) (by simp [results, Tryd.results44, go_sem, r00, r01, r10, r11]) rfl ?_
      have HZ := HE.out ((((wr.setCell ⟨w.heap.size, 0, none⟩ (.slice (some ⟨W0.heap.size, 0, none⟩) n n)).setCell ⟨w.heap.size, 1, none⟩ (.bool (!(bx == by')))).setCell ⟨w.heap.size + 1, 0, none⟩ (.slice (some ⟨bb, 0, none⟩) nr cc)).setCell ⟨w.heap.size + 1, 1, none⟩ (.bool bx)).drew rfl rfl rfl rfl
      obtain ⟨hq1, hq2, hq3, hq4⟩ := HU.out
      subst hq1 hq2 hq3 hq4
      exact HZ
    | succ j =>
      obtain rfl : z = (j : Int) := by omega
      obtain ⟨e1, e2, e3⟩ := HD.out j
      have hdj := dd_lt u j
      have dk := d5 j (by omega)
      generalize hrho : u / 10 ^ (j + 1) % v = ρ at *
      generalize hd : dd u j = d at *
      rcases ho.out.open with ⟨_, e⟩ | ⟨bb, cc, rfl, q1, q2, q3, q4⟩
      · omega
      have HNw : Hid (∀ (o : Obj) (i : Nat) (x : Value), ((lst (fun j => (dd ρ j : Int)) nr).map (Value.int .i64))[i]? = some x → (wr.alloc o).cell? ((⟨bb, 0, none⟩ : Addr).add i) = some x) := fun o i x hxx => by
        have hi9 : i < nr := by
          have := (List.getElem?_eq_some_iff.1 hxx).1
          simpa [lst_length] using this
        have h1 := ho.out.cellF i hi9
        rw [List.getElem?_map, lst_get _ _ _ hi9] at hxx
        rw [Addr.add_lit, World.cell?_alloc_past (w := wr) o bb _ q2]
        simp at hxx
        rw [← hxx]
        simpa using h1
      have HLw := HL.out wr (d : Int) hsz.out
      have HK : Hid (∀ (o : Obj) (v' : Value) (w' : World), w'.ownsRow (W0.heap.size + 1) 3 1 v' (1 + nr) ([Value.int .i64 (d : Int)] ++ (lst (fun j => (dd ρ j : Int)) nr).map (Value.int .i64)) → (wr.alloc o).grownBy w' (some wr.heap.size) → OwN .i64 3 w' (W0.heap.size + 1) v' (nr + 1) (fun i => (dd (10 * ρ + d) i : Int)) ∧ OwN .i64 3 w' W0.heap.size (.slice (some ⟨W0.heap.size, 0, none⟩) n n) n (fun i => if i < j + 1 then 0 else (dd (u / v) i : Int)) ∧ W0.heap.size + 1 ≤ w'.heap.size ∧ Below W0.heap.size W0 w') := fun o v' w' h1 h2 => by
        have k1 : Below (W0.heap.size + 1) wr w' := ((Below.refl (W0.heap.size + 1) wr).alloc hsz.out o).grown h2 (by have := hsz.out; simp; omega) (fun q hq => by have := hsz.out; cases hq; omega)
        exact ⟨cons_row (w := wr) hdj h1, hoq.out.keep k1, Nat.le_trans hsz.out k1.size, hb.trans (k1.mono (by omega))⟩
      have jn : (j : Int) < (n : Int) := by omega
      have j0 : (0 : Int) ≤ (j : Int) := by omega
      have hRlt : Hid (10 * ρ + d < 10 ^ (nr + 1)) := by have h := hlt.out; show _ < _; rw [Nat.pow_succ]; omega
      clear d5 d6 hz ho hoq
      go_wp2_with (at_builtin; refine wpList_append_own _ rfl _ _ 49 rfl (W0.heap.size + 1) 3 i0 (.int .i64 0) 1 8 Tryd.underlying49 hi hz0 hz1 hz2 rfl (by decide) _ 1 [.int .i64 (d : Int)] rfl HLw ⟨bb, 0, none⟩ nr cc ((lst (fun j => (dd ρ j : Int)) nr).map (Value.int .i64)) rfl ?qc2 (HNw.out _) ?qc3 ?qc4 ?qc5 ?qc6 ?_)
      case qc2 => simp [lst_length]
      case qc3 => intro u hu; rw [List.mem_map] at hu; obtain ⟨_, _, rfl⟩ := hu; rfl
      case qc4 => unfold maxLen; omega
      case qc5 => omega
      case qc6 => have := hsz.out; first | omega | (simp; omega)
      intro v' w1' hown' hgrow _
      obtain ⟨o1, o2, o3, o4⟩ := HK.out _ _ _ hown' (by first | exact hgrow | exact grown_drew hgrow)
      have HO1 : Hid (OwN .i64 3 w1' (W0.heap.size + 1) v' (nr + 1) (fun i => (dd (10 * ρ + d) i : Int))) := o1
      have HO2 : Hid (OwN .i64 3 w1' W0.heap.size (.slice (some ⟨W0.heap.size, 0, none⟩) n n) n (fun i => if i < j + 1 then 0 else (dd (u / v) i : Int))) := o2
      have HO3 : Hid (W0.heap.size + 1 ≤ w1'.heap.size) := o3
      clear hown' hgrow o1 o2 o3 HK HNw HLw
      have hvp := hYp
      obtain ⟨R, hR⟩ : ∃ R, 10 * ρ + d = R := ⟨_, rfl⟩
      rw [hR] at e1 e2 e3 hRlt HO1
      have E1 : Hid (R % v = u / 10 ^ j % v) := e1
      have E2 : Hid (R / v = dd (u / v) j) := e2
      have E3 : Hid (R < 10 * v) := e3
      clear e1 e2 e3 hR hrho hd dk hlt hsz q1 q2 q3 q4 hdj
      go_wp2
      go_loopw [10] (fun r wq => ∃ t nr' : Nat, nr' ≤ 2 + m + (n - (j + 1)) ∧ 1 ≤ nr' ∧ Hid (t * v ≤ R) ∧ Hid (R - t * v < 10 ^ nr') ∧ Hid (OwN .i64 3 wq (W0.heap.size + 1) r nr' (fun i => (dd (R - t * v) i : Int))) ∧ Hid (OwN .i64 3 wq W0.heap.size (.slice (some ⟨W0.heap.size, 0, none⟩) n n) n (fun i => if i = j then (t : Int) else if i < j then 0 else (dd (u / v) i : Int))) ∧ Hid (W0.heap.size + 1 ≤ wq.heap.size) ∧ Below W0.heap.size W0 wq) (fun _ wq => 10 - qcell wq W0.heap.size j)
      case atStart =>
        refine ⟨0, nr + 1, by omega, by omega, by show _ ≤ _; omega, by show _ < _; have := hRlt.out; omega, by show OwN _ _ _ _ _ _ _; rw [Nat.zero_mul, Nat.sub_zero]; exact HO1.out, HO2.out.ext (fun i hi => ?_), HO3, o4⟩
        by_cases e : i = j
        · rw [if_pos e, if_pos (by omega)]; rfl
        · rw [if_neg e]
          by_cases e2 : i < j
          · rw [if_pos e2, if_pos (by omega)]
          · rw [if_neg e2, if_neg (by omega)]
      case round =>
        obtain ⟨t, nr', hn1, hn2, htR, hlt2, ho, hoq, hsz, hb3⟩ := hrel
        obtain ⟨⟨d1, d2, d3, d4⟩, _, d6⟩ := HS.out wr hb3
        rcases ho.out.open with ⟨_, e⟩ | ⟨bb, cc, rfl, q1, q2, q3, q4⟩
        · omega
        have DR : Dig wr (.slice (some ⟨bb, 0, none⟩) nr' cc) nr' (R - t * v) := ⟨ho.out.rd, hlt2.out, by omega⟩
        have AZ := rSize _ _ nr' m (R - t * v) v wr DR d6
        by_cases hge : v ≤ R - t * v
        · obtain ⟨x1, x2⟩ := sub_more htR.out hge
          have hc0 : (0 : Int) ≤ cmpI ((R - t * v : Nat) : Int) (v : Int) := by
            rcases Nat.lt_or_ge v (R - t * v) with h | h
            · rw [cmpI_gt (by omega)]; decide
            · rw [cmpI_eq (by omega)]; decide
          have t9 := sub_few hvp E3.out x1
          have AM : Hid (Calls Tryd.prog 60 #[.slice (some ⟨bb, 0, none⟩) nr' cc, .slice (some ⟨gy, 0, none⟩) m cy] wr fun e w' => ∃ v', e = .returned v' ∧ w'.cell? ⟨W0.heap.size, j, none⟩ = some (.int .i64 (t : Int)) ∧ w'.frozen? ⟨W0.heap.size, j, none⟩ = false ∧ Hid (∀ wf : World, wf = w'.setCell ⟨W0.heap.size, j, none⟩ (.int .i64 ((t : Int) + 1)) → (∃ t1 nr1 : Nat, nr1 ≤ 2 + m + (n - (j + 1)) ∧ 1 ≤ nr1 ∧ Hid (t1 * v ≤ R) ∧ Hid (R - t1 * v < 10 ^ nr1) ∧ Hid (OwN .i64 3 wf (W0.heap.size + 1) v' nr1 (fun i => (dd (R - t1 * v) i : Int))) ∧ Hid (OwN .i64 3 wf W0.heap.size (.slice (some ⟨W0.heap.size, 0, none⟩) n n) n (fun i => if i = j then (t1 : Int) else if i < j then 0 else (dd (u / v) i : Int))) ∧ Hid (W0.heap.size + 1 ≤ wf.heap.size) ∧ Below W0.heap.size W0 wf) ∧ 10 - qcell wf W0.heap.size j < 10 - t)) := by
            refine (rMinus _ _ nr' m (R - t * v) v wr DR d6 (by omega) (by omega) hge).mono ?_
            rintro e w' ⟨v', rfl, o1, ob⟩
            have oq := hoq.out.below ob (Nat.le_refl _)
            have ocell := oq.cellF j (by omega)
            rw [if_pos rfl] at ocell
            refine ⟨v', rfl, ocell, oq.freeF j, fun wf e => ?_⟩
            subst e
            have hk : v'.ownBlock ≠ some W0.heap.size := fun e => by have := (World.ownsRow.lt o1 _ e).1; have := hsz.out; omega
            have o2 : OwN .i64 3 (w'.setCell ⟨W0.heap.size, j, none⟩ (.int .i64 ((t : Int) + 1))) (W0.heap.size + 1) v' (max nr' m) (fun i => (dd (R - (t + 1) * v) i : Int)) := by
              rw [x2] at o1
              exact OwN.mono (row_set o1 hk _ _) hsz.out
            refine ⟨⟨t + 1, max nr' m, by omega, by omega, x1, ?_, o2, (oq.set j (by omega) ((t : Int) + 1)).ext (fun i hi => ?_), ?_, ?_⟩, ?_⟩
            · show _ < _
              have h1 := Nat.pow_le_pow_right (n := 10) (by decide) (Nat.le_max_left nr' m)
              have h2 := hlt2.out
              omega
            · by_cases e : i = j
              · rw [if_pos e, if_pos e]; simp
              · rw [if_neg e, if_neg e, if_neg e]
            · show _ ≤ _
              have := ob.size
              have := hsz.out
              simp
              omega
            · exact (hb3.trans (ob.mono hb3.size)).setCell (p := ⟨W0.heap.size, j, none⟩) (Nat.le_refl _) _
            · unfold qcell
              rw [World.cell?_setCell_same' _ _ _ (by rw [ocell]; rfl)]
              simp [intOf]
              omega
          have HT : Hid (qcell wr W0.heap.size j = t) := by
            have ocell := hoq.out.cellF j (by omega)
            rw [if_pos rfl] at ocell
            show _ = _
            unfold qcell
            rw [ocell]
            simp [intOf]
          clear ho hoq DR d6 q1 q2 q3 q4 x1 x2 hge htR hlt2
          generalize cmpI ((R - t * v : Nat) : Int) (v : Int) = cz at *
          go_wp2_with fail
          refine AZ.mono ?_
          rintro e wx ⟨rfl, hw⟩
          obtain rfl : wr = wx := hw.symm
          clear hw AZ
          go_wp2_with fail
          refine AM.out.mono ?_
          rintro e wm ⟨v2, rfl, m1, m2, HM⟩
          clear AM
          go_wp2
          go_roundw
          case rel => exact (HM.out _ rfl).1
          case measure => rw [HT.out]; exact (HM.out _ rfl).2
        · obtain ⟨x1, x2⟩ := sub_down hvp htR.out (by omega)
          have hc0 : ¬ (0 : Int) ≤ cmpI ((R - t * v : Nat) : Int) (v : Int) := by
            rw [cmpI_lt (by omega)]; decide
          have HR2 : Hid (R - t * v = u / 10 ^ j % v) := by show _ = _; rw [← x2]; exact E1.out
          have HT2 : Hid (t = dd (u / v) j) := by show _ = _; rw [← x1]; exact E2.out
          have HQ2 : Hid (OwN .i64 3 wr W0.heap.size (.slice (some ⟨W0.heap.size, 0, none⟩) n n) n (fun i => if i < j then 0 else (dd (u / v) i : Int))) := hoq.out.ext (fun i hi => by
            by_cases e : i = j
            · rw [if_pos e, if_neg (by omega), e, HT2.out]
            · rw [if_neg e])
          rw [HR2.out] at ho hlt2
          clear hoq DR d6 q1 q2 q3 q4 x1 x2 hge htR HR2 HT2
          generalize cmpI ((R - t * v : Nat) : Int) (v : Int) = cz at *
          go_wp2_with fail
          refine AZ.mono ?_
          rintro e wx ⟨rfl, hw⟩
          obtain rfl : wr = wx := hw.symm
          clear hw AZ
          go_wp2
          go_roundw
          case rel => exact ⟨j, nr', (j : Int) - 1, by omega, by first | rfl | go_num, rfl, by omega, hn2, hlt2, ho, HQ2, hsz, hb3⟩
          case measure => simp [intOf]
end Go.Proofs.YtcnlclocnnijgaaDoor
