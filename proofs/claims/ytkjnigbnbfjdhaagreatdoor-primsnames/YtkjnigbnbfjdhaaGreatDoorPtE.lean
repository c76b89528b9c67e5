/-
  The document's names; PrimsNames, walked.
-/
import Derived.Test.YtkjnigbnbfjdhaaGreatDoorPtC
namespace Go.Proofs.YtkjnigbnbfjdhaaGreatDoor
open Go.RowKit
set_option linter.unusedVariables false

/-- The names as cells. -/
def vtab : Array Value := (pnames.map Value.string).toArray
theorem pnames_len : pnames.length = 47 := by kernel_rfl
theorem vtab_at (k : Nat) (h : k < 47) : vtab[k]? = some (.string (pnm k)) := by
  have h2 := pnames_len
  simp [vtab, pnm, List.getD_eq_getElem?_getD]
  rw [List.getElem?_eq_getElem (by omega)]
  simp
set_option maxRecDepth 100000 in
set_option maxHeartbeats 4000000 in
theorem v_names (w : World) : Calls Tryz.prog 22 #[] w fun r w' => r = .returned (.slice (some ⟨w.heap.size, 0, none⟩) 47 47) ∧ (∀ k, k < 47 → w'.cell? ⟨w.heap.size, k, none⟩ = some (.string (pnm k))) ∧ Below w.heap.size w w' := by
  go_enter Tryz.func22, Tryz.ntmps22
  go_wp2
  go_ret
  refine ⟨rfl, fun k hk => ?_, (Below.refl _ w).alloc (Nat.le_refl _) _⟩
  rw [cells_at (heap_alloc_at _ _ _ rfl) k, ← vtab_at k hk]
  exact congrArg (fun x : Array Value => x[k]?) (show _ = vtab by kernel_rfl)
theorem v_count (w : World) : Calls Tryz.prog 24 #[] w fun r w' => r = .returned (.int .i64 47) ∧ Below w.heap.size w w' := by
  have HT : Hid (Calls Tryz.prog 22 #[] w fun r w' => r = .returned (.slice (some ⟨w.heap.size, 0, none⟩) 47 47) ∧ Hid ((∀ k, k < 47 → w'.cell? ⟨w.heap.size, k, none⟩ = some (.string (pnm k))) ∧ Below w.heap.size w w')) := v_names w
  go_enter Tryz.func24, Tryz.ntmps24
  go_wp2_with fail
  refine HT.out.mono ?_
  rintro r w1 ⟨rfl, HE⟩
  go_wp2
  go_ret
  exact ⟨rfl, HE.out.2⟩
set_option maxRecDepth 100000 in
set_option maxHeartbeats 4000000 in
theorem v_find (s : ByteArray) (w : World) : Calls Tryz.prog 7 #[.string s] w fun r w' => ∃ z b, r = .returned (.tuple #[.int .i64 z, .bool b]) ∧ Fnd s z b ∧ Below w.heap.size w w' := by
  have HT : Hid (Calls Tryz.prog 22 #[] w fun r w' => r = .returned (.slice (some ⟨w.heap.size, 0, none⟩) 47 47) ∧ Hid ((∀ k, k < 47 → w'.cell? ⟨w.heap.size, k, none⟩ = some (.string (pnm k))) ∧ Below w.heap.size w w')) := v_names w
  go_enter Tryz.func7, Tryz.ntmps7
  go_wp2_with fail
  refine HT.out.mono ?_
  rintro r w1 ⟨rfl, HE⟩
  clear HT
  go_wp2
  go_loopw [8] (fun s8 wr => ∃ k : Nat, k ≤ 47 ∧ s8 = .int .i64 (k : Int) ∧ Hid (∀ j, j < k → pnm j ≠ s) ∧ wr = w1) (fun k _ => 47 - (intOf k).toNat)
  case atStart => exact ⟨0, by decide, rfl, fun j hj => absurd hj (by omega), rfl⟩
  case round =>
    obtain ⟨k, hk, rfl, HJ, rfl⟩ := hrel
    by_cases hlt : k < 47
    · have hc := HE.out.1 k hlt
      have l1 : (k : Int) < 47 := by omega
      have l2 : (0 : Int) ≤ (k : Int) := by omega
      obtain ⟨N, hN⟩ : ∃ N, pnm k = N := ⟨_, rfl⟩
      rw [hN] at hc
      by_cases he : N = s
      · subst he
        have HF : Hid (Fnd N (k : Int) true) := .inl ⟨rfl, k, hlt, rfl, hN, HJ.out⟩
        clear hN
        go_wp2
        go_ret2
        exact ⟨_, _, rfl, HF.out, HE.out.2⟩
      · have HF : Hid (∀ j, j < k + 1 → pnm j ≠ s) := fun j hj => by
          by_cases h : j < k
          · exact HJ.out j h
          · obtain rfl : j = k := by omega
            rw [hN]; exact he
        have hne : (N.toList == s.toList) = false := str_ne he
        clear hN
        go_wp2
        go_roundw
        case rel => exact ⟨k + 1, by omega, by go_num, HF, trivial⟩
        case measure => simp [intOf]; omega
    · obtain rfl : k = 47 := by omega
      go_wp2
      go_ret2
      exact ⟨0, false, rfl, .inr ⟨rfl, rfl, HJ.out⟩, HE.out.2⟩
/-- A number's name. -/
def nmOf (n : Int) : ByteArray := if 0 ≤ n ∧ n < 47 then pnm n.toNat else ⟨#[]⟩
theorem p_is (n : Int) (w : World) : Calls Tryz.prog 23 #[.int .i64 n] w fun r w' => r = .returned (.bool (decide (0 ≤ n ∧ n < 47))) ∧ w' = w := by
  by_cases h1 : 0 ≤ n
  · by_cases h2 : n < 47
    · have d : decide (0 ≤ n ∧ n < 47) = true := decide_eq_true ⟨h1, h2⟩
      rw [d]
      have d1 : decide (0 ≤ n) = true := decide_eq_true h1
      have d2 : decide (n < 47) = true := decide_eq_true h2
      clear d
      go_enter Tryz.func23, Tryz.ntmps23
      go_wp2
      go_ret
      exact ⟨rfl, rfl⟩
    · have d : decide (0 ≤ n ∧ n < 47) = false := decide_eq_false (fun h => h2 h.2)
      rw [d]
      have d1 : decide (0 ≤ n) = true := decide_eq_true h1
      have d2 : decide (n < 47) = false := decide_eq_false h2
      clear d
      go_enter Tryz.func23, Tryz.ntmps23
      go_wp2
      go_ret
      exact ⟨rfl, rfl⟩
  · have d : decide (0 ≤ n ∧ n < 47) = false := decide_eq_false (fun h => h1 h.1)
    rw [d]
    have d1 : decide (0 ≤ n) = false := decide_eq_false h1
    clear d
    go_enter Tryz.func23, Tryz.ntmps23
    go_wp2
    go_ret
    exact ⟨rfl, rfl⟩
set_option maxRecDepth 100000 in
set_option maxHeartbeats 4000000 in
theorem p_name (n : Int) (w : World) : Calls Tryz.prog 8 #[.int .i64 n] w fun r w' => r = .returned (.string (nmOf n)) ∧ Below w.heap.size w w' := by
  have HI : Hid (Calls Tryz.prog 23 #[.int .i64 n] w fun r w' => r = .returned (.bool (decide (0 ≤ n ∧ n < 47))) ∧ w' = w) := p_is n w
  have HT : Hid (Calls Tryz.prog 21 #[] w fun r w' => r = .returned (.agg ptab) ∧ Hid (Below w.heap.size w w')) := p_table w
  by_cases h : 0 ≤ n ∧ n < 47
  · have d : decide (0 ≤ n ∧ n < 47) = true := decide_eq_true h
    rw [d] at HI
    obtain ⟨k, rfl⟩ := Int.eq_ofNat_of_zero_le h.1
    have e : nmOf (k : Int) = pnm k := by unfold nmOf; rw [if_pos h]; rfl
    rw [e]
    have hk : k < 47 := by omega
    have HX : Hid (∀ w, ∃ x1 x2, (Instr.index 60 (.agg ptab) (.int .i64 (k : Int))).run Tryz.prog w = .ok (.agg #[.string (pnm k), .string x1, .func x2 #[] #[]]) w) := fun w => ix_at w k hk
    generalize pnm k = N at *
    clear d h e
    go_enter Tryz.func8, Tryz.ntmps8
    go_wp2_with fail
    refine HI.out.mono ?_
    rintro r w1 ⟨rfl, hw⟩
    obtain rfl : w = w1 := hw.symm
    clear hw HI
    go_wp2_with fail
    refine HT.out.mono ?_
    rintro r w1 ⟨rfl, HB⟩
    obtain ⟨x1, x2, hix⟩ := HX.out w1
    have hfd : (Instr.field 59 (.agg #[.string N, .string x1, .func x2 #[] #[]]) 0).run Tryz.prog w1 = .ok (.string N) w1 := by kernel_rfl
    go_wp2
    go_ret
    exact ⟨rfl, HB.out⟩
  · have d : decide (0 ≤ n ∧ n < 47) = false := decide_eq_false h
    rw [d] at HI
    have e : nmOf n = ⟨#[]⟩ := by unfold nmOf; rw [if_neg h]
    rw [e]
    clear d h e HT
    go_enter Tryz.func8, Tryz.ntmps8
    go_wp2_with fail
    refine HI.out.mono ?_
    rintro r w1 ⟨rfl, hw⟩
    obtain rfl : w = w1 := hw.symm
    clear hw HI
    go_wp2
    go_ret
    exact ⟨rfl, Below.refl _ _⟩
set_option maxRecDepth 100000 in
set_option maxHeartbeats 4000000 in
theorem v_name (n : Int) (w : World) : Calls Tryz.prog 9 #[.int .i64 n] w fun r w' => r = .returned (.string (nmOf n)) ∧ Below w.heap.size w w' := by
  have HC : Hid (Calls Tryz.prog 24 #[] w fun r w' => r = .returned (.int .i64 47) ∧ Hid (Below w.heap.size w w')) := v_count w
  by_cases h1 : 0 ≤ n
  · by_cases h2 : n < 47
    · obtain ⟨k, rfl⟩ := Int.eq_ofNat_of_zero_le h1
      have e : nmOf (k : Int) = pnm k := by unfold nmOf; rw [if_pos ⟨h1, h2⟩]; rfl
      rw [e]
      have HT : Hid (∀ wq, Below w.heap.size w wq → Calls Tryz.prog 22 #[] wq fun r w' => r = .returned (.slice (some ⟨wq.heap.size, 0, none⟩) 47 47) ∧ w'.cell? ⟨wq.heap.size, k, none⟩ = some (.string (pnm k)) ∧ Hid (Below w.heap.size w w')) := fun wq hq => (v_names wq).mono fun r w' ⟨hr, hc, hb⟩ => ⟨hr, hc k (by omega), hq.trans (hb.mono hq.size)⟩
      generalize pnm k = N at *
      have d1 : decide ((k : Int) < 0) = false := decide_eq_false (by omega)
      have d2 : decide (47 ≤ (k : Int)) = false := decide_eq_false (by omega)
      clear e
      go_enter Tryz.func9, Tryz.ntmps9
      go_wp2_with fail
      refine HC.out.mono ?_
      rintro r w1 ⟨rfl, HB⟩
      go_wp2_with fail
      refine (HT.out _ HB.out).mono ?_
      rintro r w2 ⟨rfl, hc, HB2⟩
      go_wp2
      go_ret
      exact ⟨rfl, HB2.out⟩
    · have e : nmOf n = ⟨#[]⟩ := by unfold nmOf; rw [if_neg (fun h => h2 h.2)]
      rw [e]
      have d1 : decide (n < 0) = false := decide_eq_false (by omega)
      have d2 : decide (47 ≤ n) = true := decide_eq_true (by omega)
      clear e
      go_enter Tryz.func9, Tryz.ntmps9
      go_wp2_with fail
      refine HC.out.mono ?_
      rintro r w1 ⟨rfl, HB⟩
      go_wp2
      go_ret
      exact ⟨rfl, HB.out⟩
  · have e : nmOf n = ⟨#[]⟩ := by unfold nmOf; rw [if_neg (fun h => h1 h.1)]
    rw [e]
    have d1 : decide (n < 0) = true := decide_eq_true (by omega)
    clear e HC
    go_enter Tryz.func9, Tryz.ntmps9
    go_wp2
    go_ret
    exact ⟨rfl, Below.refl _ _⟩
theorem pnames_apart : (List.range 47).all (fun k => decide (pnm k ≠ ⟨#[]⟩) && (List.range k).all (fun j => decide (pnm j ≠ pnm k))) = true := by kernel_rfl
theorem fnd_name (n : Int) (h : 0 ≤ n ∧ n < 47) : Fnd (nmOf n) n true ∧ nmOf n ≠ ⟨#[]⟩ := by
  obtain ⟨k, rfl⟩ := Int.eq_ofNat_of_zero_le h.1
  have e : nmOf (k : Int) = pnm k := by unfold nmOf; rw [if_pos h]; rfl
  have h1 := List.all_eq_true.1 pnames_apart k (List.mem_range.2 (by omega))
  rw [Bool.and_eq_true] at h1
  rw [e]
  refine ⟨.inl ⟨rfl, k, by omega, rfl, rfl, fun j hj => ?_⟩, of_decide_eq_true h1.1⟩
  exact of_decide_eq_true (List.all_eq_true.1 h1.2 j (List.mem_range.2 hj))
set_option maxRecDepth 100000 in
set_option maxHeartbeats 4000000 in
theorem names_walk (s : ByteArray) (n : Int) (w : World) : Calls Tryz.prog 3 #[.string s, .int .i64 n] w fun r w' => r = .returned (.bool true) ∧ Below w.heap.size w w' := by
  obtain ⟨z, b, hF⟩ : ∃ z b, Fnd s z b := by
    by_cases h : ∃ k, k < 47 ∧ pnm k = s
    · obtain ⟨k, hk, e⟩ := h
      induction k using Nat.strongRecOn with
      | _ k ih =>
        by_cases h2 : ∃ j, j < k ∧ pnm j = s
        · obtain ⟨j, hj, ej⟩ := h2
          exact ih j hj (by omega) ej
        · exact ⟨_, true, .inl ⟨rfl, k, hk, rfl, e, fun j hj ej => h2 ⟨j, hj, ej⟩⟩⟩
    · exact ⟨0, false, .inr ⟨rfl, rfl, fun j hj ej => h ⟨j, hj, ej⟩⟩⟩
  have HP : Hid (∀ wq, Below w.heap.size w wq → Calls Tryz.prog 6 #[.string s] wq fun r w' => r = .returned (.tuple #[.int .i64 z, .bool b]) ∧ Hid (Below w.heap.size w w')) := fun wq hq => (p_find s wq).mono fun r w' ⟨z', b', hr, hf, hb⟩ => by
    obtain ⟨rfl, rfl⟩ := hf.uniq hF
    exact ⟨hr, hq.trans (hb.mono hq.size)⟩
  have HV : Hid (∀ wq, Below w.heap.size w wq → Calls Tryz.prog 7 #[.string s] wq fun r w' => r = .returned (.tuple #[.int .i64 z, .bool b]) ∧ Hid (Below w.heap.size w w')) := fun wq hq => (v_find s wq).mono fun r w' ⟨z', b', hr, hf, hb⟩ => by
    obtain ⟨rfl, rfl⟩ := hf.uniq hF
    exact ⟨hr, hq.trans (hb.mono hq.size)⟩
  have HN : Hid (∀ wq, Below w.heap.size w wq → Calls Tryz.prog 8 #[.int .i64 n] wq fun r w' => r = .returned (.string (nmOf n)) ∧ Hid (Below w.heap.size w w')) := fun wq hq => (p_name n wq).mono fun r w' ⟨hr, hb⟩ => ⟨hr, hq.trans (hb.mono hq.size)⟩
  have HM : Hid (∀ wq, Below w.heap.size w wq → Calls Tryz.prog 9 #[.int .i64 n] wq fun r w' => r = .returned (.string (nmOf n)) ∧ Hid (Below w.heap.size w w')) := fun wq hq => (v_name n wq).mono fun r w' ⟨hr, hb⟩ => ⟨hr, hq.trans (hb.mono hq.size)⟩
  obtain ⟨z2, b2, HQ, hq2⟩ : ∃ z2 b2, Hid (∀ wq, Below w.heap.size w wq → Calls Tryz.prog 6 #[.string (nmOf n)] wq fun r w' => r = .returned (.tuple #[.int .i64 z2, .bool b2]) ∧ Hid (Below w.heap.size w w')) ∧ (nmOf n = ⟨#[]⟩ ∨ (nmOf n ≠ ⟨#[]⟩ ∧ b2 = true ∧ z2 = n)) := by
    by_cases h : 0 ≤ n ∧ n < 47
    · obtain ⟨h1, h2⟩ := fnd_name n h
      exact ⟨n, true, fun wq hq => (p_find (nmOf n) wq).mono fun r w' ⟨z', b', hr, hf, hb⟩ => by
        obtain ⟨rfl, rfl⟩ := hf.uniq h1
        exact ⟨hr, hq.trans (hb.mono hq.size)⟩, .inr ⟨h2, rfl, rfl⟩⟩
    · have e : nmOf n = ⟨#[]⟩ := by unfold nmOf; rw [if_neg h]
      have h0 : Fnd ⟨#[]⟩ 0 false := .inr ⟨rfl, rfl, fun j hj => by
        have h1 := List.all_eq_true.1 pnames_apart j (List.mem_range.2 hj)
        rw [Bool.and_eq_true] at h1
        exact of_decide_eq_true h1.1⟩
      rw [e]
      exact ⟨0, false, fun wq hq => (p_find ⟨#[]⟩ wq).mono fun r w' ⟨z', b', hr, hf, hb⟩ => by
        obtain ⟨rfl, rfl⟩ := hf.uniq h0
        exact ⟨hr, hq.trans (hb.mono hq.size)⟩, .inl rfl⟩
  have k0 : Hid (Below w.heap.size w w) := Below.refl _ _
  clear hF
  generalize nmOf n = N at *
  have e1 : (z == z) = true := by simp
  have e2 : (b == b) = true := by simp
  rcases hq2 with rfl | ⟨hne, rfl, rfl⟩
  · go_enter Tryz.func3, Tryz.ntmps3
    go_wp2_with fail
    refine (HP.out _ k0.out).mono ?_
    rintro r w1 ⟨rfl, k1⟩
    go_wp2_with fail
    refine (HV.out _ k1.out).mono ?_
    rintro r w2 ⟨rfl, k2⟩
    go_wp2_with fail
    refine (HN.out _ k2.out).mono ?_
    rintro r w3 ⟨rfl, k3⟩
    go_wp2_with fail
    refine (HM.out _ k3.out).mono ?_
    rintro r w4 ⟨rfl, k4⟩
    go_wp2_with fail
    refine (HN.out _ k4.out).mono ?_
    rintro r w5 ⟨rfl, k5⟩
    go_wp2_with fail
    refine (HQ.out _ k5.out).mono ?_
    rintro r w6 ⟨rfl, k6⟩
    go_wp2_with fail
    refine (HN.out _ k6.out).mono ?_
    rintro r w7 ⟨rfl, k7⟩
    go_wp2
    all_goals
      go_ret
      exact ⟨rfl, k7.out⟩
  · have hne' : (N.toList == (⟨#[]⟩ : ByteArray).toList) = false := str_ne hne
    have e3 : (z2 == z2) = true := by simp
    go_enter Tryz.func3, Tryz.ntmps3
    go_wp2_with fail
    refine (HP.out _ k0.out).mono ?_
    rintro r w1 ⟨rfl, k1⟩
    go_wp2_with fail
    refine (HV.out _ k1.out).mono ?_
    rintro r w2 ⟨rfl, k2⟩
    go_wp2_with fail
    refine (HN.out _ k2.out).mono ?_
    rintro r w3 ⟨rfl, k3⟩
    go_wp2_with fail
    refine (HM.out _ k3.out).mono ?_
    rintro r w4 ⟨rfl, k4⟩
    go_wp2_with fail
    refine (HN.out _ k4.out).mono ?_
    rintro r w5 ⟨rfl, k5⟩
    go_wp2_with fail
    refine (HQ.out _ k5.out).mono ?_
    rintro r w6 ⟨rfl, k6⟩
    go_wp2_with fail
    refine (HN.out _ k6.out).mono ?_
    rintro r w7 ⟨rfl, k7⟩
    go_wp2
    all_goals
      go_ret
      exact ⟨rfl, k7.out⟩
end Go.Proofs.YtkjnigbnbfjdhaaGreatDoor
