/-
  A heap's contracts: find, Kind, holder, Field, SetRoot.
-/
import Derived.Test.YtmpilcamnhlalaaDoorHpB
namespace Go.Proofs.YtmpilcamnhlalaaDoor
open Go.RowKit
set_option linter.unusedVariables false

set_option maxHeartbeats 1000000 in
theorem h_find {w : World} {h : Nat} {P : Nat → Prop} {x : HV} (k : Hp w h P x) (j : Nat) (hj : j < x.no + x.ny) : Calls Tryd.prog 28 #[.pointer (some ⟨h, 0, none⟩), .int .i64 (tw x.sft (some j))] w fun r w' => ∃ g off, r = .returned (.pointer (some ⟨g, off, none⟩)) ∧ w.cell? ⟨g, off, none⟩ = some (.int .i64 (x.K j : Int)) ∧ w.cell? ⟨g, off + 1, none⟩ = some (.slice (some ⟨x.FB j, 0, none⟩) (x.FL j) (x.FL j)) ∧ w.cell? ⟨g, off + 2, none⟩ = some (.string ⟨#[]⟩) ∧ Dr w w' := by
  obtain ⟨so, sy, sr, k1, k2, k3, _⟩ := k.lay
  obtain ⟨ao, co, rfl⟩ := row_slice k2
  obtain ⟨ay, cy, rfl⟩ := row_slice k3
  have n1 := k.n1
  have n2 := k.n2
  have s1 := k.s1
  obtain ⟨c0, _, _, c3, _⟩ := hget k1
  have HM : Hid (Calls Tryd.prog 22 #[.pointer (some ⟨h, 0, none⟩)] w fun r w' => r = .returned (.bool false) ∧ w' = w) := h_missing k1 rfl
  have HK : Hid (Calls Tryd.prog 23 #[.pointer (some ⟨h, 0, none⟩), .int .i64 (tw x.sft (some j))] w fun r w' => r = .returned (.tuple #[.int .i64 (2 * (j : Int) + 2), .bool true]) ∧ Dr w w') := h_kept k1 (by omega) (by omega) (some j) (fun i hi => by cases hi; exact hj) (by omega) k.s2
  have HL : Hid (∀ wq, Dr w wq → Calls Tryd.prog 37 #[.int .i64 (2 * (j : Int) + 2)] wq fun r w' => r = .returned (.bool true) ∧ Dr w w') := fun wq hq => (h_leads (some j) wq (fun i hi => by cases hi; omega)).mono fun r w' ⟨hr, hw⟩ => ⟨hr, by rw [hw]; exact hq⟩
  have HO : Hid (∀ wq, Dr w wq → Calls Tryd.prog 38 #[.pointer (some ⟨h, 0, none⟩), .int .i64 (2 * (j : Int) + 2)] wq fun r w' => r = .returned (.bool (decide (j < x.no))) ∧ Dr w w') := fun wq hq => by
    have c0' : wq.cell? ⟨h, 0, none⟩ = some (.slice ao x.no co) := by obtain ⟨q, rfl⟩ := hq; exact c0
    exact (h_isOld c0' n1 j (by omega)).mono fun r w' ⟨hr, hw⟩ => ⟨hr, hq.trans hw⟩
  have HN : Hid (∀ wq, Dr w wq → Calls Tryd.prog 39 #[.int .i64 (2 * (j : Int) + 2)] wq fun r w' => r = .returned (.int .i64 (j : Int)) ∧ Dr w w') := fun wq hq => (h_number j wq (by omega)).mono fun r w' ⟨hr, hw⟩ => ⟨hr, by rw [hw]; exact hq⟩
  obtain ⟨g, off, p1, p2, e0, e1, e2⟩ := k.place j hj
  have HE : Hid (w.cell? ⟨g, off, none⟩ = some (.int .i64 (x.K j : Int)) ∧ w.cell? ⟨g, off + 1, none⟩ = some (.slice (some ⟨x.FB j, 0, none⟩) (x.FL j) (x.FL j)) ∧ w.cell? ⟨g, off + 2, none⟩ = some (.string ⟨#[]⟩)) := ⟨e0, e1, e2⟩
  have HS : Hid (∀ wq, Dr w wq → wq.cell? ⟨h, 0, none⟩ = some (.slice ao x.no co) ∧ wq.cell? ⟨h, 3, none⟩ = some (.slice ay x.ny cy)) := fun wq hq => by obtain ⟨q, rfl⟩ := hq; exact ⟨c0, c3⟩
  by_cases hlt : j < x.no
  · obtain ⟨rfl, c, c0'⟩ := p1 hlt
    rw [c0] at c0'
    cases c0'
    have hd : decide (j < x.no) = true := decide_eq_true hlt
    rw [hd] at HO
    have l1 : (j : Int) < (x.no : Int) := by omega
    have l2 : (0 : Int) ≤ (j : Int) := by omega
    clear k k1 k2 k3 p1 p2 e0 e1 e2 hd
    generalize tw x.sft (some j) = z at *
    generalize 2 * (j : Int) + 2 = z2 at *
    go_enter Tryd.func28, Tryd.ntmps28
    go_wp2_with fail
    refine HM.out.mono ?_
    rintro r w1 ⟨rfl, hw⟩
    obtain rfl : w = w1 := hw.symm
    clear hw HM
    go_wp2_with fail
    refine HK.out.mono ?_
    rintro r w1 ⟨rfl, q1⟩
    clear HK
    go_wp2_with fail
    refine (HL.out _ q1).mono ?_
    rintro r w2 ⟨rfl, q2⟩
    clear HL
    go_wp2_with fail
    refine (HO.out _ q2).mono ?_
    rintro r w3 ⟨rfl, q3⟩
    clear HO c0 c3
    obtain ⟨c0, c3⟩ := HS.out _ q3
    go_wp2_with fail
    go_region_held2 (fun wq => wq.cell? ⟨h, 0, none⟩ = some (.slice (some ⟨g, 0, none⟩) x.no co) ∧ wq.cell? ⟨h, 3, none⟩ = some (.slice ay x.ny cy))
      (first | exact HS.out _ (by assumption) | exact HS.out _ (Dr.drew (by assumption)) | go_keep)
      (first
        | (go_at_call 39; refine (HN.out _ (by first | exact q3 | exact q3.drew)).mono ?_; rintro e' w4 ⟨rfl, q4⟩))
    go_wp2
    go_ret
    exact ⟨g, j * 4, by simp, HE.out.1, HE.out.2.1, HE.out.2.2, q4⟩
  · obtain ⟨rfl, c, c3'⟩ := p2 hlt
    rw [c3] at c3'
    cases c3'
    have hd : decide (j < x.no) = false := decide_eq_false hlt
    rw [hd] at HO
    obtain ⟨d, hdj⟩ : ∃ d : Nat, (j : Int) - (x.no : Int) = (d : Int) := ⟨j - x.no, by omega⟩
    have l1 : (d : Int) < (x.ny : Int) := by omega
    have l2 : (0 : Int) ≤ (d : Int) := by omega
    have l3 : d < x.ny := by omega
    have l4 : IntKind.i64.wrap (d : Int) = (d : Int) := by rw [IntKind.wrap_i64]; omega
    have HDj : Hid (j - x.no = d) := by show j - x.no = d; omega
    clear k k1 k2 k3 p1 p2 e0 e1 e2 hd
    generalize tw x.sft (some j) = z at *
    generalize 2 * (j : Int) + 2 = z2 at *
    go_enter Tryd.func28, Tryd.ntmps28
    go_wp2_with fail
    refine HM.out.mono ?_
    rintro r w1 ⟨rfl, hw⟩
    obtain rfl : w = w1 := hw.symm
    clear hw HM
    go_wp2_with fail
    refine HK.out.mono ?_
    rintro r w1 ⟨rfl, q1⟩
    clear HK
    go_wp2_with fail
    refine (HL.out _ q1).mono ?_
    rintro r w2 ⟨rfl, q2⟩
    clear HL
    go_wp2_with fail
    refine (HO.out _ q2).mono ?_
    rintro r w3 ⟨rfl, q3⟩
    clear HO c0 c3
    obtain ⟨c0, c3⟩ := HS.out _ q3
    go_wp2_with fail
    go_region_held2 (fun wq => wq.cell? ⟨h, 0, none⟩ = some (.slice ao x.no co) ∧ wq.cell? ⟨h, 3, none⟩ = some (.slice (some ⟨g, 0, none⟩) x.ny cy))
      (first | exact HS.out _ (by assumption) | exact HS.out _ (Dr.drew (by assumption)) | go_keep)
      (first
        | (go_at_call 39; refine (HN.out _ (by first | exact q3 | exact q3.drew)).mono ?_; rintro e' w4 ⟨rfl, q4⟩))
    go_wp2
    go_ret
    refine ⟨g, (j - x.no) * 4, ?_, HE.out.1, HE.out.2.1, HE.out.2.2, q4⟩
    rw [HDj.out]
    simp
theorem h_find_nil {w : World} {h : Nat} {P : Nat → Prop} {x : HV} (k : Hp w h P x) : Calls Tryd.prog 28 #[.pointer (some ⟨h, 0, none⟩), .int .i64 0] w fun r w' => r = .returned (.pointer none) ∧ Dr w w' := by
  obtain ⟨so, sy, sr, k1, k2, k3, _⟩ := k.lay
  obtain ⟨ao, co, rfl⟩ := row_slice k2
  obtain ⟨ay, cy, rfl⟩ := row_slice k3
  have n1 := k.n1
  have n2 := k.n2
  have s1 := k.s1
  have HM : Hid (Calls Tryd.prog 22 #[.pointer (some ⟨h, 0, none⟩)] w fun r w' => r = .returned (.bool false) ∧ w' = w) := h_missing k1 rfl
  have HK : Hid (Calls Tryd.prog 23 #[.pointer (some ⟨h, 0, none⟩), .int .i64 0] w fun r w' => r = .returned (.tuple #[.int .i64 0, .bool true]) ∧ Dr w w') := h_kept k1 (by omega) (by omega) none (fun i hi => by cases hi) (by omega) k.s2
  have HL : Hid (∀ wq, Dr w wq → Calls Tryd.prog 37 #[.int .i64 0] wq fun r w' => r = .returned (.bool false) ∧ Dr w w') := fun wq hq => (h_leads none wq (fun i hi => by cases hi)).mono fun r w' ⟨hr, hw⟩ => ⟨hr, by rw [hw]; exact hq⟩
  clear k k1 k2 k3
  go_enter Tryd.func28, Tryd.ntmps28
  go_wp2_with fail
  refine HM.out.mono ?_
  rintro r w1 ⟨rfl, hw⟩
  obtain rfl : w = w1 := hw.symm
  clear hw HM
  go_wp2_with fail
  refine HK.out.mono ?_
  rintro r w1 ⟨rfl, q1⟩
  clear HK
  go_wp2_with fail
  refine (HL.out _ q1).mono ?_
  rintro r w2 ⟨rfl, q2⟩
  go_wp2
  go_ret
  exact ⟨rfl, q2⟩
theorem h_kind {w : World} {h : Nat} {P : Nat → Prop} {x : HV} (k : Hp w h P x) (j : Nat) (hj : j < x.no + x.ny) : Calls Tryd.prog 10 #[.pointer (some ⟨h, 0, none⟩), .int .i64 (tw x.sft (some j))] w fun r w' => r = .returned (.int .i64 (x.K j : Int)) ∧ Dr w w' := by
  have HF : Hid (Calls Tryd.prog 28 #[.pointer (some ⟨h, 0, none⟩), .int .i64 (tw x.sft (some j))] w fun r w' => ∃ g off, r = .returned (.pointer (some ⟨g, off, none⟩)) ∧ w'.cell? ⟨g, off, none⟩ = some (.int .i64 (x.K j : Int)) ∧ Dr w w') := by
    refine (h_find k j hj).mono ?_
    rintro r w' ⟨g, off, hr, e0, e1, e2, q⟩
    exact ⟨g, off, hr, by obtain ⟨n, rfl⟩ := q; exact e0, q⟩
  clear k
  generalize tw x.sft (some j) = z at *
  generalize (x.K j : Int) = z2 at *
  go_enter Tryd.func10, Tryd.ntmps10
  go_wp2_with fail
  refine HF.out.mono ?_
  rintro r w1 ⟨g, off, rfl, e0, q⟩
  go_wp2
  go_ret
  exact ⟨rfl, q⟩
theorem h_kind_nil {w : World} {h : Nat} {P : Nat → Prop} {x : HV} (k : Hp w h P x) : Calls Tryd.prog 10 #[.pointer (some ⟨h, 0, none⟩), .int .i64 0] w fun r w' => r = .returned (.int .i64 0) ∧ Dr w w' := by
  have HF : Hid (Calls Tryd.prog 28 #[.pointer (some ⟨h, 0, none⟩), .int .i64 0] w fun r w' => r = .returned (.pointer none) ∧ Dr w w') := h_find_nil k
  clear k
  go_enter Tryd.func10, Tryd.ntmps10
  go_wp2_with fail
  refine HF.out.mono ?_
  rintro r w1 ⟨rfl, q⟩
  go_wp2
  go_ret
  exact ⟨rfl, q⟩
theorem h_holder {w : World} {h : Nat} {P : Nat → Prop} {x : HV} (k : Hp w h P x) (j : Nat) (hj : j < x.no + x.ny) (i : Nat) (hi : i < x.FL j) (hfl : x.FL j ≤ 1000) : Calls Tryd.prog 29 #[.pointer (some ⟨h, 0, none⟩), .int .i64 (tw x.sft (some j)), .int .i64 (i : Int)] w fun r w' => ∃ g off, r = .returned (.tuple #[.pointer (some ⟨g, off, none⟩), .int .i64 0]) ∧ w'.cell? ⟨g, off + 1, none⟩ = some (.slice (some ⟨x.FB j, 0, none⟩) (x.FL j) (x.FL j)) ∧ Dr w w' := by
  obtain ⟨so, sy, sr, k1, _⟩ := k.lay
  have HM : Hid (Calls Tryd.prog 22 #[.pointer (some ⟨h, 0, none⟩)] w fun r w' => r = .returned (.bool false) ∧ w' = w) := h_missing k1 rfl
  have HF : Hid (Calls Tryd.prog 28 #[.pointer (some ⟨h, 0, none⟩), .int .i64 (tw x.sft (some j))] w fun r w' => ∃ g off, r = .returned (.pointer (some ⟨g, off, none⟩)) ∧ w'.cell? ⟨g, off + 1, none⟩ = some (.slice (some ⟨x.FB j, 0, none⟩) (x.FL j) (x.FL j)) ∧ Dr w w') := by
    refine (h_find k j hj).mono ?_
    rintro r w' ⟨g, off, hr, e0, e1, e2, q⟩
    exact ⟨g, off, hr, by obtain ⟨n, rfl⟩ := q; exact e1, q⟩
  clear k k1
  generalize tw x.sft (some j) = z at *
  have d1 : decide ((i : Int) < 0) = false := decide_eq_false (by omega)
  have d2 : decide ((x.FL j : Int) ≤ (i : Int)) = false := decide_eq_false (by omega)
  have d3 : ¬ x.FL j ≤ i := by omega
  generalize x.FL j = m at *
  generalize x.FB j = b at *
  go_enter Tryd.func29, Tryd.ntmps29
  go_wp2_with fail
  refine HM.out.mono ?_
  rintro r w1 ⟨rfl, hw⟩
  obtain rfl : w = w1 := hw.symm
  clear hw HM
  go_wp2_with fail
  refine HF.out.mono ?_
  rintro r w1 ⟨g, off, rfl, e1, q⟩
  go_wp2
  go_ret2
  exact ⟨g, off, rfl, e1, q⟩
theorem h_field {w : World} {h : Nat} {P : Nat → Prop} {x : HV} (k : Hp w h P x) (j : Nat) (hj : j < x.no + x.ny) (i : Nat) (hi : i < x.FL j) (hfl : x.FL j ≤ 1000) (z2 : Int) (HT : ∀ wq, Dr w wq → Calls Tryd.prog 27 #[.pointer (some ⟨h, 0, none⟩), .int .i64 (x.FW j i)] wq fun r w' => r = .returned (.int .i64 z2) ∧ w' = wq) : Calls Tryd.prog 11 #[.pointer (some ⟨h, 0, none⟩), .int .i64 (tw x.sft (some j)), .int .i64 (i : Int)] w fun r w' => r = .returned (.tuple #[.int .i64 z2, .int .i64 0]) ∧ Dr w w' := by
  have HF : Hid (Calls Tryd.prog 29 #[.pointer (some ⟨h, 0, none⟩), .int .i64 (tw x.sft (some j)), .int .i64 (i : Int)] w fun r w' => ∃ g off, r = .returned (.tuple #[.pointer (some ⟨g, off, none⟩), .int .i64 0]) ∧ w'.cell? ⟨g, off + 1, none⟩ = some (.slice (some ⟨x.FB j, 0, none⟩) (x.FL j) (x.FL j)) ∧ Dr w w') := h_holder k j hj i hi hfl
  have HT2 : Hid (∀ wq, Dr w wq → Calls Tryd.prog 27 #[.pointer (some ⟨h, 0, none⟩), .int .i64 (x.FW j i)] wq fun r w' => r = .returned (.int .i64 z2) ∧ w' = wq) := HT
  have hc : w.cell? ⟨x.FB j, i, none⟩ = some (.int .i64 (x.FW j i)) := by rw [cells_at (k.ff j hj).1 i, wrow_get _ _ _ hi]
  clear k HT
  generalize tw x.sft (some j) = z at *
  have l1 : (i : Int) < (x.FL j : Int) := by omega
  have l2 : (0 : Int) ≤ (i : Int) := by omega
  have HC : Hid (∀ wq, Dr w wq → wq.cell? ⟨x.FB j, i, none⟩ = some (.int .i64 (x.FW j i))) := fun wq hq => by obtain ⟨n, rfl⟩ := hq; exact hc
  clear hc
  generalize x.FL j = m at *
  generalize x.FB j = b at *
  generalize x.FW j i = v at *
  go_enter Tryd.func11, Tryd.ntmps11
  go_wp2_with fail
  refine HF.out.mono ?_
  rintro r w1 ⟨g, off, rfl, e1, q⟩
  have c1 := HC.out _ q
  clear HF
  go_wp2_with fail
  refine (HT2.out _ q).mono ?_
  rintro r w2 ⟨rfl, hw⟩
  obtain rfl : w1 = w2 := hw.symm
  clear hw
  go_wp2
  go_ret2
  exact ⟨rfl, q⟩
end Go.Proofs.YtmpilcamnhlalaaDoor
