/-
  A heap's mover: contract of words, of a list whose last word leads to an object that is moved.
-/
import Derived.Test.YtmpilcamnhlalaaDoorHpK
namespace Go.Proofs.YtmpilcamnhlalaaDoor
open Go.RowKit
set_option linter.unusedVariables false

set_option maxRecDepth 100000 in
set_option maxHeartbeats 400000 in
/-- All words but the last stay; the last one leads to an object that is moved. -/
theorem h_words_last {w : World} {mb lb L cL no : Nat} {f : Nat → Int} (i : Nat) (z : Int) (Q : World → Prop) (hL : L + 1 ≤ 2) (hLc : L + 1 ≤ cL) (hno : no ≤ 1000) (hi : i ≤ 1000) (c1 : w.cell? ⟨mb, 1, none⟩ = some (.int .i64 (no : Int))) (hc : ∀ q, q < L + 1 → w.cell? ⟨lb, q, none⟩ = some (.int .i64 (f q))) (hs : ∀ q, q < L → Sk no (f q)) (hy : f L = 2 * ((no + i : Nat) : Int) + 2)
    (HO : ∀ wq, Dr w wq → Calls Tryd.prog 47 #[.pointer (some ⟨mb, 0, none⟩), .int .i64 (i : Int)] wq fun r w' => r = .returned (.int .i64 z) ∧ w'.frozen? ⟨lb, L, none⟩ = false ∧ (∃ u, w'.cell? ⟨lb, L, none⟩ = some u) ∧ Hid (Q (w'.setCell ⟨lb, L, none⟩ (.int .i64 z)))) :
    Calls Tryd.prog 43 #[.pointer (some ⟨mb, 0, none⟩), .slice (some ⟨lb, 0, none⟩) (L + 1) cL] w fun r w' => r = .returned (.tuple #[]) ∧ Hid (Q w') := by
  have HS : Hid (∀ wq, Dr w wq → wq.cell? ⟨mb, 1, none⟩ = some (.int .i64 (no : Int))) := fun wq hq => by obtain ⟨q, rfl⟩ := hq; exact c1
  have HCq : Hid (∀ wq, Dr w wq → ∀ q, q < L + 1 → wq.cell? ⟨lb, q, none⟩ = some (.int .i64 (f q))) := fun wq hq q hqL => by obtain ⟨n, rfl⟩ := hq; exact hc q hqL
  have HSk : Hid (∀ q, q < L → Sk no (f q)) := hs
  have HO2 : Hid (∀ wq, Dr w wq → Calls Tryd.prog 47 #[.pointer (some ⟨mb, 0, none⟩), .int .i64 (i : Int)] wq fun r w' => r = .returned (.int .i64 z) ∧ w'.frozen? ⟨lb, L, none⟩ = false ∧ (∃ u, w'.cell? ⟨lb, L, none⟩ = some u) ∧ Hid (Q (w'.setCell ⟨lb, L, none⟩ (.int .i64 z)))) := HO
  have HLl : Hid (∀ wq, Calls Tryd.prog 37 #[.int .i64 (f L)] wq fun r w' => r = .returned (.bool true) ∧ w' = wq) := fun wq => by
    rw [hy]
    exact h_leads (some (no + i)) wq (fun j hj => by cases hj; omega)
  have HNl : Hid (∀ wq, Calls Tryd.prog 39 #[.int .i64 (f L)] wq fun r w' => r = .returned (.int .i64 ((no : Int) + (i : Int))) ∧ w' = wq) := fun wq => by
    rw [hy]
    have := h_number (no + i) wq (by omega)
    rw [show ((no + i : Nat) : Int) = (no : Int) + (i : Int) by omega] at this ⊢
    exact this
  have hno' : (no : Int) ≤ 1000 := by omega
  have hi' : (i : Int) ≤ 1000 := by omega
  have hi0 : (0 : Int) ≤ (i : Int) := by omega
  have hL' : (L : Int) + 1 ≤ 2 := by omega
  clear hs hc c1 HO hy
  go_enter Tryd.func43, Tryd.ntmps43
  go_wp2
  go_loopw [8] (fun s8 wr => ∃ k : Nat, k ≤ L + 1 ∧ s8 = .int .i64 (k : Int) ∧ Hid ((k ≤ L ∧ Dr w wr) ∨ (k = L + 1 ∧ Q wr))) (fun k _ => L + 1 - (intOf k).toNat)
  case atStart => exact ⟨0, Nat.zero_le _, rfl, .inl ⟨Nat.zero_le _, Dr.refl _⟩⟩
  case round =>
    obtain ⟨k, hk, rfl, HR⟩ := hrel
    by_cases hlt : k < L
    · have hlt' : (k : Int) < (L : Int) + 1 := by omega
      have hlt2 : k < L + 1 := by omega
      have hk0 : (0 : Int) ≤ (k : Int) := by omega
      have hd : Dr w wr := by
        rcases HR.out with h | h
        · exact h.2
        · omega
      have ck := HCq.out wr hd k hlt2
      have c1 := HS.out wr hd
      rcases (HSk.out k hlt).ways hno with HL | ⟨j, hj, HL, HN⟩
      · clear HSk HCq HR HO2 HLl HNl
        generalize f k = v at *
        go_wp2_with fail
        go_quiet ((go_at_call 37; exact Calls.quiet_of_same (HL.out _)))
        have k1 : Dr w (wr.drewN nq) := hd.trans ⟨nq, rfl⟩
        generalize wr.drewN nq = w1 at *
        clear ck c1 HL HS hd
        go_wp2
        go_roundw
        case rel => exact ⟨k + 1, by omega, by go_num, .inl ⟨by omega, k1⟩⟩
        case measure => simp [intOf]; omega
      · have hj' : ¬ (no : Int) ≤ (j : Int) := by omega
        have hj2 : ¬ no ≤ j := by omega
        have hj3 : decide ((no : Int) ≤ (j : Int)) = false := decide_eq_false hj'
        clear HSk HCq HR HO2 HLl HNl
        generalize f k = v at *
        go_wp2_with fail
        go_quiet (first | (go_at_call 37; exact Calls.quiet_of_same (HL.out _)) | (go_at_call 39; exact Calls.quiet_of_same (HN.out _)))
        have k1 : Dr w (wr.drewN nq) := hd.trans ⟨nq, rfl⟩
        generalize wr.drewN nq = w1 at *
        clear ck c1 HL HS HN hd
        go_wp2
        go_roundw
        case rel => exact ⟨k + 1, by omega, by go_num, .inl ⟨by omega, k1⟩⟩
        case measure => simp [intOf]; omega
    · by_cases hlt2 : k < L + 1
      · obtain rfl : k = L := by omega
        have hlt' : (k : Int) < (k : Int) + 1 := by omega
        have hk0 : (0 : Int) ≤ (k : Int) := by omega
        have hd : Dr w wr := by
          rcases HR.out with h | h
          · exact h.2
          · omega
        have ck := HCq.out wr hd k hlt2
        have c1 := HS.out wr hd
        obtain ⟨nz, hnz⟩ : ∃ nz : Int, (no : Int) + (i : Int) = nz := ⟨_, rfl⟩
        rw [hnz] at HNl
        have hj' : (no : Int) ≤ nz := by omega
        have hj3 : decide ((no : Int) ≤ nz) = true := decide_eq_true hj'
        have hsub : nz - (no : Int) = (i : Int) := by omega
        clear hnz
        have hw9 : IntKind.i64.wrap (i : Int) = (i : Int) := by rw [IntKind.wrap_i64]; omega
        clear HSk HCq HR
        generalize f k = v at *
        go_wp2_with fail
        go_quiet (first | (go_at_call 37; exact Calls.quiet_of_same (HLl.out _)) | (go_at_call 39; exact Calls.quiet_of_same (HNl.out _)))
        have k2 : Dr w (wr.drewN nq) := hd.trans ⟨nq, rfl⟩
        generalize wr.drewN nq = w1 at *
        clear ck c1 hd
        have c1 := HS.out _ k2
        go_wp2_with fail
        go_region_with (first
          | (go_at_call 39; refine (HNl.out _).mono ?_; rintro e' w3 ⟨rfl, hw3⟩; subst hw3)
          | (go_at_call 47; refine (HO2.out _ (by first | exact k2 | exact k2.drew)).mono ?_; rintro e' w4 ⟨rfl, y1, ⟨u, y2⟩, HQ⟩))
        all_goals
          clear HO2 HLl HNl HS c1
          go_wp2
          go_roundw
          case rel => exact ⟨k + 1, by omega, by go_num, .inr ⟨rfl, HQ.out⟩⟩
          case measure => simp [intOf]
      · obtain rfl : k = L + 1 := by omega
        have hge : ¬ ((L : Int) + 1) < (L : Int) + 1 := by omega
        have HF : Hid (Q wr) := by
          rcases HR.out with h | h
          · omega
          · exact h.2
        clear HSk HCq HS HR HO2 HLl HNl
        go_wp2
        go_end0
        exact ⟨rfl, HF⟩
end Go.Proofs.YtmpilcamnhlalaaDoor
