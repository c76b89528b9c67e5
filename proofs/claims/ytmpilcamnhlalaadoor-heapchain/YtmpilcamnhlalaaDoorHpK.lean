/-
  A heap's mover: contracts of words: of a list whose words stay; of one whose last word leads to an object that is moved.
-/
import Derived.Test.YtmpilcamnhlalaaDoorHpJ
namespace Go.Proofs.YtmpilcamnhlalaaDoor
open Go.RowKit
set_option linter.unusedVariables false

/-- A word that a mover leaves as it is. -/
def Sk (no : Nat) (z : Int) : Prop := (∃ a : Nat, a ≤ 1000000 ∧ z = 2 * (a : Int) + 1) ∨ ∃ o, z = kw o ∧ ∀ j, o = some j → j < no
/-- .. by what leads and number say of it. -/
theorem Sk.ways {no : Nat} {z : Int} (h : Sk no z) (hno : no ≤ 1000) : Hid (∀ wq, Calls Tryd.prog 37 #[.int .i64 z] wq fun r w' => r = .returned (.bool false) ∧ w' = wq) ∨ ∃ j : Nat, j < no ∧ Hid (∀ wq, Calls Tryd.prog 37 #[.int .i64 z] wq fun r w' => r = .returned (.bool true) ∧ w' = wq) ∧ Hid (∀ wq, Calls Tryd.prog 39 #[.int .i64 z] wq fun r w' => r = .returned (.int .i64 (j : Int)) ∧ w' = wq) := by
  rcases h with ⟨a, ha, rfl⟩ | ⟨o, rfl, ho⟩
  · exact .inl fun wq => h_leads_odd a wq (by omega)
  · cases o with
    | none => exact .inl fun wq => h_leads none wq (fun i hi => by cases hi)
    | some j =>
      have hj := ho j rfl
      exact .inr ⟨j, hj, fun wq => h_leads (some j) wq (fun i hi => by cases hi; omega), fun wq => h_number j wq (by omega)⟩

set_option maxRecDepth 100000 in
set_option maxHeartbeats 400000 in
/-- All words stay. -/
theorem h_words_skip {w : World} {mb lb L cL no : Nat} {f : Nat → Int} (hL : L ≤ 2) (hLc : L ≤ cL) (hno : no ≤ 1000) (c1 : w.cell? ⟨mb, 1, none⟩ = some (.int .i64 (no : Int))) (hc : ∀ q, q < L → w.cell? ⟨lb, q, none⟩ = some (.int .i64 (f q))) (hs : ∀ q, q < L → Sk no (f q)) :
    Calls Tryd.prog 43 #[.pointer (some ⟨mb, 0, none⟩), .slice (some ⟨lb, 0, none⟩) L cL] w fun r w' => r = .returned (.tuple #[]) ∧ Dr w w' := by
  have HS : Hid (∀ wq, Dr w wq → wq.cell? ⟨mb, 1, none⟩ = some (.int .i64 (no : Int))) := fun wq hq => by obtain ⟨q, rfl⟩ := hq; exact c1
  have HCq : Hid (∀ wq, Dr w wq → ∀ q, q < L → wq.cell? ⟨lb, q, none⟩ = some (.int .i64 (f q))) := fun wq hq q hqL => by obtain ⟨n, rfl⟩ := hq; exact hc q hqL
  have HSk : Hid (∀ q, q < L → Sk no (f q)) := hs
  have hno' : (no : Int) ≤ 1000 := by omega
  have hL' : (L : Int) ≤ 2 := by omega
  clear hs hc c1
  go_enter Tryd.func43, Tryd.ntmps43
  go_wp2
  go_loopw [8] (fun s8 wr => ∃ k : Nat, k ≤ L ∧ s8 = .int .i64 (k : Int) ∧ Hid (Dr w wr)) (fun k _ => L - (intOf k).toNat)
  case atStart => exact ⟨0, Nat.zero_le _, rfl, Dr.refl _⟩
  case round =>
    obtain ⟨k, hk, rfl, HR⟩ := hrel
    have hd := HR.out
    by_cases hlt : k < L
    · have hlt' : (k : Int) < (L : Int) := by omega
      have hk0 : (0 : Int) ≤ (k : Int) := by omega
      have ck := HCq.out wr hd k hlt
      have c1 := HS.out wr hd
      rcases (HSk.out k hlt).ways hno with HL | ⟨j, hj, HL, HN⟩
      · clear HSk HCq HR 
        generalize f k = v at *
        go_wp2_with fail
        go_quiet ((go_at_call 37; exact Calls.quiet_of_same (HL.out _)))
        have k1 : Dr w (wr.drewN nq) := hd.trans ⟨nq, rfl⟩
        generalize wr.drewN nq = w1 at *
        clear ck c1 HL HS hd
        go_wp2
        go_roundw
        case rel => exact ⟨k + 1, by omega, by go_num, k1⟩
        case measure => simp [intOf]; omega
      · have hj' : ¬ (no : Int) ≤ (j : Int) := by omega
        have hj2 : ¬ no ≤ j := by omega
        have hj3 : decide ((no : Int) ≤ (j : Int)) = false := decide_eq_false hj'
        clear HSk HCq HR 
        generalize f k = v at *
        go_wp2_with fail
        go_quiet (first | (go_at_call 37; exact Calls.quiet_of_same (HL.out _)) | (go_at_call 39; exact Calls.quiet_of_same (HN.out _)))
        have k1 : Dr w (wr.drewN nq) := hd.trans ⟨nq, rfl⟩
        generalize wr.drewN nq = w1 at *
        clear ck c1 HL HS HN hd
        go_wp2
        go_roundw
        case rel => exact ⟨k + 1, by omega, by go_num, k1⟩
        case measure => simp [intOf]; omega
    · obtain rfl : k = L := by omega
      have hge : ¬ (k : Int) < (k : Int) := by omega
      clear HSk HCq HS
      go_wp2
      go_end0
      exact ⟨rfl, HR.out⟩
end Go.Proofs.YtmpilcamnhlalaaDoor
