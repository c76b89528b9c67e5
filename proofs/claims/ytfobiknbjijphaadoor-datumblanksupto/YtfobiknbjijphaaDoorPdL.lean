/-
  Blanks and comments behind each datum of a text: the five texts, and their numbers.
-/
import Derived.Test.YtfobiknbjijphaaDoorPcB
import Derived.Test.YtfobiknbjijphaaDoorGbj
namespace Go.Proofs.YtfobiknbjijphaaDoor
open Go.RowKit
set_option linter.unusedVariables false
set_option linter.unusedSimpArgs false

theorem bdrew {G : Nat} {V U : World} (h : Hid (Below G V U)) : Hid (Below G V U.drew) := hid h.out.drew
theorem ba_size (l : List UInt8) : (ba l).size = l.length := rfl
/-- The five texts of blanks. -/
def bl5 : Nat → List UInt8
  | 0 => [32]
  | 1 => [10]
  | 2 => [59, 120, 32, 40, 32, 10]
  | 3 => [9, 13, 32]
  | _ => [32, 59, 32, 34, 10, 59, 10]
theorem sp_bl5 (i : Nat) : Sp (bl5 i) := by
  unfold bl5
  split
  · exact ⟨fun X => rfl, fun X => rfl, by simp⟩
  · exact ⟨fun X => rfl, fun X => rfl, by simp⟩
  · exact ⟨fun X => rfl, fun X => rfl, by simp⟩
  · exact ⟨fun X => rfl, fun X => rfl, by simp⟩
  · exact ⟨fun X => rfl, fun X => rfl, by simp⟩
theorem bl5_len (i : Nat) : (bl5 i).length ≤ 7 := by
  unfold bl5
  split <;> simp
theorem bl_ix {κ j ρ : Nat} (h : κ < 5) (hj : j < 1048576) (hρ : (κ + j) % 5 = ρ) : IntKind.u64.wrap (j : Int) = (j : Int) ∧ IntKind.u64.wrap ((κ : Int) + (j : Int)) = (κ : Int) + (j : Int) ∧ IntKind.i64.wrap ((κ : Int) + (j : Int)) = (κ : Int) + (j : Int) ∧ ((κ : Int) + (j : Int)).tmod 5 = (ρ : Int) := by
  refine ⟨by simp only [IntKind.wrap_u64]; omega, by simp only [IntKind.wrap_u64]; omega, by simp only [IntKind.wrap_i64]; omega, ?_⟩
  have h0 : (0 : Int) ≤ (κ : Int) + (j : Int) := Int.add_nonneg (Int.natCast_nonneg _) (Int.natCast_nonneg _)
  rw [Int.tmod_eq_emod_of_nonneg h0, ← hρ]
  simp
/-- A text of data with blanks before all and behind each is read as they. -/
theorem bl_back (κ : Nat) (l : List Dt) (hl : ∀ d ∈ l, d.may) (f : Nat) (hf : (bl5 κ ++ txL (fun i => bl5 ((κ + i) % 5)) 0 l).length < f) : alL f [] (bl5 κ ++ txL (fun i => bl5 ((κ + i) % 5)) 0 l) = .ok l [] := by
  cases f with
  | zero => omega
  | succ f =>
    have h1 := (sp_bl5 κ).1 (txL (fun i => bl5 ((κ + i) % 5)) 0 l)
    have hsk : alL (f + 1) [] (bl5 κ ++ txL (fun i => bl5 ((κ + i) % 5)) 0 l) = alL (f + 1) [] (txL (fun i => bl5 ((κ + i) % 5)) 0 l) := by
      simp only [alL, h1]
    rw [hsk]
    have := txL_back (fun i => bl5 ((κ + i) % 5)) (fun i => sp_bl5 _) l [] 0 (f + 1) hl (by rw [List.length_append] at hf; omega)
    rw [List.nil_append] at this
    exact this
end Go.Proofs.YtfobiknbjijphaaDoor
