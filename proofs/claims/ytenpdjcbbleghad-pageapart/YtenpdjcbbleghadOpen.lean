/-
  How a slice of bytes that is handed in is read: its bytes f, each from 0 to 255; its datum tells its capacity. No condition.
-/
import Derived.Test.YtenpdjcbbleghadRows
import Derived.Test.YtenpdjcbbleghadSl
import Derived.ProofKit
import Derived.OpenShut
import Derived.ShutString
import Derived.ChangeOld
import Derived.SizedLaws
namespace Go.Proofs.Ytenpdjcbbleghad
open Go.ChangeShapes Go.WideShapes Go.ChangeAt Go.RowKit
set_option linter.unusedVariables false

theorem own : ownKnob Try.prog.godebug = none := by kernel_rfl
theorem laidOut : laidOutB Try.prog = true := by kernel_rfl
theorem cells5 : Try.prog.cellsOf 5 = 1 := by kernel_rfl
theorem bytes5 : Try.prog.bytesOf 5 = 1 := by kernel_rfl

theorem open_bytes {H : Type} {enc : TypeId × Value → H} {W : World} {a0 : Option Addr} {n c : Nat} {d : DataW H} {p : List MemPlace} (h : DataW.Trod enc Try.prog W 0 (fun _ => true) true 22 (.slice a0 n c) d p) :
    ∃ f : Nat → Int, From W a0 n f ∧ (∀ i, 0 ≤ f i ∧ f i ≤ 255) ∧ n ≤ c ∧ c ≤ 9223372036854775807 ∧ (a0 = none → c = 0) ∧ ((a0 = none ∧ c = 0) ∨ ∃ elems spare, d = .slice elems spare ∧ elems.length + spare.length = c) := by
  obtain ⟨fuel, hf⟩ := h
  rcases open_ints Try.underlying22 Try.underlying5 cells5 hf with ⟨hcs, _⟩ | ⟨x, l, c', zs, hcs, _, hl, hm, hz, hx, hcell, hwz⟩
  · simp [Value.cells] at hcs
    obtain ⟨rfl, rfl, rfl⟩ := hcs
    exact ⟨fun _ => 0, .inl ⟨rfl, rfl⟩, fun _ => (by simp), Nat.le_refl _, by decide, fun _ => rfl, .inl ⟨rfl, rfl⟩⟩
  · simp [Value.cells] at hcs
    obtain ⟨rfl, rfl, rfl⟩ := hcs
    simp only [if_true] at hz
    refine ⟨fun i => zs.getD i 0, .inr ⟨x, rfl, fun i hi => hcell i (by omega)⟩, fun i => ?_, hl, hm, (fun h => by cases h), .inr ⟨_, _, congrArg Prod.fst hx, ?_⟩⟩
    · have := range_u8 hwz i
      simpa [List.getD] using this
    · simp [lits]
      omega

theorem reach_bytes {H : Type} {ts : List TypeId} {ds : List (DataW H)} {j : Nat} {a0 : Option Addr} {c : Nat} {d : DataW H} (hsz : (DataW.weightsEach Try.prog ts ds).all (· ≤ reachBytes) = true) (h1 : ts[j]? = some 22) (h2 : ds[j]? = some d)
    (hd : (a0 = none ∧ c = 0) ∨ ∃ elems spare, d = .slice elems spare ∧ elems.length + spare.length = c) : c ≤ 140737488351232 := by
  rcases hd with ⟨_, h⟩ | ⟨el, sp, rfl, h⟩
  · omega
  · have := sized_slice hsz (j := j) (t := 22) (e := 5) h1 h2 Try.underlying22
    rw [bytes5] at this
    simp only [reachBytes] at this
    omega
end Go.Proofs.Ytenpdjcbbleghad
