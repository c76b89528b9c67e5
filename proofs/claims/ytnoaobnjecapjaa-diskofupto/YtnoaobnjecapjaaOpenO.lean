/-
  How slices of bytes that are handed in are read, where they are of bulk at most 1048576.
-/
import Derived.Test.YtnoaobnjecapjaaOpenL
import Derived.Test.YtnoaobnjecapjaaOfLaw
namespace Go.Proofs.Ytnoaobnjecapjaa
open Go.ChangeShapes Go.WideShapes Go.ChangeAt Go.RowKit
set_option linter.unusedVariables false

theorem open_img {H : Type} {enc : TypeId × Value → H} {W : World} {a0 : Option Addr} {n c : Nat} {d : DataW H} {p : List MemPlace} (h : DataW.Trod enc Try.prog W 0 (fun _ => true) true 34 (.slice a0 n c) d p) (hbk : Rows.uptoBulk d ≤ 1048576) :
    n ≤ 1048576 ∧ ∃ A L C f, Img W a0 n A L C f ∧ (∀ i, i < n → L i ≤ 1048576) ∧ ∀ i j, 0 ≤ f i j ∧ f i j ≤ 255 := by
  obtain ⟨fuel, hf⟩ := h
  rcases Go.Deep.open_slice1 Try.underlying34 cellsB hf with ⟨hcs, _⟩ | ⟨a, len, cap, m, k, V, D, Pl, hcs, _, hl, hm, hmm, hxx, hx⟩
  · simp [Value.cells] at hcs
    obtain ⟨rfl, rfl, rfl⟩ := hcs
    exact ⟨by decide, fun _ => none, fun _ => 0, fun _ => 0, fun _ _ => 0, fun i hi => by omega, fun i hi => by omega, fun _ _ => (by decide : (0 : Int) ≤ 0 ∧ (0 : Int) ≤ 255)⟩
  · simp [Value.cells] at hcs
    obtain ⟨rfl, rfl, rfl⟩ := hcs
    simp only [if_true] at hmm
    subst hmm
    have hd : d = .slice ((List.range n).map D) ((List.range (m - n)).map fun j => D (n + j)) := congrArg Prod.fst hxx
    have hn := bulk_slice ((List.range n).map D) ((List.range (m - n)).map fun j => D (n + j))
    rw [← hd] at hn
    simp only [List.length_map, List.length_range] at hn
    have each : ∀ i, ∃ y : Option Addr × Nat × Nat × (Nat → Int), (i < n → W.cell? (a.add i) = some (.slice y.1 y.2.1 y.2.2.1) ∧ From W y.1 y.2.1 y.2.2.2 ∧ y.2.1 ≤ 1048576 ∧ (y.1 = none → y.2.2.1 = 0)) ∧ ∀ j, 0 ≤ y.2.2.2 j ∧ y.2.2.2 j ≤ 255 := fun i => by
      by_cases hi : i < n
      · have hDr : Rows.uptoBulk (D i) ≤ 1048576 := by
          have h9 := bulk_in (d := D i) (elems := (List.range n).map D) (spare := (List.range (m - n)).map fun j => D (n + j)) (List.mem_map.2 ⟨i, List.mem_range.2 hi, rfl⟩)
          rw [← hd] at h9
          omega
        obtain ⟨h1, h2⟩ := hx i (by omega)
        obtain ⟨a2, l2, c2, f2, e, k1, k2, k3, k5⟩ := open_bytesB h2 hDr
        rw [e] at h1
        exact ⟨(a2, l2, c2, f2), fun _ => ⟨h1, k1, k3, k5⟩, k2⟩
      · exact ⟨(none, 0, 0, fun _ => 0), fun h => absurd h hi, fun _ => (by decide : (0 : Int) ≤ 0 ∧ (0 : Int) ≤ 255)⟩
    obtain ⟨Y, hY⟩ := Classical.axiomOfChoice each
    refine ⟨by omega, fun i => (Y i).1, fun i => (Y i).2.1, fun i => (Y i).2.2.1, fun i => (Y i).2.2.2, fun i hi => ?_, fun i hi => ((hY i).1 hi).2.2.1, fun i j => (hY i).2 j⟩
    obtain ⟨h1, h2, h3, h4⟩ := (hY i).1 hi
    obtain ⟨b, off, spot⟩ := a
    have hspot : spot = none := by
      have m4 := ((hY 0).1 (by omega)).1
      simpa [Addr.add] using World.cell?_spot m4
    subst hspot
    rw [Addr.add_lit] at h1
    exact ⟨b, off, rfl, h1, h2, h4⟩
end Go.Proofs.Ytnoaobnjecapjaa
