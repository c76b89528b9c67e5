/-
  How a list of calls of a disk, and a list of truth values, that are handed in are read. No condition.
-/
import Derived.Test.YtjpjpfmhmcdibaaRows
import Derived.Test.YtjpjpfmhmcdibaaKeepsLaw
import Derived.ProofKit
import Derived.OpenShut
import Derived.ShutString
import Derived.ChangeOld
import Derived.SizedLaws
import Derived.Deep.Slices
import Derived.Deep.Grids
namespace Go.Proofs.Ytjpjpfmhmcdibaa
open Go.ChangeShapes Go.WideShapes Go.ChangeAt Go.RowKit
set_option linter.unusedVariables false

theorem own : ownKnob Try.prog.godebug = none := by kernel_rfl
theorem laidOut : laidOutB Try.prog = true := by kernel_rfl
theorem cells5 : Try.prog.cellsOf 5 = 1 := by kernel_rfl
theorem cells4 : Try.prog.cellsOf 4 = 1 := by kernel_rfl
theorem cells3 : Try.prog.cellsOf 3 = 1 := by kernel_rfl
theorem cellsB : Try.prog.cellsOf 31 = 1 := by kernel_rfl
theorem cellsI : Try.prog.cellsOf 27 = 1 := by kernel_rfl
theorem cellsDo : Try.prog.cellsOf 49 = 4 := by kernel_rfl

theorem open_bytes1 {H : Type} {enc : TypeId × Value → H} {W : World} {fuel : Nat} {v : Value} {x : DataW H × List MemPlace} (hf : DataW.trod enc Try.prog W 0 (fun _ => true) true fuel 31 [v] = some x) :
    ∃ a l c f, v = .slice a l c ∧ From W a l f ∧ (∀ i, 0 ≤ f i ∧ f i ≤ 255) ∧ l ≤ c ∧ c ≤ 9223372036854775807 ∧ (a = none → c = 0) := by
  rcases open_ints Try.underlying31 Try.underlying5 cells5 hf with ⟨hcs, _⟩ | ⟨x, l, c', zs, hcs, _, hl, hm, hz, hx, hcell, hwz⟩
  · cases hcs
    exact ⟨none, 0, 0, fun _ => 0, rfl, .inl ⟨rfl, rfl⟩, fun _ => (by simp), Nat.le_refl _, by decide, fun _ => rfl⟩
  · cases hcs
    simp only [if_true] at hz
    refine ⟨some x, l, c', fun i => zs.getD i 0, rfl, .inr ⟨x, rfl, fun i hi => hcell i (by omega)⟩, fun i => ?_, hl, hm, fun h => by cases h⟩
    have := range_u8 hwz i
    simpa [List.getD] using this
theorem open_ints1 {H : Type} {enc : TypeId × Value → H} {W : World} {fuel : Nat} {v : Value} {x : DataW H × List MemPlace} (hf : DataW.trod enc Try.prog W 0 (fun _ => true) true fuel 27 [v] = some x) : ∃ a l c, v = .slice a l c := by
  rcases open_ints Try.underlying27 Try.underlying3 cells3 hf with ⟨hcs, _⟩ | ⟨x, l, c', zs, hcs, _⟩
  · cases hcs; exact ⟨none, 0, 0, rfl⟩
  · cases hcs; exact ⟨some x, l, c', rfl⟩

theorem open_dos {H : Type} {enc : TypeId × Value → H} {W : World} {a0 : Option Addr} {n c : Nat} {d : DataW H} {p : List MemPlace} (h : DataW.Trod enc Try.prog W 0 (fun _ => true) true 22 (.slice a0 n c) d p) :
    n ≤ 9223372036854775807 ∧ Dos W a0 n := by
  obtain ⟨fuel, hf⟩ := h
  rcases Go.Deep.open_slice Try.underlying22 hf with ⟨hcs, _⟩ | ⟨a, len, cap, m, k, D, Pl, hcs, _, hl, hm, hmm, _, hx⟩
  · simp [Value.cells] at hcs
    obtain ⟨rfl, rfl, rfl⟩ := hcs
    exact ⟨by decide, fun r hr => by omega⟩
  · simp [Value.cells] at hcs
    obtain ⟨rfl, rfl, rfl⟩ := hcs
    have hm' : c ≤ 9223372036854775807 := hm
    simp only [if_true] at hmm
    subst hmm
    refine ⟨by omega, fun r hr => ?_⟩
    obtain ⟨cs', h1, h2⟩ := hx r (by omega)
    rw [cellsDo] at h1
    obtain ⟨_, hlen, hcell⟩ := World.cells?_some h1
    obtain ⟨xs, q, _, _, _, hxl, hfl⟩ := DataW.trod_struct Try.underlying49 h2
    obtain ⟨b, off, spot⟩ := a
    have hspot : spot = none := by
      obtain ⟨cs0, m1, _⟩ := hx 0 (by omega)
      rw [cellsDo] at m1
      obtain ⟨_, m2, m3⟩ := World.cells?_some m1
      have m4 := m3 0 (by omega)
      rw [List.getElem?_eq_getElem (by omega)] at m4
      simpa [Addr.add] using World.cell?_spot m4
    subst hspot
    match xs, hxl, cs', hlen with
    | [y0, y1, y2, y3], _, [v0, v1, v2, v3], _ =>
      have g0 := hfl 0 _ rfl
      have g1 := hfl 1 _ rfl
      have g2 := hfl 2 _ rfl
      have g3 := hfl 3 _ rfl
      simp [cells3, cellsB, cellsI] at g0 g1 g2 g3
      obtain ⟨z0, e0, _⟩ := DataW.trod_int Try.underlying3 g0
      obtain ⟨z1, e1, _⟩ := DataW.trod_int Try.underlying3 g1
      obtain ⟨a2, l2, c2, f2, rfl, k1, k2, k3, k4, k5⟩ := open_bytes1 g2
      obtain ⟨a3, l3, c3, rfl⟩ := open_ints1 g3
      cases e0
      cases e1
      have c0 := hcell 0 (by omega)
      have c1 := hcell 1 (by omega)
      have c2' := hcell 2 (by omega)
      have c3' := hcell 3 (by omega)
      rw [Go.Deep.add_add] at c0 c1 c2' c3'
      rw [Addr.add_lit] at c0 c1 c2' c3'
      simp only [← Nat.add_assoc] at c0 c1 c2' c3'
      exact ⟨b, off, rfl, z1, a2, l2, c2, f2, ⟨⟨z0, by simpa using c0⟩, by simpa using c1, by simpa using c2', ⟨a3, l3, c3, by simpa using c3'⟩, k1, k2, k3, k4, k5⟩⟩

theorem open_bls {H : Type} {enc : TypeId × Value → H} {W : World} {a0 : Option Addr} {n c : Nat} {d : DataW H} {p : List MemPlace} (h : DataW.Trod enc Try.prog W 0 (fun _ => true) true 44 (.slice a0 n c) d p) :
    n ≤ 9223372036854775807 ∧ ∃ st, Blw W a0 n st := by
  obtain ⟨fuel, hf⟩ := h
  rcases Go.Deep.open_bools Try.underlying44 Try.underlying4 cells4 hf with ⟨hcs, _⟩ | ⟨a, len, cap, B, hcs, _, hl, hm, _, hx⟩
  · simp [Value.cells] at hcs
    obtain ⟨rfl, rfl, rfl⟩ := hcs
    exact ⟨by decide, fun _ => false, fun r hr => by omega⟩
  · simp [Value.cells] at hcs
    obtain ⟨rfl, rfl, rfl⟩ := hcs
    have hm' : c ≤ 9223372036854775807 := hm
    refine ⟨by omega, B, fun r hr => ?_⟩
    obtain ⟨b, off, spot⟩ := a
    have hspot : spot = none := by simpa [Addr.add] using World.cell?_spot (hx 0 (by omega))
    subst hspot
    have h1 := hx r (by omega)
    rw [Addr.add_lit] at h1
    exact ⟨b, off, rfl, h1⟩
end Go.Proofs.Ytjpjpfmhmcdibaa
