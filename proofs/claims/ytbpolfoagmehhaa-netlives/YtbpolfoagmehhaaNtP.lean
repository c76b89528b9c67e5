/-
  How the calls that NetLives is handed are read, by the weights of what is handed in.
-/
import Derived.Test.YtbpolfoagmehhaaNtO
import Derived.Test.YtbpolfoagmehhaaNtM
namespace Go.Proofs.Ytbpolfoagmehhaa
open Go.ChangeShapes Go.WideShapes Go.ChangeAt Go.RowKit
set_option linter.unusedVariables false

theorem cellsD : Try.prog.cellsOf 31 = 3 := by kernel_rfl
theorem bytesD : Try.prog.bytesOf 31 = 40 := by kernel_rfl
theorem list3 {α : Type} (l : List α) (h : l.length = 3) : ∃ a b c, l = [a, b, c] := by
  match l, h with
  | [a, b, c], _ => exact ⟨a, b, c, rfl⟩
set_option maxRecDepth 100000 in
theorem open_dosN {H : Type} {enc : TypeId × Value → H} {W : World} {a0 : Option Addr} {n c : Nat} {d : DataW H} {p : List MemPlace} (h : DataW.Trod enc Try.prog W 0 (fun _ => true) true 22 (.slice a0 n c) d p) (hw : Light 22 d) :
    n ≤ 3600000000000 ∧ DosN W a0 n := by
  obtain ⟨fuel, hf⟩ := h
  rcases Go.Deep.open_slice Try.underlying22 hf with ⟨hcs, _⟩ | ⟨a, len, cap, m, k, D, Pl, hcs, _, hl, hm, hmm, hxx, hx⟩
  · simp [Value.cells] at hcs
    obtain ⟨rfl, rfl, rfl⟩ := hcs
    exact ⟨by decide, fun r hr => by omega⟩
  · simp [Value.cells] at hcs
    obtain ⟨rfl, rfl, rfl⟩ := hcs
    simp only [if_true] at hmm
    subst hmm
    have hd : d = .slice ((List.range n).map D) ((List.range (m - n)).map fun j => D (n + j)) := congrArg Prod.fst hxx
    rw [hd] at hw
    obtain ⟨hn, hel⟩ := light_slice Try.underlying22 hw
    rw [bytesD] at hn
    simp only [List.length_map, List.length_range, reachBytes] at hn
    refine ⟨by omega, fun r hr => ?_⟩
    obtain ⟨cs', h1, h2⟩ := hx r (by omega)
    rw [cellsD] at h1
    obtain ⟨_, hlen, hcell⟩ := World.cells?_some h1
    obtain ⟨xs, q, _, hag, _, hxl, hfl⟩ := DataW.trod_struct Try.underlying31 h2
    obtain ⟨b, off, spot⟩ := a
    have hspot : spot = none := by
      obtain ⟨cs0, m1, _⟩ := hx 0 (by omega)
      rw [cellsD] at m1
      obtain ⟨_, m2, m3⟩ := World.cells?_some m1
      have m4 := m3 0 (by omega)
      rw [List.getElem?_eq_getElem (by omega)] at m4
      simpa [Addr.add] using World.cell?_spot m4
    subst hspot
    obtain ⟨y0, y1, y2, rfl⟩ := list3 xs hxl
    obtain ⟨v0, v1, v2, rfl⟩ := list3 cs' hlen
    have g0 := hfl 0 _ rfl
    have g1 := hfl 1 _ rfl
    have g2 := hfl 2 _ rfl
    simp [cells3, cellsB] at g0 g1 g2
    have hDr : Light 31 (D r) := hel (D r) (List.mem_map.2 ⟨r, List.mem_range.2 hr, rfl⟩)
    have hal : ∀ x ∈ DataW.weightsEach Try.prog [3, 3, 29] [y0.1, y1.1, y2.1], x ≤ reachBytes := fun x hx => by
      refine hDr x ?_
      rw [show D r = .agg [y0.1, y1.1, y2.1] from congrArg Prod.fst hag]
      have key : (DataW.agg [y0.1, y1.1, y2.1]).weights Try.prog 31 = DataW.weightsEach Try.prog [3, 3, 29] [y0.1, y1.1, y2.1] := by
        simp only [DataW.weights, Try.underlying31]
        rfl
      rw [key]
      exact hx
    have hy2 : Light 29 y2.1 := fun x hx => hal x (DataW.weights_mem_each (j := 2) rfl rfl x hx)
    obtain ⟨z0, e0, _⟩ := DataW.trod_int Try.underlying3 g0
    obtain ⟨z1, e1, _⟩ := DataW.trod_int Try.underlying3 g1
    obtain ⟨a3, l3, c3, f3, e3, k1, k2, k3, k4⟩ := open_bytesW g2
    cases e0
    cases e1
    subst e3
    have hc0 := hcell 0 (by omega)
    have hc1 := hcell 1 (by omega)
    have hc2 := hcell 2 (by omega)
    rw [Go.Deep.add_add] at hc0 hc1 hc2
    rw [Addr.add_lit] at hc0 hc1 hc2
    simp only [← Nat.add_assoc] at hc0 hc1 hc2
    exact ⟨b, off, z0, z1, a3, l3, c3, f3, rfl, by simpa using hc0, by simpa using hc1, by simpa using hc2, k1, k3 hy2, k4⟩
end Go.Proofs.Ytbpolfoagmehhaa
