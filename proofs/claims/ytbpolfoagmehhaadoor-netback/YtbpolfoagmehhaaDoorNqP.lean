/-
  How a request and a reply that are handed in are read.
-/
import Derived.Test.YtbpolfoagmehhaaDoorOpen
namespace Go.Proofs.YtbpolfoagmehhaaDoor
open Go.ChangeShapes Go.WideShapes Go.ChangeAt Go.RowKit
set_option linter.unusedVariables false

theorem cells3 : Tryd.prog.cellsOf 3 = 1 := by kernel_rfl
theorem cells9 : Tryd.prog.cellsOf 9 = 1 := by kernel_rfl
theorem open_req {H : Type} {enc : TypeId × Value → H} {W : World} {base : Nat} {v : Value} {d : DataW H} {p : List MemPlace} (hv : Value.okWide Tryd.prog W .any base 23 v) (h : DataW.Trod enc Tryd.prog W 0 (fun _ => true) true 23 v d p) :
    ∃ id k se t, v = .agg #[.string id, .int .i64 k, .int .i64 se, .string t] := by
  obtain ⟨cs, rfl, hz⟩ := okWide_struct Tryd.underlying23 hv
  rw [show Tryd.prog.cellsOf 23 = 4 by kernel_rfl] at hz
  obtain ⟨a, b, c, e, rfl⟩ : ∃ a b c d, cs = #[a, b, c, d] := by
    obtain ⟨l⟩ := cs
    match l, hz with
    | [a, b, c, d], _ => exact ⟨a, b, c, d, rfl⟩
  obtain ⟨fuel, hf⟩ := h
  obtain ⟨xs, q, _, _, _, hxl, hfl⟩ := DataW.trod_struct Tryd.underlying23 hf
  obtain ⟨y0, y1, y2, y3, rfl⟩ : ∃ a b c d, xs = [a, b, c, d] := by
    match xs, hxl with
    | [a, b, c, d], _ => exact ⟨a, b, c, d, rfl⟩
  have g0 := hfl 0 _ rfl
  have g1 := hfl 1 _ rfl
  have g2 := hfl 2 _ rfl
  have g3 := hfl 3 _ rfl
  simp [cells3, cells9, Value.cells] at g0 g1 g2 g3
  obtain ⟨z0, e0, _⟩ := DataW.trod_string Tryd.underlying9 g0
  obtain ⟨z1, e1, _⟩ := DataW.trod_int Tryd.underlying3 g1
  obtain ⟨z2, e2, _⟩ := DataW.trod_int Tryd.underlying3 g2
  obtain ⟨z3, e3, _⟩ := DataW.trod_string Tryd.underlying9 g3
  cases e0
  cases e1
  cases e2
  cases e3
  exact ⟨_, _, _, _, rfl⟩
theorem open_rep {H : Type} {enc : TypeId × Value → H} {W : World} {base : Nat} {v : Value} {d : DataW H} {p : List MemPlace} (hv : Value.okWide Tryd.prog W .any base 34 v) (h : DataW.Trod enc Tryd.prog W 0 (fun _ => true) true 34 v d p) :
    ∃ id k se y t, v = .agg #[.string id, .int .i64 k, .int .i64 se, .int .i64 y, .string t] := by
  obtain ⟨cs, rfl, hz⟩ := okWide_struct Tryd.underlying34 hv
  rw [show Tryd.prog.cellsOf 34 = 5 by kernel_rfl] at hz
  obtain ⟨a, b, c, e, f, rfl⟩ : ∃ a b c d e, cs = #[a, b, c, d, e] := by
    obtain ⟨l⟩ := cs
    match l, hz with
    | [a, b, c, d, e], _ => exact ⟨a, b, c, d, e, rfl⟩
  obtain ⟨fuel, hf⟩ := h
  obtain ⟨xs, q, _, _, _, hxl, hfl⟩ := DataW.trod_struct Tryd.underlying34 hf
  obtain ⟨y0, y1, y2, y3, y4, rfl⟩ : ∃ a b c d e, xs = [a, b, c, d, e] := by
    match xs, hxl with
    | [a, b, c, d, e], _ => exact ⟨a, b, c, d, e, rfl⟩
  have g0 := hfl 0 _ rfl
  have g1 := hfl 1 _ rfl
  have g2 := hfl 2 _ rfl
  have g3 := hfl 3 _ rfl
  have g4 := hfl 4 _ rfl
  simp [cells3, cells9, Value.cells] at g0 g1 g2 g3 g4
  obtain ⟨z0, e0, _⟩ := DataW.trod_string Tryd.underlying9 g0
  obtain ⟨z1, e1, _⟩ := DataW.trod_int Tryd.underlying3 g1
  obtain ⟨z2, e2, _⟩ := DataW.trod_int Tryd.underlying3 g2
  obtain ⟨z3, e3, _⟩ := DataW.trod_int Tryd.underlying3 g3
  obtain ⟨z4, e4, _⟩ := DataW.trod_string Tryd.underlying9 g4
  cases e0
  cases e1
  cases e2
  cases e3
  cases e4
  exact ⟨_, _, _, _, _, rfl⟩
end Go.Proofs.YtbpolfoagmehhaaDoor
