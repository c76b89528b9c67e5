/-
  The two tables that the law reads, as the row lays them.
-/
import Derived.Test.YtpjgdpfpgpaenaaDoorGbg
import Derived.Lib.LaidTab
import Derived.LaidSub
import Derived.Stop.LaidErr
namespace Go.Proofs.YtpjgdpfpgpaenaaDoor
open Go.ChangeShapes Go.WideShapes Go.ChangeAt Go.RowKit
set_option linter.unusedVariables false
set_option linter.unusedSimpArgs false

theorem gTab : Tryd.prog.globalNamed "rostrum/wire.halves" = some 1 := by kernel_rfl
theorem gTabType : (Tryd.prog.globals[1]?).map (·.type) = some 73 := by kernel_rfl
theorem cellsTab : Tryd.prog.cellsOf 73 = 16 := by kernel_rfl
theorem cellsU : Tryd.prog.cellsOf 33 = 1 := by kernel_rfl
theorem gBare : Tryd.prog.globalNamed "rostrum/code.bare" = some 0 := by kernel_rfl
theorem gBareType : (Tryd.prog.globals[0]?).map (·.type) = some 63 := by kernel_rfl
theorem cellsBare : Tryd.prog.cellsOf 63 = 9 := by kernel_rfl
def tabI : List Int := [0, 498536548, 997073096, 651767980, 1994146192, 1802195444, 1303535960, 1342533948, 3988292384, 4027552580, 3604390888, 3412177804, 2607071920, 2262029012, 2685067896, 3183342108]
theorem table {W : World} {rest : List (String × DataW Unit)} (h : laidMet Tryd.prog (("rostrum/wire.halves", Rows.laid_rostrum_wire_halves) :: rest) W) : Tab W := by
  have hT : Lib.TabIs Tryd.prog W "rostrum/wire.halves" .u32 tabI := Lib.tabIs_of_head (rest := rest) gTab gTabType Tryd.underlying73 Tryd.underlying33 cellsU cellsTab h
  intro i hi
  have hc := hT.cell gTab i (by simpa [tabI] using hi)
  rw [hc]
  have hr : i = 0 ∨ i = 1 ∨ i = 2 ∨ i = 3 ∨ i = 4 ∨ i = 5 ∨ i = 6 ∨ i = 7 ∨ i = 8 ∨ i = 9 ∨ i = 10 ∨ i = 11 ∨ i = 12 ∨ i = 13 ∨ i = 14 ∨ i = 15 := by omega
  rcases hr with h | h | h | h | h | h | h | h | h | h | h | h | h | h | h | h <;> subst h <;> rfl
theorem instr_lit {H : Type} {enc : TypeId × Value → H} {w : World} {base : Nat} {sp : Nat → Bool} {held : Bool} {fuel : Nat} {cs : List Value} {a b c : Int} {p : List MemPlace}
    (h : DataW.trod enc Tryd.prog w base sp held fuel 40 cs = some (.agg [.lit (.int .i64 a), .lit (.int .i64 b), .lit (.int .i64 c)], p)) : cs = [.int .i64 a, .int .i64 b, .int .i64 c] := by
  obtain ⟨xs, q, _, hag, hlen, hxl, hfl⟩ := DataW.trod_struct Tryd.underlying40 h
  obtain ⟨y0, y1, y2, rfl⟩ := ls3 xs hxl
  rw [cellsI] at hlen
  obtain ⟨v0, v1, v2, rfl⟩ := ls3 cs hlen
  have g0 := hfl 0 _ rfl
  have g1 := hfl 1 _ rfl
  have g2 := hfl 2 _ rfl
  simp [cells3] at g0 g1 g2
  obtain ⟨z0, e0, d0, _⟩ := DataW.trod_int Tryd.underlying3 g0
  obtain ⟨z1, e1, d1, _⟩ := DataW.trod_int Tryd.underlying3 g1
  obtain ⟨z2, e2, d2, _⟩ := DataW.trod_int Tryd.underlying3 g2
  cases e0
  cases e1
  cases e2
  subst d0 d1 d2
  have hx := congrArg Prod.fst hag
  simp at hx
  obtain ⟨rfl, rfl, rfl⟩ := hx
  rfl
theorem bare {W : World} {rest : List (String × DataW Unit)} (h : laidMet Tryd.prog (("rostrum/code.bare", Rows.laid_rostrum_code_bare) :: rest) W) : Bare W := by
  obtain ⟨ps, ⟨g', t', cs, fuel, p, q, hg', ht', hvar, hd, _, _⟩, _⟩ := h
  obtain rfl := Option.some.inj (gBare.symm.trans hg')
  obtain rfl := Option.some.inj (gBareType.symm.trans ht')
  obtain ⟨xs, m, _, hx, hcl, hxl, hel⟩ := DataW.trod_array Tryd.underlying63 hd
  obtain ⟨y0, y1, y2, rfl⟩ := ls3 xs hxl
  have hx1 := congrArg Prod.fst hx
  simp [Rows.laid_rostrum_code_bare] at hx1
  have e0 := hel 0 (by decide)
  have e1 := hel 1 (by decide)
  have e2 := hel 2 (by decide)
  rw [cellsBare] at hcl
  rw [cellsI] at e0 e1 e2
  obtain ⟨y00, y01⟩ := y0
  obtain ⟨y10, y11⟩ := y1
  obtain ⟨y20, y21⟩ := y2
  obtain ⟨h0, h1, h2⟩ := hx1
  simp only at h0 h1 h2
  subst h0 h1 h2
  have k0 := instr_lit e0
  have k1 := instr_lit e1
  have k2 := instr_lit e2
  have hcs : cs.toList = bareCs.toList := by
    generalize cs.toList = cl at *
    have e : cl = cl.take 3 ++ ((cl.drop 3).take 3 ++ (cl.drop 6).take 3) := by
      match cl, hcl with
      | [_, _, _, _, _, _, _, _, _], _ => rfl
    rw [e]
    simp at k0 k1 k2
    rw [k0, k1, k2]
    rfl
  have hcs2 : cs = bareCs := Array.toList_inj.1 hcs
  intro i hi
  have := World.var?_cell gBare hvar i
  rw [this, hcs2]
/-- The tables' cells (for the witness). -/
def layHv : Obj → Obj
  | .cells _ t frozen => .cells (tabI.map (Value.int .u32)).toArray t frozen
  | o => o
def layBr : Obj → Obj
  | .cells _ t frozen => .cells bareCs t frozen
  | o => o
/-- A world whose blocks hold the two tables (for the witness). -/
def layWorld (w : World) : World := { w with heap := (w.heap.modify 1 layHv).modify 0 layBr }
end Go.Proofs.YtpjgdpfpgpaenaaDoor
