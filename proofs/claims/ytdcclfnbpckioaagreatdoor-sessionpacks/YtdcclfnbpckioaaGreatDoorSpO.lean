/-
  How what SessionPacks is handed is read, what the laid tables give, a world for the witness.
-/
import Derived.Test.YtdcclfnbpckioaaGreatDoorRows
import Derived.Test.YtdcclfnbpckioaaGreatDoorSpN
import Derived.ProofKit
import Derived.OpenShut
import Derived.ShutString
import Derived.ChangeOld
import Derived.SizedLaws
import Derived.Deep.DeepHandedRow
import Derived.Lib.LaidTab
import Derived.LaidSub
import Derived.Stop.LaidErr
namespace Go.Proofs.YtdcclfnbpckioaaGreatDoor
open Go.ChangeShapes Go.WideShapes Go.ChangeAt Go.RowKit
set_option linter.unusedVariables false

theorem own : ownKnob Tryz.prog.godebug = none := by kernel_rfl
theorem laidOut : laidOutB Tryz.prog = true := by kernel_rfl
theorem cells5 : Tryz.prog.cellsOf 5 = 1 := by kernel_rfl
theorem cells3 : Tryz.prog.cellsOf 3 = 1 := by kernel_rfl
theorem cells9 : Tryz.prog.cellsOf 9 = 1 := by kernel_rfl
theorem bytes5 : Tryz.prog.bytesOf 5 = 1 := by kernel_rfl
theorem gTab : Tryz.prog.globalNamed "rostrum/wire.halves" = some 0 := by kernel_rfl
theorem gTabType : (Tryz.prog.globals[0]?).map (·.type) = some 119 := by kernel_rfl
theorem cellsT : Tryz.prog.cellsOf 119 = 16 := by kernel_rfl
theorem cellsU32 : Tryz.prog.cellsOf 78 = 1 := by kernel_rfl
theorem gPowN : Tryz.prog.globalNamed "internal/strconv.uint64pow10" = some 1 := by kernel_rfl
theorem gPowType : (Tryz.prog.globals[1]?).map (·.type) = some 131 := by kernel_rfl
theorem cellsP : Tryz.prog.cellsOf 131 = 20 := by kernel_rfl
theorem cellsU : Tryz.prog.cellsOf 107 = 1 := by kernel_rfl
theorem powData : (Rows.laid_internal_strconv_uint64pow10 : DataW Unit) = Lib.tabData .u64 Lib.pow10Tab := by kernel_rfl
def tabI : List Int := [0, 498536548, 997073096, 651767980, 1994146192, 1802195444, 1303535960, 1342533948, 3988292384, 4027552580, 3604390888, 3412177804, 2607071920, 2262029012, 2685067896, 3183342108]
theorem table {W : World} (h : laidMet Tryz.prog [("rostrum/wire.halves", Rows.laid_rostrum_wire_halves)] W) : Tab W := by
  have hT : Lib.TabIs Tryz.prog W "rostrum/wire.halves" .u32 tabI := Lib.tabIs_of_head (rest := []) gTab gTabType Tryz.underlying119 Tryz.underlying78 cellsU32 cellsT h
  intro i hi
  have hc := hT.cell gTab i (by simpa [tabI] using hi)
  rw [hc]
  have hr : i = 0 ∨ i = 1 ∨ i = 2 ∨ i = 3 ∨ i = 4 ∨ i = 5 ∨ i = 6 ∨ i = 7 ∨ i = 8 ∨ i = 9 ∨ i = 10 ∨ i = 11 ∨ i = 12 ∨ i = 13 ∨ i = 14 ∨ i = 15 := by omega
  rcases hr with h | h | h | h | h | h | h | h | h | h | h | h | h | h | h | h <;> subst h <;> rfl
theorem pow_of {W : World} {rest : List (String × DataW Unit)} (h : laidMet Tryz.prog (("internal/strconv.uint64pow10", Rows.laid_internal_strconv_uint64pow10) :: rest) W) : Lib.TabIs Tryz.prog W "internal/strconv.uint64pow10" .u64 Lib.pow10Tab := by
  rw [powData] at h
  exact Lib.tabIs_of_head gPowN gPowType Tryz.underlying131 Tryz.underlying107 cellsU cellsP h
set_option maxRecDepth 100000 in
theorem std {W : World} (h : laidMet Tryz.prog Rows.sessionPacksRow.laid W) : Tab W ∧ Lib.TabIs Tryz.prog W "internal/strconv.uint64pow10" .u64 Lib.pow10Tab :=
  ⟨table (laidMet.tail (laidMet.tail (laidMet.tail h))), pow_of (laidMet.tail (laidMet.tail h))⟩
theorem open_bytes {H : Type} {enc : TypeId × Value → H} {W : World} {a0 : Option Addr} {n c : Nat} {d : DataW H} {p : List MemPlace} (h : DataW.Trod enc Tryz.prog W 0 (fun _ => true) true 22 (.slice a0 n c) d p) :
    ∃ f : Nat → Int, From W a0 n f ∧ n ≤ c ∧ (a0 = none → c = 0) ∧ ((a0 = none ∧ c = 0) ∨ ∃ elems spare, d = .slice elems spare ∧ elems.length + spare.length = c) := by
  obtain ⟨fuel, hf⟩ := h
  rcases open_ints Tryz.underlying22 Tryz.underlying5 cells5 hf with ⟨hcs, _⟩ | ⟨x, l, c', zs, hcs, _, hl, hm, hz, hx, hcell, hwz⟩
  · simp [Value.cells] at hcs
    obtain ⟨rfl, rfl, rfl⟩ := hcs
    exact ⟨fun _ => 0, .inl ⟨rfl, rfl⟩, Nat.le_refl _, fun _ => rfl, .inl ⟨rfl, rfl⟩⟩
  · simp [Value.cells] at hcs
    obtain ⟨rfl, rfl, rfl⟩ := hcs
    simp only [if_true] at hz
    refine ⟨fun i => zs.getD i 0, .inr ⟨x, rfl, fun i hi => hcell i (by omega)⟩, hl, (fun h => by cases h), .inr ⟨_, _, congrArg Prod.fst hx, ?_⟩⟩
    simp [lits]
    omega
theorem reach_bytes {H : Type} {ts : List TypeId} {ds : List (DataW H)} {j : Nat} {a0 : Option Addr} {c : Nat} {d : DataW H} (hsz : (DataW.weightsEach Tryz.prog ts ds).all (· ≤ reachBytes) = true) (h1 : ts[j]? = some 22) (h2 : ds[j]? = some d)
    (hd : (a0 = none ∧ c = 0) ∨ ∃ elems spare, d = .slice elems spare ∧ elems.length + spare.length = c) : c ≤ 140737488351232 := by
  rcases hd with ⟨_, h⟩ | ⟨el, sp, rfl, h⟩
  · omega
  · have := sized_slice hsz (j := j) (t := 22) (e := 5) h1 h2 Tryz.underlying22
    rw [bytes5] at this
    simp only [reachBytes] at this
    omega
theorem reach_string {H : Type} {ts : List TypeId} {ds : List (DataW H)} {j : Nat} {s : ByteArray} (hsz : (DataW.weightsEach Tryz.prog ts ds).all (· ≤ reachBytes) = true) (h1 : ts[j]? = some 9) (h2 : ds[j]? = some (.lit (.string s.data.toList))) : s.size ≤ 140737488355328 := by
  have h3 := sized_string hsz (j := j) (t := 9) h1 h2
  have h2 := reachBytes_lt
  have e1 : s.size = s.data.size := rfl
  have e2 : s.data.toList.length = s.data.size := Array.length_toList
  have e3 : (2 : Nat) ^ 47 = 140737488355328 := by decide
  omega
set_option maxRecDepth 100000 in
theorem open_rep {H : Type} {enc : TypeId × Value → H} {W : World} {base : Nat} {v : Value} {d : DataW H} {p : List MemPlace} {ts : List TypeId} {ds : List (DataW H)} {j : Nat} (hv : Value.okWide Tryz.prog W .any base 24 v) (h : DataW.Trod enc Tryz.prog W 0 (fun _ => true) true 24 v d p)
    (hsz : (DataW.weightsEach Tryz.prog ts ds).all (· ≤ reachBytes) = true) (hj1 : ts[j]? = some 24) (hj2 : ds[j]? = some d) :
    ∃ id k se y t, v = .agg #[.string id, .int .i64 k, .int .i64 se, .int .i64 y, .string t] ∧ id.size ≤ 140737488355328 := by
  obtain ⟨cs, rfl, hz⟩ := okWide_struct Tryz.underlying24 hv
  rw [show Tryz.prog.cellsOf 24 = 5 by kernel_rfl] at hz
  obtain ⟨a, b, c, e, f, rfl⟩ : ∃ a b c d e, cs = #[a, b, c, d, e] := by
    obtain ⟨l⟩ := cs
    match l, hz with
    | [a, b, c, d, e], _ => exact ⟨a, b, c, d, e, rfl⟩
  obtain ⟨fuel, hf⟩ := h
  obtain ⟨xs, q, _, hag, _, hxl, hfl⟩ := DataW.trod_struct Tryz.underlying24 hf
  obtain ⟨y0, y1, y2, y3, y4, rfl⟩ : ∃ a b c d e, xs = [a, b, c, d, e] := by
    match xs, hxl with
    | [a, b, c, d, e], _ => exact ⟨a, b, c, d, e, rfl⟩
  have hall : (DataW.weightsEach Tryz.prog [9, 3, 3, 3, 9] [y0.1, y1.1, y2.1, y3.1, y4.1]).all (· ≤ reachBytes) = true := by
    refine List.all_eq_true.2 fun x hx => ?_
    refine List.all_eq_true.1 hsz x (DataW.weights_mem_each hj1 hj2 x ?_)
    rw [show d = .agg [y0.1, y1.1, y2.1, y3.1, y4.1] from congrArg Prod.fst hag]
    have key : (DataW.agg [y0.1, y1.1, y2.1, y3.1, y4.1]).weights Tryz.prog 24 = DataW.weightsEach Tryz.prog [9, 3, 3, 3, 9] [y0.1, y1.1, y2.1, y3.1, y4.1] := by
      simp only [DataW.weights, Tryz.underlying24]
      rfl
    rw [key]
    exact hx
  have g0 := hfl 0 _ rfl
  have g1 := hfl 1 _ rfl
  have g2 := hfl 2 _ rfl
  have g3 := hfl 3 _ rfl
  have g4 := hfl 4 _ rfl
  simp [cells3, cells9, Value.cells] at g0 g1 g2 g3 g4
  obtain ⟨z0, e0, es, _⟩ := DataW.trod_string Tryz.underlying9 g0
  obtain ⟨z1, e1, _⟩ := DataW.trod_int Tryz.underlying3 g1
  obtain ⟨z2, e2, _⟩ := DataW.trod_int Tryz.underlying3 g2
  obtain ⟨z3, e3, _⟩ := DataW.trod_int Tryz.underlying3 g3
  obtain ⟨z4, e4, _⟩ := DataW.trod_string Tryz.underlying9 g4
  cases e0
  cases e1
  cases e2
  cases e3
  cases e4
  refine ⟨_, _, _, _, _, rfl, reach_string hall (j := 0) rfl ?_⟩
  show some y0.1 = _
  rw [es]
/-- A table's numbers as they lie in memory. -/
def cellsOfTab : DataW Unit → Array Value
  | .agg l => (l.map fun d => match d with | .lit (.int k z) => Value.int k z | _ => Value.bool false).toArray
  | _ => #[]
def layArr (d : DataW Unit) : Obj → Obj
  | .cells _ t frozen => .cells (cellsOfTab d) t frozen
  | o => o
/-- A world whose first blocks hold the tables (for the witness). -/
def layWorld (w : World) : World := { w with heap := (((w.heap.modify 1 (layArr Rows.laid_internal_strconv_uint64pow10)).modify 3 (layArr Rows.laid_math_bits_deBruijn32tab)).modify 4 (layArr Rows.laid_math_bits_deBruijn64tab)).modify 0 (layArr Rows.laid_rostrum_wire_halves) }
end Go.Proofs.YtdcclfnbpckioaaGreatDoor
