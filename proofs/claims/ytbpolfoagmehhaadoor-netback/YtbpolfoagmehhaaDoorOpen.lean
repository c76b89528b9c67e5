/-
  What the rows of this seat share: how a slice of bytes is read, what the laid table gives, a world for the witness.
-/
import Derived.Test.YtbpolfoagmehhaaDoorRows
import Derived.Test.YtbpolfoagmehhaaDoorNqN
import Derived.ProofKit
import Derived.OpenShut
import Derived.ShutString
import Derived.ChangeOld
import Derived.SizedLaws
import Derived.Deep.DeepHandedRow
import Derived.Lib.LaidTab
namespace Go.Proofs.YtbpolfoagmehhaaDoor
open Go.ChangeShapes Go.WideShapes Go.ChangeAt Go.RowKit
set_option linter.unusedVariables false

theorem own : ownKnob Tryd.prog.godebug = none := by kernel_rfl
theorem laidOut : laidOutB Tryd.prog = true := by kernel_rfl
theorem cells5 : Tryd.prog.cellsOf 5 = 1 := by kernel_rfl
theorem bytes5 : Tryd.prog.bytesOf 5 = 1 := by kernel_rfl
theorem gTab : Tryd.prog.globalNamed "rostrum/wire.halves" = some 0 := by kernel_rfl
theorem gTabType : (Tryd.prog.globals[0]?).map (·.type) = some 95 := by kernel_rfl
theorem cells45 : Tryd.prog.cellsOf 95 = 16 := by kernel_rfl
theorem cells27 : Tryd.prog.cellsOf 73 = 1 := by kernel_rfl
def tabI : List Int := [0, 498536548, 997073096, 651767980, 1994146192, 1802195444, 1303535960, 1342533948, 3988292384, 4027552580, 3604390888, 3412177804, 2607071920, 2262029012, 2685067896, 3183342108]

theorem table {W : World} (h : laidMetH Tryd.prog [("rostrum/wire.halves", Rows.laid_rostrum_wire_halves)] W) : Tab W := by
  have hT : Lib.TabIs Tryd.prog W "rostrum/wire.halves" .u32 tabI := Lib.tabIs_of_head (rest := []) gTab gTabType Tryd.underlying95 Tryd.underlying73 cells27 cells45 h
  intro i hi
  have hc := hT.cell gTab i (by simpa [tabI] using hi)
  rw [hc]
  have hr : i = 0 ∨ i = 1 ∨ i = 2 ∨ i = 3 ∨ i = 4 ∨ i = 5 ∨ i = 6 ∨ i = 7 ∨ i = 8 ∨ i = 9 ∨ i = 10 ∨ i = 11 ∨ i = 12 ∨ i = 13 ∨ i = 14 ∨ i = 15 := by omega
  rcases hr with h | h | h | h | h | h | h | h | h | h | h | h | h | h | h | h <;> subst h <;> rfl

theorem open_bytes {H : Type} {enc : TypeId × Value → H} {W : World} {a0 : Option Addr} {n c : Nat} {d : DataW H} {p : List MemPlace} (h : DataW.Trod enc Tryd.prog W 0 (fun _ => true) true 24 (.slice a0 n c) d p) :
    ∃ f : Nat → Int, From W a0 n f ∧ (∀ i, 0 ≤ f i ∧ f i ≤ 255) ∧ n ≤ c ∧ c ≤ 9223372036854775807 ∧ (a0 = none → c = 0) ∧ ((a0 = none ∧ c = 0) ∨ ∃ elems spare, d = .slice elems spare ∧ elems.length + spare.length = c) := by
  obtain ⟨fuel, hf⟩ := h
  rcases open_ints Tryd.underlying24 Tryd.underlying5 cells5 hf with ⟨hcs, _⟩ | ⟨x, l, c', zs, hcs, _, hl, hm, hz, hx, hcell, hwz⟩
  · simp [Value.cells] at hcs
    obtain ⟨rfl, rfl, rfl⟩ := hcs
    exact ⟨fun _ => 0, .inl ⟨rfl, rfl⟩, fun _ => (by simp), Nat.le_refl _, by decide, fun _ => rfl, .inl ⟨rfl, rfl⟩⟩
  · simp [Value.cells] at hcs
    obtain ⟨rfl, rfl, rfl⟩ := hcs
    simp only [if_true] at hz
    refine ⟨fun i => zs.getD i 0, .inr ⟨x, rfl, fun i hi => hcell i (by omega)⟩, fun i => ?_, hl, hm, (fun h => by cases h), .inr ⟨_, _, congrArg Prod.fst hx, ?_⟩⟩
    · have := range_u8 hwz i
      simpa [List.getD] using this
    · simp [lits]
      omega

theorem reach_bytes {H : Type} {ts : List TypeId} {ds : List (DataW H)} {j : Nat} {a0 : Option Addr} {c : Nat} {d : DataW H} (hsz : (DataW.weightsEach Tryd.prog ts ds).all (· ≤ reachBytes) = true) (h1 : ts[j]? = some 24) (h2 : ds[j]? = some d)
    (hd : (a0 = none ∧ c = 0) ∨ ∃ elems spare, d = .slice elems spare ∧ elems.length + spare.length = c) : c ≤ 140737488351232 := by
  rcases hd with ⟨_, h⟩ | ⟨el, sp, rfl, h⟩
  · omega
  · have := sized_slice hsz (j := j) (t := 24) (e := 5) h1 h2 Tryd.underlying24
    rw [bytes5] at this
    simp only [reachBytes] at this
    omega

/-- A block that holds the table. -/
def layTab : Obj → Obj
  | .cells _ t frozen => .cells (tabI.map (Value.int .u32)).toArray t frozen
  | o => o
/-- A world whose first block holds the table (for the witness). -/
def layWorld (w : World) : World := { w with heap := w.heap.modify 0 layTab }

theorem bulk_one {H : Type} (d : DataW H) : 1 ≤ Rows.uptoBulk d := by
  cases d with
  | lit l => cases l <;> simp [Rows.uptoBulk]
  | nil => simp [Rows.uptoBulk]
  | ptr d => simp [Rows.uptoBulk]
  | slice elems spare => simp [Rows.uptoBulk]
  | agg parts => simp [Rows.uptoBulk]
  | iface t d => simp [Rows.uptoBulk]
  | map entries => simp [Rows.uptoBulk]
  | held h => simp [Rows.uptoBulk]
theorem bulk_length {H : Type} (l : List (DataW H)) : l.length ≤ Rows.uptoBulkAll l := by
  induction l with
  | nil => simp [Rows.uptoBulkAll]
  | cons x r ih => have := bulk_one x; simp only [Rows.uptoBulkAll, List.length_cons]; omega
theorem bulk_slice {H : Type} (elems spare : List (DataW H)) : elems.length + spare.length + 1 ≤ Rows.uptoBulk (.slice elems spare) := by
  have h1 := bulk_length elems
  have h2 := bulk_length spare
  simp only [Rows.uptoBulk]
  omega
end Go.Proofs.YtbpolfoagmehhaaDoor
