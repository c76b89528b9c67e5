/-
  How an image, a list of calls of a log, and bytes that are handed in are read, by the weights of what is handed in.
-/
import Derived.Test.YtmjoklppibfdmaaDoorRows
import Derived.Test.YtmjoklppibfdmaaDoorLogLf
import Derived.ProofKit
import Derived.OpenShut
import Derived.ShutString
import Derived.ChangeOld
import Derived.SizedLaws
import Derived.Deep.Slices
import Derived.Deep.Grids
import Derived.Deep.DeepHandedRow
import Derived.Lib.LaidTab
namespace Go.Proofs.YtmjoklppibfdmaaDoor
open Go.ChangeShapes Go.WideShapes Go.ChangeAt Go.RowKit
set_option linter.unusedVariables false

theorem own : ownKnob Tryd.prog.godebug = none := by kernel_rfl
theorem laidOut : laidOutB Tryd.prog = true := by kernel_rfl
theorem cells5 : Tryd.prog.cellsOf 5 = 1 := by kernel_rfl
theorem cells3 : Tryd.prog.cellsOf 3 = 1 := by kernel_rfl
theorem cellsB : Tryd.prog.cellsOf 34 = 1 := by kernel_rfl
theorem cellsDo : Tryd.prog.cellsOf 36 = 2 := by kernel_rfl
theorem bytes5 : Tryd.prog.bytesOf 5 = 1 := by kernel_rfl
theorem bytesB : Tryd.prog.bytesOf 34 = 24 := by kernel_rfl
theorem bytesDo : Tryd.prog.bytesOf 36 = 32 := by kernel_rfl
theorem gTab : Tryd.prog.globalNamed "rostrum/wire.halves" = some 1 := by kernel_rfl
theorem gTabType : (Tryd.prog.globals[1]?).map (·.type) = some 153 := by kernel_rfl
theorem cells45 : Tryd.prog.cellsOf 153 = 16 := by kernel_rfl
theorem cells27 : Tryd.prog.cellsOf 141 = 1 := by kernel_rfl
def tabI : List Int := [0, 498536548, 997073096, 651767980, 1994146192, 1802195444, 1303535960, 1342533948, 3988292384, 4027552580, 3604390888, 3412177804, 2607071920, 2262029012, 2685067896, 3183342108]

theorem table {W : World} (h : laidMetH Tryd.prog [("rostrum/wire.halves", Rows.laid_rostrum_wire_halves)] W) : Tab W := by
  have hT : Lib.TabIs Tryd.prog W "rostrum/wire.halves" .u32 tabI := Lib.tabIs_of_head (rest := []) gTab gTabType Tryd.underlying153 Tryd.underlying141 cells27 cells45 h
  intro i hi
  have hc := hT.cell gTab i (by simpa [tabI] using hi)
  rw [hc]
  have hr : i = 0 ∨ i = 1 ∨ i = 2 ∨ i = 3 ∨ i = 4 ∨ i = 5 ∨ i = 6 ∨ i = 7 ∨ i = 8 ∨ i = 9 ∨ i = 10 ∨ i = 11 ∨ i = 12 ∨ i = 13 ∨ i = 14 ∨ i = 15 := by omega
  rcases hr with h | h | h | h | h | h | h | h | h | h | h | h | h | h | h | h <;> subst h <;> rfl
/-- A block that holds the table. -/
def layTab : Obj → Obj
  | .cells _ t frozen => .cells (tabI.map (Value.int .u32)).toArray t frozen
  | o => o
/-- A world whose first block holds the table (for the witness). -/
def layWorld (w : World) : World := { w with heap := w.heap.modify 1 layTab }

/-- No part of a datum weighs more than a machine can hold. -/
def Light {H : Type} (t : TypeId) (d : DataW H) : Prop := ∀ x ∈ d.weights Tryd.prog t, x ≤ reachBytes
theorem light_arg {H : Type} {ts : List TypeId} {ds : List (DataW H)} (h : (DataW.weightsEach Tryd.prog ts ds).all (· ≤ reachBytes) = true) {j : Nat} {t : TypeId} {d : DataW H} (ht : ts[j]? = some t) (hd : ds[j]? = some d) : Light t d := fun x hx => by
  have := List.all_eq_true.1 h _ (DataW.weights_mem_each ht hd x hx)
  simpa using this
theorem weightsAll_mem {H : Type} {e : TypeId} {d : DataW H} {x : Nat} (hx : x ∈ d.weights Tryd.prog e) : ∀ {l : List (DataW H)}, d ∈ l → x ∈ DataW.weightsAll Tryd.prog e l
  | [], h => by cases h
  | y :: r, h => by
    simp only [DataW.weightsAll, List.mem_append]
    rcases List.mem_cons.1 h with rfl | h
    · exact .inl hx
    · exact .inr (weightsAll_mem hx h)
theorem light_slice {H : Type} {t e : TypeId} {elems spare : List (DataW H)} (hu : Tryd.prog.underlying t = some (.slice e)) (h : Light t (.slice elems spare)) : (elems.length + spare.length) * Tryd.prog.bytesOf e ≤ reachBytes ∧ ∀ d ∈ elems, Light e d := by
  have key : (DataW.slice elems spare).weights Tryd.prog t = (elems.length + spare.length) * Tryd.prog.bytesOf e :: (DataW.weightsAll Tryd.prog e elems ++ DataW.weightsAll Tryd.prog e spare) := by simp only [DataW.weights, hu]
  unfold Light at h
  rw [key] at h
  refine ⟨h _ (List.mem_cons_self ..), fun d hd x hx => h x ?_⟩
  exact List.mem_cons_of_mem _ (List.mem_append_left _ (weightsAll_mem hx hd))

theorem open_bytesW {H : Type} {enc : TypeId × Value → H} {W : World} {fuel : Nat} {v : Value} {x : DataW H × List MemPlace} (hf : DataW.trod enc Tryd.prog W 0 (fun _ => true) true fuel 34 [v] = some x) :
    ∃ a l c f, v = .slice a l c ∧ From W a l f ∧ (∀ i, 0 ≤ f i ∧ f i ≤ 255) ∧ (Light 34 x.1 → l ≤ 140737488355328) ∧ (a = none → c = 0) := by
  rcases open_ints Tryd.underlying34 Tryd.underlying5 cells5 hf with ⟨hcs, _⟩ | ⟨y, l, c', zs, hcs, _, hl, hm, hz, hx, hcell, hwz⟩
  · cases hcs
    exact ⟨none, 0, 0, fun _ => 0, rfl, .inl ⟨rfl, rfl⟩, fun _ => (by simp), fun _ => by omega, fun _ => rfl⟩
  · cases hcs
    simp only [if_true] at hz
    refine ⟨some y, l, c', fun i => zs.getD i 0, rfl, .inr ⟨y, rfl, fun i hi => hcell i (by omega)⟩, fun i => ?_, fun hb => ?_, fun h => by cases h⟩
    · have := range_u8 hwz i
      simpa [List.getD] using this
    · rw [hx] at hb
      have hb' : Light 34 (DataW.slice (lits (H := H) .u8 (zs.take l)) (lits .u8 (zs.drop l))) := hb
      have h9 := (light_slice Tryd.underlying34 hb').1
      rw [bytes5] at h9
      have h8 : (lits (H := H) .u8 (zs.take l)).length = l := by simp [lits]; omega
      simp only [reachBytes] at h9
      omega
theorem open_rec {H : Type} {enc : TypeId × Value → H} {W : World} {a0 : Option Addr} {n c : Nat} {d : DataW H} {p : List MemPlace} (h : DataW.Trod enc Tryd.prog W 0 (fun _ => true) true 34 (.slice a0 n c) d p) (hw : Light 34 d) :
    ∃ f, From W a0 n f ∧ (∀ i, 0 ≤ f i ∧ f i ≤ 255) ∧ n ≤ 140737488355328 ∧ (a0 = none → c = 0) := by
  obtain ⟨fuel, hf⟩ := h
  obtain ⟨a, l, c', f, e, h1, h2, h3, h4⟩ := open_bytesW hf
  cases e
  exact ⟨f, h1, h2, h3 hw, h4⟩

theorem open_imgW {H : Type} {enc : TypeId × Value → H} {W : World} {a0 : Option Addr} {n c : Nat} {d : DataW H} {p : List MemPlace} (h : DataW.Trod enc Tryd.prog W 0 (fun _ => true) true 22 (.slice a0 n c) d p) (hw : Light 22 d) :
    n ≤ 5864062014805 ∧ ∃ A L C f, Img W a0 n A L C f ∧ (∀ i, i < n → L i ≤ 140737488355328) ∧ ∀ i j, 0 ≤ f i j ∧ f i j ≤ 255 := by
  obtain ⟨fuel, hf⟩ := h
  rcases Go.Deep.open_slice1 Tryd.underlying22 cellsB hf with ⟨hcs, _⟩ | ⟨a, len, cap, m, k, V, D, Pl, hcs, _, hl, hm, hmm, hxx, hx⟩
  · simp [Value.cells] at hcs
    obtain ⟨rfl, rfl, rfl⟩ := hcs
    exact ⟨by decide, fun _ => none, fun _ => 0, fun _ => 0, fun _ _ => 0, fun i hi => by omega, fun i hi => by omega, fun _ _ => (by decide : (0 : Int) ≤ 0 ∧ (0 : Int) ≤ 255)⟩
  · simp [Value.cells] at hcs
    obtain ⟨rfl, rfl, rfl⟩ := hcs
    simp only [if_true] at hmm
    subst hmm
    have hd : d = .slice ((List.range n).map D) ((List.range (m - n)).map fun j => D (n + j)) := congrArg Prod.fst hxx
    rw [hd] at hw
    obtain ⟨hn, hel⟩ := light_slice Tryd.underlying22 hw
    rw [bytesB] at hn
    simp only [List.length_map, List.length_range, reachBytes] at hn
    have each : ∀ i, ∃ y : Option Addr × Nat × Nat × (Nat → Int), (i < n → W.cell? (a.add i) = some (.slice y.1 y.2.1 y.2.2.1) ∧ From W y.1 y.2.1 y.2.2.2 ∧ y.2.1 ≤ 140737488355328 ∧ (y.1 = none → y.2.2.1 = 0)) ∧ ∀ j, 0 ≤ y.2.2.2 j ∧ y.2.2.2 j ≤ 255 := fun i => by
      by_cases hi : i < n
      · have hDr : Light 34 (D i) := hel _ (List.mem_map.2 ⟨i, List.mem_range.2 hi, rfl⟩)
        obtain ⟨h1, h2⟩ := hx i (by omega)
        obtain ⟨a2, l2, c2, f2, e, k1, k2, k3, k5⟩ := open_bytesW h2
        rw [e] at h1
        exact ⟨(a2, l2, c2, f2), fun _ => ⟨h1, k1, k3 hDr, k5⟩, k2⟩
      · exact ⟨(none, 0, 0, fun _ => 0), fun h => absurd h hi, fun _ => (by decide : (0 : Int) ≤ 0 ∧ (0 : Int) ≤ 255)⟩
    obtain ⟨Y, hY⟩ := Classical.axiomOfChoice each
    refine ⟨by omega, fun i => (Y i).1, fun i => (Y i).2.1, fun i => (Y i).2.2.1, fun i => (Y i).2.2.2, fun i hi => ?_, fun i hi => ((hY i).1 hi).2.2.1, fun i j => (hY i).2 j⟩
    obtain ⟨h1, h2, h3, h4⟩ := (hY i).1 hi
    obtain ⟨b, off, spot⟩ := a
    have hspot : spot = none := by
      have m4 := ((hY 0).1 (by omega)).1
      simpa [Addr.add] using World.cell?_spot m4
    subst hspot
    rw [Addr.add_lit] at h1
    exact ⟨b, off, rfl, h1, h2, h4⟩

theorem list2 {α : Type} (l : List α) (h : l.length = 2) : ∃ a b, l = [a, b] := by
  match l, h with
  | [a, b], _ => exact ⟨a, b, rfl⟩
set_option maxRecDepth 100000 in
theorem open_dosL {H : Type} {enc : TypeId × Value → H} {W : World} {a0 : Option Addr} {n c : Nat} {d : DataW H} {p : List MemPlace} (h : DataW.Trod enc Tryd.prog W 0 (fun _ => true) true 23 (.slice a0 n c) d p) (hw : Light 23 d) :
    n ≤ 9223372036854775806 ∧ DosL W a0 n := by
  obtain ⟨fuel, hf⟩ := h
  rcases Go.Deep.open_slice Tryd.underlying23 hf with ⟨hcs, _⟩ | ⟨a, len, cap, m, k, D, Pl, hcs, _, hl, hm, hmm, hxx, hx⟩
  · simp [Value.cells] at hcs
    obtain ⟨rfl, rfl, rfl⟩ := hcs
    exact ⟨by decide, fun r hr => by omega⟩
  · simp [Value.cells] at hcs
    obtain ⟨rfl, rfl, rfl⟩ := hcs
    simp only [if_true] at hmm
    subst hmm
    have hd : d = .slice ((List.range n).map D) ((List.range (m - n)).map fun j => D (n + j)) := congrArg Prod.fst hxx
    rw [hd] at hw
    obtain ⟨hn, _⟩ := light_slice Tryd.underlying23 hw
    rw [bytesDo] at hn
    simp only [List.length_map, List.length_range, reachBytes] at hn
    refine ⟨by omega, fun r hr => ?_⟩
    obtain ⟨cs', h1, h2⟩ := hx r (by omega)
    rw [cellsDo] at h1
    obtain ⟨_, hlen, hcell⟩ := World.cells?_some h1
    obtain ⟨xs, q, _, hag, _, hxl, hfl⟩ := DataW.trod_struct Tryd.underlying36 h2
    obtain ⟨b, off, spot⟩ := a
    have hspot : spot = none := by
      obtain ⟨cs0, m1, _⟩ := hx 0 (by omega)
      rw [cellsDo] at m1
      obtain ⟨_, m2, m3⟩ := World.cells?_some m1
      have m4 := m3 0 (by omega)
      rw [List.getElem?_eq_getElem (by omega)] at m4
      simpa [Addr.add] using World.cell?_spot m4
    subst hspot
    obtain ⟨y0, y1, rfl⟩ := list2 xs hxl
    obtain ⟨v0, v1, rfl⟩ := list2 cs' hlen
    have g0 := hfl 0 _ rfl
    have g1 := hfl 1 _ rfl
    simp [cells3, cellsB] at g0 g1
    obtain ⟨z0, e0, _⟩ := DataW.trod_int Tryd.underlying3 g0
    obtain ⟨a2, l2, c2, f2, e2, k1, k2, k3, k4⟩ := open_bytesW g1
    cases e0
    subst e2
    have hc0 := hcell 0 (by omega)
    have hc1 := hcell 1 (by omega)
    rw [Go.Deep.add_add] at hc0 hc1
    rw [Addr.add_lit] at hc0 hc1
    simp only [← Nat.add_assoc] at hc0 hc1
    exact ⟨b, off, rfl, z0, a2, l2, c2, f2, ⟨by simpa using hc0, by simpa using hc1, k1, k2, k4⟩⟩
end Go.Proofs.YtmjoklppibfdmaaDoor
