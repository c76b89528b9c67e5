/-
  How a list of calls of a disk that is handed in is read, where it is of bulk at most 1048576.
-/
import Derived.Test.YtnoaobnjecapjaaRows
import Derived.Test.YtnoaobnjecapjaaLivesLaw
import Derived.ProofKit
import Derived.OpenShut
import Derived.ShutString
import Derived.ChangeOld
import Derived.SizedLaws
import Derived.Deep.Slices
import Derived.Deep.Grids
namespace Go.Proofs.Ytnoaobnjecapjaa
open Go.ChangeShapes Go.WideShapes Go.ChangeAt Go.RowKit
set_option linter.unusedVariables false

theorem own : ownKnob Try.prog.godebug = none := by kernel_rfl
theorem laidOut : laidOutB Try.prog = true := by kernel_rfl
theorem cells5 : Try.prog.cellsOf 5 = 1 := by kernel_rfl
theorem cells3 : Try.prog.cellsOf 3 = 1 := by kernel_rfl
theorem cellsB : Try.prog.cellsOf 27 = 1 := by kernel_rfl
theorem cellsI : Try.prog.cellsOf 28 = 1 := by kernel_rfl
theorem cellsDo : Try.prog.cellsOf 30 = 4 := by kernel_rfl
theorem bulk_one {H : Type} (d : DataW H) : 1 ≤ Rows.uptoBulk d := by
  cases d with
  | lit l => cases l <;> simp [Rows.uptoBulk]
  | nil => simp [Rows.uptoBulk]
  | ptr d => simp [Rows.uptoBulk]
  | slice elems spare => simp [Rows.uptoBulk]
  | agg parts => simp [Rows.uptoBulk]
  | iface t d => simp [Rows.uptoBulk]
  | map entries => simp [Rows.uptoBulk]
  | held h => simp [Rows.uptoBulk]
theorem bulk_length {H : Type} (l : List (DataW H)) : l.length ≤ Rows.uptoBulkAll l := by
  induction l with
  | nil => simp [Rows.uptoBulkAll]
  | cons x r ih => have := bulk_one x; simp only [Rows.uptoBulkAll, List.length_cons]; omega
theorem bulk_slice {H : Type} (elems spare : List (DataW H)) : elems.length + spare.length + 1 ≤ Rows.uptoBulk (.slice elems spare) := by
  have h1 := bulk_length elems
  have h2 := bulk_length spare
  simp only [Rows.uptoBulk]
  omega
theorem bulk_part {H : Type} {d : DataW H} {l : List (DataW H)} (h : d ∈ l) : Rows.uptoBulk d ≤ Rows.uptoBulkAll l := by
  induction l with
  | nil => cases h
  | cons x r ih =>
    simp only [Rows.uptoBulkAll]
    rcases List.mem_cons.1 h with e | e
    · subst e; omega
    · have := ih e; omega
theorem bulk_in {H : Type} {d : DataW H} {elems spare : List (DataW H)} (h : d ∈ elems) : Rows.uptoBulk d ≤ Rows.uptoBulk (.slice elems spare) := by
  have := bulk_part h
  simp only [Rows.uptoBulk]
  omega

theorem open_bytesB {H : Type} {enc : TypeId × Value → H} {W : World} {fuel : Nat} {v : Value} {x : DataW H × List MemPlace} (hf : DataW.trod enc Try.prog W 0 (fun _ => true) true fuel 27 [v] = some x) (hb : Rows.uptoBulk x.1 ≤ 1048576) :
    ∃ a l c f, v = .slice a l c ∧ From W a l f ∧ (∀ i, 0 ≤ f i ∧ f i ≤ 255) ∧ l ≤ 1048576 ∧ (a = none → c = 0) := by
  rcases open_ints Try.underlying27 Try.underlying5 cells5 hf with ⟨hcs, _⟩ | ⟨y, l, c', zs, hcs, _, hl, hm, hz, hx, hcell, hwz⟩
  · cases hcs
    exact ⟨none, 0, 0, fun _ => 0, rfl, .inl ⟨rfl, rfl⟩, fun _ => (by simp), by omega, fun _ => rfl⟩
  · cases hcs
    simp only [if_true] at hz
    refine ⟨some y, l, c', fun i => zs.getD i 0, rfl, .inr ⟨y, rfl, fun i hi => hcell i (by omega)⟩, fun i => ?_, ?_, fun h => by cases h⟩
    · have := range_u8 hwz i
      simpa [List.getD] using this
    · rw [hx] at hb
      have h9 := bulk_slice (lits (H := H) .u8 (zs.take l)) (lits .u8 (zs.drop l))
      have h8 : (lits (H := H) .u8 (zs.take l)).length = l := by simp [lits]; omega
      have hb' : Rows.uptoBulk (DataW.slice (lits (H := H) .u8 (zs.take l)) (lits .u8 (zs.drop l))) ≤ 1048576 := hb
      omega
theorem open_intsB {H : Type} {enc : TypeId × Value → H} {W : World} {fuel : Nat} {v : Value} {x : DataW H × List MemPlace} (hf : DataW.trod enc Try.prog W 0 (fun _ => true) true fuel 28 [v] = some x) (hb : Rows.uptoBulk x.1 ≤ 1048576) :
    ∃ a l c f, v = .slice a l c ∧ FromI W a l f ∧ (∀ i, i < l → -9223372036854775808 ≤ f i ∧ f i ≤ 9223372036854775807) ∧ l ≤ 1048576 ∧ (a = none → l = 0 ∧ c = 0) := by
  rcases open_ints Try.underlying28 Try.underlying3 cells3 hf with ⟨hcs, _⟩ | ⟨y, l, c', zs, hcs, _, hl, hm, hz, hx, hcell, hwz⟩
  · cases hcs
    exact ⟨none, 0, 0, fun _ => 0, rfl, fun i hi => by omega, fun i hi => by omega, by omega, fun _ => ⟨rfl, rfl⟩⟩
  · cases hcs
    simp only [if_true] at hz
    refine ⟨some y, l, c', fun i => zs.getD i 0, rfl, fun i hi => ?_, fun i hi => ?_, ?_, fun h => by cases h⟩
    · obtain ⟨b, off, spot⟩ := y
      have h1 := hcell i (by omega)
      have hspot : spot = none := by simpa [Addr.add] using World.cell?_spot (hcell 0 (by omega))
      subst hspot
      rw [Addr.add_lit] at h1
      exact ⟨b, off, rfl, h1⟩
    · have := range_i64 hwz i
      simpa [List.getD] using this
    · rw [hx] at hb
      have h9 := bulk_slice (lits (H := H) .i64 (zs.take l)) (lits .i64 (zs.drop l))
      have h8 : (lits (H := H) .i64 (zs.take l)).length = l := by simp [lits]; omega
      have hb' : Rows.uptoBulk (DataW.slice (lits (H := H) .i64 (zs.take l)) (lits .i64 (zs.drop l))) ≤ 1048576 := hb
      omega

theorem list4 {α : Type} (l : List α) (h : l.length = 4) : ∃ a b c d, l = [a, b, c, d] := by
  match l, h with
  | [a, b, c, d], _ => exact ⟨a, b, c, d, rfl⟩

theorem open_dosI {H : Type} {enc : TypeId × Value → H} {W : World} {a0 : Option Addr} {n c : Nat} {d : DataW H} {p : List MemPlace} (h : DataW.Trod enc Try.prog W 0 (fun _ => true) true 22 (.slice a0 n c) d p) (hbk : Rows.uptoBulk d ≤ 1048576) :
    n ≤ 1048576 ∧ DosIn W a0 n := by
  obtain ⟨fuel, hf⟩ := h
  rcases Go.Deep.open_slice Try.underlying22 hf with ⟨hcs, _⟩ | ⟨a, len, cap, m, k, D, Pl, hcs, _, hl, hm, hmm, hxx, hx⟩
  · simp [Value.cells] at hcs
    obtain ⟨rfl, rfl, rfl⟩ := hcs
    exact ⟨by decide, fun r hr => by omega⟩
  · simp [Value.cells] at hcs
    obtain ⟨rfl, rfl, rfl⟩ := hcs
    simp only [if_true] at hmm
    subst hmm
    have hd : d = .slice ((List.range n).map D) ((List.range (m - n)).map fun j => D (n + j)) := congrArg Prod.fst hxx
    have hn := bulk_slice ((List.range n).map D) ((List.range (m - n)).map fun j => D (n + j))
    rw [← hd] at hn
    simp only [List.length_map, List.length_range] at hn
    refine ⟨by omega, fun r hr => ?_⟩
    have hDr : Rows.uptoBulk (D r) ≤ 1048576 := by
      have h9 := bulk_in (d := D r) (elems := (List.range n).map D) (spare := (List.range (m - n)).map fun j => D (n + j)) (List.mem_map.2 ⟨r, List.mem_range.2 hr, rfl⟩)
      rw [← hd] at h9
      omega
    obtain ⟨cs', h1, h2⟩ := hx r (by omega)
    rw [cellsDo] at h1
    obtain ⟨_, hlen, hcell⟩ := World.cells?_some h1
    obtain ⟨xs, q, _, hag, _, hxl, hfl⟩ := DataW.trod_struct Try.underlying30 h2
    have hDe : D r = .agg (xs.map (·.1)) := congrArg Prod.fst hag
    obtain ⟨b, off, spot⟩ := a
    have hspot : spot = none := by
      obtain ⟨cs0, m1, _⟩ := hx 0 (by omega)
      rw [cellsDo] at m1
      obtain ⟨_, m2, m3⟩ := World.cells?_some m1
      have m4 := m3 0 (by omega)
      rw [List.getElem?_eq_getElem (by omega)] at m4
      simpa [Addr.add] using World.cell?_spot m4
    subst hspot
    obtain ⟨y0, y1, y2, y3, rfl⟩ := list4 xs hxl
    obtain ⟨v0, v1, v2, v3, rfl⟩ := list4 cs' hlen
    · have g0 := hfl 0 _ rfl
      have g1 := hfl 1 _ rfl
      have g2 := hfl 2 _ rfl
      have g3 := hfl 3 _ rfl
      simp [cells3, cellsB, cellsI] at g0 g1 g2 g3
      rw [hDe] at hDr
      simp only [List.map_cons, List.map_nil, Rows.uptoBulk, Rows.uptoBulkAll] at hDr
      obtain ⟨z0, e0, _⟩ := DataW.trod_int Try.underlying3 g0
      obtain ⟨z1, e1, _⟩ := DataW.trod_int Try.underlying3 g1
      obtain ⟨a2, l2, c2, f2, rfl, k1, k2, k3, k5⟩ := open_bytesB g2 (by omega)
      obtain ⟨a3, l3, c3, f3, rfl, j1, j2, j3, j5⟩ := open_intsB g3 (by omega)
      cases e0
      cases e1
      have c0 := hcell 0 (by omega)
      have c1 := hcell 1 (by omega)
      have c2' := hcell 2 (by omega)
      have c3' := hcell 3 (by omega)
      rw [Go.Deep.add_add] at c0 c1 c2' c3'
      rw [Addr.add_lit] at c0 c1 c2' c3'
      simp only [← Nat.add_assoc] at c0 c1 c2' c3'
      exact ⟨b, off, rfl, z0, z1, a2, l2, c2, f2, a3, l3, c3, f3, ⟨by simpa using c0, by simpa using c1, by simpa using c2', by simpa using c3', k1, k2, k3, k5, j1, j2, j3, j5⟩⟩
end Go.Proofs.Ytnoaobnjecapjaa
