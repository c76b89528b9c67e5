/-
  How bytes and rows of bytes that are handed in are read, by the weights of what is handed in.
-/
import Derived.Test.YtbpolfoagmehhaaRows
import Derived.Test.YtbpolfoagmehhaaNtA
import Derived.ProofKit
import Derived.OpenShut
import Derived.ShutString
import Derived.ChangeOld
import Derived.SizedLaws
import Derived.Deep.Slices
import Derived.Deep.Grids
namespace Go.Proofs.Ytbpolfoagmehhaa
open Go.ChangeShapes Go.WideShapes Go.ChangeAt Go.RowKit
set_option linter.unusedVariables false

theorem own : ownKnob Try.prog.godebug = none := by kernel_rfl
theorem laidOut : laidOutB Try.prog = true := by kernel_rfl
theorem cells5 : Try.prog.cellsOf 5 = 1 := by kernel_rfl
theorem cells3 : Try.prog.cellsOf 3 = 1 := by kernel_rfl
theorem cellsB : Try.prog.cellsOf 29 = 1 := by kernel_rfl
theorem bytes5 : Try.prog.bytesOf 5 = 1 := by kernel_rfl
theorem bytesB : Try.prog.bytesOf 29 = 24 := by kernel_rfl
/-- No part of a datum weighs more than a machine can hold. -/
def Light {H : Type} (t : TypeId) (d : DataW H) : Prop := ∀ x ∈ d.weights Try.prog t, x ≤ reachBytes
theorem light_arg {H : Type} {ts : List TypeId} {ds : List (DataW H)} (h : (DataW.weightsEach Try.prog ts ds).all (· ≤ reachBytes) = true) {j : Nat} {t : TypeId} {d : DataW H} (ht : ts[j]? = some t) (hd : ds[j]? = some d) : Light t d := fun x hx => by
  have := List.all_eq_true.1 h _ (DataW.weights_mem_each ht hd x hx)
  simpa using this
theorem weightsAll_mem {H : Type} {e : TypeId} {d : DataW H} {x : Nat} (hx : x ∈ d.weights Try.prog e) : ∀ {l : List (DataW H)}, d ∈ l → x ∈ DataW.weightsAll Try.prog e l
  | [], h => by cases h
  | y :: r, h => by
    simp only [DataW.weightsAll, List.mem_append]
    rcases List.mem_cons.1 h with rfl | h
    · exact .inl hx
    · exact .inr (weightsAll_mem hx h)
theorem light_slice {H : Type} {t e : TypeId} {elems spare : List (DataW H)} (hu : Try.prog.underlying t = some (.slice e)) (h : Light t (.slice elems spare)) : (elems.length + spare.length) * Try.prog.bytesOf e ≤ reachBytes ∧ ∀ d ∈ elems, Light e d := by
  have key : (DataW.slice elems spare).weights Try.prog t = (elems.length + spare.length) * Try.prog.bytesOf e :: (DataW.weightsAll Try.prog e elems ++ DataW.weightsAll Try.prog e spare) := by simp only [DataW.weights, hu]
  unfold Light at h
  rw [key] at h
  refine ⟨h _ (List.mem_cons_self ..), fun d hd x hx => h x ?_⟩
  exact List.mem_cons_of_mem _ (List.mem_append_left _ (weightsAll_mem hx hd))
theorem open_bytesW {H : Type} {enc : TypeId × Value → H} {W : World} {fuel : Nat} {v : Value} {x : DataW H × List MemPlace} (hf : DataW.trod enc Try.prog W 0 (fun _ => true) true fuel 29 [v] = some x) :
    ∃ a l c f, v = .slice a l c ∧ From W a l f ∧ (∀ i, 0 ≤ f i ∧ f i ≤ 255) ∧ (Light 29 x.1 → l ≤ 140737488355328) ∧ (a = none → c = 0) := by
  rcases open_ints Try.underlying29 Try.underlying5 cells5 hf with ⟨hcs, _⟩ | ⟨y, l, c', zs, hcs, _, hl, hm, hz, hx, hcell, hwz⟩
  · cases hcs
    exact ⟨none, 0, 0, fun _ => 0, rfl, .inl ⟨rfl, rfl⟩, fun _ => (by simp), fun _ => by omega, fun _ => rfl⟩
  · cases hcs
    simp only [if_true] at hz
    refine ⟨some y, l, c', fun i => zs.getD i 0, rfl, .inr ⟨y, rfl, fun i hi => hcell i (by omega)⟩, fun i => ?_, fun hb => ?_, fun h => by cases h⟩
    · have := range_u8 hwz i
      simpa [List.getD] using this
    · rw [hx] at hb
      have hb' : Light 29 (DataW.slice (lits (H := H) .u8 (zs.take l)) (lits .u8 (zs.drop l))) := hb
      have h9 := (light_slice Try.underlying29 hb').1
      rw [bytes5] at h9
      have h8 : (lits (H := H) .u8 (zs.take l)).length = l := by simp [lits]; omega
      simp only [reachBytes] at h9
      omega
/-- Rows of bytes that are handed in. -/
def ImgN (w : World) (a0 : Option Addr) (N : Nat) (A : Nat → Option Addr) (L C : Nat → Nat) (f : Nat → Nat → Int) : Prop :=
  ∀ r, r < N → ∃ b off, a0 = some ⟨b, off, none⟩ ∧ w.cell? ⟨b, off + r, none⟩ = some (.slice (A r) (L r) (C r)) ∧ From w (A r) (L r) (f r) ∧ L r ≤ 140737488355328 ∧ (A r = none → C r = 0)
theorem open_imgN {H : Type} {enc : TypeId × Value → H} {W : World} {a0 : Option Addr} {n c : Nat} {d : DataW H} {p : List MemPlace} (h : DataW.Trod enc Try.prog W 0 (fun _ => true) true 26 (.slice a0 n c) d p) (hw : Light 26 d) :
    n ≤ 5864062014805 ∧ ∃ A L C f, ImgN W a0 n A L C f := by
  obtain ⟨fuel, hf⟩ := h
  rcases Go.Deep.open_slice1 Try.underlying26 cellsB hf with ⟨hcs, _⟩ | ⟨a, len, cap, m, k, V, D, Pl, hcs, _, hl, hm, hmm, hxx, hx⟩
  · simp [Value.cells] at hcs
    obtain ⟨rfl, rfl, rfl⟩ := hcs
    exact ⟨by decide, fun _ => none, fun _ => 0, fun _ => 0, fun _ _ => 0, fun i hi => by omega⟩
  · simp [Value.cells] at hcs
    obtain ⟨rfl, rfl, rfl⟩ := hcs
    simp only [if_true] at hmm
    subst hmm
    have hd : d = .slice ((List.range n).map D) ((List.range (m - n)).map fun j => D (n + j)) := congrArg Prod.fst hxx
    rw [hd] at hw
    obtain ⟨hn, hel⟩ := light_slice Try.underlying26 hw
    rw [bytesB] at hn
    simp only [List.length_map, List.length_range, reachBytes] at hn
    have each : ∀ i, ∃ y : Option Addr × Nat × Nat × (Nat → Int), (i < n → W.cell? (a.add i) = some (.slice y.1 y.2.1 y.2.2.1) ∧ From W y.1 y.2.1 y.2.2.2 ∧ y.2.1 ≤ 140737488355328 ∧ (y.1 = none → y.2.2.1 = 0)) := fun i => by
      by_cases hi : i < n
      · have hDr : Light 29 (D i) := hel _ (List.mem_map.2 ⟨i, List.mem_range.2 hi, rfl⟩)
        obtain ⟨h1, h2⟩ := hx i (by omega)
        obtain ⟨a2, l2, c2, f2, e, k1, k2, k3, k5⟩ := open_bytesW h2
        rw [e] at h1
        exact ⟨(a2, l2, c2, f2), fun _ => ⟨h1, k1, k3 hDr, k5⟩⟩
      · exact ⟨(none, 0, 0, fun _ => 0), fun h => absurd h hi⟩
    obtain ⟨Y, hY⟩ := Classical.axiomOfChoice each
    refine ⟨by omega, fun i => (Y i).1, fun i => (Y i).2.1, fun i => (Y i).2.2.1, fun i => (Y i).2.2.2, fun i hi => ?_⟩
    obtain ⟨h1, h2, h3, h4⟩ := hY i hi
    obtain ⟨b, off, spot⟩ := a
    have hspot : spot = none := by
      have m4 := (hY 0 (by omega)).1
      simpa [Addr.add] using World.cell?_spot m4
    subst hspot
    rw [Addr.add_lit] at h1
    exact ⟨b, off, rfl, h1, h2, h3, h4⟩
end Go.Proofs.Ytbpolfoagmehhaa
