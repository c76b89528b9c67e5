/-
  How slots, a text and bytes that are handed in are read, by the weights of what is handed in.
-/
import Derived.Test.YtdackomidfofgaaRows
import Derived.Test.YtdackomidfofgaaStO
import Derived.ProofKit
import Derived.OpenShut
import Derived.ShutString
import Derived.ChangeOld
import Derived.SizedLaws
import Derived.Deep.Slices
import Derived.Deep.Grids
namespace Go.Proofs.Ytdackomidfofgaa
open Go.ChangeShapes Go.WideShapes Go.ChangeAt Go.RowKit
set_option linter.unusedVariables false

theorem own : ownKnob Try.prog.godebug = none := by kernel_rfl
theorem laidOut : laidOutB Try.prog = true := by kernel_rfl
theorem cells5 : Try.prog.cellsOf 5 = 1 := by kernel_rfl
theorem cells3 : Try.prog.cellsOf 3 = 1 := by kernel_rfl
theorem cells9 : Try.prog.cellsOf 9 = 1 := by kernel_rfl
theorem cellsB : Try.prog.cellsOf 30 = 1 := by kernel_rfl
theorem cellsS : Try.prog.cellsOf 44 = 3 := by kernel_rfl
theorem bytes5 : Try.prog.bytesOf 5 = 1 := by kernel_rfl
theorem bytesS : Try.prog.bytesOf 44 = 48 := by kernel_rfl
/-- No part of a datum weighs more than a machine can hold. -/
def Light {H : Type} (t : TypeId) (d : DataW H) : Prop := ∀ x ∈ d.weights Try.prog t, x ≤ reachBytes
theorem light_arg {H : Type} {ts : List TypeId} {ds : List (DataW H)} (h : (DataW.weightsEach Try.prog ts ds).all (· ≤ reachBytes) = true) {j : Nat} {t : TypeId} {d : DataW H} (ht : ts[j]? = some t) (hd : ds[j]? = some d) : Light t d := fun x hx => by
  have := List.all_eq_true.1 h _ (DataW.weights_mem_each ht hd x hx)
  simpa using this
theorem weightsAll_mem {H : Type} {e : TypeId} {d : DataW H} {x : Nat} (hx : x ∈ d.weights Try.prog e) : ∀ {l : List (DataW H)}, d ∈ l → x ∈ DataW.weightsAll Try.prog e l
  | [], h => by cases h
  | y :: r, h => by
    simp only [DataW.weightsAll, List.mem_append]
    rcases List.mem_cons.1 h with rfl | h
    · exact .inl hx
    · exact .inr (weightsAll_mem hx h)
theorem light_slice {H : Type} {t e : TypeId} {elems spare : List (DataW H)} (hu : Try.prog.underlying t = some (.slice e)) (h : Light t (.slice elems spare)) : (elems.length + spare.length) * Try.prog.bytesOf e ≤ reachBytes ∧ ∀ d ∈ elems, Light e d := by
  have key : (DataW.slice elems spare).weights Try.prog t = (elems.length + spare.length) * Try.prog.bytesOf e :: (DataW.weightsAll Try.prog e elems ++ DataW.weightsAll Try.prog e spare) := by simp only [DataW.weights, hu]
  unfold Light at h
  rw [key] at h
  refine ⟨h _ (List.mem_cons_self ..), fun d hd x hx => h x ?_⟩
  exact List.mem_cons_of_mem _ (List.mem_append_left _ (weightsAll_mem hx hd))
theorem open_bytesW {H : Type} {enc : TypeId × Value → H} {W : World} {fuel : Nat} {v : Value} {x : DataW H × List MemPlace} (hf : DataW.trod enc Try.prog W 0 (fun _ => true) true fuel 30 [v] = some x) :
    ∃ a l c f, v = .slice a l c ∧ From W a l f ∧ (∀ i, 0 ≤ f i ∧ f i ≤ 255) ∧ (Light 30 x.1 → l ≤ 140737488355328) ∧ (a = none → c = 0) := by
  rcases open_ints Try.underlying30 Try.underlying5 cells5 hf with ⟨hcs, _⟩ | ⟨y, l, c', zs, hcs, _, hl, hm, hz, hx, hcell, hwz⟩
  · cases hcs
    exact ⟨none, 0, 0, fun _ => 0, rfl, .inl ⟨rfl, rfl⟩, fun _ => (by simp), fun _ => by omega, fun _ => rfl⟩
  · cases hcs
    simp only [if_true] at hz
    refine ⟨some y, l, c', fun i => zs.getD i 0, rfl, .inr ⟨y, rfl, fun i hi => hcell i (by omega)⟩, fun i => ?_, fun hb => ?_, fun h => by cases h⟩
    · have := range_u8 hwz i
      simpa [List.getD] using this
    · rw [hx] at hb
      have hb' : Light 30 (DataW.slice (lits (H := H) .u8 (zs.take l)) (lits .u8 (zs.drop l))) := hb
      have h9 := (light_slice Try.underlying30 hb').1
      rw [bytes5] at h9
      have : (lits (H := H) .u8 (zs.take l)).length = (zs.take l).length := by simp [lits]
      rw [this, List.length_take] at h9
      unfold reachBytes at h9
      omega
theorem open_rec {H : Type} {enc : TypeId × Value → H} {W : World} {a0 : Option Addr} {n c : Nat} {d : DataW H} {p : List MemPlace} (h : DataW.Trod enc Try.prog W 0 (fun _ => true) true 30 (.slice a0 n c) d p) (hw : Light 30 d) :
    ∃ f, From W a0 n f ∧ n ≤ 140737488355328 := by
  obtain ⟨fuel, hf⟩ := h
  obtain ⟨a, l, c', f, e, k1, k2, k3, k4⟩ := open_bytesW hf
  cases e
  exact ⟨f, k1, k3 hw⟩
theorem list3 {α : Type} (l : List α) (h : l.length = 3) : ∃ a b c, l = [a, b, c] := by
  match l, h with
  | [a, b, c], _ => exact ⟨a, b, c, rfl⟩
set_option maxRecDepth 100000 in
theorem open_slotsX {H : Type} {enc : TypeId × Value → H} {W : World} {a0 : Option Addr} {n c : Nat} {d : DataW H} {p : List MemPlace} (h : DataW.Trod enc Try.prog W 0 (fun _ => true) true 42 (.slice a0 n c) d p) (hw : Light 42 d) :
    n ≤ 3000000000000 ∧ ∀ r, r < n → ∃ b off, a0 = some ⟨b, off, none⟩ ∧ ∃ s v a l c f, SlA W b (off + r * 3) s v a l c f := by
  obtain ⟨fuel, hf⟩ := h
  rcases Go.Deep.open_slice Try.underlying42 hf with ⟨hcs, _⟩ | ⟨a, len, cap, m, k, D, Pl, hcs, _, hl, hm, hmm, hxx, hx⟩
  · simp [Value.cells] at hcs
    obtain ⟨rfl, rfl, rfl⟩ := hcs
    exact ⟨by decide, fun r hr => by omega⟩
  · simp [Value.cells] at hcs
    obtain ⟨rfl, rfl, rfl⟩ := hcs
    simp only [if_true] at hmm
    subst hmm
    have hd : d = .slice ((List.range n).map D) ((List.range (m - n)).map fun j => D (n + j)) := congrArg Prod.fst hxx
    rw [hd] at hw
    obtain ⟨hn, hel⟩ := light_slice Try.underlying42 hw
    rw [bytesS] at hn
    simp only [List.length_map, List.length_range, reachBytes] at hn
    refine ⟨by omega, fun r hr => ?_⟩
    obtain ⟨cs', h1, h2⟩ := hx r (by omega)
    rw [cellsS] at h1
    obtain ⟨_, hlen, hcell⟩ := World.cells?_some h1
    obtain ⟨xs, q, _, hag, _, hxl, hfl⟩ := DataW.trod_struct Try.underlying44 h2
    obtain ⟨b, off, spot⟩ := a
    have hspot : spot = none := by
      obtain ⟨cs0, m1, _⟩ := hx 0 (by omega)
      rw [cellsS] at m1
      obtain ⟨_, m2, m3⟩ := World.cells?_some m1
      have m4 := m3 0 (by omega)
      rw [List.getElem?_eq_getElem (by omega)] at m4
      simpa [Addr.add] using World.cell?_spot m4
    subst hspot
    obtain ⟨y0, y1, y2, rfl⟩ := list3 xs hxl
    obtain ⟨v0, v1, v2, rfl⟩ := list3 cs' hlen
    have g0 := hfl 0 _ rfl
    have g1 := hfl 1 _ rfl
    have g2 := hfl 2 _ rfl
    simp [cells3, cellsB, cells9] at g0 g1 g2
    have hDr : Light 44 (D r) := hel (D r) (List.mem_map.2 ⟨r, List.mem_range.2 hr, rfl⟩)
    have hal : ∀ x ∈ DataW.weightsEach Try.prog [9, 3, 30] [y0.1, y1.1, y2.1], x ≤ reachBytes := fun x hx => by
      refine hDr x ?_
      rw [show D r = .agg [y0.1, y1.1, y2.1] from congrArg Prod.fst hag]
      have key : (DataW.agg [y0.1, y1.1, y2.1]).weights Try.prog 44 = DataW.weightsEach Try.prog [9, 3, 30] [y0.1, y1.1, y2.1] := by
        simp only [DataW.weights, Try.underlying44]
        rfl
      rw [key]
      exact hx
    have hy2 : Light 30 y2.1 := fun x hx => hal x (DataW.weights_mem_each (j := 2) rfl rfl x hx)
    obtain ⟨s0, e0, es, hs0⟩ := DataW.trod_string Try.underlying9 g0
    have hsl : s0.data.toList.length ≤ reachBytes := by
      refine sized_string (P := Try.prog) (ts := [9, 3, 30]) (ds := [y0.1, y1.1, y2.1]) (List.all_eq_true.2 (fun x hx => by simpa using hal x hx)) (j := 0) (t := 9) rfl ?_
      show some y0.1 = _
      rw [es]
    obtain ⟨z1, e1, _⟩ := DataW.trod_int Try.underlying3 g1
    obtain ⟨a2, l2, c2, f2, e2, k1, k2, k3, k4⟩ := open_bytesW g2
    cases e0
    cases e1
    subst e2
    have hc0 := hcell 0 (by omega)
    have hc1 := hcell 1 (by omega)
    have hc2 := hcell 2 (by omega)
    rw [Go.Deep.add_add] at hc0 hc1 hc2
    rw [Addr.add_lit] at hc0 hc1 hc2
    simp only [← Nat.add_assoc] at hc0 hc1 hc2
    have hsz : s0.size ≤ 140737488355328 := by
      rw [Array.length_toList] at hsl
      have hsl : s0.size ≤ reachBytes := hsl
      unfold reachBytes at hsl
      omega
    exact ⟨b, off, rfl, s0, z1, a2, l2, c2, f2, ⟨by simpa using hc0, by simpa using hc1, by simpa using hc2, k1, k3 hy2, hsz, k4⟩⟩
theorem open_slots {H : Type} {enc : TypeId × Value → H} {W : World} {a0 : Option Addr} {n c : Nat} {d : DataW H} {p : List MemPlace} (h : DataW.Trod enc Try.prog W 0 (fun _ => true) true 42 (.slice a0 n c) d p) (hw : Light 42 d) :
    n ≤ 3000000000000 ∧ ∃ sm bl, Sls W a0 n sm bl := by
  obtain ⟨hn, hall⟩ := open_slotsX h hw
  refine ⟨hn, ?_⟩
  have hex : ∀ r, ∃ q : ByteArray × Nat, r < n → ∃ b off, a0 = some ⟨b, off, none⟩ ∧ ∃ v a c f, SlA W b (off + r * 3) q.1 v a q.2 c f := fun r => by
    by_cases hr : r < n
    · obtain ⟨b, off, e, s, v, a, l, c, f, hs⟩ := hall r hr
      exact ⟨(s, l), fun _ => ⟨b, off, e, v, a, c, f, hs⟩⟩
    · exact ⟨(⟨#[]⟩, 0), fun h => absurd h hr⟩
  obtain ⟨g, hg⟩ := Classical.axiomOfChoice hex
  exact ⟨fun r => (g r).1, fun r => (g r).2, fun r hr => hg r hr⟩
end Go.Proofs.Ytdackomidfofgaa
