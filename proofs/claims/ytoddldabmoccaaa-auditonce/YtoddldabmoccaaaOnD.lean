/-
  AuditOnce: the law's walk, and how a journal that is handed in is read.
-/
import Derived.Test.YtoddldabmoccaaaRows
import Derived.Test.YtoddldabmoccaaaOnB
import Derived.Test.YtoddldabmoccaaaOnC
import Derived.ProofKit
import Derived.OpenShut
import Derived.ShutString
import Derived.ChangeOld
import Derived.SizedLaws
import Derived.Deep.Slices
import Derived.Deep.Grids
namespace Go.Proofs.Ytoddldabmoccaaa
open Go.ChangeShapes Go.WideShapes Go.ChangeAt Go.RowKit
set_option linter.unusedVariables false

theorem audit_once {w : World} {a0 : Option Addr} {n c : Nat} {E : Nat → Ent} (hE : Ens w a0 n E) (hn : n ≤ 1759218604441) (hc : n ≤ c) :
    Calls Try.prog 3 #[.slice a0 n c] w fun e w' => e = .returned (.bool true) ∧ Below w.heap.size w w' := by
  have H1 := a_once (c := c) hE hn
  have H2 : Hid (∀ w1, Below w.heap.size w w1 → Calls Try.prog 5 #[.slice a0 n c] w1 fun e w' => e = .returned (.int .i64 (res E n)) ∧ Below w1.heap.size w1 w') := fun w1 hb => r_once (hE.below hb) hn hc
  clear hE
  go_enter Try.func3, Try.ntmps3
  go_wp2_with first
    | (go_at_call 4; refine H1.mono ?_; clear H1; rintro e w1 ⟨rfl, hb1⟩; have H3 := H2.out w1 hb1; clear H2)
    | (go_at_call 5; refine H3.mono ?_; clear H3; rintro e w2 ⟨rfl, hb2⟩)
  go_ret
  exact ⟨by simp, hb1.trans (hb2.mono hb1.size)⟩

theorem own : ownKnob Try.prog.godebug = none := by kernel_rfl
theorem laidOut : laidOutB Try.prog = true := by kernel_rfl
theorem cells3 : Try.prog.cellsOf 3 = 1 := by kernel_rfl
theorem cells9 : Try.prog.cellsOf 9 = 1 := by kernel_rfl
theorem cellsR : Try.prog.cellsOf 28 = 5 := by kernel_rfl
theorem cellsE : Try.prog.cellsOf 30 = 7 := by kernel_rfl
theorem bytesE : Try.prog.bytesOf 30 = 80 := by kernel_rfl
/-- No part of a datum weighs more than a machine can hold. -/
def Light {H : Type} (t : TypeId) (d : DataW H) : Prop := ∀ x ∈ d.weights Try.prog t, x ≤ reachBytes
theorem light_arg {H : Type} {ts : List TypeId} {ds : List (DataW H)} (h : (DataW.weightsEach Try.prog ts ds).all (· ≤ reachBytes) = true) {j : Nat} {t : TypeId} {d : DataW H} (ht : ts[j]? = some t) (hd : ds[j]? = some d) : Light t d := fun x hx => by
  have := List.all_eq_true.1 h _ (DataW.weights_mem_each ht hd x hx)
  simpa using this
theorem light_slice {H : Type} {t e : TypeId} {elems spare : List (DataW H)} (hu : Try.prog.underlying t = some (.slice e)) (h : Light t (.slice elems spare)) : (elems.length + spare.length) * Try.prog.bytesOf e ≤ reachBytes := by
  have key : (DataW.slice elems spare).weights Try.prog t = (elems.length + spare.length) * Try.prog.bytesOf e :: (DataW.weightsAll Try.prog e elems ++ DataW.weightsAll Try.prog e spare) := by simp only [DataW.weights, hu]
  unfold Light at h
  rw [key] at h
  exact h _ (List.mem_cons_self ..)
theorem list3 {α : Type} (l : List α) (h : l.length = 3) : ∃ a b c, l = [a, b, c] := by
  match l, h with
  | [a, b, c], _ => exact ⟨a, b, c, rfl⟩
theorem list5 {α : Type} (l : List α) (h : l.length = 5) : ∃ a b c d e, l = [a, b, c, d, e] := by
  match l, h with
  | [a, b, c, d, e], _ => exact ⟨a, b, c, d, e, rfl⟩
theorem list7 {α : Type} (l : List α) (h : l.length = 7) : ∃ a b c d e f g, l = [a, b, c, d, e, f, g] := by
  match l, h with
  | [a, b, c, d, e, f, g], _ => exact ⟨a, b, c, d, e, f, g, rfl⟩
instance : Inhabited Ent := ⟨⟨0, ⟨#[]⟩, ⟨#[]⟩, 0, 0, 0, ⟨#[]⟩⟩⟩
set_option maxRecDepth 100000 in
theorem open_ents {H : Type} {enc : TypeId × Value → H} {W : World} {a0 : Option Addr} {n c : Nat} {d : DataW H} {p : List MemPlace} (h : DataW.Trod enc Try.prog W 0 (fun _ => true) true 22 (.slice a0 n c) d p) (hw : Light 22 d) :
    n ≤ 1759218604441 ∧ n ≤ c ∧ ∃ E, Ens W a0 n E := by
  obtain ⟨fuel, hf⟩ := h
  rcases Go.Deep.open_slice Try.underlying22 hf with ⟨hcs, _⟩ | ⟨a, len, cap, m, k, D, Pl, hcs, _, hl, hm, hmm, hxx, hx⟩
  · simp [Value.cells] at hcs
    obtain ⟨rfl, rfl, rfl⟩ := hcs
    exact ⟨by decide, by decide, fun _ => default, fun r hr => by omega⟩
  · simp [Value.cells] at hcs
    obtain ⟨rfl, rfl, rfl⟩ := hcs
    simp only [if_true] at hmm
    subst hmm
    have hd : d = .slice ((List.range n).map D) ((List.range (m - n)).map fun j => D (n + j)) := congrArg Prod.fst hxx
    rw [hd] at hw
    have hn := light_slice Try.underlying22 hw
    rw [bytesE] at hn
    simp only [List.length_map, List.length_range, reachBytes] at hn
    refine ⟨by omega, by omega, ?_⟩
    obtain ⟨E, hE⟩ := Go.Deep.choose_lt (n := n) (p := fun r (x : Ent) => ∃ b off, some a = some ⟨b, off, none⟩ ∧ EnA W b (off + r * 7) x) (fun r hr => by
      obtain ⟨cs', h1, h2⟩ := hx r (by omega)
      rw [cellsE] at h1
      obtain ⟨_, hlen, hcell⟩ := World.cells?_some h1
      obtain ⟨xs, q, _, hag, _, hxl, hfl⟩ := DataW.trod_struct Try.underlying30 h2
      obtain ⟨b, off, spot⟩ := a
      have hspot : spot = none := by
        obtain ⟨cs0, m1, _⟩ := hx 0 (by omega)
        rw [cellsE] at m1
        obtain ⟨_, m2, m3⟩ := World.cells?_some m1
        have m4 := m3 0 (by omega)
        rw [List.getElem?_eq_getElem (by omega)] at m4
        simpa [Addr.add] using World.cell?_spot m4
      subst hspot
      obtain ⟨y0, y1, y2, rfl⟩ := list3 xs hxl
      obtain ⟨v0, v1, v2, v3, v4, v5, v6, rfl⟩ := list7 cs' hlen
      have g0 := hfl 0 _ rfl
      have g1 := hfl 1 _ rfl
      have g2 := hfl 2 _ rfl
      simp [cells3, cells9, cellsR] at g0 g1 g2
      obtain ⟨z0, e0, _⟩ := DataW.trod_int Try.underlying3 g0
      obtain ⟨s1, e1, _, hs1⟩ := DataW.trod_string Try.underlying9 g1
      obtain ⟨xs2, q2, _, hag2, _, hxl2, hfl2⟩ := DataW.trod_struct Try.underlying28 g2
      obtain ⟨y3, y4, y5, y6, y7, rfl⟩ := list5 xs2 hxl2
      have g3 := hfl2 0 _ rfl
      have g4 := hfl2 1 _ rfl
      have g5 := hfl2 2 _ rfl
      have g6 := hfl2 3 _ rfl
      have g7 := hfl2 4 _ rfl
      simp [cells3, cells9] at g3 g4 g5 g6 g7
      obtain ⟨s3, e3, _, _⟩ := DataW.trod_string Try.underlying9 g3
      obtain ⟨z4, e4, _⟩ := DataW.trod_int Try.underlying3 g4
      obtain ⟨z5, e5, _⟩ := DataW.trod_int Try.underlying3 g5
      obtain ⟨z6, e6, _⟩ := DataW.trod_int Try.underlying3 g6
      obtain ⟨s7, e7, _, _⟩ := DataW.trod_string Try.underlying9 g7
      cases e0
      cases e1
      cases e3
      cases e4
      cases e5
      cases e6
      cases e7
      have hc0 := hcell 0 (by omega)
      have hc1 := hcell 1 (by omega)
      have hc2 := hcell 2 (by omega)
      have hc3 := hcell 3 (by omega)
      have hc4 := hcell 4 (by omega)
      have hc5 := hcell 5 (by omega)
      have hc6 := hcell 6 (by omega)
      rw [Go.Deep.add_add] at hc0 hc1 hc2 hc3 hc4 hc5 hc6
      rw [Addr.add_lit] at hc0 hc1 hc2 hc3 hc4 hc5 hc6
      simp only [← Nat.add_assoc] at hc0 hc1 hc2 hc3 hc4 hc5 hc6
      exact ⟨⟨z0, s1, s3, z4, z5, z6, s7⟩, b, off, rfl, by simpa using hc0, by simpa using hc1, by simpa using hc2, by simpa using hc3, by simpa using hc4, by simpa using hc5, by simpa using hc6, hs1⟩)
    exact ⟨E, fun r hr => hE r hr⟩
end Go.Proofs.Ytoddldabmoccaaa
