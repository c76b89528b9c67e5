/-
  Maps from numbers, told by what stands under the first ten (Im): made, looked up, stored.
-/
import Derived.Test.YtnaobkpncfbnaaaGreatDoorHwM
import Derived.Maps.OwnSet
import Derived.Maps.OwnOps
namespace Go.Proofs.YtnaobkpncfbnaaaGreatDoor
open Go.RowKit
set_option linter.unusedVariables false

theorem lawK : Go.Maps.Keyed Tryz.prog 3 := Go.Maps.int_keyed Tryz.underlying3
theorem zeroB (w : World) : (zeroValue 36).run Tryz.prog w = .ok (.slice none 0 0) w := by kernel_rfl
theorem zero3 (w : World) : (zeroValue 3).run Tryz.prog w = .ok (.int .i64 0) w := by kernel_rfl
def idR (v : Value) : Option (DataW Value × List MemPlace) := some (.held v, [])
/-- Block b is a map from numbers; f tells what stands under the first ten. -/
def Im (w : World) (b n : Nat) (f : Nat → Option Value) : Prop := ∃ D : DataW Value, w.ownsMap Tryz.prog 3 idR b n D ∧ ∀ i : Nat, i < 10 → Go.Maps.has D (.int .i64 (i : Int)) = (f i).isSome ∧ ∀ z, D.atKey (.int .i64 (i : Int)) (.held z) = .held ((f i).getD z)
theorem Im.part {w w' : World} {F : Nat → Prop} {b n : Nat} {f : Nat → Option Value} (h : Im w b n f) (hp : Part F w w') (hn : ¬ F b) : Im w' b n f := by
  obtain ⟨D, h1, h2⟩ := h
  have hl := h1.lt
  obtain ⟨es, clock, hb, rest⟩ := h1
  exact ⟨D, ⟨es, clock, by rw [hp.block b hl hn]; exact hb, rest⟩, h2⟩
theorem Im.lt {w : World} {b n : Nat} {f : Nat → Option Value} (h : Im w b n f) : b < w.heap.size := by
  obtain ⟨D, h1, _⟩ := h
  exact h1.lt
theorem Im.isMap {w : World} {b n : Nat} {f : Nat → Option Value} (h : Im w b n f) : ∃ es c, w.heap[b]? = some (.map es c) := by
  obtain ⟨D, ⟨es, clock, hb, _⟩, _⟩ := h
  exact ⟨es, clock, hb⟩
theorem Im.made (w : World) : Im (w.alloc (.map #[] 0)) w.heap.size 0 (fun _ => none) := ⟨.map [], World.ownsMap_made _ _ _ _, fun i hi => ⟨rfl, fun z => rfl⟩⟩
theorem key_i {i : Nat} (hi : i < 10) : keyOf Tryz.prog 3 (.int .i64 (i : Int)) = some (.int .i64 (i : Int)) := Go.Maps.keyOf_int_mk Tryz.underlying3 (WalkArith.wf_i64 (n := (i : Int)) (by omega))
set_option maxRecDepth 10000 in
theorem Im.lookB {w : World} {b n i : Nat} {f : Nat → Option Value} (h : Im w b n f) (hi : i < 10) : (Instr.lookup 35 (.map (some b)) (.int .i64 (i : Int)) true).run Tryz.prog w = .ok (.tuple #[(f i).getD (.slice none 0 0), .bool (f i).isSome]) w := by
  obtain ⟨D, h1, h2⟩ := h
  obtain ⟨v, ps, hr, hv⟩ := h1.look_ok lawK Tryz.underlying35 (zeroB w) (show idR (.slice none 0 0) = some (.held (.slice none 0 0), []) from rfl) (key_i hi)
  have e2 := (h2 i hi).2 (.slice none 0 0)
  rw [(h2 i hi).1] at hr
  have hv := hv.trans (congrArg (fun d => some (d, ps)) e2)
  injection hv with hv
  injection hv with hv _
  injection hv with hv
  rw [hr, hv]
set_option maxRecDepth 10000 in
theorem Im.lookI {w : World} {b n i : Nat} {f : Nat → Option Value} (h : Im w b n f) (hi : i < 10) : (Instr.lookup 60 (.map (some b)) (.int .i64 (i : Int)) false).run Tryz.prog w = .ok ((f i).getD (.int .i64 0)) w := by
  obtain ⟨D, h1, h2⟩ := h
  obtain ⟨v, ps, hr, hv⟩ := h1.lookup lawK Tryz.underlying60 (zero3 w) (show idR (.int .i64 0) = some (.held (.int .i64 0), []) from rfl) (key_i hi)
  rw [(h2 i hi).2] at hv
  injection hv with hv
  injection hv with hv _
  injection hv with hv
  rw [hr, hv]
/-- The function with another value at z. -/
def upd {α : Type} (f : Nat → α) (z : Nat) (v : α) : Nat → α := fun p => if p = z then v else f p
theorem upd_at {α : Type} (f : Nat → α) (z : Nat) (v : α) : upd f z v z = v := if_pos rfl
theorem upd_ne {α : Type} (f : Nat → α) {z p : Nat} (v : α) (h : p ≠ z) : upd f z v p = f p := if_neg h
theorem Im.put {w w' : World} {b n z : Nat} {f : Nat → Option Value} {D : DataW Value} (v : Value) (h2 : ∀ i : Nat, i < 10 → Go.Maps.has D (.int .i64 (i : Int)) = (f i).isSome ∧ ∀ z, D.atKey (.int .i64 (i : Int)) (.held z) = .held ((f i).getD z)) (hm : Go.Maps.IsMap D) (h : w'.ownsMap Tryz.prog 3 idR b n (D.put (.int .i64 (z : Int)) (.held v))) : Im w' b n (upd f z (some v)) := by
  refine ⟨_, h, fun i hi => ?_⟩
  by_cases e : i = z
  · subst e
    rw [upd_at]
    exact ⟨Go.Maps.has_put_same hm (by exact True.intro) _, fun z => Go.Maps.atKey_put_same hm (by exact True.intro) _ _⟩
  · have hne : Lit.int .i64 (i : Int) ≠ Lit.int .i64 (z : Int) := fun h => by
      injection h with _ h
      omega
    rw [upd_ne f (some v) e, Go.Maps.has_put_other hne]
    exact ⟨(h2 i hi).1, fun y => by rw [Go.Maps.atKey_put_other hne]; exact (h2 i hi).2 y⟩
set_option maxRecDepth 10000 in
/-- Storing: the walk's step, with what comes of the map. -/
theorem Im.store {w : World} {b n z : Nat} {f : Nat → Option Value} (h : Im w b n f) (t e : TypeId) (ht : Tryz.prog.underlying t = some (.map 3 e)) (hn : n < 1000) (hz : z < 10) (v : Value) : ∃ w', (Instr.mapUpdate t (.map (some b)) (.int .i64 (z : Int)) v).run Tryz.prog w = .ok () w' ∧ Im w' b (n + 1) (upd f z (some v)) ∧ Part (fun k => k = b) w w' := by
  obtain ⟨D, h1, h2⟩ := h
  obtain ⟨w', hr, hm, ht'⟩ := h1.store lawK ht (by unfold maxLen; omega) (key_i hz) (show idR v = some (.held v, []) from rfl)
  exact ⟨w', hr, Im.put (w := w) v h2 h1.isMap hm, (Part.refl _ w).grown ht'.grown (fun q hq _ => by injection hq with hq; exact hq.symm)⟩
end Go.Proofs.YtnaobkpncfbnaaaGreatDoor
