/-
  append of a text's bytes onto a slice of the call's own.
-/
import Derived.Test.YtdcclfnbpckioaaGreatDoorPut
import Derived.Laws.AppendOwnNone
import Derived.Lib.AppendStr
namespace Go.Proofs.YtdcclfnbpckioaaGreatDoor
open Go.RowKit
set_option linter.unusedVariables false
section
variable {w : World} {ops : Array Oper} {rest : List Oper} {o : Oper} {a : Act} {Q : Exit → Act → World → Prop}
theorem wpList_appStr (hgd : o.guard = none) (sl x : Operand) (ho : o.op = .call { callee := .builtin .append, args := #[sl, x], argTypes := #[22, 9] })
    (B : Nat) (v : Value) (xs : List Int) (hs : a.eval sl = v) (hown : Own w B v xs) (s : ByteArray) (hx : a.eval x = .string s)
    (hbig : xs.length + s.size ≤ 140737488355328) (hB : B ≤ w.heap.size)
    (h : ∀ v' w', Own w' B v' (xs ++ s.data.toList.map (fun b => (b.toNat : Int))) → Below B w w' → wpList Tryz.prog ops Q rest (a.put o.dst v') w') : wpList Tryz.prog ops Q (o :: rest) a w := by
  obtain ⟨i0, hi, hz0, hz1, hz2⟩ := info_parts info5
  refine Lib.wpList_append_own_string w hgd sl x 22 9 ho B 5 i0 Tryz.underlying22 Tryz.underlying9 hi hz0 hz1 hz2 v xs.length (xs.map (Value.int .u8)) hs hown s hx (by unfold maxLen; omega) hbig hB ?_
  intro v' w' h3 h4 _
  refine h v' w' ?_ ((Below.refl _ w).grown h4 hB (fun q hq => (World.ownsRow.lt hown q hq).1))
  unfold Own
  rw [List.length_append, List.map_append, List.length_map]
  have e : (s.data.toList.map (fun b => (b.toNat : Int))).map (Value.int .u8) = Lib.strCells s := by
    simp [Lib.strCells]
  rw [e, show s.data.toList.length = s.size from Array.length_toList]
  exact h3
end
end Go.Proofs.YtdcclfnbpckioaaGreatDoor
