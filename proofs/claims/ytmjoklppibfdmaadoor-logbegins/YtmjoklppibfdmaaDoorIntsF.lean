/-
  Contracts of slices.Clone and slices.Equal over numbers that were handed in.
-/
import Derived.Test.YtmjoklppibfdmaaDoorDkCrash2
namespace Go.Proofs.YtmjoklppibfdmaaDoor
open Go.RowKit
set_option linter.unusedVariables false

/-- append of numbers, wherever they lie, onto numbers of the call's own. -/
theorem wpList_appF {w : World} {ops : Array Oper} {rest : List Oper} {o : Oper} {a : Act} {Q : Exit → Act → World → Prop} (hgd : o.guard = none) (s x : Operand) (ho : o.op = .call { callee := .builtin .append, args := #[s, x], argTypes := #[89, 89] })
    (B : Nat) (v : Value) (xs : List Int) (hs : a.eval s = v) (hown : OwnI w B v xs) (a2 : Addr) (f : Nat → Int) (m c : Nat) (hx : a.eval x = .slice (some a2) m c) (hf : FromI w (some a2) m f)
    (hbig : xs.length + m ≤ 8796093022208) (hB : B ≤ w.heap.size)
    (h : ∀ v' w', OwnI w' B v' (xs ++ lst f m) → Below B w w' → wpList Tryd.prog ops Q rest (a.put o.dst v') w') : wpList Tryd.prog ops Q (o :: rest) a w := by
  obtain ⟨i0, hi, hz0, hz1, hz2⟩ := info_parts info3
  have hown' : w.ownsRow B 3 1 v xs.length (xs.map (Value.int .i64)) := hown
  refine wpList_append_own w hgd s x 89 ho B 3 i0 (.int .i64 0) 1 8 Tryd.underlying89 hi hz0 hz1 hz2 rfl (by decide) v xs.length (xs.map (Value.int .i64)) hs hown' a2 m c ((lst f m).map (Value.int .i64)) hx (by simp [lst_length]) ?_ ?_ (by unfold maxLen; omega) (by omega) hB ?_
  · intro j u hj
    have hjm : j < m := by
      have := (List.getElem?_eq_some_iff.1 hj).1
      simpa [lst_length] using this
    obtain ⟨b, off, e, hc⟩ := hf j hjm
    cases e
    rw [Addr.add_lit, hc]
    rw [List.getElem?_map, lst_get f m j hjm] at hj
    simpa using hj
  · intro u hu
    obtain ⟨y, _, rfl⟩ := List.mem_map.1 hu
    rfl
  · intro v' w' h3 h4 _
    refine h v' w' ?_ ((Below.refl _ w).grown h4 hB (fun q hq => (World.ownsRow.lt hown q hq).1))
    unfold OwnI
    rw [List.length_append, lst_length, List.map_append]
    exact h3
theorem FromI.below {w w' : World} {B : Nat} {a : Option Addr} {n : Nat} {f : Nat → Int} (h : FromI w a n f) (hb : Below B w w') (hB : w.heap.size ≤ B) : FromI w' a n f := fun i hi => by
  obtain ⟨b, off, e, hc⟩ := h i hi
  exact ⟨b, off, e, by rw [hb.cell (p := ⟨b, off + i, none⟩) (Nat.lt_of_lt_of_le (World.block_lt_of_cell? w _ hc) hB)]; exact hc⟩
theorem OwnI.fromI2 {w : World} {B n c : Nat} {a : Option Addr} {f : Nat → Int} (h : OwnI w B (.slice a n c) (lst f n)) : FromI w a n f := fun i hi => by
  obtain ⟨g, c', e, ho, _⟩ := ownI_some h (show 0 < n by omega)
  injection e with e1 e2 e3
  subst e1
  exact ⟨g, 0, rfl, by rw [Nat.zero_add]; exact OwnI.cellF ho i hi⟩

set_option maxRecDepth 100000 in
set_option maxHeartbeats 400000 in
theorem cloneF (a0 : Option Addr) (n c : Nat) (f : Nat → Int) (w : World) (hbig : n ≤ 8796093022208) (hf : FromI w a0 n f) (hz : a0 = none → n = 0 ∧ c = 0) :
    Calls Tryd.prog 51 #[.slice a0 n c] w fun e w' => ∃ a c', e = .returned (.slice a n c') ∧ OwnI w' w.heap.size (.slice a n c') (lst f n) ∧ Below w.heap.size w w' := by
  have hq : ∀ (w : World) (a : Option Addr) (n c n' c' : Nat), (binOp .eql 89 (.slice a n c) (.slice none n' c')).run Tryd.prog w = .ok (.bool a.isNone) w := fun w a n c n' c' => Lib.run_eql_slice_nil w _ _ a n c n' c' Tryd.underlying89
  cases a0 with
  | none =>
    obtain ⟨rfl, rfl⟩ := hz rfl
    have H0 : Hid (OwnI w w.heap.size (.slice none 0 0) (lst f 0)) := World.ownsRow_nil _ _ _ _
    clear hf hz
    go_enter Tryd.func51, Tryd.ntmps51
    go_wp2
    go_ret
    exact ⟨none, 0, rfl, H0.out, Below.refl _ _⟩
  | some x =>
    have hm : OwnI (w.alloc (.cells #[] 3)) w.heap.size (.slice (some ⟨w.heap.size, 0, none⟩) 0 0) [] := World.ownsRow_made w #[] 0 (Nat.le_refl _) (Nat.zero_le _) rfl
    have HF : Hid (FromI (w.alloc (.cells #[] 3)) (some x) n f) := hf.below ((Below.refl _ w).alloc (Nat.le_refl _) _) (Nat.le_refl _)
    clear hf hz
    go_enter Tryd.func51, Tryd.ntmps51
    go_wp2_with (at_builtin; refine wpList_appF rfl _ _ rfl w.heap.size _ [] rfl hm x f n c rfl HF.out ?q2 ?q3 ?_)
    case q2 => simp; omega
    case q3 => simp
    intro v' w' ho hb
    have hb2 := ((Below.refl w.heap.size w).alloc (Nat.le_refl _) (.cells #[] 3)).trans hb
    obtain ⟨a', c', rfl⟩ := ownI_any (n := n) (f := f) ho
    go_wp2
    go_ret
    exact ⟨a', c', rfl, ho, hb2⟩
end Go.Proofs.YtmjoklppibfdmaaDoor
