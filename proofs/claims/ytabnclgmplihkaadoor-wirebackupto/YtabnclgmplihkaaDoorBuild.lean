/-
  Slices of bytes that a call builds (Own), slices wherever they stand (From), and what an append does to the one by the other. Conditions: at most 2^47 bytes.
-/
import Derived.Test.YtabnclgmplihkaaDoorPut
import Derived.Laws.AppendOwnNone
import Derived.Lib.AppendStr

namespace Go.Proofs.YtabnclgmplihkaaDoor
open Go.RowKit
set_option linter.unusedVariables false

def From (w : World) (a0 : Option Addr) (n : Nat) (f : Nat → Int) : Prop := (a0 = none ∧ n = 0) ∨ ∃ x, a0 = some x ∧ ∀ i, i < n → w.cell? (x.add i) = some (.int .u8 (f i))
def fn (xs : List Int) : Nat → Int := fun i => xs.getD i 0
theorem lst_fn (xs : List Int) : lst (fn xs) xs.length = xs := by
  apply List.ext_getElem?
  intro i
  by_cases h : i < xs.length
  · rw [lst_get _ _ _ h, List.getElem?_eq_getElem h]
    simp [fn, List.getD, h]
  · rw [List.getElem?_eq_none (by rw [lst_length]; omega), List.getElem?_eq_none (by omega)]

theorem From.lay {w : World} {ao : Option Addr} {n : Nat} {f : Nat → Int} (h : From w ao n f) : Lay w ao n f := by
  rcases h with ⟨_, h⟩ | ⟨⟨b, off, spot⟩, h1, h2⟩
  · exact .inl h
  · by_cases hn : n = 0
    · exact .inl hn
    · have h0 := h2 0 (by omega)
      have hspot : spot = none := by simpa [Addr.add] using World.cell?_spot h0
      subst hspot
      exact .inr ⟨b, off, h1, fun i hi => by rw [← Addr.add_lit]; exact h2 i hi⟩
theorem From.below {w w' : World} {B : Nat} {ao : Option Addr} {n : Nat} {f : Nat → Int} (h : From w ao n f) (hb : Below B w w') (hB : w.heap.size ≤ B) : From w' ao n f := by
  rcases h with h | ⟨x, h1, h2⟩
  · exact .inl h
  · exact .inr ⟨x, h1, fun i hi => by
      have := h2 i hi
      rw [hb.cell (p := x.add i) (Nat.lt_of_lt_of_le (World.block_lt_of_cell? w _ this) hB)]
      exact this⟩
theorem From.alloc {w : World} {ao : Option Addr} {n : Nat} {f : Nat → Int} (h : From w ao n f) (o : Obj) : From (w.alloc o) ao n f := h.below ((Below.refl _ w).alloc (Nat.le_refl _) o) (Nat.le_refl _)

theorem own_at {w : World} {base g n cap : Nat} {xs : List Int} (h : w.ownsRow base 5 1 (.slice (some ⟨g, 0, none⟩) n cap) n (xs.map (Value.int .u8))) (i : Nat) (hi : i < n) (hn : n = xs.length) : w.cell? ⟨g, i, none⟩ = some (.int .u8 (fn xs i)) := by
  rw [h.cellAt i (by omega), List.getElem?_map, List.getElem?_eq_getElem (by omega)]
  simp [fn, List.getD, List.getElem?_eq_getElem (show i < xs.length by omega)]

/-- What a slice of the call's own is, opened. -/
theorem Own.open {w : World} {B : Nat} {v : Value} {xs : List Int} (h : Own w B v xs) :
    ∃ ao c, v = .slice ao xs.length c ∧ From w ao xs.length (fn xs) ∧ (ao = none → c = 0) ∧ xs.length ≤ c ∧ c ≤ 9223372036854775807 ∧ (∀ g, ao = some g → ∃ k, g = ⟨k, 0, none⟩ ∧ B ≤ k ∧ k < w.heap.size) := by
  have h0 := h
  rcases h.2 with ⟨h1, h2⟩ | ⟨g, cap, cur, h1, h2, h3, h4, h5, _⟩
  · refine ⟨none, 0, ?_, .inl ⟨rfl, h2⟩, fun _ => rfl, by omega, by decide, fun g hg => by cases hg⟩
    rw [h2]; exact h1
  · subst h1
    refine ⟨_, cap, rfl, .inr ⟨_, rfl, fun i hi => ?_⟩, (fun e => by cases e), h4, h5, fun g' hg' => ?_⟩
    · rw [Addr.add_lit, Nat.zero_add]
      exact own_at h0 i hi rfl
    · cases hg'
      exact ⟨g, rfl, h2, (Array.getElem?_eq_some_iff.1 h3).1⟩
theorem Own.below {w w' : World} {B B' : Nat} {v : Value} {xs : List Int} (h : Own w B v xs) (hb : Below B' w w') (hB : w.heap.size ≤ B') : Own w' B v xs := by
  refine ⟨h.1, ?_⟩
  rcases h.2 with h1 | ⟨g, cap, cur, h1, h2, h3, h4⟩
  · exact .inl h1
  · exact .inr ⟨g, cap, cur, h1, h2, by rw [hb.block g (Nat.lt_of_lt_of_le (Array.getElem?_eq_some_iff.1 h3).1 hB)]; exact h3, h4⟩
theorem Own.mono {w : World} {B B' : Nat} {v : Value} {xs : List Int} (h : Own w B v xs) (hB : B' ≤ B) : Own w B' v xs := by
  refine ⟨h.1, ?_⟩
  rcases h.2 with h1 | ⟨g, cap, cur, h1, h2, h3⟩
  · exact .inl h1
  · exact .inr ⟨g, cap, cur, h1, by omega, h3⟩

section
variable {w : World} {ops : Array Oper} {rest : List Oper} {o : Oper} {a : Act} {Q : Exit → Act → World → Prop}
/-- 'append(v, x...)', v the call's own, x wherever. -/
theorem wpList_app (hgd : o.guard = none) (s x : Operand) (ho : o.op = .call { callee := .builtin .append, args := #[s, x], argTypes := #[22, 22] })
    (B : Nat) (v : Value) (xs : List Int) (hs : a.eval s = v) (hown : Own w B v xs) (ao : Option Addr) (m c : Nat) (f : Nat → Int) (hx : a.eval x = .slice ao m c) (hf : From w ao m f) (hc0 : ao = none → c = 0)
    (hbig : xs.length + m ≤ 140737488355328) (hB : B ≤ w.heap.size)
    (h : ∀ v' w', Own w' B v' (xs ++ lst f m) → Below B w w' → wpList Tryd.prog ops Q rest (a.put o.dst v') w') : wpList Tryd.prog ops Q (o :: rest) a w := by
  obtain ⟨i0, hi, hz0, hz1, hz2⟩ := info_parts info5
  rcases hf with ⟨h1, h2⟩ | ⟨ad, h1, h2⟩
  · subst h1 h2
    rw [hc0 rfl] at hx
    refine wpList_append_own_none hgd s x 22 ho B 5 i0 1 Tryd.underlying22 hi v xs.length (xs.map (Value.int .u8)) hs hown hx (h v w ?_ (Below.refl _ _))
    simpa [lst] using hown
  · subst h1
    refine wpList_append_own w hgd s x 22 ho B 5 i0 (.int .u8 0) 1 1 Tryd.underlying22 hi hz0 hz1 hz2 rfl (by decide) v xs.length (xs.map (Value.int .u8)) hs hown ad m c ((lst f m).map (Value.int .u8)) hx (by simp [lst_length]) ?_ ?_ (by unfold maxLen; omega) (by omega) hB ?_
    · intro j u hj
      have hjm : j < m := by
        have := (List.getElem?_eq_some_iff.1 hj).1
        simpa [lst_length] using this
      rw [h2 j hjm]
      rw [List.getElem?_map, lst_get f m j hjm] at hj
      simpa using hj
    · intro u hu
      obtain ⟨y, _, rfl⟩ := List.mem_map.1 hu
      rfl
    · intro v' w' h3 h4 _
      refine h v' w' ?_ ((Below.refl _ w).grown h4 hB (fun q hq => (World.ownsRow.lt hown q hq).1))
      unfold Own
      rw [List.length_append, lst_length, List.map_append]
      exact h3
/-- 'append(v, s...)', s a text. -/
theorem wpList_appStr (hgd : o.guard = none) (sl x : Operand) (ho : o.op = .call { callee := .builtin .append, args := #[sl, x], argTypes := #[22, 9] })
    (B : Nat) (v : Value) (xs : List Int) (hs : a.eval sl = v) (hown : Own w B v xs) (s : ByteArray) (hx : a.eval x = .string s)
    (hbig : xs.length + s.size ≤ 140737488355328) (hB : B ≤ w.heap.size)
    (h : ∀ v' w', Own w' B v' (xs ++ s.data.toList.map (fun b => (b.toNat : Int))) → Below B w w' → wpList Tryd.prog ops Q rest (a.put o.dst v') w') : wpList Tryd.prog ops Q (o :: rest) a w := by
  obtain ⟨i0, hi, hz0, hz1, hz2⟩ := info_parts info5
  refine Lib.wpList_append_own_string w hgd sl x 22 9 ho B 5 i0 Tryd.underlying22 Tryd.underlying9 hi hz0 hz1 hz2 v xs.length (xs.map (Value.int .u8)) hs hown s hx (by unfold maxLen; omega) hbig hB ?_
  intro v' w' h3 h4 _
  refine h v' w' ?_ ((Below.refl _ w).grown h4 hB (fun q hq => (World.ownsRow.lt hown q hq).1))
  unfold Own
  rw [List.length_append, List.map_append, List.length_map]
  have e : (s.data.toList.map (fun b => (b.toNat : Int))).map (Value.int .u8) = Lib.strCells s := by
    simp [Lib.strCells]
  rw [e, show s.data.toList.length = s.size from Array.length_toList]
  exact h3
end
end Go.Proofs.YtabnclgmplihkaaDoor
