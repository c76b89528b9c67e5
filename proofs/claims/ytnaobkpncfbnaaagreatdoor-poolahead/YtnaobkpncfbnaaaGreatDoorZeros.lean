/-
  append(s, make([]byte, m)...) onto a slice of the call's own: so many noughts more.
-/
import Derived.Test.YtnaobkpncfbnaaaGreatDoorDkWrite
import Derived.Lib.AppendZerosOnto
namespace Go.Proofs.YtnaobkpncfbnaaaGreatDoor
open Go.RowKit
set_option linter.unusedVariables false

theorem zero_cells (m : Nat) : (Builtin.zeroCells #[Value.int .u8 0] m).toList = (lst (fun _ => 0) m).map (Value.int .u8) := by
  apply List.ext_getElem?
  intro i
  by_cases hi : i < m
  · rw [List.getElem?_map, lst_get _ _ _ hi]
    simp [Builtin.zeroCells, hi, Nat.mod_one]
  · rw [List.getElem?_eq_none (by simp [Builtin.zeroCells]; omega), List.getElem?_eq_none (by rw [List.length_map, lst_length]; omega)]
theorem run_zeros_own (w : World) (base : Nat) (v : Value) (xs : List Int) (hown : Own w base v xs) (m : Nat) (hb : xs.length + m ≤ 140737488355328) (hbase : base ≤ w.heap.size) (ty : TypeId) :
    ∃ v' w', (Builtin.append_ #[36, 3] ty #[v, .int .i64 (m : Int)]).run Tryz.prog w = .ok v' w' ∧ Own w' base v' (xs ++ lst (fun _ => 0) m) ∧ Below base w w' := by
  obtain ⟨i0, hi, hz, hs, hby⟩ := info_parts info5
  have hz1 : (Value.int .u8 0).cells = #[Value.int .u8 0] := rfl
  have hw : IntKind.i64.wrap (m : Int) = m := by rw [IntKind.wrap_i64]; omega
  have hneg : ¬ ((m : Int) < 0) := by omega
  have h48i : ¬ (281474976710656 < (m : Int) * (i0.bytes : Int)) := by rw [hby]; omega
  have hlen : (xs ++ lst (fun _ => 0) m).length = xs.length + m := by rw [List.length_append, lst_length]
  have u3 : Tryz.prog.underlying 3 = some (.int .i64) := Tryz.underlying3
  have hgrown : ∀ old, old < xs.length + m → Own (w.drew.alloc (.cells ((xs.map (Value.int .u8)).toArray ++ Builtin.zeroCells #[Value.int .u8 0] m ++ Builtin.zeroCells #[Value.int .u8 0] (grownCap w (xs.length + m) old 5 - (xs.length + m))) 5)) base (.slice (some ⟨w.heap.size, 0, none⟩) (xs.length + m) (grownCap w (xs.length + m) old 5)) (xs ++ lst (fun _ => 0) m) := fun old ho => by
    have hge := grownCap_ge w (xs.length + m) old 5
    have hcm : grownCap w (xs.length + m) old 5 ≤ maxLen := grownCap_le_maxLen w (xs.length + m) old 5 (by unfold maxLen; omega)
    unfold Own
    rw [hlen]
    refine ⟨by simp [lst_length], .inr ⟨w.heap.size, _, _, rfl, hbase, heap_alloc_new w.drew _, hge, hcm, ?_, ?_⟩⟩
    · simp only [Array.size_append, List.size_toArray, size_zeroCells, List.length_map]
      simp
      omega
    · simp only [Array.toList_append, zero_cells, Nat.mul_one, List.map_append]
      have e : (xs.map (Value.int .u8) ++ (lst (fun _ => 0) m).map (Value.int .u8)).length = xs.length + m := by simp [lst_length]
      rw [← e]
      exact List.take_left
  have hbel : ∀ o, Below base w (w.drew.alloc o) := fun o => ((Below.refl base w).drew).alloc hbase o
  by_cases hroom : ∃ g cap cur, v = .slice (some ⟨g, 0, none⟩) xs.length cap ∧ base ≤ g ∧ w.heap[g]? = some (.cells cur 5 (0, 0)) ∧ xs.length ≤ cap ∧ cap ≤ maxLen ∧ cur.size = cap * 1 ∧ cur.toList.take (xs.length * 1) = xs.map (Value.int .u8)
  · obtain ⟨g, cap, cur, rfl, h2, h3, h4, h5, h6, h7⟩ := hroom
    by_cases hm0 : m = 0
    · subst hm0
      refine ⟨.slice (some ⟨g, 0, none⟩) xs.length cap, w, ?_, by rw [show lst (fun _ => (0 : Int)) 0 = [] from rfl, List.append_nil]; exact hown, Below.refl _ _⟩
      simp [Builtin.append_, run_underlying Tryz.underlying36, run_underlying u3, sizeOf, typeInfo, hi, asInt, asIntOf, IntKind.wrap_i64, Addr.add_lit, storeCells, h4]
    by_cases hr : xs.length + m ≤ cap
    · have hst := run_storeCells_at Tryz.prog g (xs.length * i0.size) 5 (((lst (fun _ => 0) m).map (Value.int .u8))) 0 cur w h3 (by rw [hs, List.length_map, lst_length]; omega) (fun u hu => by obtain ⟨y, _, rfl⟩ := List.mem_map.1 hu; rfl)
      simp only [Nat.add_zero] at hst
      have hns : ¬ (m * i0.size = 0) := by rw [hs]; omega
      have hzc : (Builtin.zeroCells #[Value.int .u8 0] m).toList = (lst (fun _ => 0) m).map (Value.int .u8) := zero_cells m
      have hrun : (Builtin.append_ #[36, 3] ty #[.slice (some ⟨g, 0, none⟩) xs.length cap, .int .i64 (m : Int)]).run Tryz.prog w = .ok (.slice (some ⟨g, 0, none⟩) (xs.length + m) cap) (w.setRow g (cur.toList.take (xs.length * i0.size) ++ (lst (fun _ => 0) m).map (Value.int .u8) ++ cur.toList.drop (xs.length * i0.size + ((lst (fun _ => 0) m).map (Value.int .u8)).length)).toArray) := by
        simp [Builtin.append_, run_underlying Tryz.underlying36, run_underlying u3, sizeOf, typeInfo, zeroValue, hi, hz, asInt, asIntOf, hw, hneg, h48i, hns, hr, Addr.add_lit, hz1, hzc]
        rw [hst]
        simp [Result.andThen]
      rw [hs, Nat.mul_one] at hrun
      refine ⟨_, _, hrun, ⟨?_, .inr ⟨g, cap, _, ?_, h2, setRow_heap w g cur _ 5 _ h3, ?_, h5, ?_, ?_⟩⟩, (Below.refl base w).trans ⟨rfl, rfl, rfl, by simp [World.setRow], fun k hk => setRow_other w g k _ (by omega)⟩⟩
      · simp [lst_length]
      · rw [hlen]
      · rw [hlen]; exact hr
      · simp only [List.size_toArray, List.length_append, List.length_take, List.length_drop, Array.length_toList, List.length_map, lst_length]
        omega
      · rw [hlen, Nat.mul_one]
        rw [Nat.mul_one] at h7
        show List.take (xs.length + m) (cur.toList.take xs.length ++ _ ++ _) = _
        rw [h7, List.map_append]
        have e : (xs.map (Value.int .u8) ++ (lst (fun _ => 0) m).map (Value.int .u8)).length = xs.length + m := by simp [lst_length]
        rw [← e]
        exact List.take_left
    · have holds : ∀ j u, (xs.map (Value.int .u8))[j]? = some u → w.drew.cell? ((⟨g, 0, none⟩ : Addr).add j) = some u := World.ownsRow.cells hown (g := g) rfl
      have hf := run_firstCells_some (P := Tryz.prog) w.drew i0.size xs.length ⟨g, 0, none⟩ xs.length cap (xs.map (Value.int .u8)) (by rw [hs]; simp) holds
      have hrun := Lib.run_append_grow_zeros (P := Tryz.prog) w 36 3 ty 5 i0 (.int .u8 0) .i64 .i64 Tryz.underlying36 u3 hi hz (some ⟨g, 0, none⟩) xs.length cap (xs.map (Value.int .u8)) hf m (by omega) (by omega) (by omega) (by omega) (by rw [hby]; omega) (by rw [hby]; exact growslice_fits (by omega) (by omega))
      exact ⟨_, _, hrun, hgrown cap (by omega), hbel _⟩
  · have hnil : v = .slice none 0 0 ∧ xs.length = 0 := by
      rcases hown.2 with h | h
      · exact h
      · exact absurd h hroom
    obtain ⟨rfl, hx0⟩ := hnil
    obtain rfl : xs = [] := List.eq_nil_of_length_eq_zero hx0
    by_cases hm0 : m = 0
    · subst hm0
      refine ⟨.slice none 0 0, w, ?_, World.ownsRow_nil _ _ _ _, Below.refl _ _⟩
      simp [Builtin.append_, run_underlying Tryz.underlying36, run_underlying u3, sizeOf, typeInfo, hi, asInt, asIntOf, IntKind.wrap_i64]
    · have hrun := Lib.run_append_nil_zeros (P := Tryz.prog) w 36 3 ty 5 i0 (.int .u8 0) .i64 .i64 Tryz.underlying36 u3 hi hz m (by omega) (by omega) (by omega) (by rw [hby]; omega)
      refine ⟨_, _, hrun, ?_, hbel _⟩
      have := hgrown 0 (by simp; omega)
      simp only [List.length_nil, Nat.zero_add, List.map_nil, List.nil_append] at this
      have e : (#[] : Array Value) = ([] : List Value).toArray := rfl
      rw [hz1]
      simpa using this

/-- The same as one step of a region that draws. -/
theorem step_zeros {ops : Array Oper} {o : Oper} {a : Act} {w : World} {K : Act → World → Prop} {Q : Exit → Act → World → Prop} {E : Prop}
    (hg : o.guard = none) (s x : Operand) (hop : o.op = Op.call { callee := Callee.builtin Builtin.append, args := #[s, x], argTypes := #[36, 3] })
    (base : Nat) (v : Value) (xs : List Int) (hs : a.eval s = v) (hown : Own w base v xs) (m : Nat) (hx : a.eval x = .int .i64 (m : Int)) (hb : xs.length + m ≤ 140737488355328) (hbase : base ≤ w.heap.size)
    (h : ∀ v' w', Own w' base v' (xs ++ lst (fun _ => 0) m) → Below base w w' → K (a.put o.dst v') w') :
    if Region.wanted o (yielded ops a.tmps) = true then Oper.wp Tryz.prog o a w K Q else E := by
  have hw : Region.wanted o (yielded ops a.tmps) = true := by simp [Region.wanted, hg]
  rw [if_pos hw]
  obtain ⟨v', w', hr, h2, h3⟩ := run_zeros_own w base v xs hown m hb hbase o.type
  unfold Oper.wp execOp
  simp only [hop, resolve, invoke, builtin, Sem.run_bind, Sem.run_pure, Result.andThen_ok, List.map_toArray, List.map_cons, List.map_nil, hs, hx, hr]
  exact h v' w' h2 h3
end Go.Proofs.YtnaobkpncfbnaaaGreatDoor
