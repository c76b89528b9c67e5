/-
  The document's escaped.
-/
import Derived.Test.YtfobiknbjijphaaDtR
import Derived.Laws.AppendOwn
import Derived.Laws.IdiomStrings
namespace Go.Proofs.Ytfobiknbjijphaa
open Go.RowKit
set_option linter.unusedVariables false
set_option linter.unusedSimpArgs false

theorem inf5 : (Try.prog.info? 5).map (fun i => (i.zero, i.size, i.bytes)) = some (some (.int .u8 0), 1, 1) := by kernel_rfl
theorem inf5' : ∃ i, Try.prog.info? 5 = some i ∧ i.zero = some (.int .u8 0) ∧ i.size = 1 ∧ i.bytes = 1 := by
  cases h : Try.prog.info? 5 with
  | none => have := inf5; rw [h] at this; cases this
  | some i =>
    have := inf5
    rw [h] at this
    injection this with this
    injection this with h1 h2
    injection h2 with h2 h3
    exact ⟨i, rfl, h1, h2, h3⟩
/-- A slice of one's own that holds these bytes. -/
def Ob (B : Nat) (v : Value) (l : List UInt8) (w : World) : Prop := w.ownsRow B 5 1 v l.length (Lib.byteCells l)
/-- append(s, literal). -/
theorem wpList_lit {ops : Array Oper} {rest : List Oper} {o : Oper} {a : Act} {w : World} {Q : Exit → Act → World → Prop} (hgd : o.guard = none) (s x : Operand)
    (ho : o.op = .call { callee := .builtin .append, args := #[s, x], argTypes := #[29, 29] }) (B : Nat) (v : Value) (l : List UInt8) (hs : a.eval s = v) (hown : Ob B v l w)
    (g : Nat) (news : List UInt8) (n : Nat) (hn : news.length = n) (hx : a.eval x = .slice (some ⟨g, 0, none⟩) n n) (hg : w.heap[g]? = some (.cells (Lib.byteCells news).toArray 5 (0, 0)))
    (hbig : l.length + n ≤ 140737488355328) (hB : B ≤ w.heap.size)
    (h : ∀ v' w', Ob B v' (l ++ news) w' → Below B w w' → wpList Try.prog ops Q rest (a.put o.dst v') w') : wpList Try.prog ops Q (o :: rest) a w := by
  obtain ⟨i0, hi, hz0, hz1, hz2⟩ := inf5'
  refine wpList_append_own w hgd s x 29 ho B 5 i0 (.int .u8 0) 1 1 Try.underlying29 hi hz0 hz1 hz2 rfl (by decide) v l.length (Lib.byteCells l) hs hown ⟨g, 0, none⟩ n n (Lib.byteCells news) hx (by simp [Lib.byteCells, hn]) ?_ ?_ (by unfold maxLen; omega) (by omega) hB ?_
  · intro j u hj
    have e : (⟨g, 0, none⟩ : Addr).add j = ⟨g, j, none⟩ := by unfold Addr.add; split <;> simp_all
    rw [e, cells_at hg j]
    simpa using hj
  · intro u hu
    unfold Lib.byteCells at hu
    obtain ⟨c, _, rfl⟩ := List.mem_map.1 hu
    rfl
  · intro v' w' h3 h4 _
    refine h v' w' ?_ ((Below.refl _ w).grown h4 hB (fun q hq => (World.ownsRow.lt hown q hq).1))
    unfold Ob
    rw [List.length_append, Lib.byteCells_append, hn]
    exact h3
theorem ob_string {B : Nat} {v : Value} {l : List UInt8} {w : World} (h : Ob B v l w) : (convert 29 9 v).run Try.prog w = .ok (.string ⟨l.toArray⟩) w := by
  rcases h.2 with ⟨rfl, h0⟩ | ⟨g, cap, cur, rfl, _, hb, _, _, hsz, ht⟩
  · obtain rfl : l = [] := List.length_eq_zero_iff.1 h0
    rw [run_convert_bytes_string w 29 9 5 _ 0 0 Try.underlying29 Try.underlying5 Try.underlying9]
    simp [Conv.bytesToString]
    rfl
  · refine run_convert_bytes_back (P := Try.prog) w 29 9 5 ⟨g, 0, none⟩ cap l Try.underlying29 Try.underlying5 Try.underlying9 (fun j hj => ?_)
    have e : (⟨g, 0, none⟩ : Addr).add j = ⟨g, j, none⟩ := by unfold Addr.add; split <;> simp_all
    have h5 : (cur.toList.take (l.length * 1))[j]? = some (.int .u8 (l[j].toNat : Int)) := by rw [ht]; simp [Lib.byteCells, hj]
    rw [List.getElem?_take_of_lt (by omega), Array.getElem?_toList] at h5
    rw [e, cells_at hb j]
    exact h5
set_option maxRecDepth 100000 in
set_option maxHeartbeats 4000000 in
theorem z_esc (s : ByteArray) (w : World) (hs : s.size ≤ 1099511627776) : Calls Try.prog 22 #[.string s] w fun e w' => e = .returned (.string ⟨(strL s).toArray⟩) ∧ Hid (Below w.heap.size w w') := by
  have hsI : Hid (s.size ≤ 1099511627776) := hs
  clear hs
  go_enter Try.func22, Try.ntmps22
  go_wp2
  go_loopw [3, 4] (fun v i wr => ∃ k : Nat, k ≤ s.size ∧ i = .int .i64 (k : Int) ∧ Hid (Ob w.heap.size v (escL (s.data.toList.take k)) wr ∧ Below w.heap.size w wr)) (fun _ i _ => s.size - (intOf i).toNat)
  case atStart => exact ⟨0, Nat.zero_le _, rfl, World.ownsRow_nil _ _ _ _, Below.refl _ _⟩
  case round =>
    obtain ⟨k, hk, rfl, HB⟩ := hrel
    by_cases hlt : k < s.size
    · have l1 : (k : Int) < (s.size : Int) := by omega
      have l2 : (0 : Int) ≤ (k : Int) := by omega
      have l3 : (s.size : Int) ≤ 1099511627776 := by have := hsI.out; omega
      have hkl : k < s.data.toList.length := by simpa using hlt
      have hLe : (escL (s.data.toList.take k)).length + 2 ≤ 140737488355328 := by
        have h1 := escL_len (s.data.toList.take k)
        have h2 := hsI.out
        rw [List.length_take] at h1
        omega
      obtain ⟨c, hc⟩ : ∃ c, s[k]'hlt = c := ⟨_, rfl⟩
      have key : Hid (escL (s.data.toList.take (k + 1)) = escL (s.data.toList.take k) ++ escB c) := by
        refine hid ?_
        have e : s.data.toList.take (k + 1) = s.data.toList.take k ++ [c] := by
          rw [← List.take_append_getElem hkl, ← hc]
          rfl
        rw [e, escL_app]
      have HZ : Hid (w.heap.size ≤ wr.heap.size) := HB.out.2.size
      have HO : Hid (∀ o, Ob w.heap.size u3 (escL (s.data.toList.take k)) (wr.alloc o)) := fun o => World.ownsRow.alloc HB.out.1 o
      have hcs : (escB c = [92, c] ∧ ((c.toNat : Int) == 34) = true) ∨ (escB c = [92, c] ∧ ((c.toNat : Int) == 34) = false ∧ ((c.toNat : Int) == 92) = true) ∨ (escB c = [92, 110] ∧ ((c.toNat : Int) == 34) = false ∧ ((c.toNat : Int) == 92) = false ∧ ((c.toNat : Int) == 10) = true) ∨ (escB c = [92, 116] ∧ ((c.toNat : Int) == 34) = false ∧ ((c.toNat : Int) == 92) = false ∧ ((c.toNat : Int) == 10) = false ∧ ((c.toNat : Int) == 9) = true) ∨ (escB c = [c] ∧ ((c.toNat : Int) == 34) = false ∧ ((c.toNat : Int) == 92) = false ∧ ((c.toNat : Int) == 10) = false ∧ ((c.toNat : Int) == 9) = false) := by
        have q1 : ((c.toNat : Int) == 92) = decide (c = 92) := @u8_eq c 92 (by decide)
        have q2 : ((c.toNat : Int) == 34) = decide (c = 34) := @u8_eq c 34 (by decide)
        have q3 : ((c.toNat : Int) == 10) = decide (c = 10) := @u8_eq c 10 (by decide)
        have q4 : ((c.toNat : Int) == 9) = decide (c = 9) := @u8_eq c 9 (by decide)
        rw [q1, q2, q3, q4]
        unfold escB
        by_cases h2 : c = 34
        · simp [h2]
        · by_cases h1 : c = 92
          · simp [h1, h2]
          · by_cases h3 : c = 10
            · simp [h1, h2, h3]
            · by_cases h4 : c = 9
              · simp [h1, h2, h3, h4]
              · simp [h1, h2, h3, h4]
      have HLe : Hid ((escL (s.data.toList.take k)).length + 2 ≤ 140737488355328) := hLe
      clear hLe hkl
      rcases hcs with ⟨e0, q1⟩ | ⟨e0, q1, q2⟩ | ⟨e0, q1, q2, q3⟩ | ⟨e0, q1, q2, q3, q4⟩ | ⟨e0, q1, q2, q3, q4⟩
      all_goals
        rw [e0] at key
        clear e0
      · go_wp2_with (at_builtin; refine wpList_lit rfl _ _ rfl w.heap.size _ (escL (s.data.toList.take k)) rfl (HO.out _) wr.heap.size [92, c] 2 rfl rfl ?p1a ?p1b ?p1c ?_)
        case p1a => exact heap_alloc_at _ _ _ rfl
        case p1b => exact HLe.out
        case p1c => rw [World.size_alloc]; have := HZ.out; omega
        intro v' w4 ho4 hb4
        have HS : Hid (Ob w.heap.size v' (escL (s.data.toList.take (k + 1))) w4 ∧ Below w.heap.size w w4) := hid ⟨by rw [key.out]; exact ho4, (HB.out.2.alloc HZ.out _).trans hb4⟩
        clear ho4 hb4 HO HB key
        go_wp2
        go_roundw
        case rel => exact ⟨k + 1, by omega, by go_num, HS⟩
        case measure => simp [intOf]; omega
      · go_wp2_with (at_builtin; refine wpList_lit rfl _ _ rfl w.heap.size _ (escL (s.data.toList.take k)) rfl (HO.out _) wr.heap.size [92, c] 2 rfl rfl ?p2a ?p2b ?p2c ?_)
        case p2a => exact heap_alloc_at _ _ _ rfl
        case p2b => exact HLe.out
        case p2c => rw [World.size_alloc]; have := HZ.out; omega
        intro v' w4 ho4 hb4
        have HS : Hid (Ob w.heap.size v' (escL (s.data.toList.take (k + 1))) w4 ∧ Below w.heap.size w w4) := hid ⟨by rw [key.out]; exact ho4, (HB.out.2.alloc HZ.out _).trans hb4⟩
        clear ho4 hb4 HO HB key
        go_wp2
        go_roundw
        case rel => exact ⟨k + 1, by omega, by go_num, HS⟩
        case measure => simp [intOf]; omega
      · go_wp2_with (at_builtin; refine wpList_lit rfl _ _ rfl w.heap.size _ (escL (s.data.toList.take k)) rfl (HO.out _) wr.heap.size [92, 110] 2 rfl rfl ?p3a ?p3b ?p3c ?_)
        case p3a => exact heap_alloc_at _ _ _ rfl
        case p3b => exact HLe.out
        case p3c => rw [World.size_alloc]; have := HZ.out; omega
        intro v' w4 ho4 hb4
        have HS : Hid (Ob w.heap.size v' (escL (s.data.toList.take (k + 1))) w4 ∧ Below w.heap.size w w4) := hid ⟨by rw [key.out]; exact ho4, (HB.out.2.alloc HZ.out _).trans hb4⟩
        clear ho4 hb4 HO HB key
        go_wp2
        go_roundw
        case rel => exact ⟨k + 1, by omega, by go_num, HS⟩
        case measure => simp [intOf]; omega
      · go_wp2_with (at_builtin; refine wpList_lit rfl _ _ rfl w.heap.size _ (escL (s.data.toList.take k)) rfl (HO.out _) wr.heap.size [92, 116] 2 rfl rfl ?p4a ?p4b ?p4c ?_)
        case p4a => exact heap_alloc_at _ _ _ rfl
        case p4b => exact HLe.out
        case p4c => rw [World.size_alloc]; have := HZ.out; omega
        intro v' w4 ho4 hb4
        have HS : Hid (Ob w.heap.size v' (escL (s.data.toList.take (k + 1))) w4 ∧ Below w.heap.size w w4) := hid ⟨by rw [key.out]; exact ho4, (HB.out.2.alloc HZ.out _).trans hb4⟩
        clear ho4 hb4 HO HB key
        go_wp2
        go_roundw
        case rel => exact ⟨k + 1, by omega, by go_num, HS⟩
        case measure => simp [intOf]; omega
      · go_wp2_with (at_builtin; refine wpList_lit rfl _ _ rfl w.heap.size _ (escL (s.data.toList.take k)) rfl (HO.out _) wr.heap.size [c] 1 rfl rfl ?p5a ?p5b ?p5c ?_)
        case p5a => exact heap_alloc_at _ _ _ rfl
        case p5b => have := HLe.out; omega
        case p5c => rw [World.size_alloc]; have := HZ.out; omega
        intro v' w4 ho4 hb4
        have HS : Hid (Ob w.heap.size v' (escL (s.data.toList.take (k + 1))) w4 ∧ Below w.heap.size w w4) := hid ⟨by rw [key.out]; exact ho4, (HB.out.2.alloc HZ.out _).trans hb4⟩
        clear ho4 hb4 HO HB key
        go_wp2
        go_roundw
        case rel => exact ⟨k + 1, by omega, by go_num, HS⟩
        case measure => simp [intOf]; omega
    · obtain rfl : k = s.size := by omega
      have hE : Hid ((convert 29 9 u3).run Try.prog wr = .ok (.string ⟨(escL s.data.toList).toArray⟩) wr) := by
        have := HB.out.1
        rw [List.take_of_length_le (by simp)] at this
        exact ob_string this
      have hb : Hid (Below w.heap.size w wr) := HB.out.2
      obtain ⟨T, hT⟩ : ∃ T, (⟨(escL s.data.toList).toArray⟩ : ByteArray) = T := ⟨_, rfl⟩
      have hTs : T.size ≤ 2199023255552 := by
        have h1 := escL_len s.data.toList
        have h2 := hsI.out
        have h3 : T.size = (escL s.data.toList).length := by rw [← hT]; simp [ByteArray.size]
        have h4 : s.data.toList.length = s.size := by simp
        omega
      have hR : Hid ((⟨#[34]⟩ : ByteArray) ++ T ++ ⟨#[34]⟩ = ⟨(strL s).toArray⟩) := by
        refine hid ?_
        rw [← hT]
        unfold strL
        apply ByteArray.ext
        simp
      rw [hT] at hE
      have hEE := hE.out
      have hZs : ((⟨#[34]⟩ : ByteArray) ++ T).size = 1 + T.size := by rw [ByteArray.size_append]; rfl
      have hZ1 : (⟨#[34]⟩ : ByteArray).size = 1 := rfl
      clear HB hE hT
      go_wp2_with fail
      all_goals first | (exfalso; clear hEE hb hsI; omega) | skip
      go_ret
      exact ⟨by rw [← hR.out]; rfl, hb⟩
end Go.Proofs.Ytfobiknbjijphaa
