/-
  Contract of datum's Print.
  The document's escaped.
-/
import Derived.Test.YtpjgdpfpgpaenaaDoorGan
import Derived.Laws.AppendOwn
import Derived.Laws.IdiomStrings
namespace Go.Proofs.YtpjgdpfpgpaenaaDoor
open Go.RowKit
set_option linter.unusedVariables false
set_option linter.unusedSimpArgs false

/-- What Print answers. -/
def Prt (d : Dt) (e : Ending) : Prop := (d.may ∧ e = .returned (.string ⟨d.out.toArray⟩)) ∨ (¬ d.may ∧ e = .returned (.string ⟨#[]⟩))
theorem dt_print {d : Dt} {v : Value} {w : World} (h : DAt w d v) (hs : d.siz ≤ 1048576) (hw : 8 * d.wt ≤ 140737488355328) : Calls Tryd.prog 13 #[v] w fun e w' => Prt d e ∧ Hid (Below w.heap.size w w') := by
  obtain ⟨a, n, c, a2, n2, c2, rfl⟩ := h.shape
  obtain ⟨W0, hW⟩ : ∃ W0, w.alloc (.cells #[.int .i64 d.kd, .string d.tx, .slice a n c, .slice a2 n2 c2] 42) = W0 := ⟨_, rfl⟩
  have hb0 : Below w.heap.size w W0 := by rw [← hW]; exact (Below.refl _ w).alloc (Nat.le_refl _) _
  obtain ⟨B, hB⟩ : ∃ B, w.heap.size = B := ⟨_, rfl⟩
  have h0 : W0.heap[B]? = some (.cells #[.int .i64 d.kd, .string d.tx, .slice a n c, .slice a2 n2 c2] 42 (0, 0)) := by rw [← hW]; exact heap_alloc_at _ _ _ hB.symm
  have HX : Hid (∀ V, Below W0.heap.size W0 V → (V.cell? ⟨B, 0, none⟩ = some (.int .i64 d.kd) ∧ V.cell? ⟨B, 1, none⟩ = some (.string d.tx) ∧ V.cell? ⟨B, 2, none⟩ = some (.slice a n c) ∧ V.cell? ⟨B, 3, none⟩ = some (.slice a2 n2 c2)) ∧ Hid (Below w.heap.size w V)) := fun V hV => by
    have e := (hV.block B (Array.getElem?_eq_some_iff.1 h0).1).trans h0
    exact ⟨⟨by rw [cells_at e 0]; rfl, by rw [cells_at e 1]; rfl, by rw [cells_at e 2]; rfl, by rw [cells_at e 3]; rfl⟩, hb0.trans (hV.mono hb0.size)⟩
  have HM := hid (dt_can (h.under hb0) hs)
  have HWr : Hid (∀ V V', Below W0.heap.size W0 V → V' = V.alloc (.cells #[.pointer none, .slice none 0 0] 58) → Calls Tryd.prog 30 #[.pointer (some ⟨V.heap.size, 0, none⟩), .agg #[.int .i64 d.kd, .string d.tx, .slice a n c, .slice a2 n2 c2]] V' fun e w' => e = .returned (.tuple #[]) ∧ Hid (Bd V.heap.size V.heap.size d.out w' ∧ Kp V.heap.size V.heap.size V' w')) := fun V V' hV e => by
    subst e
    have hbd : Bd V.heap.size V.heap.size [] (V.alloc (.cells #[.pointer none, .slice none 0 0] 58)) := ⟨.inl ⟨Nat.le_refl _, .slice none 0 0, heap_alloc_at _ _ _ rfl, World.ownsRowF_nil _ _ _ _, by simp [Value.ownBlock]⟩, by rw [World.size_alloc]; omega⟩
    have := dt_write (w0 := V) (B := V.heap.size) (b := V.heap.size) (Nat.le_refl _) (d.siz + 1) d _ [] _ (Nat.lt_succ_self _) (h.under (hb0.trans (hV.mono hb0.size))) ((Below.refl _ _).alloc (Nat.le_refl _) _) hbd (by simpa using hw)
    simpa using this
  obtain ⟨⟨y0, y1, y2, y3⟩, -⟩ := HX.out W0 (Below.refl _ _)
  clear h hs h0 hb0 hw
  go_enter Tryd.func13, Tryd.ntmps13
  go_wp2_with fail
  try rw [hW]
  try rw [hB]
  try go_wp2_with fail
  refine HM.out.mono ?_
  rintro r w1 ⟨⟨q, rfl, hq⟩, hb1⟩
  obtain ⟨⟨x0, x1, x2, x3⟩, hb⟩ := HX.out w1 hb1.out
  cases q
  · have hn : Hid (¬ d.may) := fun p => by have := hq.2 p; cases this
    clear hq
    go_wp2
    go_ret
    exact ⟨.inr ⟨hn.out, rfl⟩, by first | exact hb | (rw [← hB]; exact hb)⟩
  · have hm : Hid (d.may) := hq.1 rfl
    clear hq
    obtain ⟨W2, hW2⟩ : ∃ W2, w1.alloc (.cells #[.pointer none, .slice none 0 0] 58) = W2 := ⟨_, rfl⟩
    have hH := hid (HWr.out w1 W2 hb1.out hW2.symm)
    have hb2 : Below w1.heap.size w1 W2 := by rw [← hW2]; exact (Below.refl _ _).alloc (Nat.le_refl _) _
    have hXX := HX.out W2 (hb1.out.trans (hb2.mono hb1.out.size))
    obtain ⟨⟨z0, z1, z2, z3⟩, hbW⟩ := hXX
    have HK : Hid (∀ V, Below w1.heap.size W2 V → Below w.heap.size w V) := fun V hV => by
      have := hb.out.size
      exact (hb.out.trans (hb2.mono this)).trans (hV.mono this)
    obtain ⟨g, hg⟩ : ∃ g, w1.heap.size = g := ⟨_, rfl⟩
    rw [hg] at hH HK
    clear hb2
    go_wp2_with fail
    refine hH.out.mono ?_
    rintro r w3 ⟨rfl, hb3⟩
    have hS := hid (Go.Proofs.Tryd.Builder_String_any_k g g d.out w3 hb3.out.1.1 hb3.out.1.2)
    go_wp2_with fail
    refine hS.out.mono ?_
    rintro r w4 ⟨rfl, -, hb4, -⟩
    have hE : Hid (Below w.heap.size w w4) := HK.out _ (hb3.out.2.1.trans hb4)
    clear hb4
    go_wp2
    go_ret
    exact ⟨.inl ⟨hm.out, rfl⟩, by first | exact hE | (rw [← hB]; exact hE)⟩
end Go.Proofs.YtpjgdpfpgpaenaaDoor

namespace Go.Proofs.YtpjgdpfpgpaenaaDoor
open Go.RowKit
set_option linter.unusedVariables false
set_option linter.unusedSimpArgs false

theorem inf5 : (Tryd.prog.info? 5).map (fun i => (i.zero, i.size, i.bytes)) = some (some (.int .u8 0), 1, 1) := by kernel_rfl
theorem inf5' : ∃ i, Tryd.prog.info? 5 = some i ∧ i.zero = some (.int .u8 0) ∧ i.size = 1 ∧ i.bytes = 1 := by
  cases h : Tryd.prog.info? 5 with
  | none => have := inf5; rw [h] at this; cases this
  | some i =>
    have := inf5
    rw [h] at this
    injection this with this
    injection this with h1 h2
    injection h2 with h2 h3
    exact ⟨i, rfl, h1, h2, h3⟩
/-- A slice of one's own that holds these bytes. -/
def Ob (B : Nat) (v : Value) (l : List UInt8) (w : World) : Prop := w.ownsRow B 5 1 v l.length (Lib.byteCells l)
/-- append(s, literal). -/
theorem wpList_lit {ops : Array Oper} {rest : List Oper} {o : Oper} {a : Act} {w : World} {Q : Exit → Act → World → Prop} (hgd : o.guard = none) (s x : Operand)
    (ho : o.op = .call { callee := .builtin .append, args := #[s, x], argTypes := #[27, 27] }) (B : Nat) (v : Value) (l : List UInt8) (hs : a.eval s = v) (hown : Ob B v l w)
    (g : Nat) (news : List UInt8) (n : Nat) (hn : news.length = n) (hx : a.eval x = .slice (some ⟨g, 0, none⟩) n n) (hg : w.heap[g]? = some (.cells (Lib.byteCells news).toArray 5 (0, 0)))
    (hbig : l.length + n ≤ 140737488355328) (hB : B ≤ w.heap.size)
    (h : ∀ v' w', Ob B v' (l ++ news) w' → Below B w w' → wpList Tryd.prog ops Q rest (a.put o.dst v') w') : wpList Tryd.prog ops Q (o :: rest) a w := by
  obtain ⟨i0, hi, hz0, hz1, hz2⟩ := inf5'
  refine wpList_append_own w hgd s x 27 ho B 5 i0 (.int .u8 0) 1 1 Tryd.underlying27 hi hz0 hz1 hz2 rfl (by decide) v l.length (Lib.byteCells l) hs hown ⟨g, 0, none⟩ n n (Lib.byteCells news) hx (by simp [Lib.byteCells, hn]) ?_ ?_ (by unfold maxLen; omega) (by omega) hB ?_
  · intro j u hj
    have e : (⟨g, 0, none⟩ : Addr).add j = ⟨g, j, none⟩ := by unfold Addr.add; split <;> simp_all
    rw [e, cells_at hg j]
    simpa using hj
  · intro u hu
    unfold Lib.byteCells at hu
    obtain ⟨c, _, rfl⟩ := List.mem_map.1 hu
    rfl
  · intro v' w' h3 h4 _
    refine h v' w' ?_ ((Below.refl _ w).grown h4 hB (fun q hq => (World.ownsRow.lt hown q hq).1))
    unfold Ob
    rw [List.length_append, Lib.byteCells_append, hn]
    exact h3
theorem ob_string {B : Nat} {v : Value} {l : List UInt8} {w : World} (h : Ob B v l w) : (convert 27 9 v).run Tryd.prog w = .ok (.string ⟨l.toArray⟩) w := by
  rcases h.2 with ⟨rfl, h0⟩ | ⟨g, cap, cur, rfl, _, hb, _, _, hsz, ht⟩
  · obtain rfl : l = [] := List.length_eq_zero_iff.1 h0
    rw [run_convert_bytes_string w 27 9 5 _ 0 0 Tryd.underlying27 Tryd.underlying5 Tryd.underlying9]
    simp [Conv.bytesToString]
    rfl
  · refine run_convert_bytes_back (P := Tryd.prog) w 27 9 5 ⟨g, 0, none⟩ cap l Tryd.underlying27 Tryd.underlying5 Tryd.underlying9 (fun j hj => ?_)
    have e : (⟨g, 0, none⟩ : Addr).add j = ⟨g, j, none⟩ := by unfold Addr.add; split <;> simp_all
    have h5 : (cur.toList.take (l.length * 1))[j]? = some (.int .u8 (l[j].toNat : Int)) := by rw [ht]; simp [Lib.byteCells, hj]
    rw [List.getElem?_take_of_lt (by omega), Array.getElem?_toList] at h5
    rw [e, cells_at hb j]
    exact h5
set_option maxRecDepth 100000 in
set_option maxHeartbeats 4000000 in
theorem z_esc (s : ByteArray) (w : World) (hs : s.size ≤ 1099511627776) : Calls Tryd.prog 44 #[.string s] w fun e w' => e = .returned (.string ⟨(strL s).toArray⟩) ∧ Hid (Below w.heap.size w w') := by
  have hsI : Hid (s.size ≤ 1099511627776) := hs
  clear hs
  go_enter Tryd.func44, Tryd.ntmps44
  go_wp2
  go_loopw [3, 4] (fun v i wr => ∃ k : Nat, k ≤ s.size ∧ i = .int .i64 (k : Int) ∧ Hid (Ob w.heap.size v (escL (s.data.toList.take k)) wr ∧ Below w.heap.size w wr)) (fun _ i _ => s.size - (intOf i).toNat)
  case atStart => exact ⟨0, Nat.zero_le _, rfl, World.ownsRow_nil _ _ _ _, Below.refl _ _⟩
  case round =>
    obtain ⟨k, hk, rfl, HB⟩ := hrel
    by_cases hlt : k < s.size
    · have l1 : (k : Int) < (s.size : Int) := by omega
      have l2 : (0 : Int) ≤ (k : Int) := by omega
      have l3 : (s.size : Int) ≤ 1099511627776 := by have := hsI.out; omega
      have hkl : k < s.data.toList.length := by simpa using hlt
      have hLe : (escL (s.data.toList.take k)).length + 2 ≤ 140737488355328 := by
        have h1 := escL_len (s.data.toList.take k)
        have h2 := hsI.out
        rw [List.length_take] at h1
        omega
      obtain ⟨c, hc⟩ : ∃ c, s[k]'hlt = c := ⟨_, rfl⟩
      have key : Hid (escL (s.data.toList.take (k + 1)) = escL (s.data.toList.take k) ++ escB c) := by
        refine hid ?_
        have e : s.data.toList.take (k + 1) = s.data.toList.take k ++ [c] := by
          rw [← List.take_append_getElem hkl, ← hc]
          rfl
        rw [e, escL_app]
      have HZ : Hid (w.heap.size ≤ wr.heap.size) := HB.out.2.size
      have HO : Hid (∀ o, Ob w.heap.size u3 (escL (s.data.toList.take k)) (wr.alloc o)) := fun o => World.ownsRow.alloc HB.out.1 o
      have hcs : (escB c = [92, c] ∧ ((c.toNat : Int) == 34) = true) ∨ (escB c = [92, c] ∧ ((c.toNat : Int) == 34) = false ∧ ((c.toNat : Int) == 92) = true) ∨ (escB c = [92, 110] ∧ ((c.toNat : Int) == 34) = false ∧ ((c.toNat : Int) == 92) = false ∧ ((c.toNat : Int) == 10) = true) ∨ (escB c = [92, 116] ∧ ((c.toNat : Int) == 34) = false ∧ ((c.toNat : Int) == 92) = false ∧ ((c.toNat : Int) == 10) = false ∧ ((c.toNat : Int) == 9) = true) ∨ (escB c = [c] ∧ ((c.toNat : Int) == 34) = false ∧ ((c.toNat : Int) == 92) = false ∧ ((c.toNat : Int) == 10) = false ∧ ((c.toNat : Int) == 9) = false) := by
        have q1 : ((c.toNat : Int) == 92) = decide (c = 92) := @u8_eq c 92 (by decide)
        have q2 : ((c.toNat : Int) == 34) = decide (c = 34) := @u8_eq c 34 (by decide)
        have q3 : ((c.toNat : Int) == 10) = decide (c = 10) := @u8_eq c 10 (by decide)
        have q4 : ((c.toNat : Int) == 9) = decide (c = 9) := @u8_eq c 9 (by decide)
        rw [q1, q2, q3, q4]
        unfold escB
        by_cases h2 : c = 34
        · simp [h2]
        · by_cases h1 : c = 92
          · simp [h1, h2]
          · by_cases h3 : c = 10
            · simp [h1, h2, h3]
            · by_cases h4 : c = 9
              · simp [h1, h2, h3, h4]
              · simp [h1, h2, h3, h4]
      have HLe : Hid ((escL (s.data.toList.take k)).length + 2 ≤ 140737488355328) := hLe
      clear hLe hkl
      rcases hcs with ⟨e0, q1⟩ | ⟨e0, q1, q2⟩ | ⟨e0, q1, q2, q3⟩ | ⟨e0, q1, q2, q3, q4⟩ | ⟨e0, q1, q2, q3, q4⟩
      all_goals
        rw [e0] at key
        clear e0
      · go_wp2_with (at_builtin; refine wpList_lit rfl _ _ rfl w.heap.size _ (escL (s.data.toList.take k)) rfl (HO.out _) wr.heap.size [92, c] 2 rfl rfl ?p1a ?p1b ?p1c ?_)
        case p1a => exact heap_alloc_at _ _ _ rfl
        case p1b => exact HLe.out
        case p1c => rw [World.size_alloc]; have := HZ.out; omega
        intro v' w4 ho4 hb4
        have HS : Hid (Ob w.heap.size v' (escL (s.data.toList.take (k + 1))) w4 ∧ Below w.heap.size w w4) := hid ⟨by rw [key.out]; exact ho4, (HB.out.2.alloc HZ.out _).trans hb4⟩
        clear ho4 hb4 HO HB key
        go_wp2
        go_roundw
        case rel => exact ⟨k + 1, by omega, by go_num, HS⟩
        case measure => simp [intOf]; omega
      · go_wp2_with (at_builtin; refine wpList_lit rfl _ _ rfl w.heap.size _ (escL (s.data.toList.take k)) rfl (HO.out _) wr.heap.size [92, c] 2 rfl rfl ?p2a ?p2b ?p2c ?_)
        case p2a => exact heap_alloc_at _ _ _ rfl
        case p2b => exact HLe.out
        case p2c => rw [World.size_alloc]; have := HZ.out; omega
        intro v' w4 ho4 hb4
        have HS : Hid (Ob w.heap.size v' (escL (s.data.toList.take (k + 1))) w4 ∧ Below w.heap.size w w4) := hid ⟨by rw [key.out]; exact ho4, (HB.out.2.alloc HZ.out _).trans hb4⟩
        clear ho4 hb4 HO HB key
        go_wp2
        go_roundw
        case rel => exact ⟨k + 1, by omega, by go_num, HS⟩
        case measure => simp [intOf]; omega
      · go_wp2_with (at_builtin; refine wpList_lit rfl _ _ rfl w.heap.size _ (escL (s.data.toList.take k)) rfl (HO.out _) wr.heap.size [92, 110] 2 rfl rfl ?p3a ?p3b ?p3c ?_)
        case p3a => exact heap_alloc_at _ _ _ rfl
        case p3b => exact HLe.out
        case p3c => rw [World.size_alloc]; have := HZ.out; omega
        intro v' w4 ho4 hb4
        have HS : Hid (Ob w.heap.size v' (escL (s.data.toList.take (k + 1))) w4 ∧ Below w.heap.size w w4) := hid ⟨by rw [key.out]; exact ho4, (HB.out.2.alloc HZ.out _).trans hb4⟩
        clear ho4 hb4 HO HB key
        go_wp2
        go_roundw
        case rel => exact ⟨k + 1, by omega, by go_num, HS⟩
        case measure => simp [intOf]; omega
      · go_wp2_with (at_builtin; refine wpList_lit rfl _ _ rfl w.heap.size _ (escL (s.data.toList.take k)) rfl (HO.out _) wr.heap.size [92, 116] 2 rfl rfl ?p4a ?p4b ?p4c ?_)
        case p4a => exact heap_alloc_at _ _ _ rfl
        case p4b => exact HLe.out
        case p4c => rw [World.size_alloc]; have := HZ.out; omega
        intro v' w4 ho4 hb4
        have HS : Hid (Ob w.heap.size v' (escL (s.data.toList.take (k + 1))) w4 ∧ Below w.heap.size w w4) := hid ⟨by rw [key.out]; exact ho4, (HB.out.2.alloc HZ.out _).trans hb4⟩
        clear ho4 hb4 HO HB key
        go_wp2
        go_roundw
        case rel => exact ⟨k + 1, by omega, by go_num, HS⟩
        case measure => simp [intOf]; omega
      · go_wp2_with (at_builtin; refine wpList_lit rfl _ _ rfl w.heap.size _ (escL (s.data.toList.take k)) rfl (HO.out _) wr.heap.size [c] 1 rfl rfl ?p5a ?p5b ?p5c ?_)
        case p5a => exact heap_alloc_at _ _ _ rfl
        case p5b => have := HLe.out; omega
        case p5c => rw [World.size_alloc]; have := HZ.out; omega
        intro v' w4 ho4 hb4
        have HS : Hid (Ob w.heap.size v' (escL (s.data.toList.take (k + 1))) w4 ∧ Below w.heap.size w w4) := hid ⟨by rw [key.out]; exact ho4, (HB.out.2.alloc HZ.out _).trans hb4⟩
        clear ho4 hb4 HO HB key
        go_wp2
        go_roundw
        case rel => exact ⟨k + 1, by omega, by go_num, HS⟩
        case measure => simp [intOf]; omega
    · obtain rfl : k = s.size := by omega
      have hE : Hid ((convert 27 9 u3).run Tryd.prog wr = .ok (.string ⟨(escL s.data.toList).toArray⟩) wr) := by
        have := HB.out.1
        rw [List.take_of_length_le (by simp)] at this
        exact ob_string this
      have hb : Hid (Below w.heap.size w wr) := HB.out.2
      obtain ⟨T, hT⟩ : ∃ T, (⟨(escL s.data.toList).toArray⟩ : ByteArray) = T := ⟨_, rfl⟩
      have hTs : T.size ≤ 2199023255552 := by
        have h1 := escL_len s.data.toList
        have h2 := hsI.out
        have h3 : T.size = (escL s.data.toList).length := by rw [← hT]; simp [ByteArray.size]
        have h4 : s.data.toList.length = s.size := by simp
        omega
      have hR : Hid ((⟨#[34]⟩ : ByteArray) ++ T ++ ⟨#[34]⟩ = ⟨(strL s).toArray⟩) := by
        refine hid ?_
        rw [← hT]
        unfold strL
        apply ByteArray.ext
        simp
      rw [hT] at hE
      have hEE := hE.out
      have hZs : ((⟨#[34]⟩ : ByteArray) ++ T).size = 1 + T.size := by rw [ByteArray.size_append]; rfl
      have hZ1 : (⟨#[34]⟩ : ByteArray).size = 1 := rfl
      clear HB hE hT
      go_wp2_with fail
      all_goals first | (exfalso; clear hEE hb hsI; omega) | skip
      go_ret
      exact ⟨by rw [← hR.out]; rfl, hb⟩
end Go.Proofs.YtpjgdpfpgpaenaaDoor
