/-
  append of data, told by cells.
  The program's reader: a list with what stands behind its dot.
-/
import Derived.Test.YtfobiknbjijphaaDoorGas
namespace Go.Proofs.YtfobiknbjijphaaDoor
open Go.RowKit
set_option linter.unusedVariables false
set_option linter.unusedSimpArgs false

/-- A row of cells that is to be appended. -/
def Srcs (w : World) (ve : Value) (m : Nat) (ys : List Value) : Prop := ys.length = m * 4 ∧ (∀ u ∈ ys, u.oneCell' = true) ∧ ∃ a c, ve = .slice a m c ∧ (0 < m → ∃ g o, a = some ⟨g, o, none⟩ ∧ ∀ j u, ys[j]? = some u → w.cell? ⟨g, o + j, none⟩ = some u)
theorem Srcs.heap {w w' : World} {ve : Value} {m : Nat} {ys : List Value} (h : Srcs w ve m ys) (e : w'.heap = w.heap) : Srcs w' ve m ys := by
  obtain ⟨h1, h2, a, c, h3, h4⟩ := h
  refine ⟨h1, h2, a, c, h3, fun hm => ?_⟩
  obtain ⟨g, o, g1, g2⟩ := h4 hm
  exact ⟨g, o, g1, fun j u hj => (World.cell?_of_block (w := w) (by rw [e])).trans (g2 j u hj)⟩
theorem SS.cells {lo : Nat} {x : Option Nat} {w : World} {es : List Dt} {ve : Value} (he : SS lo x w es ve) : ∃ ys, Srcs w ve es.length ys ∧ ∀ j (h : j < es.length), DS lo x w es[j] (vx (rx ys) j) := by
  obtain ⟨ax, cx, X, rfl, e2, e3, e4⟩ := he
  refine ⟨(List.range (es.length * 4)).map fun k => X (k / 4) (k % 4), ⟨by simp, fun u hu => ?_, ax, cx, rfl, fun hm => ?_⟩, fun j hj => ?_⟩
  · obtain ⟨k, hk, rfl⟩ := List.mem_map.1 hu
    have hk2 : k < es.length * 4 := by simpa using hk
    exact vx_one (e4 (k / 4) (by omega)) (k % 4) (by omega)
  · obtain ⟨g, o, rfl, hX⟩ := e3 hm
    refine ⟨g, o, rfl, fun j u hj => ?_⟩
    obtain ⟨hj1, hj2⟩ := List.getElem?_eq_some_iff.1 hj
    simp at hj1 hj2
    have := (cutW_cell.1 (hX (j / 4) (by omega) (j % 4) (by omega))).2
    have hj4 : o + j / 4 * 4 + j % 4 = o + j := by omega
    rw [hj4] at this
    rw [this, hj2]
  · have : vx (rx ((List.range (es.length * 4)).map fun k => X (k / 4) (k % 4))) j = vx X j := by
      have hr : ∀ i, i < 4 → rx ((List.range (es.length * 4)).map fun k => X (k / 4) (k % 4)) j i = X j i := fun i hi => by
        unfold rx
        rw [List.getElem?_eq_getElem (by simp; omega)]
        simp
        have h1 : (j * 4 + i) / 4 = j := by omega
        have h2 : i % 4 = i := by omega
        rw [h1, h2]
      unfold vx
      rw [hr 0 (by omega), hr 1 (by omega), hr 2 (by omega), hr 3 (by omega)]
    rw [this]
    exact e4 j hj
theorem run_push0 {lo : Nat} {w : World} {v ve : Value} {n m : Nat} {xs ys : List Value} (ty : TypeId) (o1 : w.ownsRow lo 34 4 v n xs) (he : Srcs w ve m ys) (hn : n + m ≤ 1099511627776) (hlo : lo ≤ w.heap.size) :
    ∃ a c w', (Builtin.append_ #[22, 22] ty #[v, ve]).run Tryd.prog w = .ok (.slice a (n + m) c) w' ∧ w'.ownsRow lo 34 4 (.slice a (n + m) c) (n + m) (xs ++ ys) ∧ w.grownBy w' v.ownBlock ∧ ((Value.slice a (n + m) c).ownBlock = v.ownBlock ∨ (Value.slice a (n + m) c).ownBlock = some w.heap.size) := by
  obtain ⟨i0, hi, hz0, hz1, hz2⟩ := inf34'
  obtain ⟨e1, e2, ax, cx, rfl, e3⟩ := he
  by_cases h0 : m = 0
  · subst h0
    obtain rfl : ys = [] := List.length_eq_zero_iff.1 (by simpa using e1)
    have ⟨a, c, hv, hc⟩ : ∃ a c, v = .slice a n c ∧ n ≤ c := by
      rcases o1.2 with ⟨q1, q2⟩ | ⟨g, cap, cur, q1, _, _, q2, _⟩
      · exact ⟨none, 0, by rw [q1, q2], by omega⟩
      · exact ⟨_, cap, q1, q2⟩
    subst hv
    refine ⟨a, c, w, ?_, ?_, ⟨rfl, rfl, rfl, Nat.le_refl _, fun _ _ _ => rfl⟩, ?_⟩
    · cases a <;> cases ax <;> simp [Builtin.append_, run_underlying Tryd.underlying22, sizeOf, typeInfo, hi, hc, storeCells, Builtin.lenOf, Builtin.firstCells, loadCells, loadCellsFrom, hz1]
    · rw [List.append_nil]
      exact o1
    · exact .inl (by cases a <;> rfl)
  · obtain ⟨g, o, rfl, hX⟩ := e3 (by omega)
    obtain ⟨v', w', r1, r2, r3, _, r5⟩ := run_append_own_at (P := Tryd.prog) w lo 22 ty 34 i0 _ 4 72 Tryd.underlying22 hi hz0 hz1 hz2 rfl (by decide) v n xs o1 ⟨g, o, none⟩ m cx ys e1 (fun j u hj => by
      rw [Addr.add_lit]; exact hX j u hj) e2 (by unfold maxLen; omega) (by omega) hlo
    have ⟨a, c, hv⟩ : ∃ a c, v' = .slice a (n + m) c := by
      rcases r2.2 with ⟨q1, q2⟩ | ⟨g, cap, cur, q1, _, _, q2, _⟩
      · omega
      · exact ⟨_, cap, q1⟩
    subst hv
    exact ⟨a, c, w', r1, r2, r3, r5⟩
theorem step_push0 {ops : Array Oper} {o : Oper} {a : Act} {w : World} {K : Act → World → Prop} {Q : Exit → Act → World → Prop} {E : Prop}
    (hg : o.guard = none) (s x : Operand) (hop : o.op = Op.call { callee := Callee.builtin Builtin.append, args := #[s, x], argTypes := #[22, 22] })
    (lo : Nat) (v ve : Value) (n m : Nat) (xs ys : List Value) (hs : a.eval s = v) (hx : a.eval x = ve) (hd : w.ownsRow lo 34 4 v n xs) (he : Srcs w ve m ys) (hn : n + m ≤ 1099511627776) (hlo : lo ≤ w.heap.size)
    (h : ∀ a' c' w', w'.ownsRow lo 34 4 (.slice a' (n + m) c') (n + m) (xs ++ ys) → w.grownBy w' v.ownBlock → ((Value.slice a' (n + m) c').ownBlock = v.ownBlock ∨ (Value.slice a' (n + m) c').ownBlock = some w.heap.size) → K (a.put o.dst (.slice a' (n + m) c')) w') :
    if Region.wanted o (yielded ops a.tmps) = true then Oper.wp Tryd.prog o a w K Q else E := by
  have hw : Region.wanted o (yielded ops a.tmps) = true := by simp [Region.wanted, hg]
  rw [if_pos hw]
  obtain ⟨a', c', w', hr, h2, h3, h4⟩ := run_push0 o.type hd he hn hlo
  unfold Oper.wp execOp
  simp only [hop, resolve, invoke, builtin, Sem.run_bind, Sem.run_pure, Result.andThen_ok, List.map_toArray, List.map_cons, List.map_nil, hs, hx, hr]
  exact h a' c' w' h2 h3 h4
theorem rx_left {xs ys : List Value} {n j : Nat} (h : xs.length = n * 4) (hj : j < n) : vx (rx (xs ++ ys)) j = vx (rx xs) j := by
  unfold vx rx
  rw [List.getElem?_append_left (by omega), List.getElem?_append_left (by omega), List.getElem?_append_left (by omega), List.getElem?_append_left (by omega)]
theorem rx_right {xs ys : List Value} {n j : Nat} (h : xs.length = n * 4) (hj : n ≤ j) : vx (rx (xs ++ ys)) j = vx (rx ys) (j - n) := by
  have hx : ∀ i, j * 4 + i - xs.length = (j - n) * 4 + i := fun i => by omega
  unfold vx rx
  rw [List.getElem?_append_right (by omega), List.getElem?_append_right (by omega), List.getElem?_append_right (by omega), List.getElem?_append_right (by omega), hx, hx, hx, hx]
/-- A grown row, its data told where they are now. -/
theorem DRow.of {lo : Nat} {V : World} {v' : Value} {ds es : List Dt} {xs ys : List Value} (h1 : V.ownsRow lo 34 4 v' (ds.length + es.length) (xs ++ ys)) (hx : xs.length = ds.length * 4)
    (h2 : ∀ j (h : j < ds.length), DS lo v'.ownBlock V ds[j] (vx (rx xs) j)) (h3 : ∀ j (h : j < es.length), DS lo v'.ownBlock V es[j] (vx (rx ys) j)) : DRow lo V v' (ds ++ es) := by
  refine ⟨xs ++ ys, by rw [List.length_append]; exact h1, fun j hj => ?_⟩
  by_cases hlt : j < ds.length
  · rw [rx_left hx hlt, List.getElem_append_left hlt]
    exact h2 j hlt
  · rw [rx_right hx (by omega), List.getElem_append_right (by omega)]
    exact h3 _ (by rw [List.length_append] at hj; omega)
end Go.Proofs.YtfobiknbjijphaaDoor

namespace Go.Proofs.YtfobiknbjijphaaDoor
open Go.RowKit
set_option linter.unusedVariables false
set_option linter.unusedSimpArgs false

theorem D4.heap {w w' : World} {g : Nat} {v0 v1 v2 v3 : Value} (e : D4 w g v0 v1 v2 v3) (h : w'.heap = w.heap) : D4 w' g v0 v1 v2 v3 := by
  unfold D4 at *
  rw [h]; exact e
def dotR (acc : List Dt) (R : Rs Dt) : Rs Dt := match R with
  | .bad k m => .bad k m
  | .ok x r2 => match skB false r2 with
    | [] => .bad 0 100
    | c3 :: r3 => if c3 = 41 then .ok (mkl acc x) r3 else .bad (r3.length + 1) 100
theorem dotR_end {acc : List Dt} {x : Dt} {r2 : List UInt8} (h : skB false r2 = []) : dotR acc (.ok x r2) = .bad 0 100 := by simp only [dotR, h]
theorem dotR_yes {acc : List Dt} {x : Dt} {r2 r3 : List UInt8} (h : skB false r2 = 41 :: r3) : dotR acc (.ok x r2) = .ok (mkl acc x) r3 := by simp only [dotR, h, if_true]
theorem dotR_no {acc : List Dt} {x : Dt} {r2 r3 : List UInt8} {c : UInt8} (h : skB false r2 = c :: r3) (hc : c ≠ 41) : dotR acc (.ok x r2) = .bad (r3.length + 1) 100 := by simp only [dotR, h, hc, if_false]
/-- What may change: the reader's block, and blocks from lo on. -/
abbrev Fr (b lo : Nat) : Nat → Prop := fun k => k = b ∨ lo ≤ k
theorem Pt.fr {b lo : Nat} {w w' : World} (h : Pt b w w') : Part (Fr b lo) w w' := Part.mono h (fun _ _ e => Or.inl e)
/-- What a reader answers that may write from lo on. -/
def DtO (b : Nat) (s : ByteArray) (o lo : Nat) (w : World) (R : Rs Dt) (e : Ending) (w' : World) : Prop :=
  (∃ d a c a2 c2 q, e = .returned (.agg #[.int .i64 d.kd, .string d.tx, .slice a d.its.length c, .slice a2 d.tl.length c2]) ∧ Hid (R = .ok d (rst s q) ∧ Rr b s q o w' ∧ Part (Fr b lo) w w' ∧ DS lo none w' d (.agg #[.int .i64 d.kd, .string d.tx, .slice a d.its.length c, .slice a2 d.tl.length c2]))) ∨
  (Pnc e ∧ Hid (∃ k m, R = .bad k m ∧ k ≤ s.size ∧ Flt b s k m w' ∧ Part (Fr b lo) w w'))
set_option maxHeartbeats 8000000 in
theorem rd_dotted {n b lo : Nat} {s : ByteArray} {p o : Nat} {w : World} {v : Value} {acc : List Dt} (hRD : RD n) (h : Rr b s p o w) (hn : o + n = 64) (hb : b < lo) (hlo : lo ≤ w.heap.size) (hd : DRow lo w v acc) (hl : acc.length ≤ p) :
    Calls Tryd.prog 65 #[.pointer (some ⟨b, 0, none⟩), v] w fun e w' => DtO b s o lo w (dotR acc (rdD n (rst s p))) e w' := by
  obtain ⟨a0, c0, hv, hc0⟩ := hd.lt
  subst hv
  obtain ⟨G, hG⟩ : ∃ G, w.heap.size = G := ⟨_, rfl⟩
  obtain ⟨W1, hW⟩ : ∃ W1, w.alloc (.cells #[.int .i64 0, .string ⟨#[]⟩, .slice none 0 0, .slice none 0 0] 34) = W1 := ⟨_, rfl⟩
  have hB1 : Below w.heap.size w W1 := by rw [← hW]; exact (Below.refl _ w).alloc (Nat.le_refl _) _
  have d1 : D4 W1 G (.int .i64 0) (.string ⟨#[]⟩) (.slice none 0 0) (.slice none 0 0) := by rw [← hW]; exact heap_alloc_at _ _ _ hG.symm
  have hG1 : W1.heap.size = G + 1 := by rw [← hW, World.size_alloc, hG]
  have r1 := h.under hB1
  have HR1 := hid r1
  have HZ : Hid (b < lo ∧ lo ≤ G ∧ p ≤ s.size ∧ acc.length ≤ p ∧ s.size ≤ 1099511627776) := hid ⟨hb, by omega, h.1.1, hl, h.1.2.1⟩
  have HC := hid (hRD b s p o W1 r1 hn)
  have HD1 := hid d1
  have HDw := hid hd
  have HG1 := hid hG1
  have HB1 := hid hB1
  obtain ⟨R, hR⟩ : ∃ R, rdD n (rst s p) = R := ⟨_, rfl⟩
  have HGet : Hid (∀ x r, R = .ok x r → x.its.length + p ≤ s.size) := hid fun x r e => by
    have := (rdD_gets n (rst s p) x r (by rw [hR, e])).1
    rw [rst_len] at this
    have h2 := h.1.1
    omega
  rw [hR] at HC
  rw [hR]
  have HP : Hid (∀ V e, Pnc e → Hid (∃ k m, dotR acc R = .bad k m ∧ k ≤ s.size ∧ Flt b s k m V ∧ Pt b w V) → DtO b s o lo w (dotR acc R) e V) := hid fun V e h1 h2 => by
    obtain ⟨k, m, g1, g2, g3, g4⟩ := h2.out
    exact .inr ⟨h1, hid ⟨k, m, g1, g2, g3, g4.fr⟩⟩
  clear hRD h hB1 d1 hG1 r1 hR hd hb hlo hl
  go_enter Tryd.func65, Tryd.ntmps65
  go_wp2_with fail
  try rw [hW]
  try rw [hG]
  try go_wp2_with fail
  refine HC.out.mono ?_
  clear HC
  rintro e w2 (⟨d, a, c, a2, c2, q, rfl, HR⟩ | ⟨⟨v, rfl⟩, HR⟩)
  rotate_left
  · have HF := hid (HP.out w2 (.panicked [{ v := .iface 44 v, recovered := false }]) ⟨v, rfl⟩ (hid (by obtain ⟨k, m, g1, g2, g3, g4⟩ := HR.out; exact ⟨k, m, by rw [g1]; rfl, g2, g3, (Pt.ofB HB1.out).trans_ g4⟩)))
    clear HP HR HGet HR1 HD1 HDw HG1 HB1
    go_wp2
    refine ⟨rfl, ?_⟩
    exact HF.out
  obtain ⟨G2, hG2⟩ : ∃ G2, w2.heap.size = G2 := ⟨_, rfl⟩
  obtain ⟨W3, hW3⟩ : ∃ W3, w2.alloc (.cells #[.int .i64 d.kd, .string d.tx, .slice a d.its.length c, .slice a2 d.tl.length c2] 34) = W3 := ⟨_, rfl⟩
  have hB3 : Below w2.heap.size w2 W3 := by rw [← hW3]; exact (Below.refl _ w2).alloc (Nat.le_refl _) _
  have d3 : D4 W3 G2 (.int .i64 d.kd) (.string d.tx) (.slice a d.its.length c) (.slice a2 d.tl.length c2) := by rw [← hW3]; exact heap_alloc_at _ _ _ hG2.symm
  have hGG2 : G < G2 := by
    have h1 := HR.out.2.2.1.size
    have h2 := HG1.out
    omega
  have d3g : D4 W3 G (.int .i64 0) (.string ⟨#[]⟩) (.slice none 0 0) (.slice none 0 0) := (HD1.out.part HR.out.2.2.1 (fun e => by have := HZ.out; omega)).under hB3
  have p3 : Pt b w W3 := ((Pt.ofB HB1.out).trans_ HR.out.2.2.1).trans_ (Pt.ofB hB3)
  have HC := hid (rd_closed (HR.out.2.1.under hB3))
  have H3 : Hid (D4 W3 G2 (.int .i64 d.kd) (.string d.tx) (.slice a d.its.length c) (.slice a2 d.tl.length c2) ∧ D4 W3 G (.int .i64 0) (.string ⟨#[]⟩) (.slice none 0 0) (.slice none 0 0) ∧ Pt b w W3 ∧ (∀ k, k < G2 → W3.heap[k]? = w2.heap[k]?)) := hid ⟨d3, d3g, p3, fun k hk => hB3.block k (by omega)⟩
  have HW3 := hid hW3
  have HG2 := hid hG2
  have HGG := hid hGG2
  clear hB3 d3 d3g p3 hW3 hGG2
  go_wp2_with fail
  try rw [HW3.out]
  refine HC.out.mono ?_
  clear HC
  rintro e w4 (⟨q2, rfl, HQ⟩ | ⟨q2, rfl, HQ⟩ | ⟨⟨v, rfl⟩, HQ⟩)
  · have HRR : Hid (dotR acc R = .ok (mkl acc d) (rst s q2)) := hid (by rw [HR.out.1]; exact dotR_yes HQ.out.1)
    have H4 : Hid (D4 w4 G2 (.int .i64 d.kd) (.string d.tx) (.slice a d.its.length c) (.slice a2 d.tl.length c2) ∧ D4 w4 G (.int .i64 0) (.string ⟨#[]⟩) (.slice none 0 0) (.slice none 0 0) ∧ Pt b w w4 ∧ (∀ k, k < G2 → k ≠ b → w4.heap[k]? = w2.heap[k]?) ∧ G2 < w4.heap.size) := hid (by
      have hW3s := (Array.getElem?_eq_some_iff.1 H3.out.1).1
      have z := HZ.out
      have g := HGG.out
      have e1 := H3.out.1.part HQ.out.2.2 (fun e => by omega)
      refine ⟨e1, H3.out.2.1.part HQ.out.2.2 (fun e => by omega), H3.out.2.2.1.trans_ HQ.out.2.2, fun k k1 k2 => ?_, (Array.getElem?_eq_some_iff.1 e1).1⟩
      exact (HQ.out.2.2.block k (by omega) k2).trans (H3.out.2.2.2 k k1))
    have hnx : Nx W1.heap.size none w2 W1.heap.size none w4 := fun k k1 k2 k3 => ⟨H4.out.2.2.2.1 k (by have := HG2.out; omega) (by have := HZ.out; have := HG1.out; omega), k1, k2⟩
    have HDS := hid (HR.out.2.2.2.nx hnx)
    have HRr := hid HQ.out.2.1
    obtain ⟨e0, e1, e2, e3, -, -, -, -⟩ := H4.out.1.c4
    obtain ⟨i0, i1, i2, i3, f0, f1, f2, f3⟩ := H4.out.2.1.c4
    clear hnx HQ H3 HW3
    by_cases h5 : d.kd = 5
    · have b5 : (d.kd == 5) = true := by rw [h5]; rfl
      obtain ⟨xs, o1, o2⟩ := HDw.out
      obtain ⟨v1, v2, hv, s1, s2⟩ := HDS.out.parts
      injection hv with hv
      have h2 := congrArg (fun z => z[2]?) hv
      have h3 := congrArg (fun z => z[3]?) hv
      simp at h2 h3
      subst h2; subst h3
      obtain ⟨ys, y1, y2⟩ := s1.cells
      have hl : acc.length + d.its.length ≤ 1099511627776 := by
        have h1 := HGet.out d _ HR.out.1
        have h2 := HZ.out
        omega
      have hown : ∀ g, (Value.slice a0 acc.length c0).ownBlock = some g → lo ≤ g ∧ g < G := fun g hg => by
        have := World.ownsRow.lt o1 g hg
        omega
      have HS : Hid (∀ V : World, V.heap = w4.heap → V.ownsRow lo 34 4 (.slice a0 acc.length c0) acc.length xs ∧ Srcs V (.slice a d.its.length c) d.its.length ys ∧ lo ≤ V.heap.size) := hid fun V hV => by
        refine ⟨row_heap (H4.out.2.2.1.row o1 (fun k hk e => ?_)) hV, y1.heap hV, ?_⟩
        · have := hown k hk
          have := HZ.out
          omega
        · rw [hV]
          have := H4.out.2.2.2.2
          have := HZ.out
          have := HGG.out
          omega
      have HK : Hid (∀ V w5 : World, V.heap = w4.heap → V.grownBy w5 (Value.slice a0 acc.length c0).ownBlock → C4 w5 G2 (.int .i64 d.kd) (.string d.tx) (.slice a d.its.length c) (.slice a2 d.tl.length c2) ∧ C4 w5 G (.int .i64 0) (.string ⟨#[]⟩) (.slice none 0 0) (.slice none 0 0)) := hid fun V w5 hV hg => by
        have h4 := H4.out.2.2.2.2
        have hgg := HGG.out
        refine ⟨D4.c4 ?_, D4.c4 ?_⟩
        · refine (hg.block G2 (by rw [hV]; exact h4) (fun e => ?_)).trans (H4.out.1.heap hV)
          have := hown G2 e.symm
          omega
        · refine (hg.block G (by rw [hV]; omega) (fun e => ?_)).trans (H4.out.2.1.heap hV)
          have := hown G e.symm
          omega
      have HE : Hid (∀ (V w5 : World) (a' : Option Addr) (c' : Nat), V.heap = w4.heap → V.tape = w4.tape → V.os = w4.os → V.output = w4.output → w5.ownsRow lo 34 4 (.slice a' (acc.length + d.its.length) c') (acc.length + d.its.length) (xs ++ ys) → V.grownBy w5 (Value.slice a0 acc.length c0).ownBlock → ((Value.slice a' (acc.length + d.its.length) c').ownBlock = (Value.slice a0 acc.length c0).ownBlock ∨ (Value.slice a' (acc.length + d.its.length) c').ownBlock = some V.heap.size) →
          D4 (set4 w5 G (.int .i64 5) (.string ⟨#[]⟩) (.slice a' (acc.length + d.its.length) c') (.slice a2 d.tl.length c2)) G (.int .i64 5) (.string ⟨#[]⟩) (.slice a' (acc.length + d.its.length) c') (.slice a2 d.tl.length c2) ∧
          DtO b s o lo w (dotR acc R) (.returned (.agg #[.int .i64 5, .string ⟨#[]⟩, .slice a' (acc.length + d.its.length) c', .slice a2 d.tl.length c2])) (set4 w5 G (.int .i64 5) (.string ⟨#[]⟩) (.slice a' (acc.length + d.its.length) c') (.slice a2 d.tl.length c2))) := hid fun V w5 a' c' hV t1 t2 t3 ho hg ha => by
        have h4 := H4.out.2.2.2.2
        have hgg := HGG.out
        have z := HZ.out
        have hVs : V.heap.size = w4.heap.size := by rw [hV]
        have g1 : D4 w5 G (.int .i64 0) (.string ⟨#[]⟩) (.slice none 0 0) (.slice none 0 0) := (hg.block G (by omega) (fun e => by have := hown G e.symm; omega)).trans (H4.out.2.1.heap hV)
        have g2 := g1.set (.int .i64 5) (.string ⟨#[]⟩) (.slice a' (acc.length + d.its.length) c') (.slice a2 d.tl.length c2)
        obtain ⟨U, hU⟩ : ∃ U, set4 w5 G (.int .i64 5) (.string ⟨#[]⟩) (.slice a' (acc.length + d.its.length) c') (.slice a2 d.tl.length c2) = U := ⟨_, rfl⟩
        have hUo : ∀ k, k ≠ G → U.heap[k]? = w5.heap[k]? := fun k hk => by rw [← hU]; exact set4_other _ hk _ _ _ _
        have hUs : U.heap.size = w5.heap.size := by rw [← hU]; simp [set4, World.setCell]
        have hs5 := hg.size
        -- what was in w4, and is neither G nor the old row, is there still
        have hU4 : ∀ k, k < w4.heap.size → k ≠ G → some k ≠ (Value.slice a0 acc.length c0).ownBlock → U.heap[k]? = w4.heap[k]? := fun k k1 k2 k3 => by
          rw [hUo k k2, hg.block k (by omega) k3, hV]
        have hp4 : Part (Fr b lo) w4 U := by
          have p1 : Part (Fr b lo) w4 w5 := ⟨hg.os.trans t2, hg.tape.trans t1, hg.output.trans t3, by omega, fun k k1 k2 => by
            rw [hg.block k (by omega) (fun e => by have := hown k e.symm; exact k2 (.inr this.1)), hV]⟩
          rw [← hU]
          exact Part.trans p1 (set4_part w5 G _ _ _ _) (fun i _ e => .inr (by omega))
        have hrU : Rr b s q2 o U := HRr.out.part (F := fun k => k = G ∨ some k = (Value.slice a0 acc.length c0).ownBlock) ⟨hp4.os, hp4.tape, hp4.output, hp4.size, fun k k1 k2 => hU4 k k1 (fun e => k2 (.inl e)) (fun e => k2 (.inr e))⟩ (fun e => by
          rcases e with e | e
          · omega
          · have := hown b e.symm; omega)
        have hpU : Part (Fr b lo) w U := Part.trans H4.out.2.2.1.fr hp4 (fun _ _ e => e)
        rw [hU] at g2 ⊢
        refine ⟨g2, .inl ⟨mkl acc d, a', c', a2, c2, q2, ?_, hid ⟨HRR.out, hrU, hpU, ?_⟩⟩⟩
        · unfold mkl; rw [if_pos h5]
          simp [Dt.kd, Dt.tx, Dt.its, Dt.tl]
        · have hmk : mkl acc d = .node 5 ⟨#[]⟩ (acc ++ d.its) d.tl := by unfold mkl; rw [if_pos h5]
          rw [hmk]
          have hown' : ∀ k, (Value.slice a' (acc.length + d.its.length) c').ownBlock = some k → (Value.slice a0 acc.length c0).ownBlock = some k ∨ k = w4.heap.size := fun k hk => by
            rcases ha with e | e
            · exact .inl (by rw [← e]; exact hk)
            · rw [hk] at e; injection e with e; exact .inr (by omega)
          have hro : U.ownsRow lo 34 4 (.slice a' (acc.length + d.its.length) c') (acc.length + d.its.length) (xs ++ ys) := by
            have : Part (fun k => k = G) w5 U := by rw [← hU]; exact set4_part w5 G _ _ _ _
            exact this.row ho (fun k hk e => by
              rcases hown' k hk with h | h
              · have := hown k h; omega
              · omega)
          have n1 : Nx lo (Value.slice a0 acc.length c0).ownBlock w lo (Value.slice a' (acc.length + d.its.length) c').ownBlock U := fun k k1 k2 k3 => by
            refine ⟨?_, k1, fun e => ?_⟩
            · rw [hU4 k (by omega) (by omega) k2]
              exact H4.out.2.2.1.block k k3 (by omega)
            · rcases hown' k e.symm with h | h
              · exact k2 h.symm
              · omega
          have n2 : Nx W1.heap.size none w4 lo (Value.slice a' (acc.length + d.its.length) c').ownBlock U := fun k k1 _ k3 => by
            have hg1 := HG1.out
            refine ⟨hU4 k k3 (by omega) (fun e => by have := hown k e.symm; omega), by omega, fun e => ?_⟩
            rcases hown' k e.symm with h | h
            · have := hown k h; omega
            · omega
          have n3 : Nx W1.heap.size none w4 lo none U := fun k k1 k2 k3 => ⟨(n2 k k1 k2 k3).1, (n2 k k1 k2 k3).2.1, by simp⟩
          have hrow := DRow.of hro o1.1 (fun j hj => (o2 j hj).nx n1) (fun j hj => (y2 j hj).nx n2)
          have hss := hrow.ss
          have := DS.node hss (s2.nx n3) 5 ⟨#[]⟩ (by decide)
          simpa [Dt.kd, Dt.tx, Dt.its, Dt.tl] using this
      have hl2 := hid hl
      clear HP hv o1 o2 s1 s2 y1 y2 hown h5 hl
      go_wp2_with fail
      go_region_law (refine step_push0 rfl _ _ rfl lo (.slice a0 acc.length c0) (.slice a d.its.length c) acc.length d.its.length xs ys (by go_simp) (by go_simp) (by exact (HS.out _ rfl).1) (by exact (HS.out _ rfl).2.1) (by exact hl2.out) (by exact (HS.out _ rfl).2.2) ?_; intro a' c' w5 ho5 hg5 hw5; obtain ⟨⟨e0, e1, e2, e3, -, -, -, -⟩, ⟨i0, i1, i2, i3, f0, f1, f2, f3⟩⟩ := HK.out w4.drew w5 rfl hg5)
      all_goals
        obtain ⟨k1, k2⟩ := HE.out w4.drew w5 a' c' rfl rfl rfl rfl ho5 hg5 hw5
        clear HE HK HS
        go_wp2
        exact bodyPost_ret (v := .agg #[.int .i64 5, .string ⟨#[]⟩, .slice a' (acc.length + d.its.length) c', .slice a2 d.tl.length c2]) (res4 k1 Tryd.results65 rfl) rfl k2
    · have b5 : (d.kd == 5) = false := by simp; exact h5
      obtain ⟨T, hT⟩ : ∃ T, w4.heap.size = T := ⟨_, rfl⟩
      have hGT : G < T := by have := H4.out.2.2.2.2; have := HGG.out; omega
      have HE : Hid (∀ V, V = (set4 w4 G (.int .i64 5) (.string ⟨#[]⟩) (.slice a0 acc.length c0) (.slice (some ⟨T, 0, none⟩) 1 1)).alloc (.cells #[.int .i64 d.kd, .string d.tx, .slice a d.its.length c, .slice a2 d.tl.length c2] 34) → D4 V G (.int .i64 5) (.string ⟨#[]⟩) (.slice a0 acc.length c0) (.slice (some ⟨T, 0, none⟩) 1 1) ∧ DtO b s o lo w (dotR acc R) (.returned (.agg #[.int .i64 5, .string ⟨#[]⟩, .slice a0 acc.length c0, .slice (some ⟨T, 0, none⟩) 1 1])) V) := hid fun V hV => by
        have z := HZ.out
        have g2 := H4.out.2.1.set (.int .i64 5) (.string ⟨#[]⟩) (.slice a0 acc.length c0) (.slice (some ⟨T, 0, none⟩) 1 1)
        have p2 := set4_part w4 G (.int .i64 5) (.string ⟨#[]⟩) (.slice a0 acc.length c0) (.slice (some ⟨T, 0, none⟩) 1 1)
        obtain ⟨U, hU⟩ : ∃ U, set4 w4 G (.int .i64 5) (.string ⟨#[]⟩) (.slice a0 acc.length c0) (.slice (some ⟨T, 0, none⟩) 1 1) = U := ⟨_, rfl⟩
        have hUs : U.heap.size = T := by rw [← hU, ← hT]; simp [set4, World.setCell]
        rw [hU] at hV g2 p2
        have vb : Below U.heap.size U V := by rw [hV]; exact (Below.refl _ U).alloc (Nat.le_refl _) _
        have vT : V.heap[T]? = some (.cells #[.int .i64 d.kd, .string d.tx, .slice a d.its.length c, .slice a2 d.tl.length c2] 34 (0, 0)) := by rw [hV]; exact heap_alloc_at _ _ _ hUs.symm
        have hV4 : ∀ k, k < T → k ≠ G → V.heap[k]? = w4.heap[k]? := fun k k1 k2 => (vb.block k (by omega)).trans (p2.block k (by omega) k2)
        have hrV : Rr b s q2 o V := (HRr.out.part p2 (fun e => by omega)).under vb
        have hpV : Part (Fr b lo) w V := by
          refine Part.trans (Part.trans H4.out.2.2.1.fr p2 (fun i _ e => .inr (by omega))) (Part.ofBelow vb : Part (fun _ => False) U V) (fun _ _ e => e.elim)
        refine ⟨g2.under vb, .inl ⟨mkl acc d, a0, c0, some ⟨T, 0, none⟩, 1, q2, ?_, hid ⟨HRR.out, hrV, hpV, ?_⟩⟩⟩
        · unfold mkl; rw [if_neg h5]
          rfl
        · have hmk : mkl acc d = .node 5 ⟨#[]⟩ acc [d] := by unfold mkl; rw [if_neg h5]
          rw [hmk]
          have hg1 := HG1.out
          have r1 : DRow lo V (.slice a0 acc.length c0) acc := HDw.out.keep fun k k1 k2 => by
            rw [hV4 k (by omega) (by omega)]
            exact H4.out.2.2.1.block k k2 (by omega)
          have r2 : SS W1.heap.size none V [d] (.slice (some ⟨T, 0, none⟩) 1 1) := SS.one HDS.out vT (by omega) (by simp) (fun k k1 k2 => hV4 k (by omega) (by omega))
          exact DS.node r1.ss (r2.nx fun k k1 k2 k3 => ⟨rfl, by omega, by simp⟩) 5 ⟨#[]⟩ (by decide)
      clear HP
      go_wp2_with fail
      obtain ⟨k1, k2⟩ := HE.out _ rfl
      exact bodyPost_ret (v := .agg #[.int .i64 5, .string ⟨#[]⟩, .slice a0 acc.length c0, .slice (some ⟨T, 0, none⟩) 1 1]) (res4 k1 Tryd.results65 rfl) rfl k2
  · have HX : Hid (∃ h : q2 < s.size, s[q2] ≠ 41 ∧ skB false (rst s q) = s[q2] :: rst s (q2 + 1)) := hid (by
      obtain ⟨h1, h2⟩ := HQ.out.2.1
      exact ⟨h1, h2, by rw [HQ.out.1, rst_cons h1]⟩)
    obtain ⟨-, y1, -, -, -, -, -, -, -⟩ := HQ.out.2.2.1.cells
    have HG := hid (rd_giveUp HQ.out.2.2.1 q2 100 (by obtain ⟨h1, _⟩ := HX.out; omega))
    have HP2 := hid (H3.out.2.2.1.trans_ HQ.out.2.2.2)
    clear HQ H3 HW3
    go_wp2_with fail
    refine HG.out.mono ?_
    rintro e w5 ⟨⟨v, rfl⟩, hf, hp⟩
    have HF := hid (HP.out w5 (.panicked [{ v := .iface 44 v, recovered := false }]) ⟨v, rfl⟩ (hid (by
      obtain ⟨h1, h2, h3⟩ := HX.out
      refine ⟨s.size - q2, 100, ?_, by omega, hf.out 100 rfl, HP2.out.trans_ hp.out⟩
      rw [HR.out.1, dotR_no h3 h2, rst_len]
      congr 1
      omega)))
    clear HP HR HGet HR1 HD1 HDw HG1 HB1 HG HP2 HX hf hp
    go_wp2
    refine ⟨rfl, ?_⟩
    exact HF.out
  · have HF := hid (HP.out w4 (.panicked [{ v := .iface 44 v, recovered := false }]) ⟨v, rfl⟩ (hid ⟨0, 100, by rw [HR.out.1]; exact dotR_end HQ.out.1, Nat.zero_le _, HQ.out.2.1, H3.out.2.2.1.trans_ HQ.out.2.2⟩))
    clear HP HR HGet HR1 HD1 HDw HG1 HB1 HQ H3 HW3
    go_wp2
    refine ⟨rfl, ?_⟩
    exact HF.out
end Go.Proofs.YtfobiknbjijphaaDoor
