/-
  Rows of data grow by append: by one, by another row; where nothing is appended.
  The program's reader: what is quoted, given that data are read.
-/
import Derived.Test.YtfobiknbjijphaaDoorGar
import Derived.Test.YtfobiknbjijphaaDoorGaf
namespace Go.Proofs.YtfobiknbjijphaaDoor
open Go.RowKit
set_option linter.unusedVariables false
set_option linter.unusedSimpArgs false

theorem inf34 : (Tryd.prog.info? 34).map (fun i => (i.zero, i.size, i.bytes)) = some (some (.agg #[.int .i64 0, .string ⟨#[]⟩, .slice none 0 0, .slice none 0 0]), 4, 72) := by kernel_rfl
theorem inf34' : ∃ i, Tryd.prog.info? 34 = some i ∧ i.zero = some (.agg #[.int .i64 0, .string ⟨#[]⟩, .slice none 0 0, .slice none 0 0]) ∧ i.size = 4 ∧ i.bytes = 72 := by
  cases h : Tryd.prog.info? 34 with
  | none => have := inf34; rw [h] at this; cases this
  | some i =>
    have := inf34
    rw [h] at this
    injection this with this
    injection this with h1 h2
    injection h2 with h2 h3
    exact ⟨i, rfl, h1, h2, h3⟩
theorem SS.one {lo : Nat} {x : Option Nat} {w W : World} {d : Dt} {v0 v1 v2 v3 : Value} {T : Nat} (h : DS lo x w d (.agg #[v0, v1, v2, v3])) (hT : W.heap[T]? = some (.cells #[v0, v1, v2, v3] 34 (0, 0))) (hl : lo ≤ T) (hx : some T ≠ x) (hk : ∀ q, lo ≤ q → q < w.heap.size → W.heap[q]? = w.heap[q]?) : SS lo x W [d] (.slice (some ⟨T, 0, none⟩) 1 1) := by
  refine ⟨_, 1, fun j i => #[v0, v1, v2, v3][j * 4 + i]?.getD .nilIface, rfl, ⟨Nat.le_refl _, by decide⟩, fun _ => ⟨T, 0, rfl, fun j hj i hi => ?_⟩, fun j hj => ?_⟩
  · obtain rfl : j = 0 := by simpa using hj
    rw [cutW_cell]
    refine ⟨⟨hl, hx⟩, ?_⟩
    rw [cells_at hT]
    have : 0 + 0 * 4 + i = i := by omega
    rw [this]
    show #[v0, v1, v2, v3][i]? = some (#[v0, v1, v2, v3][0 * 4 + i]?.getD .nilIface)
    rw [Nat.zero_mul, Nat.zero_add, Array.getElem?_eq_getElem (by simpa using hi)]
    rfl
  · obtain rfl : j = 0 := by simpa using hj
    exact h.nx fun q q1 q2 q3 => ⟨hk q q1 q3, q1, q2⟩
theorem SS.two {lo : Nat} {x : Option Nat} {w W : World} {d d' : Dt} {v0 v1 v2 v3 u0 u1 u2 u3 : Value} {T : Nat} (h : DS lo x w d (.agg #[v0, v1, v2, v3])) (h' : DS lo x w d' (.agg #[u0, u1, u2, u3])) (hT : W.heap[T]? = some (.cells #[v0, v1, v2, v3, u0, u1, u2, u3] 34 (0, 0))) (hl : lo ≤ T) (hx : some T ≠ x) (hk : ∀ q, lo ≤ q → q < w.heap.size → W.heap[q]? = w.heap[q]?) : SS lo x W [d, d'] (.slice (some ⟨T, 0, none⟩) 2 2) := by
  refine ⟨_, 2, fun j i => #[v0, v1, v2, v3, u0, u1, u2, u3][j * 4 + i]?.getD .nilIface, rfl, ⟨Nat.le_refl _, by decide⟩, fun _ => ⟨T, 0, rfl, fun j hj i hi => ?_⟩, fun j hj => ?_⟩
  · have hj2 : j < 2 := hj
    rw [cutW_cell]
    refine ⟨⟨hl, hx⟩, ?_⟩
    rw [cells_at hT, Nat.zero_add]
    show #[v0, v1, v2, v3, u0, u1, u2, u3][j * 4 + i]? = some (#[v0, v1, v2, v3, u0, u1, u2, u3][j * 4 + i]?.getD .nilIface)
    rw [Array.getElem?_eq_getElem (by simp; omega)]
    rfl
  · have hn : Nx lo x w lo x W := fun q q1 q2 q3 => ⟨hk q q1 q3, q1, q2⟩
    match j, hj with
    | 0, _ => exact h.nx hn
    | 1, _ => exact h'.nx hn
theorem vx_one {w : World} {d : Dt} {X : Nat → Nat → Value} {j : Nat} (h : DAt w d (vx X j)) (i : Nat) (hi : i < 4) : (X j i).oneCell' = true := by
  obtain ⟨a, n, c, b, n2, c2, h0, h1, h2, h3⟩ := h.form
  match i, hi with
  | 0, _ => rw [h0]; rfl
  | 1, _ => rw [h1]; rfl
  | 2, _ => rw [h2]; rfl
  | 3, _ => rw [h3]; rfl
theorem run_push {lo : Nat} {w : World} {v ve : Value} {ds es : List Dt} (ty : TypeId) (hd : DRow lo w v ds) (he : SS lo v.ownBlock w es ve) (hn : ds.length + es.length ≤ 1099511627776) (hlo : lo ≤ w.heap.size) :
    ∃ a c w', (Builtin.append_ #[22, 22] ty #[v, ve]).run Tryd.prog w = .ok (.slice a (ds.length + es.length) c) w' ∧ DRow lo w' (.slice a (ds.length + es.length) c) (ds ++ es) ∧ w.grownBy w' v.ownBlock := by
  obtain ⟨i0, hi, hz0, hz1, hz2⟩ := inf34'
  obtain ⟨xs, o1, o2⟩ := hd
  obtain ⟨ax, cx, X, rfl, e2, e3, e4⟩ := he
  by_cases h0 : es.length = 0
  · obtain rfl : es = [] := List.length_eq_zero_iff.1 h0
    have ⟨a, c, hv, hc⟩ : ∃ a c, v = .slice a ds.length c ∧ ds.length ≤ c := by
      rcases o1.2 with ⟨q1, q2⟩ | ⟨g, cap, cur, q1, _, _, q2, _⟩
      · exact ⟨none, 0, by rw [q1, q2], by omega⟩
      · exact ⟨_, cap, q1, q2⟩
    subst hv
    refine ⟨a, c, w, ?_, ?_, ⟨rfl, rfl, rfl, Nat.le_refl _, fun _ _ _ => rfl⟩⟩
    · have ht : (underlying 22).run Tryd.prog w = .ok (.slice 34) w := by simp [go_sem]
      cases a <;> cases ax <;> simp [Builtin.append_, run_underlying Tryd.underlying22, sizeOf, typeInfo, hi, hc, storeCells, Builtin.lenOf, Builtin.firstCells, loadCells, loadCellsFrom, hz1]
    · rw [List.append_nil]
      exact ⟨xs, o1, o2⟩
  · obtain ⟨g, o, rfl, hX⟩ := e3 (by omega)
    have hlen : ((List.range (es.length * 4)).map fun k => X (k / 4) (k % 4)).length = es.length * 4 := by simp
    obtain ⟨v', w', r1, r2, r3, _, r5⟩ := run_append_own_at (P := Tryd.prog) w lo 22 ty 34 i0 _ 4 72 Tryd.underlying22 hi hz0 hz1 hz2 rfl (by decide) v ds.length xs o1 ⟨g, o, none⟩ es.length cx ((List.range (es.length * 4)).map fun k => X (k / 4) (k % 4)) hlen (fun j u hj => by
      rw [Addr.add_lit]
      obtain ⟨hj1, hj2⟩ := List.getElem?_eq_some_iff.1 hj
      simp at hj1 hj2
      have := (cutW_cell.1 (hX (j / 4) (by omega) (j % 4) (by omega))).2
      have hj4 : o + j / 4 * 4 + j % 4 = o + j := by omega
      rw [hj4] at this
      rw [this, hj2]) (fun u hu => by
      obtain ⟨k, hk, rfl⟩ := List.mem_map.1 hu
      have hk2 : k < es.length * 4 := by simpa using hk
      exact vx_one (e4 (k / 4) (by omega)) (k % 4) (by omega)) (by unfold maxLen; omega) (by omega) hlo
    have hm := DRow.more o1 o2 (fun j hj => by
      have : vx (rx ((List.range (es.length * 4)).map fun k => X (k / 4) (k % 4))) j = vx X j := by
        have hr : ∀ i, i < 4 → rx ((List.range (es.length * 4)).map fun k => X (k / 4) (k % 4)) j i = X j i := fun i hi => by
          unfold rx
          rw [List.getElem?_eq_getElem (by simp; omega)]
          simp
          have h1 : (j * 4 + i) / 4 = j := by omega
          have h2 : i % 4 = i := by omega
          rw [h1, h2]
        unfold vx
        rw [hr 0 (by omega), hr 1 (by omega), hr 2 (by omega), hr 3 (by omega)]
      rw [this]
      exact e4 j hj) hlen r2 r3 r5
    obtain ⟨a, c, hv, -⟩ := hm.lt
    rw [List.length_append] at hv
    subst hv
    exact ⟨a, c, w', r1, hm, r3⟩
/-- append of data, as one step of a region that draws. -/
theorem step_push {ops : Array Oper} {o : Oper} {a : Act} {w : World} {K : Act → World → Prop} {Q : Exit → Act → World → Prop} {E : Prop}
    (hg : o.guard = none) (s x : Operand) (hop : o.op = Op.call { callee := Callee.builtin Builtin.append, args := #[s, x], argTypes := #[22, 22] })
    (lo : Nat) (v ve : Value) (ds es : List Dt) (hs : a.eval s = v) (hx : a.eval x = ve) (hd : DRow lo w v ds) (he : SS lo v.ownBlock w es ve) (hn : ds.length + es.length ≤ 1099511627776) (hlo : lo ≤ w.heap.size)
    (h : ∀ a' c' w', DRow lo w' (.slice a' (ds.length + es.length) c') (ds ++ es) → w.grownBy w' v.ownBlock → K (a.put o.dst (.slice a' (ds.length + es.length) c')) w') :
    if Region.wanted o (yielded ops a.tmps) = true then Oper.wp Tryd.prog o a w K Q else E := by
  have hw : Region.wanted o (yielded ops a.tmps) = true := by simp [Region.wanted, hg]
  rw [if_pos hw]
  obtain ⟨a', c', w', hr, h2, h3⟩ := run_push o.type hd he hn hlo
  unfold Oper.wp execOp
  simp only [hop, resolve, invoke, builtin, Sem.run_bind, Sem.run_pure, Result.andThen_ok, List.map_toArray, List.map_cons, List.map_nil, hs, hx, hr]
  exact h a' c' w' h2 h3
/-- append of data, in a plain region. -/
theorem wpList_push {ops : Array Oper} {rest : List Oper} {o : Oper} {a : Act} {w : World} {Q : Exit → Act → World → Prop}
    (hg : o.guard = none) (s x : Operand) (hop : o.op = Op.call { callee := Callee.builtin Builtin.append, args := #[s, x], argTypes := #[22, 22] })
    (lo : Nat) (v ve : Value) (ds es : List Dt) (hs : a.eval s = v) (hx : a.eval x = ve) (hd : DRow lo w v ds) (he : SS lo v.ownBlock w es ve) (hn : ds.length + es.length ≤ 1099511627776) (hlo : lo ≤ w.heap.size)
    (h : ∀ a' c' w', DRow lo w' (.slice a' (ds.length + es.length) c') (ds ++ es) → w.grownBy w' v.ownBlock → wpList Tryd.prog ops Q rest (a.put o.dst (.slice a' (ds.length + es.length) c')) w') : wpList Tryd.prog ops Q (o :: rest) a w := by
  refine wpList_plain hg fun K hK => ?_
  obtain ⟨a', c', w', hr, h2, h3⟩ := run_push o.type hd he hn hlo
  unfold Oper.wp execOp
  simp only [hop, resolve, invoke, builtin, Sem.run_bind, Sem.run_pure, Result.andThen_ok, List.map_toArray, List.map_cons, List.map_nil, hs, hx, hr]
  exact hK _ _ (h a' c' w' h2 h3)
end Go.Proofs.YtfobiknbjijphaaDoor

namespace Go.Proofs.YtfobiknbjijphaaDoor
open Go.RowKit
set_option linter.unusedVariables false
set_option linter.unusedSimpArgs false

/-- Data are read, where so many more may be open. -/
def RD (n : Nat) : Prop := ∀ (b : Nat) (s : ByteArray) (p o : Nat) (w : World), Rr b s p o w → o + n = 64 → Calls Tryd.prog 30 #[.pointer (some ⟨b, 0, none⟩)] w fun e w' => RdO b s o w (rdD n (rst s p)) e w'
def quR (R : Rs Dt) : Rs Dt := match R with | .bad k m => .bad k m | .ok x r2 => .ok (.node 5 ⟨#[]⟩ [quoD, x] []) r2
theorem qu_end {b : Nat} {s : ByteArray} {o q G G3 B c c2 : Nat} {w w3 : World} {d : Dt} {a a2 : Option Addr} {R : Rs Dt} {z0 z1 z2 z3 : Value} (z : w.heap.size ≤ G) (hb : b < G) (d3 : D4 w3 G z0 z1 z2 z3) (hB : G < B) (hr : R = .ok d (rst s q)) (r : Rr b s q o w3) (pt : Pt b w w3)
    (ds : DS B none w3 d (.agg #[.int .i64 d.kd, .string d.tx, .slice a d.its.length c, .slice a2 d.tl.length c2])) (h3 : w3.heap.size = G3) :
    D4 ((set4 w3 G (.int .i64 5) (.string ⟨#[]⟩) (.slice (some ⟨G3, 0, none⟩) 2 2) (.slice none 0 0)).alloc (.cells #[.int .i64 4, .string ⟨#[113, 117, 111, 116, 101]⟩, .slice none 0 0, .slice none 0 0, .int .i64 d.kd, .string d.tx, .slice a d.its.length c, .slice a2 d.tl.length c2] 34)) G (.int .i64 5) (.string ⟨#[]⟩) (.slice (some ⟨G3, 0, none⟩) 2 2) (.slice none 0 0) ∧
    RdO b s o w (quR R) (.returned (.agg #[.int .i64 5, .string ⟨#[]⟩, .slice (some ⟨G3, 0, none⟩) 2 2, .slice none 0 0])) ((set4 w3 G (.int .i64 5) (.string ⟨#[]⟩) (.slice (some ⟨G3, 0, none⟩) 2 2) (.slice none 0 0)).alloc (.cells #[.int .i64 4, .string ⟨#[113, 117, 111, 116, 101]⟩, .slice none 0 0, .slice none 0 0, .int .i64 d.kd, .string d.tx, .slice a d.its.length c, .slice a2 d.tl.length c2] 34)) := by
  obtain ⟨U, hU⟩ : ∃ U, set4 w3 G (.int .i64 5) (.string ⟨#[]⟩) (.slice (some ⟨G3, 0, none⟩) 2 2) (.slice none 0 0) = U := ⟨_, rfl⟩
  have u1 : D4 U G (.int .i64 5) (.string ⟨#[]⟩) (.slice (some ⟨G3, 0, none⟩) 2 2) (.slice none 0 0) := by rw [← hU]; exact d3.set _ _ _ _
  have u2 : U.heap.size = G3 := by rw [← hU, ← h3]; simp [set4, World.setCell]
  have u3 : ∀ k, k ≠ G → U.heap[k]? = w3.heap[k]? := fun k hk => by rw [← hU]; exact set4_other _ hk _ _ _ _
  have u4 : Rr b s q o U := by rw [← hU]; exact r.part (set4_part w3 G _ _ _ _) (fun e => by omega)
  have u5 : Pt b w U := by rw [← hU]; exact Pt.set4_ pt z _ _ _ _
  rw [hU]
  obtain ⟨V, hV⟩ : ∃ V, U.alloc (.cells #[.int .i64 4, .string ⟨#[113, 117, 111, 116, 101]⟩, .slice none 0 0, .slice none 0 0, .int .i64 d.kd, .string d.tx, .slice a d.its.length c, .slice a2 d.tl.length c2] 34) = V := ⟨_, rfl⟩
  have v1 : Below U.heap.size U V := by rw [← hV]; exact (Below.refl _ U).alloc (Nat.le_refl _) _
  have v2 : V.heap[G3]? = some (.cells #[.int .i64 4, .string ⟨#[113, 117, 111, 116, 101]⟩, .slice none 0 0, .slice none 0 0, .int .i64 d.kd, .string d.tx, .slice a d.its.length c, .slice a2 d.tl.length c2] 34 (0, 0)) := by rw [← hV]; exact heap_alloc_at _ _ _ u2.symm
  rw [hV]
  have hk : ∀ k, G + 1 ≤ k → k < w3.heap.size → V.heap[k]? = w3.heap[k]? := fun k k1 k2 => (v1.block k (by omega)).trans (u3 k (by omega))
  have g3 : G < w3.heap.size := (Array.getElem?_eq_some_iff.1 d3).1
  have s2 : SS (G + 1) none V [quoD, d] (.slice (some ⟨G3, 0, none⟩) 2 2) := SS.two (DS.leaf _ _ w3 4 _ (by decide)) (ds_keep ds (fun _ _ _ => rfl) (by omega)) v2 (by omega) (by simp) hk
  refine ⟨u1.under v1, ?_⟩
  subst hr
  refine .inl ⟨.node 5 ⟨#[]⟩ [quoD, d] [], some ⟨G3, 0, none⟩, 2, none, 0, q, rfl, hid ⟨rfl, u4.under v1, u5.trans_ (Pt.ofB v1), ?_⟩⟩
  exact ds_keep (DS.node s2 (SS.nil _ _ _ _ _ (by decide)) 5 ⟨#[]⟩ (by decide)) (fun _ _ _ => rfl) (by omega)
set_option maxHeartbeats 4000000 in
theorem rd_quoted {n b : Nat} {s : ByteArray} {p o : Nat} {w : World} (hRD : RD n) (h : Rr b s p o w) (hn : o + n = 64) :
    Calls Tryd.prog 50 #[.pointer (some ⟨b, 0, none⟩)] w fun e w' => RdO b s o w (quR (rdD n (rst s p))) e w' := by
  obtain ⟨G, hG⟩ : ∃ G, w.heap.size = G := ⟨_, rfl⟩
  obtain ⟨W1, hW⟩ : ∃ W1, w.alloc (.cells #[.int .i64 0, .string ⟨#[]⟩, .slice none 0 0, .slice none 0 0] 34) = W1 := ⟨_, rfl⟩
  obtain ⟨D, hD⟩ : ∃ D, W1.heap.size = D := ⟨_, rfl⟩
  obtain ⟨W2, hW2⟩ : ∃ W2, W1.alloc (.cells #[.int .i64 4, .string ⟨#[113, 117, 111, 116, 101]⟩, .slice none 0 0, .slice none 0 0] 34) = W2 := ⟨_, rfl⟩
  have hbG : b < G := by rw [← hG]; exact h.lt
  have hB1 : Below w.heap.size w W1 := by rw [← hW]; exact (Below.refl _ w).alloc (Nat.le_refl _) _
  have hB2 : Below W1.heap.size W1 W2 := by rw [← hW2]; exact (Below.refl _ W1).alloc (Nat.le_refl _) _
  have d1 : D4 W1 G (.int .i64 0) (.string ⟨#[]⟩) (.slice none 0 0) (.slice none 0 0) := by rw [← hW]; exact heap_alloc_at _ _ _ hG.symm
  have dq : D4 W2 D (.int .i64 4) (.string ⟨#[113, 117, 111, 116, 101]⟩) (.slice none 0 0) (.slice none 0 0) := by rw [← hW2]; exact heap_alloc_at _ _ _ hD.symm
  have hGD : G < D := by
    have := (Array.getElem?_eq_some_iff.1 d1).1
    omega
  have r2 : Rr b s p o W2 := (h.under hB1).under hB2
  have d2 := d1.under hB2
  have p2 : Pt b w W2 := (Pt.ofB hB1).trans_ (Pt.ofB hB2)
  have HV : Hid (∀ k, Rr b s p o (W2.drewN k) ∧ D4 (W2.drewN k) G (.int .i64 0) (.string ⟨#[]⟩) (.slice none 0 0) (.slice none 0 0) ∧ D4 (W2.drewN k) D (.int .i64 4) (.string ⟨#[113, 117, 111, 116, 101]⟩) (.slice none 0 0) (.slice none 0 0) ∧ Pt b w (W2.drewN k)) := hid fun k =>
    have hb : Below W2.heap.size W2 (W2.drewN k) := blw_drewN k (Below.refl _ _)
    ⟨r2.under hb, d2.under hb, dq.under hb, p2.trans_ (Pt.ofB hb)⟩
  have HZ : Hid (w.heap.size ≤ G ∧ b < G ∧ G < D) := hid ⟨by omega, hbG, hGD⟩
  have HC := hid (fun k => (hRD b s p o _ (HV.out k).1 hn))
  have HW2 := hid hW2
  have HQ := hid dq.c4
  have HN : Hid (∀ k V, Pt b (W2.drewN k) V → C4 V G (.int .i64 0) (.string ⟨#[]⟩) (.slice none 0 0) (.slice none 0 0) ∧ C4 V D (.int .i64 4) (.string ⟨#[113, 117, 111, 116, 101]⟩) (.slice none 0 0) (.slice none 0 0) ∧ (¬ b = G ∧ ¬ G = b ∧ ¬ b = D ∧ ¬ G = D ∧ G < V.heap.size)) := hid fun k V hV =>
    ⟨((HV.out k).2.1.part hV (fun e => by omega)).c4, ((HV.out k).2.2.1.part hV (fun e => by omega)).c4, by omega, by omega, by omega, by omega, (Array.getElem?_eq_some_iff.1 ((HV.out k).2.1.part hV (fun e => by omega))).1⟩
  clear hRD h hbG hB1 hB2 d1 dq r2 d2 p2 hGD hW2
  obtain ⟨R, hR⟩ : ∃ R, rdD n (rst s p) = R := ⟨_, rfl⟩
  rw [hR] at HC
  rw [hR]
  have HP : Hid (∀ V e, Pnc e → Hid (∃ k m, R = .bad k m ∧ k ≤ s.size ∧ Flt b s k m V ∧ Pt b w V) → RdO b s o w (quR R) e V) := hid fun V e h1 h2 => by
    obtain ⟨k, m, g1, g2⟩ := h2.out
    exact .inr ⟨h1, hid ⟨k, m, by rw [g1]; rfl, g2⟩⟩
  clear hR
  go_enter Tryd.func50, Tryd.ntmps50
  go_wp2_with fail
  try rw [hW]
  try rw [hG]
  try go_wp2_with fail
  try rw [HW2.out]
  obtain ⟨e0, e1, e2, e3, -, -, -, -⟩ := HQ.out
  go_region_with (go_at_call 30; refine (HC.out _).mono ?_; rintro e w3 (⟨d, a, c, a2, c2, q, rfl, HR⟩ | ⟨⟨v, rfl⟩, HR⟩); rotate_left; (exact ⟨rfl, HP.out _ _ ⟨v, rfl⟩ (hid (by obtain ⟨k, m, g1, g2, g3, g4⟩ := HR.out; exact ⟨k, m, g1, g2, g3, (HV.out _).2.2.2.trans_ g4⟩))⟩); obtain ⟨⟨e0, e1, e2, e3, q0, q1, q2, q3⟩, ⟨i0, i1, i2, i3, -, -, -, -⟩, ⟨n1, n2, n3, n4, n5⟩⟩ := HN.out _ w3 HR.out.2.2.1; obtain ⟨G3, hG3⟩ : ∃ G3, w3.heap.size = G3 := ⟨_, rfl⟩; have n6 : G < G3 := (by omega))
  all_goals
    obtain ⟨i1, i2⟩ := qu_end (s := s) (o := o) (R := R) HZ.out.1 HZ.out.2.1 ((HV.out _).2.1.part HR.out.2.2.1 (fun e => by have := HZ.out.2.1; omega)) (Array.getElem?_eq_some_iff.1 (HV.out _).2.1).1 HR.out.1 HR.out.2.1 ((HV.out _).2.2.2.trans_ HR.out.2.2.1) HR.out.2.2.2 hG3
    clear HP HC HQ HW2 HN HR HV HZ
    go_wp2
    exact bodyPost_ret (v := .agg #[.int .i64 5, .string ⟨#[]⟩, .slice (some ⟨G3, 0, none⟩) 2 2, .slice none 0 0]) (res4 i1 Tryd.results50 rfl) rfl i2
end Go.Proofs.YtfobiknbjijphaaDoor
