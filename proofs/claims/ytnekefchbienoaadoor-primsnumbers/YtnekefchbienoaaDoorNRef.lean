/-
  The document's numbers as digits, the lowest first: contract of its 'of'. Conditions: the text is a number's.
-/
import Derived.Test.YtnekefchbienoaaDoorNOwn
import Derived.Deep.DeepCutAuto
import Derived.Maps.AppendAt
import Derived.Deep.RegionLaw
namespace Go.Proofs.YtnekefchbienoaaDoor
open Go.RowKit
set_option linter.unusedVariables false

/-- The digit of u at a place from the right. -/
def dd (u i : Nat) : Nat := u / 10 ^ i % 10
theorem dd_lt (u i : Nat) : dd u i < 10 := Nat.mod_lt _ (by decide)
/-- A text's bytes: p for a - ahead (1 or 0), then u's digits, n of them. -/
structure Dgs (s : ByteArray) (p u n : Nat) : Prop where
  size : s.size = n + p
  num : n = Lib.nDigits u
  le : n ≤ 200
  p1 : p ≤ 1
  by_ : ∀ i (h : i < s.size), p ≤ i → s[i].toNat = 48 + dd u (s.size - 1 - i)
  neg : ∀ (h : 0 < s.size), p = 1 → s[0].toNat = 45
theorem dec_at (u t : Nat) (h : t < Lib.nDigits u) : (Lib.decDigits u)[t]? = some (Lib.dg u (Lib.nDigits u - 1 - t)) := by
  rw [Lib.decDigits_eq, List.getElem?_map, List.getElem?_range h]; rfl
theorem dg_nat (u j : Nat) : (Lib.dg u j).toNat = 48 + dd u j := by
  have := dd_lt u j
  unfold dd at *
  unfold Lib.dg
  rw [UInt8.toNat_ofNat']
  omega
theorem IsNum.dgs {s : ByteArray} {v : Int} (h : IsNum s v) : Dgs s (if v < 0 then 1 else 0) v.natAbs (Lib.nDigits v.natAbs) := by
  obtain ⟨rfl, hv⟩ := h
  have hl : (txt v).size = (Lib.itoa v).length := by rw [← bytes_len, txt_data]
  by_cases h0 : v < 0
  · rw [if_pos h0]
    have e : Lib.itoa v = 45 :: Lib.decDigits v.natAbs := by unfold Lib.itoa; rw [if_pos h0]
    have hs : (txt v).size = Lib.nDigits v.natAbs + 1 := by rw [hl, e, List.length_cons, Lib.decDigits_length]
    refine ⟨hs, rfl, hv, by omega, fun i hi h1 => ?_, fun hh _ => ?_⟩
    · have := bytes_get (txt v) i hi
      have e2 : (45 :: Lib.decDigits v.natAbs)[i]? = some (Lib.dg v.natAbs ((txt v).size - 1 - i)) := by
        obtain ⟨j, rfl⟩ : ∃ j, i = j + 1 := ⟨i - 1, by omega⟩
        rw [List.getElem?_cons_succ, dec_at _ _ (by omega)]
        congr 2
        omega
      rw [txt_data, e, e2] at this
      injection this with this
      rw [← this, dg_nat]
    · have := bytes_get (txt v) 0 hh
      rw [txt_data, e] at this
      simp at this
      rw [← this]; rfl
  · rw [if_neg h0]
    have e : Lib.itoa v = Lib.decDigits v.natAbs := by unfold Lib.itoa; rw [if_neg h0]; congr 1; omega
    have hs : (txt v).size = Lib.nDigits v.natAbs + 0 := by rw [hl, e, Lib.decDigits_length]; rfl
    refine ⟨hs, rfl, hv, by omega, fun i hi _ => ?_, fun _ hh => by omega⟩
    have := bytes_get (txt v) i hi
    rw [txt_data, e, dec_at _ _ (by omega)] at this
    injection this with this
    rw [← this, dg_nat, hs]
    congr 1
theorem cells_at {w : World} {g : Nat} {cs : Array Value} {t : TypeId} (h : w.heap[g]? = some (.cells cs t (0, 0))) (i : Nat) : w.cell? ⟨g, i, none⟩ = cs[i]? := by
  simp [World.cell?, h]
theorem cells_free {w : World} {g : Nat} {cs : Array Value} {t : TypeId} (h : w.heap[g]? = some (.cells cs t (0, 0))) (i : Nat) : w.frozen? ⟨g, i, none⟩ = false := by
  simp [World.frozen?, h]
theorem heap_set_other (w : World) {g k : Nat} (h : k ≠ g) (i : Nat) (v : Value) : (w.setCell ⟨g, i, none⟩ v).heap[k]? = w.heap[k]? := Below.heap_setCell w ⟨g, i, none⟩ v k h
theorem row_set {w : World} {B : Nat} {e : TypeId} {sz : Nat} {v : Value} {n : Nat} {xs : List Value} (h : w.ownsRow B e sz v n xs) {g : Nat} (hk : v.ownBlock ≠ some g) (i : Nat) (u : Value) : (w.setCell ⟨g, i, none⟩ u).ownsRow B e sz v n xs := by
  refine ⟨h.1, ?_⟩
  rcases h.2 with h2 | ⟨g', cap, cur, rfl, h2, h3, h4⟩
  · exact .inl h2
  · exact .inr ⟨g', cap, cur, rfl, h2, by rw [heap_set_other w (fun e => hk (by rw [← e]; rfl))]; exact h3, h4⟩
theorem row_heap {w w' : World} {B : Nat} {e : TypeId} {sz : Nat} {v : Value} {n : Nat} {xs : List Value} (h : w.ownsRow B e sz v n xs) (hh : w'.heap = w.heap) : w'.ownsRow B e sz v n xs := by
  unfold World.ownsRow at *
  rw [hh]; exact h

/-- append onto a slice of the call's own, as one step of a region that draws. -/
theorem step_append_own_at {P : Program} {ops : Array Oper} {o : Oper} {a : Act} {w : World} {K : Act → World → Prop} {Q : Exit → Act → World → Prop} {E : Prop}
    (hg : o.guard = none) (s x : Operand) (t : TypeId) (hop : o.op = Op.call { callee := Callee.builtin Builtin.append, args := #[s, x], argTypes := #[t, t] })
    (base : Nat) (e : TypeId) (i : TypeInfo) (z : Value) (size bytes : Nat) (ht : P.underlying t = some (.slice e)) (hi : P.info? e = some i) (hz : i.zero = some z)
    (hsize : i.size = size) (hby : i.bytes = bytes) (hzs : z.cells.size = size) (hsz : 0 < size)
    (v : Value) (n : Nat) (xs : List Value) (hs : a.eval s = v) (hown : w.ownsRow base e size v n xs)
    (ad : Addr) (m c : Nat) (news : List Value) (hx : a.eval x = .slice (some ad) m c) (hl : news.length = m * size) (hnews : ∀ j u, news[j]? = some u → w.cell? (ad.add j) = some u) (h1 : ∀ u ∈ news, u.oneCell' = true)
    (h63 : n + m ≤ maxLen) (hbytes : (n + m) * bytes ≤ 140737488355328) (hbase : base ≤ w.heap.size)
    (h : ∀ v' w', w'.ownsRow base e size v' (n + m) (xs ++ news) → w.grownBy w' v.ownBlock → (v'.ownBlock = v.ownBlock ∨ v'.ownBlock = some w.heap.size) → K (a.put o.dst v') w') :
    if Region.wanted o (yielded ops a.tmps) = true then Oper.wp P o a w K Q else E := by
  have hw : Region.wanted o (yielded ops a.tmps) = true := by simp [Region.wanted, hg]
  rw [if_pos hw]
  obtain ⟨v', w', hr, h2, h3, h4, h5⟩ := run_append_own_at (P := P) w base t o.type e i z size bytes ht hi hz hsize hby hzs hsz v n xs hown ad m c news hl hnews h1 h63 hbytes hbase
  unfold Oper.wp execOp
  simp only [hop, resolve, invoke, builtin, Sem.run_bind, Sem.run_pure, Result.andThen_ok, List.map_toArray, List.map_cons, List.map_nil, hs, hx, hr]
  exact h v' w' h2 h3 h5

theorem heap_alloc_at (w : World) (o : Obj) (k : Nat) (h : k = w.heap.size) : (w.alloc o).heap[k]? = some o := by subst h; show (w.heap.push o)[w.heap.size]? = some o; simp
theorem grown_drew {w w' : World} {r : Option Nat} (h : w.drew.grownBy w' r) : w.grownBy w' r := ⟨h.os, h.tape, h.output, h.size, h.block⟩
/-- A number's digits under way: the box X holds the row of the first m digits and the sign. -/
structure Und (w0 w : World) (X : Nat) (b : Bool) (u m : Nat) : Prop where
  X0 : X = w0.heap.size + 1
  res : w.heap[w0.heap.size]? = some (.cells #[.slice none 0 0, .bool false] 92 (0, 0))
  box : ∃ v, w.heap[X]? = some (.cells #[v, .bool b] 92 (0, 0)) ∧ OwN .i64 3 w (X + 1) v m (fun i => (dd u i : Int))
  bel : Below w0.heap.size w0 w
theorem Und.step {w0 w w2 wf : World} {X : Nat} {b : Bool} {u m : Nat} {v v2 : Value} {o : Obj} (h : Und w0 w X b u m) (hv : w.heap[X]? = some (.cells #[v, .bool b] 92 (0, 0))) (ho : OwN .i64 3 w (X + 1) v m (fun i => (dd u i : Int)))
    (h2 : w2.ownsRow (X + 1) 3 1 v2 (m + 1) ((lst (fun i => (dd u i : Int)) m).map (Value.int .i64) ++ [.int .i64 (dd u m : Int)])) (hg : (w.alloc o).grownBy w2 v.ownBlock) :
    (w2.heap[X]? = some (.cells #[v, .bool b] 92 (0, 0))) ∧ ∀ wf : World, wf.heap = (w2.setCell ⟨X, 0, none⟩ v2).heap → wf.os = w2.os → wf.tape = w2.tape → wf.output = w2.output → Und w0 wf X b u (m + 1) := by
  have hX := (Array.getElem?_eq_some_iff.1 hv).1
  have hne : v.ownBlock ≠ some X := fun e => by have := (World.ownsRow.lt ho _ e).1; omega
  have hk : w2.heap[X]? = some (.cells #[v, .bool b] 92 (0, 0)) := by
    have hb : Below (X + 1) (w.alloc o) w2 := (Below.refl (X + 1) (w.alloc o)).grown hg (by simp; omega) (fun q hq => (World.ownsRow.lt ho q hq).1)
    rw [hb.block X (by omega), Below.heap_alloc w o X hX]; exact hv
  have hX0 := h.X0
  have hk2 : w2.heap[w0.heap.size]? = some (.cells #[.slice none 0 0, .bool false] 92 (0, 0)) := by
    have hb : Below (X + 1) (w.alloc o) w2 := (Below.refl (X + 1) (w.alloc o)).grown hg (by simp; omega) (fun q hq => (World.ownsRow.lt ho q hq).1)
    rw [hb.block _ (by omega), Below.heap_alloc w o _ (by omega)]; exact h.res
  refine ⟨hk, fun wf e1 e2 e3 e4 => ?_⟩
  have hb1 : Below w0.heap.size w0 (w.alloc o) := h.bel.alloc (h.bel.size) o
  have hb2 : Below w0.heap.size w0 w2 := hb1.grown hg hb1.size (fun q hq => by have := (World.ownsRow.lt ho q hq).1; omega)
  have hb3 : Below w0.heap.size w0 (w2.setCell ⟨X, 0, none⟩ v2) := hb2.setCell (p := ⟨X, 0, none⟩) (by show w0.heap.size ≤ X; omega) _
  refine ⟨h.X0, by rw [e1, heap_set_other _ (by omega)]; exact hk2, ⟨v2, ?_, ?_⟩, ⟨e2.trans hb2.os, e3.trans hb2.tape, e4.trans hb2.output, by rw [e1]; exact hb3.size, fun k hk => by rw [e1]; exact hb3.block k hk⟩⟩
  · rw [e1]
    have := heap_setCell_same w2 X 0 #[v, .bool b] 92 v2 hk
    rw [this]; rfl
  · have hne2 : v2.ownBlock ≠ some X := fun e => by have := (World.ownsRow.lt h2 _ e).1; omega
    exact OwN.one (row_heap (row_set h2 hne2 0 v2) e1) rfl

set_option maxRecDepth 100000 in
set_option maxHeartbeats 1000000 in
theorem rOfB (s : ByteArray) (p u n : Nat) (w : World) (h : Dgs s p u n) :
    Calls Tryd.prog 54 #[.string s] w fun e w' => ∃ v, e = .returned (.agg #[v, .bool (p == 1)]) ∧ OwN .i64 3 w' w.heap.size v n (fun i => (dd u i : Int)) ∧ Below w.heap.size w w' := by
  obtain ⟨i0, hi, hz0, hz1, hz2⟩ := info_parts info3
  have hn := Lib.nDigits_pos u
  have h0 : 0 < s.size := by have := h.size; have := h.num; omega
  have hf : ((s[0].toNat : Int) == 45) = (p == 1) := by
    by_cases e : p = 1
    · rw [h.neg h0 e, e]; rfl
    · have := h.by_ 0 h0 (by have := h.p1; omega)
      rw [show (p == 1) = false by simpa using e]
      rw [beq_eq_false_iff_ne]
      omega
  have hb : s.size ≤ 201 := by have := h.size; have := h.le; have := h.p1; omega
  have hw : wrap64 ((s.size : Int) - 1) = (s.size : Int) - 1 := by unfold wrap64; omega
  have H : Hid (Dgs s p u n) := h
  clear h
  generalize (p == 1) = b at *
  have HS : Hid (Und w ((w.alloc (.cells #[.slice none 0 0, .bool false] 92)).alloc (.cells #[.slice none 0 0, .bool b] 92)) (w.heap.size + 1) b u 0) := by
    refine ⟨rfl, ?_, ⟨.slice none 0 0, ?_, OwN.nil _ _ _ _ _⟩, ((Below.refl _ w).alloc (Nat.le_refl _) _).alloc (by simp) _⟩
    · rw [Below.heap_alloc _ _ _ (by simp)]
      exact heap_alloc_at _ _ _ rfl
    · have : (w.alloc (.cells #[.slice none 0 0, .bool false] 92)).heap.size = w.heap.size + 1 := by simp
      exact heap_alloc_at _ _ _ this.symm
  go_enter Tryd.func54, Tryd.ntmps54
  go_wp2
  go_loopw [4] (fun i wr => ∃ (k : Nat) (z : Int), k ≤ s.size ∧ i = .int .i64 z ∧ z = (k : Int) - 1 ∧ Und w wr (w.heap.size + 1) b u (s.size - max k p)) (fun i _ => (intOf i + 1).toNat)
  case atStart => exact ⟨s.size, _, Nat.le_refl _, rfl, rfl, by rw [show s.size - max s.size p = 0 by have := H.out.size; omega]; exact HS.out⟩
  case round =>
    obtain ⟨k, z, hk, rfl, hz, hU⟩ := hrel
    have hU0 := hU
    obtain ⟨v, hv, ho⟩ := hU.box
    have lX := (Array.getElem?_eq_some_iff.1 hv).1
    cases k with
    | zero =>
      obtain rfl : z = -1 := by omega
      have hr := hU.res
      have hm : s.size - max 0 p = n := by have := H.out.size; omega
      rw [hm] at ho
      rcases ho.open with ⟨_, e⟩ | ⟨g, c, rfl, q1, q2, q3, q4⟩
      · have := H.out.num; omega
      · have c0 : wr.cell? ⟨w.heap.size + 1, 0, none⟩ = some (.slice (some ⟨g, 0, none⟩) n c) := by rw [cells_at hv 0]; rfl
        have c1 : wr.cell? ⟨w.heap.size + 1, 1, none⟩ = some (.bool b) := by rw [cells_at hv 1]; rfl
        have r0 : wr.cell? ⟨w.heap.size, 0, none⟩ = some (.slice none 0 0) := by rw [cells_at hr 0]; rfl
        have r1 : wr.cell? ⟨w.heap.size, 1, none⟩ = some (.bool false) := by rw [cells_at hr 1]; rfl
        have f0 := cells_free hr 0
        have f1 := cells_free hr 1
        have HO : Hid (OwN .i64 3 wr w.heap.size (.slice (some ⟨g, 0, none⟩) n c) n (fun i => (dd u i : Int))) := ho.mono (by omega)
        have HB := hU.bel
        clear hz hU hU0 ho hm hv hr
        go_wp2
        have s0 : (wr.setCell ⟨w.heap.size, 0, none⟩ (.slice (some ⟨g, 0, none⟩) n c)).cell? ⟨w.heap.size, 0, none⟩ = some (.slice (some ⟨g, 0, none⟩) n c) := World.cell?_setCell_same' _ _ _ (by rw [r0]; rfl)
        have s2 : (wr.setCell ⟨w.heap.size, 0, none⟩ (.slice (some ⟨g, 0, none⟩) n c)).cell? ⟨w.heap.size, 1, none⟩ = some (.bool false) := by rw [World.cell?_setCell_other _ _ _ _ (by simp)]; exact r1
        have s1 : ((wr.setCell ⟨w.heap.size, 0, none⟩ (.slice (some ⟨g, 0, none⟩) n c)).setCell ⟨w.heap.size, 1, none⟩ (.bool b)).cell? ⟨w.heap.size, 1, none⟩ = some (.bool b) := World.cell?_setCell_same' _ _ _ (by rw [s2]; rfl)
        refine bodyPost_ret (v := .agg #[.slice (some ⟨g, 0, none⟩) n c, .bool b]) (by simp [results, Tryd.results54, go_sem, s0, s1]) rfl ?_
        refine ⟨_, rfl, row_set (row_set HO.out (fun e => ?_) _ _) (fun e => ?_) _ _, (HB.setCell (p := ⟨w.heap.size, 0, none⟩) (Nat.le_refl _) _).setCell (p := ⟨w.heap.size, 1, none⟩) (Nat.le_refl _) _⟩
        · injection e with e; simp at e; omega
        · injection e with e; simp at e; omega
    | succ j =>
      obtain rfl : z = (j : Int) := by omega
      have hlt' : (j : Int) < (s.size : Int) := by omega
      have hj0 : (0 : Int) ≤ (j : Int) := by omega
      have hjl : j < s.size := by omega
      by_cases hp : p ≤ j
      · have hby := H.out.by_ j hjl hp
        have hd := dd_lt u (s.size - 1 - j)
        have d1 : ((s[j].toNat : Int) == 45) = false := by rw [beq_eq_false_iff_ne]; omega
        generalize hm : s.size - max (j + 1) p = m at *
        have hm2 : s.size - 1 - j = m := by omega
        rw [hm2] at hby hd
        have hx : IntKind.u8.wrap ((s[j].toNat : Int) - 48) = (dd u m : Int) := by rw [IntKind.wrap_u8']; omega
        have hx2 : IntKind.i64.wrap (dd u m : Int) = (dd u m : Int) := by rw [IntKind.wrap_i64]; omega
        have hm3 : m ≤ 201 := by omega
        have k1 : wr.cell? ⟨w.heap.size + 1, 0, none⟩ = some v := by rw [cells_at hv 0]; rfl
        have al1 : ∀ o, (wr.alloc o).cell? ⟨w.heap.size + 1, 0, none⟩ = some v := fun o => (World.cell?_alloc_past (w := wr) o _ 0 lX).trans k1
        have HO : Hid (∀ o, (wr.alloc o).ownsRow (w.heap.size + 1 + 1) 3 1 v m ((lst (fun i => (dd u i : Int)) m).map (Value.int .i64))) := fun o => World.ownsRow.alloc ho o
        have HN : Hid (∀ (o : Obj) (v2 : Value) (w2 : World), w2.ownsRow (w.heap.size + 1 + 1) 3 1 v2 (m + 1) ((lst (fun i => (dd u i : Int)) m).map (Value.int .i64) ++ [.int .i64 (dd u m : Int)]) → (wr.alloc o).grownBy w2 v.ownBlock →
            w2.cell? ⟨w.heap.size + 1, 0, none⟩ = some v ∧ w2.frozen? ⟨w.heap.size + 1, 0, none⟩ = false ∧ (∃ g c, v2 = .slice (some ⟨g, 0, none⟩) (m + 1) c) ∧ Hid (∀ wf : World, wf.heap = (w2.setCell ⟨w.heap.size + 1, 0, none⟩ v2).heap → wf.os = w2.os → wf.tape = w2.tape → wf.output = w2.output → Und w wf (w.heap.size + 1) b u (m + 1))) := fun o v2 w2 h2 hg => by
          obtain ⟨r1, r2⟩ := hU0.step hv ho h2 hg (wf := w2)
          refine ⟨by rw [cells_at r1 0]; rfl, cells_free r1 0, ?_, r2⟩
          rcases h2.2 with ⟨_, h0⟩ | ⟨g, cap, cur, e, _⟩
          · omega
          · exact ⟨g, cap, e⟩
        have lw : w.heap.size + 1 + 1 ≤ wr.heap.size := lX
        have Hm : Hid (s.size - max j p = m + 1) := (by omega : s.size - max j p = m + 1)
        clear hU hU0 hv ho hz hm hm2 hby hd hk hp
        go_wp2_with fail
        go_region_law (refine step_append_own_at rfl _ _ 69 rfl (w.heap.size + 1 + 1) 3 i0 (.int .i64 0) 1 8 Tryd.underlying69 hi hz0 hz1 hz2 rfl (by decide) v m ((lst (fun i => (dd u i : Int)) m).map (Value.int .i64)) (by go_simp) (by exact HO.out _) ⟨wr.heap.size, 0, none⟩ 1 1 [.int .i64 (dd u m : Int)] (by go_simp) rfl (by exact cell_one_new _ _ _) (by intro u hu; simp at hu; subst hu; rfl) (by unfold maxLen; omega) (by omega) (by simp; omega) ?_; intro v2 w2 ho2 hg2 _; obtain ⟨x1, x2, ⟨gx, cx, hv2⟩, HE⟩ := HN.out _ v2 w2 ho2 (by first | exact grown_drew hg2 | exact hg2); subst hv2)
        all_goals
          go_wp2
          go_roundw
          case rel => exact ⟨j, (j : Int) - 1, by omega, by first | rfl | go_num, rfl, by rw [Hm.out]; exact HE.out _ (by rfl) (by rfl) (by rfl) (by rfl)⟩
          case measure => simp [intOf]
      · have hp1 : p = 1 := by have := H.out.p1; omega
        have hj1 : j = 0 := by omega
        subst hj1
        have d1 : ((s[0].toNat : Int) == 45) = true := by rw [H.out.neg h0 hp1]; rfl
        clear hz hv ho hp hU0
        go_wp2
        go_roundw
        case rel => exact ⟨0, -1, by omega, by first | rfl | go_num, by omega, by rw [show s.size - max 0 p = s.size - max (0 + 1) p by omega]; exact hU⟩
        case measure => simp [intOf]
end Go.Proofs.YtnekefchbienoaaDoor
