/-
  The program's writer of code: numbers, text.
-/
import Derived.Test.YtpjgdpfpgpaenaaDoorCvE
namespace Go.Proofs.YtpjgdpfpgpaenaaDoor
open Go.RowKit
set_option linter.unusedVariables false
set_option linter.unusedSimpArgs false

theorem own_ne {w : World} {B : Nat} {v : Value} {xs : List Int} (h : Own w B v xs) {g : Nat} {cs : Array Value} {t : TypeId} {fz : Nat × Nat} (hg : w.heap[g]? = some (.cells cs t fz)) (ht : t ≠ 5) : v.ownBlock ≠ some g := by
  intro e
  rcases h.2 with ⟨h1, _⟩ | ⟨g', cap, cur, h1, h2, h3, _⟩
  · rw [h1] at e; cases e
  · rw [h1] at e
    have e2 : g' = g := by injection e
    subst e2
    rw [hg] at h3
    injection h3 with h3
    injection h3 with _ h4
    exact ht h4
/-- append onto a slice of the call's own, told to the block. -/
theorem wpList_appG {ops : Array Oper} {rest : List Oper} {o : Oper} {a : Act} {w : World} {Q : Exit → Act → World → Prop} (hgd : o.guard = none) (s x : Operand) (ho : o.op = .call { callee := .builtin .append, args := #[s, x], argTypes := #[27, 27] })
    (B : Nat) (v : Value) (xs : List Int) (hs : a.eval s = v) (hown : Own w B v xs) (ao : Option Addr) (ys : List Int) (c : Nat) (hx : a.eval x = .slice ao ys.length c) (hf : From w ao ys.length (fn ys)) (hc0 : ao = none → c = 0)
    (hbig : xs.length + ys.length ≤ 140737488355328) (hB : B ≤ w.heap.size)
    (h : ∀ v' w', Own w' B v' (xs ++ ys) → w.grownBy w' v.ownBlock → wpList Tryd.prog ops Q rest (a.put o.dst v') w') : wpList Tryd.prog ops Q (o :: rest) a w := by
  obtain ⟨i0, hi, hz0, hz1, hz2⟩ := info_parts info5
  rcases hf with ⟨h1, h2⟩ | ⟨ad, h1, h2⟩
  · subst h1
    have hys : ys = [] := List.length_eq_zero_iff.1 h2
    subst hys
    rw [hc0 rfl] at hx
    refine wpList_append_own_none hgd s x 27 ho B 5 i0 1 Tryd.underlying27 hi v xs.length (xs.map (Value.int .u8)) hs hown hx (h v w ?_ ⟨rfl, rfl, rfl, Nat.le_refl _, fun _ _ _ => rfl⟩)
    simpa using hown
  · subst h1
    refine wpList_append_own w hgd s x 27 ho B 5 i0 (.int .u8 0) 1 1 Tryd.underlying27 hi hz0 hz1 hz2 rfl (by decide) v xs.length (xs.map (Value.int .u8)) hs hown ad ys.length c (ys.map (Value.int .u8)) hx (by simp) ?_ ?_ (by unfold maxLen; omega) (by omega) hB ?_
    · intro j u hj
      have hjm : j < ys.length := by
        have := (List.getElem?_eq_some_iff.1 hj).1
        simpa using this
      rw [h2 j hjm]
      rw [List.getElem?_map, List.getElem?_eq_getElem hjm] at hj
      have e : fn ys j = ys[j] := by simp [fn, List.getD, hjm]
      rw [e]
      simpa using hj
    · intro u hu
      obtain ⟨y, _, rfl⟩ := List.mem_map.1 hu
      rfl
    · intro v' w' h3 h4 _
      refine h v' w' ?_ h4
      unfold Own
      rw [List.length_append, List.map_append]
      exact h3
/-- A writer: its block, and what it wrote. -/
def Wr (Wb : Nat) (w : World) (xs : List Int) : Prop := ∃ v, w.heap[Wb]? = some (.cells #[v] 37 (0, 0)) ∧ Own w (Wb + 1) v xs
theorem Wr.below {Wb : Nat} {w w' : World} {xs : List Int} (h : Wr Wb w xs) (hb : Below w.heap.size w w') : Wr Wb w' xs := by
  obtain ⟨v, h1, h2⟩ := h
  exact ⟨v, (hb.block _ (Array.getElem?_eq_some_iff.1 h1).1).trans h1, h2.below hb (Nat.le_refl _)⟩
/-- Behind an append onto it. -/
theorem Wr.grown {Wb : Nat} {w w1 : World} {v v' : Value} {xs ys : List Int} (h1 : w.heap[Wb]? = some (.cells #[v] 37 (0, 0))) (h2 : Own w (Wb + 1) v xs) (hg : w.grownBy w1 v.ownBlock) (h3 : Own w1 (Wb + 1) v' ys) : Wr Wb (w1.setCell ⟨Wb, 0, none⟩ v') ys ∧ Below Wb w (w1.setCell ⟨Wb, 0, none⟩ v') := by
  have hne : v.ownBlock ≠ some Wb := own_ne h2 h1 (by decide)
  have hlt := (Array.getElem?_eq_some_iff.1 h1).1
  have e1 : w1.heap[Wb]? = some (.cells #[v] 37 (0, 0)) := (hg.block Wb hlt hne.symm).trans h1
  refine ⟨⟨v', heap_set_at e1 v', row_set h3 (own_ne h3 e1 (by decide)) 0 v'⟩, ?_⟩
  have hb : Below Wb w w1 := (Below.refl _ w).grown hg (Nat.le_of_lt hlt) (fun q hq => by have := (World.ownsRow.lt h2 q hq).1; omega)
  exact hb.setCell (Nat.le_refl _) v'
/-- append onto a slice of the call's own, as one step of a region that draws. -/
theorem step_appG {ops : Array Oper} {o : Oper} {a : Act} {w : World} {K : Act → World → Prop} {Q : Exit → Act → World → Prop} {E : Prop}
    (hg : o.guard = none) (s x : Operand) (hop : o.op = Op.call { callee := Callee.builtin Builtin.append, args := #[s, x], argTypes := #[27, 27] })
    (B : Nat) (v : Value) (xs : List Int) (hs : a.eval s = v) (hown : Own w B v xs) (ao : Option Addr) (ys : List Int) (hne : ys ≠ []) (c : Nat) (hx : a.eval x = .slice ao ys.length c) (hf : From w ao ys.length (fn ys))
    (hbig : xs.length + ys.length ≤ 140737488355328) (hB : B ≤ w.heap.size)
    (h : ∀ v' w', Own w' B v' (xs ++ ys) → w.grownBy w' v.ownBlock → K (a.put o.dst v') w') :
    if Region.wanted o (yielded ops a.tmps) = true then Oper.wp Tryd.prog o a w K Q else E := by
  obtain ⟨i0, hi, hz0, hz1, hz2⟩ := info_parts info5
  rcases hf with ⟨h1, h2⟩ | ⟨ad, h1, h2⟩
  · exact absurd (List.length_eq_zero_iff.1 h2) hne
  · subst h1
    refine step_append_own_at hg s x 27 hop B 5 i0 (.int .u8 0) 1 1 Tryd.underlying27 hi hz0 hz1 hz2 rfl (by decide) v xs.length (xs.map (Value.int .u8)) hs hown ad ys.length c (ys.map (Value.int .u8)) hx (by simp) ?_ ?_ (by unfold maxLen; omega) (by omega) hB ?_
    · intro j u hj
      have hjm : j < ys.length := by
        have := (List.getElem?_eq_some_iff.1 hj).1
        simpa using this
      rw [h2 j hjm]
      rw [List.getElem?_map, List.getElem?_eq_getElem hjm] at hj
      have e : fn ys j = ys[j] := by simp [fn, List.getD, hjm]
      rw [e]
      simpa using hj
    · intro u hu
      obtain ⟨y, _, rfl⟩ := List.mem_map.1 hu
      rfl
    · intro v' w' h3 h4 _
      refine h v' w' ?_ h4
      unfold Own
      rw [List.length_append, List.map_append]
      exact h3
theorem putB_ne (n : Nat) : putB n ≠ [] := by rw [putB]; split <;> simp
def txB (s : ByteArray) : List Int := putB s.size ++ strI s
theorem txB_ne (s : ByteArray) : txB s ≠ [] := by unfold txB; simp [putB_ne]
/-- A writer's slice, at a world. -/
def Wv (Wb : Nat) (w : World) (v : Value) (xs : List Int) : Prop := w.heap[Wb]? = some (.cells #[v] 37 (0, 0)) ∧ Own w (Wb + 1) v xs
theorem Wv.below {Wb : Nat} {w w' : World} {v : Value} {xs : List Int} (h : Wv Wb w v xs) (hb : Below w.heap.size w w') : Wv Wb w' v xs := ⟨(hb.block _ (Array.getElem?_eq_some_iff.1 h.1).1).trans h.1, h.2.below hb (Nat.le_refl _)⟩
theorem Wv.cell {Wb : Nat} {w : World} {v : Value} {xs : List Int} (h : Wv Wb w v xs) : w.cell? ⟨Wb, 0, none⟩ = some v ∧ w.frozen? ⟨Wb, 0, none⟩ = false := ⟨by rw [cells_at h.1]; rfl, cells_free h.1 0⟩
theorem Wv.lt {Wb : Nat} {w : World} {v : Value} {xs : List Int} (h : Wv Wb w v xs) : Wb < w.heap.size := (Array.getElem?_eq_some_iff.1 h.1).1
/-- What an append onto it, and its store, leave. -/
theorem Wv.grown {Wb : Nat} {w w1 : World} {v v' : Value} {xs ys : List Int} (h : Wv Wb w v xs) (hg : w.grownBy w1 v.ownBlock) (h3 : Own w1 (Wb + 1) v' ys) : (w1.cell? ⟨Wb, 0, none⟩ = some v ∧ w1.frozen? ⟨Wb, 0, none⟩ = false) ∧ Hid (Wr Wb (w1.setCell ⟨Wb, 0, none⟩ v') ys ∧ Below Wb w (w1.setCell ⟨Wb, 0, none⟩ v')) :=
  ⟨⟨by rw [cells_at ((hg.block Wb h.lt (own_ne h.2 h.1 (by decide)).symm).trans h.1)]; rfl, cells_free ((hg.block Wb h.lt (own_ne h.2 h.1 (by decide)).symm).trans h.1) 0⟩, Wr.grown h.1 h.2 hg h3⟩
theorem Wv.keepG {Wb : Nat} {w w1 : World} {v : Value} {xs : List Int} (h : Wv Wb w v xs) {G T : Nat} {cs : Array Value} {fz : Nat × Nat} (hg : w.heap[G]? = some (.cells cs T fz)) (hT : T ≠ 5) (hT2 : T ≠ 37) (hgr : w.grownBy w1 v.ownBlock) (u : Value) : (w1.setCell ⟨Wb, 0, none⟩ u).heap[G]? = some (.cells cs T fz) := by
  have hne : G ≠ Wb := fun e => by
    subst e
    have := hg.symm.trans h.1
    injection this with this
    injection this with _ this
    exact hT2 this
  rw [heap_set_other w1 hne]
  exact (hgr.block G (Array.getElem?_eq_some_iff.1 hg).1 (own_ne h.2 hg hT).symm).trans hg
theorem Wr.v {Wb : Nat} {w : World} {xs : List Int} (h : Wr Wb w xs) : ∃ v, Wv Wb w v xs := h
set_option maxHeartbeats 1000000 in
theorem c_text {Wb : Nat} {w : World} {xs : List Int} (h : Wr Wb w xs) (s : ByteArray) (hl : xs.length + s.size + 9 ≤ 70368744177664) : Calls Tryd.prog 12 #[.pointer (some ⟨Wb, 0, none⟩), .string s] w fun e w' => e = .returned (.tuple #[]) ∧ Hid (Wr Wb w' (xs ++ txB s)) ∧ Hid (Below Wb w w') := by
  obtain ⟨v, h1⟩ := h.v
  have HT : Hid (∀ V, Hid (Below w.heap.size w V) → Calls Tryd.prog 29 #[.slice none 0 0, .string s] V fun e w' => ∃ a c, e = .returned (.slice a (txB s).length c) ∧ (w'.cell? ⟨Wb, 0, none⟩ = some v ∧ w'.frozen? ⟨Wb, 0, none⟩ = false) ∧ Hid (From w' a (txB s).length (fn (txB s))) ∧ Hid (Wv Wb w' v xs) ∧ Hid (Below Wb w w')) := hid fun V hV => by
    refine (wText2 none 0 0 (fun _ => 0) s V (by omega) (.inl ⟨rfl, rfl⟩) (fun _ => rfl)).mono ?_
    rintro e w' ⟨v', rfl, ho, hb⟩
    have e0 : lst (fun _ => (0 : Int)) 0 ++ putB s.size ++ strI s = txB s := by simp [lst, txB]
    rw [e0] at ho
    obtain ⟨a, c, rfl, q1, q2, -, -, -⟩ := ho.open
    have hb2 := hV.out.trans (hb.mono hV.out.size)
    exact ⟨a, c, rfl, (h1.below hb2).cell, hid q1, hid (h1.below hb2), hid (hb2.mono (Nat.le_of_lt h1.lt))⟩
  obtain ⟨c0, f0⟩ := h1.cell
  have k0 : Hid (Below w.heap.size w w) := hid (Below.refl _ _)
  have HL : Hid (xs.length + (txB s).length ≤ 140737488355328) := hid (by
    have := putB_le s.size (by omega)
    unfold txB
    rw [List.length_append, strI_length]
    omega)
  clear h1 h hl
  have HN := hid (txB_ne s)
  go_enter Tryd.func12, Tryd.ntmps12
  go_wp2_with fail
  go_region_law (first
    | (refine step_appG rfl _ _ rfl (Wb + 1) v xs (by go_simp) HV2.out.2 a2 (txB s) HN.out cc2 (by go_simp) HF2.out HL.out HV2.out.lt ?_; intro v3 w3 ho3 hg3; obtain ⟨a3, c3, hv3, -⟩ := ho3.open; subst hv3; obtain ⟨⟨d3, f3⟩, HFin⟩ := HV2.out.grown hg3 ho3; rw [List.length_append] at HFin; clear ho3 hg3)
    | (go_simp; go_at_call 29; with_reducible refine (HT.out _ (bdw k0)).mono ?_; rintro e w2 ⟨a2, cc2, rfl, ⟨c2, f2⟩, HF2, HV2, kb2⟩))
  all_goals
    go_wp2
    refine bodyPost_end (results_none rfl _ _ _) rfl ?_
    exact ⟨rfl, hid HFin.out.1, hid (kb2.out.trans HFin.out.2)⟩
/-- Numbers' bytes. -/
def nmB : List Int → List Int
  | [] => []
  | z :: r => putB z.toNat ++ nmB r
theorem nmB_app (l : List Int) (z : Int) : nmB (l ++ [z]) = nmB l ++ putB z.toNat := by
  induction l with
  | nil => simp [nmB]
  | cons y r ih => show putB y.toNat ++ nmB (r ++ [z]) = putB y.toNat ++ nmB r ++ putB z.toNat; rw [ih, List.append_assoc]
theorem nmB_len {l : List Int} (h : ∀ z ∈ l, z ≤ 9223372036854775807) : (nmB l).length ≤ 9 * l.length := by
  induction l with
  | nil => exact Nat.zero_le _
  | cons y r ih =>
    have h1 := ih (fun z hz => h z (by simp [hz]))
    have h2 := putB_le y.toNat (by have := h y (by simp); omega)
    show (putB y.toNat ++ nmB r).length ≤ 9 * (r.length + 1)
    rw [List.length_append]
    omega
set_option maxRecDepth 100000 in
set_option maxHeartbeats 2000000 in
theorem c_numbers {Wb : Nat} {w : World} {xs : List Int} (h : Wr Wb w xs) (zs : List Int) (hz : ∀ z ∈ zs, z ≤ 9223372036854775807) (hl : xs.length + 9 * zs.length ≤ 70368744177664) (G T : Nat) (hG : w.heap.size = G) (hT : T ≠ 5) (hT2 : T ≠ 37) :
    Calls Tryd.prog 11 #[.pointer (some ⟨Wb, 0, none⟩), .slice (some ⟨G, 0, none⟩) zs.length zs.length] (w.alloc (.cells (zs.map (Value.int .i64)).toArray T)) fun e w' => e = .returned (.tuple #[]) ∧ Hid (Wr Wb w' (xs ++ nmB zs)) ∧ Hid (Below Wb w w') := by
  obtain ⟨v, h1⟩ := h.v
  obtain ⟨W1, hW1⟩ : ∃ W1, w.alloc (.cells (zs.map (Value.int .i64)).toArray T) = W1 := ⟨_, rfl⟩
  have hb1 : Below w.heap.size w W1 := by rw [← hW1]; exact blw_al (Below.refl _ _) _
  have hg1 : W1.heap[G]? = some (.cells (zs.map (Value.int .i64)).toArray T (0, 0)) := by rw [← hW1]; exact heap_alloc_at _ _ _ hG.symm
  have hlt := h1.lt
  obtain ⟨n, hn⟩ : ∃ n, zs.length = n := ⟨_, rfl⟩
  have HW1 : Hid (Wr Wb W1 xs) := hid (Wr.below h hb1)
  have Hg1 := hid hg1
  have Hb1 : Hid (Below Wb w W1) := hid (hb1.mono (Nat.le_of_lt hlt))
  have Hz := hid hz
  have Hl := hid hl
  have Hn := hid hn
  have hnb : (n : Int) ≤ 9223372036854775807 := by omega
  rw [hW1, hn]
  clear hW1 hb1 hg1 hlt h h1 hz hl hG hn
  go_enter Tryd.func11, Tryd.ntmps11
  go_wp2_with fail
  go_loopw [8] (fun i wr => ∃ j : Nat, i = .int .i64 (j : Int) ∧ j ≤ n ∧ Hid (Wr Wb wr (xs ++ nmB (zs.take j))) ∧ Hid (wr.heap[G]? = some (.cells (zs.map (Value.int .i64)).toArray T (0, 0))) ∧ Hid (Below Wb w wr)) (fun i _ => n - (intOf i).toNat)
  case atStart => exact ⟨0, rfl, Nat.zero_le _, by rw [List.take_zero]; show Wr _ _ (xs ++ []); rw [List.append_nil]; exact HW1.out, Hg1.out, Hb1.out⟩
  case round =>
    obtain ⟨j, rfl, hj, HJ, HG, HB⟩ := hrel
    by_cases hlt : j < n
    · have l1 : (j : Int) < (n : Int) := by omega
      have l2 : (0 : Int) ≤ (j : Int) := by omega
      have hjl : j < zs.length := by rw [Hn.out]; exact hlt
      have hzj := Hz.out _ (List.getElem_mem hjl)
      have hE : nmB (zs.take (j + 1)) = nmB (zs.take j) ++ putB (zs[j]).toNat := by rw [List.take_succ_eq_append_getElem hjl, nmB_app]
      have hlen : (nmB (zs.take j)).length ≤ 9 * n := by
        have h1 := nmB_len (l := zs.take j) (fun z hz => Hz.out z (List.mem_of_mem_take hz))
        rw [List.length_take] at h1
        omega
      have g0 : wr.cell? ⟨G, j, none⟩ = some (.int .i64 zs[j]) := by rw [cells_at HG.out]; simp [hjl]
      obtain ⟨z, hz⟩ : ∃ z, zs[j] = z := ⟨_, rfl⟩
      rw [hz] at hzj hE g0
      obtain ⟨ys, hys⟩ : ∃ ys, xs ++ nmB (zs.take j) = ys := ⟨_, rfl⟩
      have hlys : ys.length ≤ 70368744177664 := by
        rw [← hys, List.length_append]
        have := Hl.out
        have := Hn.out
        omega
      rw [hys] at HJ
      have HE : Hid (xs ++ nmB (zs.take (j + 1)) = ys ++ putB z.toNat) := hid (by rw [hE, ← List.append_assoc, hys])
      obtain ⟨v, h1⟩ := HJ.out.v
      have HT : Hid (∀ V, Hid (Below wr.heap.size wr V) → Calls Tryd.prog 28 #[.slice none 0 0, .int .i64 z] V fun e w' => ∃ a c, e = .returned (.slice a (putB z.toNat).length c) ∧ (w'.cell? ⟨Wb, 0, none⟩ = some v ∧ w'.frozen? ⟨Wb, 0, none⟩ = false) ∧ Hid (From w' a (putB z.toNat).length (fn (putB z.toNat))) ∧ Hid (Wv Wb w' v ys) ∧ Hid (w'.heap[G]? = some (.cells (zs.map (Value.int .i64)).toArray T (0, 0))) ∧ Hid (Below Wb w w')) := hid fun V hV => by
        refine (wPut none 0 0 (fun _ => 0) z V (by omega) (.inl ⟨rfl, rfl⟩) (fun _ => rfl) hzj).mono ?_
        rintro e w' ⟨v', rfl, ho, hb⟩
        have e0 : lst (fun _ => (0 : Int)) 0 ++ putB z.toNat = putB z.toNat := by simp [lst]
        rw [e0] at ho
        obtain ⟨a, c, rfl, q1, q2, -, -, -⟩ := ho.open
        have hb2 := hV.out.trans (hb.mono hV.out.size)
        exact ⟨a, c, rfl, (h1.below hb2).cell, hid q1, hid (h1.below hb2), hid ((hb2.block G (Array.getElem?_eq_some_iff.1 HG.out).1).trans HG.out), hid (HB.out.trans (hb2.mono (Nat.le_of_lt h1.lt)))⟩
      obtain ⟨c0, f0⟩ := h1.cell
      have k0 : Hid (Below wr.heap.size wr wr) := hid (Below.refl _ _)
      have HL : Hid (ys.length + (putB z.toNat).length ≤ 140737488355328) := hid (by
        have := putB_le z.toNat (by omega)
        omega)
      have HN := hid (putB_ne z.toNat)
      obtain ⟨pz, hpz⟩ : ∃ pz, putB z.toNat = pz := ⟨_, rfl⟩
      rw [hpz] at HT HL HN HE
      clear h1 hE hlen hlys hzj hjl hz hys HJ HG HB hpz
      go_wp2_with fail
      clear g0
      go_region_law (first
        | (refine step_appG rfl _ _ rfl (Wb + 1) v ys (by go_simp) HV2.out.2 a2 pz HN.out cc2 (by go_simp) HF2.out HL.out HV2.out.lt ?_; intro v3 w3 ho3 hg3; obtain ⟨a3, c3, hv3, -⟩ := ho3.open; subst hv3; have HK3 := hid (HV2.out.keepG HG2.out hT hT2 hg3); obtain ⟨⟨d3, f3⟩, HFin⟩ := HV2.out.grown hg3 ho3; rw [List.length_append] at HFin; clear ho3 hg3)
        | (go_simp; go_at_call 28; with_reducible refine (HT.out _ (bdw k0)).mono ?_; rintro e w2 ⟨a2, cc2, rfl, ⟨c2, f2⟩, HF2, HV2, HG2, kb2⟩))
      all_goals
        go_wp2
        go_roundw
        case rel => exact ⟨j + 1, by go_num, by omega, hid (by rw [HE.out]; exact HFin.out.1), hid (HK3.out _), hid (kb2.out.trans HFin.out.2)⟩
        case measure => simp [intOf]; omega
    · obtain rfl : j = n := by omega
      have HJ2 : Hid (Wr Wb wr (xs ++ nmB zs)) := hid (by have := HJ.out; rw [← Hn.out, List.take_length] at this; exact this)
      clear HJ
      go_wp2
      refine bodyPost_end (results_none rfl _ _ _) rfl ?_
      exact ⟨rfl, HJ2, HB⟩
end Go.Proofs.YtpjgdpfpgpaenaaDoor
