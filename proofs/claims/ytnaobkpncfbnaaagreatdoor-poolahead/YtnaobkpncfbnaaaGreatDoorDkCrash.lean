/-
  Contracts of a disk's settle, forget, chosen, Flush and Crash over Dk.
-/
import Derived.Test.YtnaobkpncfbnaaaGreatDoorDkWrite
import Derived.Deep.DeepCutAuto
import Derived.StillTailTactics
namespace Go.Proofs.YtnaobkpncfbnaaaGreatDoor
open Go.RowKit
set_option linter.unusedVariables false

/-- copy of 128 bytes into a slice of the call's own: the world parts in its block alone. -/
theorem wpList_copy128 {w : World} {ops : Array Oper} {rest : List Oper} {o : Oper} {a : Act} {Q : Exit → Act → World → Prop}
    (hgd : o.guard = none) (d s : Operand) (ho : o.op = .call { callee := .builtin .copy, args := #[d, s], argTypes := #[36, 36] })
    (g off N cap dc : Nat) (f' : Nat → Int) (hd : a.eval d = .slice (some ⟨g, off, none⟩) 128 dc) (ad : Addr) (sc : Nat) (hs : a.eval s = .slice (some ad) 128 sc) (f : Nat → Int)
    (hown : Own w 0 (.slice (some ⟨g, 0, none⟩) N cap) (lst f' N)) (hf : From w (some ad) 128 f) (hfit : off + 128 ≤ N)
    (h : ∀ w', Own w' 0 (.slice (some ⟨g, 0, none⟩) N cap) (lst (ov f' off 128 f) N) → Only g w w' → wpList Tryz.prog ops Q rest (a.put o.dst (.int .i64 128)) w') :
    wpList Tryz.prog ops Q (o :: rest) a w := by
  refine wpList_plain hgd fun K hK => ?_
  have hown2 := hown
  unfold Own at hown2
  rw [lst_length] at hown2
  rcases hown2.2 with ⟨h1, _⟩ | ⟨g', cap', cur, h1, h2, h3, h4, h5, h6, h7⟩
  · cases h1
  · cases h1
    have hlen : ((lst f 128).map (Value.int .u8)).length = 128 := by simp [lst_length]
    have hsrc : ∀ j v, ((lst f 128).map (Value.int .u8))[j]? = some v → w.cell? (ad.add j) = some v := fun j u hj => by
      have hjm : j < 128 := by
        have := (List.getElem?_eq_some_iff.1 hj).1
        simpa [lst_length] using this
      rcases hf with ⟨e, _⟩ | ⟨x, e1, e2⟩
      · cases e
      · cases e1
        rw [e2 j hjm]
        rw [List.getElem?_map, lst_get f 128 j hjm] at hj
        simpa using hj
    have hrun := run_copy_row (P := Tryz.prog) w 36 36 o.type 5 g off 128 dc ad 128 sc cur 5 ((lst f 128).map (Value.int .u8)) Tryz.underlying36 size5 h3 (by rw [hlen]; rfl) hsrc (by rw [hlen]; omega) (fun u hu => by obtain ⟨y, _, rfl⟩ := List.mem_map.1 hu; rfl)
    unfold Oper.wp
    simp only [execOp, ho, resolve, invoke, builtin, Sem.run_bind, Sem.run_pure, Result.andThen_ok, List.map_toArray, List.map_cons, List.map_nil, hd, hs, hrun]
    have hg : (w.setRow g (cur.toList.take off ++ (lst f 128).map (Value.int .u8) ++ cur.toList.drop (off + ((lst f 128).map (Value.int .u8)).length)).toArray).heap[g]? = some (.cells (splice cur.toList off ((lst f 128).map (Value.int .u8))).toArray 5 (0, 0)) := by
      simpa [splice] using setRow_heap w g _ _ 5 _ h3
    have e0 : goInt ((lst f 128).map (Value.int .u8)).length = .int .i64 128 := by rw [hlen]; rfl
    rw [e0]
    refine hK _ _ (h _ ⟨by simp, .inr ⟨g, cap, _, ?_, Nat.zero_le _, hg, ?_, h5, ?_, ?_⟩⟩ ⟨rfl, rfl, rfl, by simp [World.setRow], fun k hk => setRow_other w g k _ hk⟩)
    · rw [lst_length]
    · rw [lst_length]; exact h4
    · rw [List.size_toArray, length_splice _ _ _ (by rw [hlen, Array.length_toList]; omega), Array.length_toList]; exact h6
    · rw [lst_length, Nat.mul_one, ← lst_ov f' N off 128 f hfit]
      rw [Nat.mul_one] at h7
      have hx : (lst f' N).map (Value.int .u8) = cur.toList.take N := h7.symm
      unfold splice
      simp only [List.map_append, List.map_take, List.map_drop, List.length_map, hx, lst_length]
      apply List.ext_getElem?
      intro i
      simp only [List.getElem?_take, List.getElem?_append, List.length_take, List.length_map, lst_length, List.getElem?_drop, Array.length_toList]
      have hcs : N ≤ cur.size := by omega
      have e1 : min off cur.size = off := by omega
      have e2 : min off (min N cur.size) = off := by omega
      simp only [e1, e2]
      by_cases i1 : i < N
      · by_cases i2 : i < off
        · simp only [i1, i2, if_true]
        · by_cases i3 : i - off < 128
          · simp only [i1, i2, i3, if_true, if_false]
          · have i4 : off + 128 + (i - off - 128) < N := by omega
            simp only [i1, i2, i3, i4, if_true, if_false]
      · have i2 : ¬ i < off := by omega
        have i3 : ¬ i - off < 128 := by omega
        have i4 : ¬ off + 128 + (i - off - 128) < N := by omega
        simp only [i1, i2, i3, i4, if_false]
theorem ov_byC {F f : Nat → Int} {off m : Nat} (h1 : ∀ i, 0 ≤ F i ∧ F i ≤ 255) (h2 : ∀ i, 0 ≤ f i ∧ f i ≤ 255) (i : Nat) : 0 ≤ ov F off m f i ∧ ov F off m f i ≤ 255 := by
  unfold ov
  split
  · exact h2 _
  · exact h1 _
theorem row_only {w w' : World} {g : Nat} (h : Only g w w') {B : Nat} {e : TypeId} {sz : Nat} {v : Value} {n : Nat} {xs : List Value} (ho : w.ownsRow B e sz v n xs) (hn : v.ownBlock ≠ some g) : w'.ownsRow B e sz v n xs := by
  refine ⟨ho.1, ?_⟩
  rcases ho.2 with h2 | ⟨g', cap, cur, rfl, h2, h3, h4⟩
  · exact .inl h2
  · exact .inr ⟨g', cap, cur, rfl, h2, by rw [h.block g' (fun e => hn (by rw [← e]; rfl))]; exact h3, h4⟩
theorem DkAt.settled {D S Bd Bl cD cL : Nat} {vT vL : Value} {F : Nat → Prop} {n : Nat} {dur dur' : Nat → Int} {m : Nat} {tf : Nat → Nat} {ld : Nat → Int} {w w' : World} (h : DkAt w D S Bd Bl cD cL vT vL F n dur m tf ld) (hon : Only Bd w w') (ho : OwnC w' Bd (n * 128) cD dur') (hby : ∀ i, 0 ≤ dur' i ∧ dur' i ≤ 255) : DkAt w' D S Bd Bl cD cL vT vL F n dur' m tf ld :=
  have sp := h.sep
  { h with
    hD := by rw [hon.block D sp.DBd]; exact h.hD
    hS := by rw [hon.block S sp.SBd]; exact h.hS
    ob := ho
    ol := row_only hon h.ol (fun e => by cases e; exact sp.BdBl rfl)
    ot := row_only hon h.ot (fun e => (sp.T Bd e).2.2.1 rfl)
    oo := row_only hon h.oo (fun e => (sp.L Bd e).2.2.1 rfl)
    lt := fun k hk => by rw [hon.size]; exact h.lt k hk
    by1 := hby }
theorem Only.part {g : Nat} {w w' : World} (h : Only g w w') : Part (fun k => k = g) w w' := ⟨h.os, h.tape, h.output, Nat.le_of_eq h.size.symm, fun k _ hn => h.block k hn⟩

set_option maxRecDepth 100000 in
set_option maxHeartbeats 4000000 in
theorem dkSettle {D S Bd Bl cD cL : Nat} {vT vL : Value} {F : Nat → Prop} {n : Nat} {dur : Nat → Int} {m : Nat} {tf : Nat → Nat} {ld : Nat → Int} (p : Nat) (w : World) (h : DkAt w D S Bd Bl cD cL vT vL F n dur m tf ld) (hp : p < m) (hm : m ≤ 549755813887) :
    Calls Tryz.prog 80 #[.pointer (some ⟨S, 0, none⟩), .int .i64 (p : Int)] w fun e w' => e = .returned (.tuple #[]) ∧ DkAt w' D S Bd Bl cD cL vT vL F n (ov dur (tf p * 128) 128 (sh ld (p * 128))) m tf ld ∧ Part (fun k => k = Bd) w w' := by
  obtain ⟨d0, s0, s1, s2, s3, _⟩ := heads h.hD h.hS
  obtain ⟨gT, cT, rfl, hoT, _, hgT, _, _⟩ := ownI_some h.ot (show 0 < m by omega)
  obtain ⟨gL, cV, rfl, hoL, _, hgL, hcV1, hcV2⟩ := own_some h.oo (show 0 < m * 128 by omega)
  have hT := OwnI.cellF hoT p hp
  obtain ⟨c1, c2, cO, hob⟩ := h.ob
  have htn := h.tn p hp
  have H : Hid (DkAt w D S Bd Bl cD cL (.slice (some ⟨gT, 0, none⟩) m cT) (.slice (some ⟨gL, 0, none⟩) (m * 128) cV) F n dur m tf ld) := h
  have HO : Hid (Own w.drew 0 (.slice (some ⟨Bd, 0, none⟩) (n * 128) cO) (lst dur (n * 128))) := row_heap hob rfl
  have HF : Hid (From w.drew (some ⟨gL, p * 128, none⟩) 128 (sh ld (p * 128))) := .inr ⟨_, rfl, fun j hj => by
    rw [Addr.add_lit]
    exact Own.cellF hoL (p * 128 + j) (by omega)⟩
  have HE : Hid (∀ w' : World, Own w' 0 (.slice (some ⟨Bd, 0, none⟩) (n * 128) cO) (lst (ov dur (tf p * 128) 128 (sh ld (p * 128))) (n * 128)) → Only Bd w.drew w' → DkAt w' D S Bd Bl cD cL (.slice (some ⟨gT, 0, none⟩) m cT) (.slice (some ⟨gL, 0, none⟩) (m * 128) cV) F n (ov dur (tf p * 128) 128 (sh ld (p * 128))) m tf ld ∧ Part (fun k => k = Bd) w w') := fun w' ho hon =>
    have hon' : Only Bd w w' := ⟨hon.os, hon.tape, hon.output, hon.size, hon.block⟩
    ⟨H.out.settled hon' ⟨H.out.ob.1, H.out.ob.2.1, cO, ho⟩ (ov_byC H.out.by1 (sh_by H.out.by2 _)), hon'.part⟩
  have hp' : (p : Int) < (m : Int) := by omega
  have hp0 : (0 : Int) ≤ (p : Int) := by omega
  have hA : Hid ((tf p + 1) * 128 ≤ cD ∧ cD ≤ 9223372036854775807) := ⟨by omega, c2⟩
  have hB : Hid ((p + 1) * 128 ≤ cV ∧ cV ≤ 9223372036854775807) := ⟨by omega, hcV2⟩
  have hC : Hid (tf p * 128 + 128 ≤ n * 128) := (by omega : tf p * 128 + 128 ≤ n * 128)
  clear h hoT hoL d0 s1 c1 c2 hcV1 hcV2 hob
  go_enter Tryz.func80, Tryz.ntmps80
  go_wp2_with fail
  refine wp_region_still_tail 20 (by kernel_rfl) (by kernel_rfl) ?_
  simp only [List.take_succ_cons, List.take_zero, List.drop_succ_cons, List.drop_zero]
  repeat still_step
  still_call (cut_at Bd (n * 128) cD (tf p) hA.out.1 hA.out.2 _)
  repeat still_step
  still_call (cut_at gL (m * 128) cV p hB.out.1 hB.out.2 _)
  repeat still_step
  refine wpStill_nil ?_
  refine wpList_copy128 rfl _ _ rfl Bd (tf p * 128) (n * 128) cO 128 dur rfl ⟨gL, p * 128, none⟩ 128 rfl (sh ld (p * 128)) HO.out HF.out hC.out ?_
  intro w5 ho5 hon5
  obtain ⟨z1, z2⟩ := HE.out w5 ho5 hon5
  go_wp2
  go_end0
  exact ⟨rfl, z1, z2⟩

/-- The durable bytes behind the first k places, of which those stay that st names. -/
def setl (dur : Nat → Int) (tf : Nat → Nat) (ld : Nat → Int) (st : Nat → Bool) : Nat → Nat → Int
  | 0 => dur
  | k + 1 => if st k then ov (setl dur tf ld st k) (tf k * 128) 128 (sh ld (k * 128)) else setl dur tf ld st k
/-- No write is to i: nothing is said of it. -/
theorem lastAt_none {tf : Nat → Nat} {i : Nat} : ∀ {m : Nat}, (∀ j, j < m → tf j ≠ i) → lastAt tf m i = 0
  | 0, _ => rfl
  | m + 1, h => by rw [lastAt, if_neg (h m (by omega)), lastAt_none (fun j hj => h j (by omega))]

def cleared (tf : Nat → Nat) (f : Nat → Int) : Nat → Nat → Int
  | 0, i => f i
  | k + 1, i => if i = tf k then 0 else cleared tf f k i
theorem cleared_yes {tf : Nat → Nat} {f : Nat → Int} {i : Nat} : ∀ {k : Nat}, (∃ j, j < k ∧ tf j = i) → cleared tf f k i = 0
  | 0, ⟨j, h, _⟩ => by omega
  | k + 1, ⟨j, h, e⟩ => by
    rw [cleared]
    by_cases e2 : i = tf k
    · rw [if_pos e2]
    · rw [if_neg e2]
      refine cleared_yes ⟨j, ?_, e⟩
      by_cases e3 : j = k
      · subst e3; exact absurd e.symm e2
      · omega
theorem cleared_no {tf : Nat → Nat} {f : Nat → Int} {i : Nat} : ∀ {k : Nat}, (∀ j, j < k → tf j ≠ i) → cleared tf f k i = f i
  | 0, _ => rfl
  | k + 1, h => by rw [cleared, if_neg (fun e => h k (by omega) e.symm), cleared_no (fun j hj => h j (by omega))]
theorem cleared_all (tf : Nat → Nat) (m i : Nat) : cleared tf (lastAt tf m) m i = 0 := by
  by_cases h : ∃ j, j < m ∧ tf j = i
  · exact cleared_yes h
  · rw [cleared_no (fun j hj e => h ⟨j, hj, e⟩)]
    exact lastAt_none (fun j hj e => h ⟨j, hj, e⟩)

set_option maxRecDepth 100000 in
set_option maxHeartbeats 1000000 in
theorem dkForget {D S Bd Bl cD cL : Nat} {vT vL : Value} {F : Nat → Prop} {n : Nat} {dur : Nat → Int} {m : Nat} {tf : Nat → Nat} {ld : Nat → Int} (w : World) (h : DkAt w D S Bd Bl cD cL vT vL F n dur m tf ld) (hm : m ≤ 549755813887) :
    Calls Tryz.prog 81 #[.pointer (some ⟨S, 0, none⟩)] w fun e w' => e = .returned (.tuple #[]) ∧ DkAt w' D S Bd Bl cD cL (.slice none 0 0) (.slice none 0 0) F n dur 0 tf ld ∧ Part (fun k => k = S ∨ k = Bl) w w' := by
  obtain ⟨d0, s0, s1, s2, s3, _⟩ := heads h.hD h.hS
  obtain ⟨aT, cT, rfl⟩ := ownI_any h.ot
  have sp := h.sep
  have hSB := sp.SBl
  have HB : Hid (∀ wr : World, Only Bl w wr → wr.cell? ⟨S, 1, none⟩ = some (.slice (some ⟨Bl, 0, none⟩) n cL) ∧ wr.cell? ⟨S, 2, none⟩ = some (.slice aT m cT) ∧ wr.cell? ⟨S, 3, none⟩ = some vL ∧ (∀ i, wr.frozen? ⟨S, i, none⟩ = false)) := fun wr hon => by
    have hS : wr.heap[S]? = _ := (hon.block S sp.SBl).trans h.hS
    exact ⟨cells_at hS 1, cells_at hS 2, cells_at hS 3, fun i => cells_free hS i⟩
  have HT : Hid (∀ wr : World, Only Bl w wr → ∀ k, k < m → ∃ gT, aT = some ⟨gT, 0, none⟩ ∧ wr.cell? ⟨gT, k, none⟩ = some (.int .i64 (tf k : Int))) := fun wr hon k hk => by
    obtain ⟨gT, c', e, ho, _⟩ := ownI_some h.ot (show 0 < m by omega)
    injection e with e1 e2 e3
    subst e1
    refine ⟨gT, rfl, ?_⟩
    rw [hon.cell (p := ⟨gT, k, none⟩) (fun e => (sp.T gT rfl).2.2.2.1 e)]
    exact OwnI.cellF ho k hk
  have HE : Hid (∀ wr : World, Only Bl w wr → OwnI wr 0 (.slice (some ⟨Bl, 0, none⟩) n cL) (lst (cleared tf (lastAt tf m) m) n) → DkAt ((wr.setCell ⟨S, 2, none⟩ (.slice none 0 0)).setCell ⟨S, 3, none⟩ (.slice none 0 0)) D S Bd Bl cD cL (.slice none 0 0) (.slice none 0 0) F n dur 0 tf ld ∧ Part (fun k => k = S ∨ k = Bl) w ((wr.setCell ⟨S, 2, none⟩ (.slice none 0 0)).setCell ⟨S, 3, none⟩ (.slice none 0 0))) := fun wr hon ho => by
    have hS : wr.heap[S]? = _ := (hon.block S sp.SBl).trans h.hS
    refine ⟨⟨?_, ?_, ?_, ?_, World.ownsRow_nil _ _ _ _, ?_, (fun e => by cases e), (fun e => by cases e), h.FD, h.FS, h.FBd, h.FBl, (fun k e => by cases e), (fun k e => by cases e), fun k hk => ?_, fun j hj => by omega, h.by1, h.by2, h.n1, h.n2⟩, ?_⟩
    · rw [heap_set_other _ sp.DS, heap_set_other _ sp.DS, hon.block D sp.DBl]; exact h.hD
    · rw [heap_set_same (heap_set_same hS 2 (.slice none 0 0)) 3 (.slice none 0 0)]; rfl
    · exact h.ob.map fun C hoC => row_set (row_set (row_only hon hoC (fun e => by cases e; exact sp.BdBl rfl)) (fun e => by cases e; exact sp.SBd rfl) _ _) (fun e => by cases e; exact sp.SBd rfl) _ _
    · exact OwnI.ext (row_set (row_set ho (fun e => by cases e; exact sp.SBl rfl) _ _) (fun e => by cases e; exact sp.SBl rfl) _ _) (fun i hi => by rw [cleared_all]; rfl)
    · rw [Nat.zero_mul]; exact World.ownsRow_nil _ _ _ _
    · have h9 : wr.heap.size = w.heap.size := hon.size
      have := h.lt k hk
      simp [World.setCell]
      omega
    · exact (((Only.part hon).mono (G := fun k => k = S ∨ k = Bl) (fun i _ e => Or.inr e)).setCell (p := ⟨S, 2, none⟩) (fun _ => .inl rfl) _).setCell (p := ⟨S, 3, none⟩) (fun _ => .inl rfl) _
  have H0 : Hid (OwnI w 0 (.slice (some ⟨Bl, 0, none⟩) n cL) (lst (cleared tf (lastAt tf m) 0) n)) := h.ol
  have HN : Hid (∀ j, j < m → tf j < n) := h.tn
  clear h d0 s0 s1 s3 sp
  go_enter Tryz.func81, Tryz.ntmps81
  go_wp2
  go_loopw [10] (fun i wr => ∃ k : Nat, k ≤ m ∧ i = .int .i64 (k : Int) ∧ Only Bl w wr ∧ OwnI wr 0 (.slice (some ⟨Bl, 0, none⟩) n cL) (lst (cleared tf (lastAt tf m) k) n)) (fun i _ => m - (intOf i).toNat)
  case atStart => exact ⟨0, Nat.zero_le _, rfl, Only.refl _ _, H0.out⟩
  case round =>
    obtain ⟨k, hk, rfl, hon, ho⟩ := hrel
    obtain ⟨b1, b2, b3, bz⟩ := HB.out wr hon
    by_cases hlt : k < m
    · have hlt' : (k : Int) < (m : Int) := by omega
      have hk0 : (0 : Int) ≤ (k : Int) := by omega
      obtain ⟨gT, rfl, ht⟩ := HT.out wr hon k hlt
      have htn := HN.out k hlt
      have htn' : (tf k : Int) < (n : Int) := by omega
      have hcell := OwnI.cellF ho (tf k) htn
      have hfz := OwnI.freeF ho (tf k)
      have HO : Hid (OwnI (wr.setCell ⟨Bl, tf k, none⟩ (.int .i64 0)) 0 (.slice (some ⟨Bl, 0, none⟩) n cL) (lst (cleared tf (lastAt tf m) (k + 1)) n)) := OwnI.ext (OwnI.set ho (tf k) htn 0) (fun i hi => rfl)
      have HX : Hid (Only Bl w (wr.setCell ⟨Bl, tf k, none⟩ (.int .i64 0))) := hon.setCell (p := ⟨Bl, tf k, none⟩) rfl _
      clear ho hon
      go_wp2
      go_roundw
      case rel => exact ⟨k + 1, by omega, by go_num, HX.out, HO.out⟩
      case measure => simp [intOf]; omega
    · obtain rfl : k = m := by omega
      obtain ⟨z1, z2⟩ := HE.out wr hon ho
      have bz2 := bz 2
      have bz3 := bz 3
      clear ho hon
      go_wp2
      go_end0
      exact ⟨rfl, z1, z2⟩
end Go.Proofs.YtnaobkpncfbnaaaGreatDoor
