/-
  Contracts of a disk's settle, forget, chosen, Flush and Crash over Dk.
  Contracts of a disk's chosen, Flush and Crash over Dk.
  Contracts of slices.Clone and slices.Equal over numbers that were handed in.
-/
import Derived.Test.YthfokciijcmhbaaGreatDoorGad
import Derived.Deep.DeepCutAuto
import Derived.StillTailTactics
namespace Go.Proofs.YthfokciijcmhbaaGreatDoor
open Go.RowKit
set_option linter.unusedVariables false

/-- copy of 128 bytes into a slice of the call's own: the world parts in its block alone. -/
theorem wpList_copy128 {w : World} {ops : Array Oper} {rest : List Oper} {o : Oper} {a : Act} {Q : Exit → Act → World → Prop}
    (hgd : o.guard = none) (d s : Operand) (ho : o.op = .call { callee := .builtin .copy, args := #[d, s], argTypes := #[47, 47] })
    (g off N cap dc : Nat) (f' : Nat → Int) (hd : a.eval d = .slice (some ⟨g, off, none⟩) 128 dc) (ad : Addr) (sc : Nat) (hs : a.eval s = .slice (some ad) 128 sc) (f : Nat → Int)
    (hown : Own w 0 (.slice (some ⟨g, 0, none⟩) N cap) (lst f' N)) (hf : From w (some ad) 128 f) (hfit : off + 128 ≤ N)
    (h : ∀ w', Own w' 0 (.slice (some ⟨g, 0, none⟩) N cap) (lst (ov f' off 128 f) N) → Only g w w' → wpList Tryz.prog ops Q rest (a.put o.dst (.int .i64 128)) w') :
    wpList Tryz.prog ops Q (o :: rest) a w := by
  refine wpList_plain hgd fun K hK => ?_
  have hown2 := hown
  unfold Own at hown2
  rw [lst_length] at hown2
  rcases hown2.2 with ⟨h1, _⟩ | ⟨g', cap', cur, h1, h2, h3, h4, h5, h6, h7⟩
  · cases h1
  · cases h1
    have hlen : ((lst f 128).map (Value.int .u8)).length = 128 := by simp [lst_length]
    have hsrc : ∀ j v, ((lst f 128).map (Value.int .u8))[j]? = some v → w.cell? (ad.add j) = some v := fun j u hj => by
      have hjm : j < 128 := by
        have := (List.getElem?_eq_some_iff.1 hj).1
        simpa [lst_length] using this
      rcases hf with ⟨e, _⟩ | ⟨x, e1, e2⟩
      · cases e
      · cases e1
        rw [e2 j hjm]
        rw [List.getElem?_map, lst_get f 128 j hjm] at hj
        simpa using hj
    have hrun := run_copy_row (P := Tryz.prog) w 47 47 o.type 5 g off 128 dc ad 128 sc cur 5 ((lst f 128).map (Value.int .u8)) Tryz.underlying47 size5 h3 (by rw [hlen]; rfl) hsrc (by rw [hlen]; omega) (fun u hu => by obtain ⟨y, _, rfl⟩ := List.mem_map.1 hu; rfl)
    unfold Oper.wp
    simp only [execOp, ho, resolve, invoke, builtin, Sem.run_bind, Sem.run_pure, Result.andThen_ok, List.map_toArray, List.map_cons, List.map_nil, hd, hs, hrun]
    have hg : (w.setRow g (cur.toList.take off ++ (lst f 128).map (Value.int .u8) ++ cur.toList.drop (off + ((lst f 128).map (Value.int .u8)).length)).toArray).heap[g]? = some (.cells (splice cur.toList off ((lst f 128).map (Value.int .u8))).toArray 5 (0, 0)) := by
      simpa [splice] using setRow_heap w g _ _ 5 _ h3
    have e0 : goInt ((lst f 128).map (Value.int .u8)).length = .int .i64 128 := by rw [hlen]; rfl
    rw [e0]
    refine hK _ _ (h _ ⟨by simp, .inr ⟨g, cap, _, ?_, Nat.zero_le _, hg, ?_, h5, ?_, ?_⟩⟩ ⟨rfl, rfl, rfl, by simp [World.setRow], fun k hk => setRow_other w g k _ hk⟩)
    · rw [lst_length]
    · rw [lst_length]; exact h4
    · rw [List.size_toArray, length_splice _ _ _ (by rw [hlen, Array.length_toList]; omega), Array.length_toList]; exact h6
    · rw [lst_length, Nat.mul_one, ← lst_ov f' N off 128 f hfit]
      rw [Nat.mul_one] at h7
      have hx : (lst f' N).map (Value.int .u8) = cur.toList.take N := h7.symm
      unfold splice
      simp only [List.map_append, List.map_take, List.map_drop, List.length_map, hx, lst_length]
      apply List.ext_getElem?
      intro i
      simp only [List.getElem?_take, List.getElem?_append, List.length_take, List.length_map, lst_length, List.getElem?_drop, Array.length_toList]
      have hcs : N ≤ cur.size := by omega
      have e1 : min off cur.size = off := by omega
      have e2 : min off (min N cur.size) = off := by omega
      simp only [e1, e2]
      by_cases i1 : i < N
      · by_cases i2 : i < off
        · simp only [i1, i2, if_true]
        · by_cases i3 : i - off < 128
          · simp only [i1, i2, i3, if_true, if_false]
          · have i4 : off + 128 + (i - off - 128) < N := by omega
            simp only [i1, i2, i3, i4, if_true, if_false]
      · have i2 : ¬ i < off := by omega
        have i3 : ¬ i - off < 128 := by omega
        have i4 : ¬ off + 128 + (i - off - 128) < N := by omega
        simp only [i1, i2, i3, i4, if_false]
theorem ov_byC {F f : Nat → Int} {off m : Nat} (h1 : ∀ i, 0 ≤ F i ∧ F i ≤ 255) (h2 : ∀ i, 0 ≤ f i ∧ f i ≤ 255) (i : Nat) : 0 ≤ ov F off m f i ∧ ov F off m f i ≤ 255 := by
  unfold ov
  split
  · exact h2 _
  · exact h1 _
theorem row_only {w w' : World} {g : Nat} (h : Only g w w') {B : Nat} {e : TypeId} {sz : Nat} {v : Value} {n : Nat} {xs : List Value} (ho : w.ownsRow B e sz v n xs) (hn : v.ownBlock ≠ some g) : w'.ownsRow B e sz v n xs := by
  refine ⟨ho.1, ?_⟩
  rcases ho.2 with h2 | ⟨g', cap, cur, rfl, h2, h3, h4⟩
  · exact .inl h2
  · exact .inr ⟨g', cap, cur, rfl, h2, by rw [h.block g' (fun e => hn (by rw [← e]; rfl))]; exact h3, h4⟩
theorem DkAt.settled {D S Bd Bl cD cL : Nat} {vT vL : Value} {F : Nat → Prop} {n : Nat} {dur dur' : Nat → Int} {m : Nat} {tf : Nat → Nat} {ld : Nat → Int} {w w' : World} (h : DkAt w D S Bd Bl cD cL vT vL F n dur m tf ld) (hon : Only Bd w w') (ho : OwnC w' Bd (n * 128) cD dur') (hby : ∀ i, 0 ≤ dur' i ∧ dur' i ≤ 255) : DkAt w' D S Bd Bl cD cL vT vL F n dur' m tf ld :=
  have sp := h.sep
  { h with
    hD := by rw [hon.block D sp.DBd]; exact h.hD
    hS := by rw [hon.block S sp.SBd]; exact h.hS
    ob := ho
    ol := row_only hon h.ol (fun e => by cases e; exact sp.BdBl rfl)
    ot := row_only hon h.ot (fun e => (sp.T Bd e).2.2.1 rfl)
    oo := row_only hon h.oo (fun e => (sp.L Bd e).2.2.1 rfl)
    lt := fun k hk => by rw [hon.size]; exact h.lt k hk
    by1 := hby }
theorem Only.part {g : Nat} {w w' : World} (h : Only g w w') : Part (fun k => k = g) w w' := ⟨h.os, h.tape, h.output, Nat.le_of_eq h.size.symm, fun k _ hn => h.block k hn⟩

set_option maxRecDepth 100000 in
set_option maxHeartbeats 4000000 in
theorem dkSettle {D S Bd Bl cD cL : Nat} {vT vL : Value} {F : Nat → Prop} {n : Nat} {dur : Nat → Int} {m : Nat} {tf : Nat → Nat} {ld : Nat → Int} (p : Nat) (w : World) (h : DkAt w D S Bd Bl cD cL vT vL F n dur m tf ld) (hp : p < m) (hm : m ≤ 549755813887) :
    Calls Tryz.prog 26 #[.pointer (some ⟨S, 0, none⟩), .int .i64 (p : Int)] w fun e w' => e = .returned (.tuple #[]) ∧ DkAt w' D S Bd Bl cD cL vT vL F n (ov dur (tf p * 128) 128 (sh ld (p * 128))) m tf ld ∧ Part (fun k => k = Bd) w w' := by
  obtain ⟨d0, s0, s1, s2, s3, _⟩ := heads h.hD h.hS
  obtain ⟨gT, cT, rfl, hoT, _, hgT, _, _⟩ := ownI_some h.ot (show 0 < m by omega)
  obtain ⟨gL, cV, rfl, hoL, _, hgL, hcV1, hcV2⟩ := own_some h.oo (show 0 < m * 128 by omega)
  have hT := OwnI.cellF hoT p hp
  obtain ⟨c1, c2, cO, hob⟩ := h.ob
  have htn := h.tn p hp
  have H : Hid (DkAt w D S Bd Bl cD cL (.slice (some ⟨gT, 0, none⟩) m cT) (.slice (some ⟨gL, 0, none⟩) (m * 128) cV) F n dur m tf ld) := h
  have HO : Hid (Own w.drew 0 (.slice (some ⟨Bd, 0, none⟩) (n * 128) cO) (lst dur (n * 128))) := row_heap hob rfl
  have HF : Hid (From w.drew (some ⟨gL, p * 128, none⟩) 128 (sh ld (p * 128))) := .inr ⟨_, rfl, fun j hj => by
    rw [Addr.add_lit]
    exact Own.cellF hoL (p * 128 + j) (by omega)⟩
  have HE : Hid (∀ w' : World, Own w' 0 (.slice (some ⟨Bd, 0, none⟩) (n * 128) cO) (lst (ov dur (tf p * 128) 128 (sh ld (p * 128))) (n * 128)) → Only Bd w.drew w' → DkAt w' D S Bd Bl cD cL (.slice (some ⟨gT, 0, none⟩) m cT) (.slice (some ⟨gL, 0, none⟩) (m * 128) cV) F n (ov dur (tf p * 128) 128 (sh ld (p * 128))) m tf ld ∧ Part (fun k => k = Bd) w w') := fun w' ho hon =>
    have hon' : Only Bd w w' := ⟨hon.os, hon.tape, hon.output, hon.size, hon.block⟩
    ⟨H.out.settled hon' ⟨H.out.ob.1, H.out.ob.2.1, cO, ho⟩ (ov_byC H.out.by1 (sh_by H.out.by2 _)), hon'.part⟩
  have hp' : (p : Int) < (m : Int) := by omega
  have hp0 : (0 : Int) ≤ (p : Int) := by omega
  have hA : Hid ((tf p + 1) * 128 ≤ cD ∧ cD ≤ 9223372036854775807) := ⟨by omega, c2⟩
  have hB : Hid ((p + 1) * 128 ≤ cV ∧ cV ≤ 9223372036854775807) := ⟨by omega, hcV2⟩
  have hC : Hid (tf p * 128 + 128 ≤ n * 128) := (by omega : tf p * 128 + 128 ≤ n * 128)
  clear h hoT hoL d0 s1 c1 c2 hcV1 hcV2 hob
  go_enter Tryz.func26, Tryz.ntmps26
  go_wp2_with fail
  refine wp_region_still_tail 20 (by kernel_rfl) (by kernel_rfl) ?_
  simp only [List.take_succ_cons, List.take_zero, List.drop_succ_cons, List.drop_zero]
  repeat still_step
  still_call (cut_at Bd (n * 128) cD (tf p) hA.out.1 hA.out.2 _)
  repeat still_step
  still_call (cut_at gL (m * 128) cV p hB.out.1 hB.out.2 _)
  repeat still_step
  refine wpStill_nil ?_
  refine wpList_copy128 rfl _ _ rfl Bd (tf p * 128) (n * 128) cO 128 dur rfl ⟨gL, p * 128, none⟩ 128 rfl (sh ld (p * 128)) HO.out HF.out hC.out ?_
  intro w5 ho5 hon5
  obtain ⟨z1, z2⟩ := HE.out w5 ho5 hon5
  go_wp2
  go_end0
  exact ⟨rfl, z1, z2⟩

/-- The durable bytes behind the first k places, of which those stay that st names. -/
def setl (dur : Nat → Int) (tf : Nat → Nat) (ld : Nat → Int) (st : Nat → Bool) : Nat → Nat → Int
  | 0 => dur
  | k + 1 => if st k then ov (setl dur tf ld st k) (tf k * 128) 128 (sh ld (k * 128)) else setl dur tf ld st k
/-- No write is to i: nothing is said of it. -/
theorem lastAt_none {tf : Nat → Nat} {i : Nat} : ∀ {m : Nat}, (∀ j, j < m → tf j ≠ i) → lastAt tf m i = 0
  | 0, _ => rfl
  | m + 1, h => by rw [lastAt, if_neg (h m (by omega)), lastAt_none (fun j hj => h j (by omega))]

def cleared (tf : Nat → Nat) (f : Nat → Int) : Nat → Nat → Int
  | 0, i => f i
  | k + 1, i => if i = tf k then 0 else cleared tf f k i
theorem cleared_yes {tf : Nat → Nat} {f : Nat → Int} {i : Nat} : ∀ {k : Nat}, (∃ j, j < k ∧ tf j = i) → cleared tf f k i = 0
  | 0, ⟨j, h, _⟩ => by omega
  | k + 1, ⟨j, h, e⟩ => by
    rw [cleared]
    by_cases e2 : i = tf k
    · rw [if_pos e2]
    · rw [if_neg e2]
      refine cleared_yes ⟨j, ?_, e⟩
      by_cases e3 : j = k
      · subst e3; exact absurd e.symm e2
      · omega
theorem cleared_no {tf : Nat → Nat} {f : Nat → Int} {i : Nat} : ∀ {k : Nat}, (∀ j, j < k → tf j ≠ i) → cleared tf f k i = f i
  | 0, _ => rfl
  | k + 1, h => by rw [cleared, if_neg (fun e => h k (by omega) e.symm), cleared_no (fun j hj => h j (by omega))]
theorem cleared_all (tf : Nat → Nat) (m i : Nat) : cleared tf (lastAt tf m) m i = 0 := by
  by_cases h : ∃ j, j < m ∧ tf j = i
  · exact cleared_yes h
  · rw [cleared_no (fun j hj e => h ⟨j, hj, e⟩)]
    exact lastAt_none (fun j hj e => h ⟨j, hj, e⟩)

set_option maxRecDepth 100000 in
set_option maxHeartbeats 1000000 in
theorem dkForget {D S Bd Bl cD cL : Nat} {vT vL : Value} {F : Nat → Prop} {n : Nat} {dur : Nat → Int} {m : Nat} {tf : Nat → Nat} {ld : Nat → Int} (w : World) (h : DkAt w D S Bd Bl cD cL vT vL F n dur m tf ld) (hm : m ≤ 549755813887) :
    Calls Tryz.prog 27 #[.pointer (some ⟨S, 0, none⟩)] w fun e w' => e = .returned (.tuple #[]) ∧ DkAt w' D S Bd Bl cD cL (.slice none 0 0) (.slice none 0 0) F n dur 0 tf ld ∧ Part (fun k => k = S ∨ k = Bl) w w' := by
  obtain ⟨d0, s0, s1, s2, s3, _⟩ := heads h.hD h.hS
  obtain ⟨aT, cT, rfl⟩ := ownI_any h.ot
  have sp := h.sep
  have hSB := sp.SBl
  have HB : Hid (∀ wr : World, Only Bl w wr → wr.cell? ⟨S, 1, none⟩ = some (.slice (some ⟨Bl, 0, none⟩) n cL) ∧ wr.cell? ⟨S, 2, none⟩ = some (.slice aT m cT) ∧ wr.cell? ⟨S, 3, none⟩ = some vL ∧ (∀ i, wr.frozen? ⟨S, i, none⟩ = false)) := fun wr hon => by
    have hS : wr.heap[S]? = _ := (hon.block S sp.SBl).trans h.hS
    exact ⟨cells_at hS 1, cells_at hS 2, cells_at hS 3, fun i => cells_free hS i⟩
  have HT : Hid (∀ wr : World, Only Bl w wr → ∀ k, k < m → ∃ gT, aT = some ⟨gT, 0, none⟩ ∧ wr.cell? ⟨gT, k, none⟩ = some (.int .i64 (tf k : Int))) := fun wr hon k hk => by
    obtain ⟨gT, c', e, ho, _⟩ := ownI_some h.ot (show 0 < m by omega)
    injection e with e1 e2 e3
    subst e1
    refine ⟨gT, rfl, ?_⟩
    rw [hon.cell (p := ⟨gT, k, none⟩) (fun e => (sp.T gT rfl).2.2.2.1 e)]
    exact OwnI.cellF ho k hk
  have HE : Hid (∀ wr : World, Only Bl w wr → OwnI wr 0 (.slice (some ⟨Bl, 0, none⟩) n cL) (lst (cleared tf (lastAt tf m) m) n) → DkAt ((wr.setCell ⟨S, 2, none⟩ (.slice none 0 0)).setCell ⟨S, 3, none⟩ (.slice none 0 0)) D S Bd Bl cD cL (.slice none 0 0) (.slice none 0 0) F n dur 0 tf ld ∧ Part (fun k => k = S ∨ k = Bl) w ((wr.setCell ⟨S, 2, none⟩ (.slice none 0 0)).setCell ⟨S, 3, none⟩ (.slice none 0 0))) := fun wr hon ho => by
    have hS : wr.heap[S]? = _ := (hon.block S sp.SBl).trans h.hS
    refine ⟨⟨?_, ?_, ?_, ?_, World.ownsRow_nil _ _ _ _, ?_, (fun e => by cases e), (fun e => by cases e), h.FD, h.FS, h.FBd, h.FBl, (fun k e => by cases e), (fun k e => by cases e), fun k hk => ?_, fun j hj => by omega, h.by1, h.by2, h.n1, h.n2⟩, ?_⟩
    · rw [heap_set_other _ sp.DS, heap_set_other _ sp.DS, hon.block D sp.DBl]; exact h.hD
    · rw [heap_set_same (heap_set_same hS 2 (.slice none 0 0)) 3 (.slice none 0 0)]; rfl
    · exact h.ob.map fun C hoC => row_set (row_set (row_only hon hoC (fun e => by cases e; exact sp.BdBl rfl)) (fun e => by cases e; exact sp.SBd rfl) _ _) (fun e => by cases e; exact sp.SBd rfl) _ _
    · exact OwnI.ext (row_set (row_set ho (fun e => by cases e; exact sp.SBl rfl) _ _) (fun e => by cases e; exact sp.SBl rfl) _ _) (fun i hi => by rw [cleared_all]; rfl)
    · rw [Nat.zero_mul]; exact World.ownsRow_nil _ _ _ _
    · have h9 : wr.heap.size = w.heap.size := hon.size
      have := h.lt k hk
      simp [World.setCell]
      omega
    · exact (((Only.part hon).mono (G := fun k => k = S ∨ k = Bl) (fun i _ e => Or.inr e)).setCell (p := ⟨S, 2, none⟩) (fun _ => .inl rfl) _).setCell (p := ⟨S, 3, none⟩) (fun _ => .inl rfl) _
  have H0 : Hid (OwnI w 0 (.slice (some ⟨Bl, 0, none⟩) n cL) (lst (cleared tf (lastAt tf m) 0) n)) := h.ol
  have HN : Hid (∀ j, j < m → tf j < n) := h.tn
  clear h d0 s0 s1 s3 sp
  go_enter Tryz.func27, Tryz.ntmps27
  go_wp2
  go_loopw [10] (fun i wr => ∃ k : Nat, k ≤ m ∧ i = .int .i64 (k : Int) ∧ Only Bl w wr ∧ OwnI wr 0 (.slice (some ⟨Bl, 0, none⟩) n cL) (lst (cleared tf (lastAt tf m) k) n)) (fun i _ => m - (intOf i).toNat)
  case atStart => exact ⟨0, Nat.zero_le _, rfl, Only.refl _ _, H0.out⟩
  case round =>
    obtain ⟨k, hk, rfl, hon, ho⟩ := hrel
    obtain ⟨b1, b2, b3, bz⟩ := HB.out wr hon
    by_cases hlt : k < m
    · have hlt' : (k : Int) < (m : Int) := by omega
      have hk0 : (0 : Int) ≤ (k : Int) := by omega
      obtain ⟨gT, rfl, ht⟩ := HT.out wr hon k hlt
      have htn := HN.out k hlt
      have htn' : (tf k : Int) < (n : Int) := by omega
      have hcell := OwnI.cellF ho (tf k) htn
      have hfz := OwnI.freeF ho (tf k)
      have HO : Hid (OwnI (wr.setCell ⟨Bl, tf k, none⟩ (.int .i64 0)) 0 (.slice (some ⟨Bl, 0, none⟩) n cL) (lst (cleared tf (lastAt tf m) (k + 1)) n)) := OwnI.ext (OwnI.set ho (tf k) htn 0) (fun i hi => rfl)
      have HX : Hid (Only Bl w (wr.setCell ⟨Bl, tf k, none⟩ (.int .i64 0))) := hon.setCell (p := ⟨Bl, tf k, none⟩) rfl _
      clear ho hon
      go_wp2
      go_roundw
      case rel => exact ⟨k + 1, by omega, by go_num, HX.out, HO.out⟩
      case measure => simp [intOf]; omega
    · obtain rfl : k = m := by omega
      obtain ⟨z1, z2⟩ := HE.out wr hon ho
      have bz2 := bz 2
      have bz3 := bz 3
      clear ho hon
      go_wp2
      go_end0
      exact ⟨rfl, z1, z2⟩
end Go.Proofs.YthfokciijcmhbaaGreatDoor

namespace Go.Proofs.YthfokciijcmhbaaGreatDoor
open Go.RowKit
set_option linter.unusedVariables false

/-- The slice's n numbers are f's. -/
def FromI (w : World) (a0 : Option Addr) (n : Nat) (f : Nat → Int) : Prop := ∀ i, i < n → ∃ b off, a0 = some ⟨b, off, none⟩ ∧ w.cell? ⟨b, off + i, none⟩ = some (.int .i64 (f i))
/-- The first k numbers name places of m, none twice. -/
def Good (kf : Nat → Int) (m k : Nat) : Prop := ∀ j, j < k → 0 ≤ kf j ∧ kf j < m ∧ ∀ i, i < j → kf i ≠ kf j
/-- Whether one of the first k numbers is p. -/
def named (kf : Nat → Int) : Nat → Nat → Bool
  | 0, _ => false
  | k + 1, p => if (p : Int) = kf k then true else named kf k p
theorem named_iff {kf : Nat → Int} {p : Nat} : ∀ {k : Nat}, named kf k p = true ↔ ∃ j, j < k ∧ kf j = p
  | 0 => by simp [named]
  | k + 1 => by
    rw [named]
    by_cases e : (p : Int) = kf k
    · rw [if_pos e]
      exact ⟨fun _ => ⟨k, by omega, e.symm⟩, fun _ => rfl⟩
    · rw [if_neg e, named_iff]
      constructor
      · rintro ⟨j, h1, h2⟩; exact ⟨j, by omega, h2⟩
      · rintro ⟨j, h1, h2⟩
        refine ⟨j, ?_, h2⟩
        by_cases e2 : j = k
        · subst e2; exact absurd h2.symm e
        · omega

theorem info4 : (Tryz.prog.info? 4).map (fun i => (i.zero, i.size, i.bytes)) = some (some (.bool false), 1, 1) := by kernel_rfl
/-- The m truth values at g. -/
def Bls (w : World) (g m : Nat) (st : Nat → Bool) : Prop := ∀ p, p < m → w.cell? ⟨g, p, none⟩ = some (.bool (st p)) ∧ w.frozen? ⟨g, p, none⟩ = false

set_option maxRecDepth 100000 in
set_option maxHeartbeats 1000000 in
theorem dkChosen (S m : Nat) (aT : Option Addr) (cT : Nat) (ak : Option Addr) (K ck : Nat) (kf : Nat → Int) (w : World) (s2 : w.cell? ⟨S, 2, none⟩ = some (.slice aT m cT)) (hm : m ≤ 549755813887) (hK : K ≤ 9223372036854775807) (hk : FromI w ak K kf) (hr : ∀ j, j < K → -9223372036854775808 ≤ kf j ∧ kf j ≤ 9223372036854775807) :
    Calls Tryz.prog 25 #[.pointer (some ⟨S, 2, none⟩), .slice ak K ck] w fun e w' => Below w.heap.size w w' ∧ ((Good kf m K ∧ ∃ g, e = .returned (.tuple #[.slice (some ⟨g, 0, none⟩) m m, .bool true]) ∧ Bls w' g m (named kf K) ∧ w.heap.size ≤ g ∧ g < w'.heap.size) ∨ (¬ Good kf m K ∧ e = .returned (.tuple #[.slice none 0 0, .bool false]))) := by
  obtain ⟨MS, hMS⟩ : ∃ MS, madeCells #[.bool false] m = MS := ⟨_, rfl⟩
  have hms : ∀ w : World, (Instr.makeSlice 72 (.int .i64 (m : Int)) (.int .i64 (m : Int))).run Tryz.prog w = .ok (.slice (some ⟨w.heap.size, 0, none⟩) m m) (w.alloc (.cells MS 4)) := fun w => by
    rw [← hMS]
    exact run_make_row' (P := Tryz.prog) 72 4 (.bool false) 1 Tryz.underlying72 info4 rfl .i64 .i64 m (by omega) (by omega) w
  have HMS : Hid (∀ i, i < m → MS[i]? = some (.bool false)) := fun i hi => by
    rw [← hMS]
    simp [madeCells, hi]
    rw [Nat.mod_one]
    rfl
  obtain ⟨o, hO⟩ : ∃ o, Obj.cells MS 4 = o := ⟨_, rfl⟩
  have H0 : Hid (Bls (w.alloc o) w.heap.size m (named kf 0)) := fun j hj => by
    rw [← hO]
    exact ⟨by rw [World.cell?_alloc_at _ _ _ _ rfl]; exact HMS.out j hj, by simp only [World.frozen?_alloc_new]⟩
  have HKr : Hid (∀ wr : World, Only w.heap.size (w.alloc o) wr → ∀ k, k < K → ∃ b off, ak = some ⟨b, off, none⟩ ∧ wr.cell? ⟨b, off + k, none⟩ = some (.int .i64 (kf k))) := fun wr hon k hlt => by
    obtain ⟨b, off, e, hc⟩ := hk k hlt
    have hb : b < w.heap.size := World.block_lt_of_cell? w _ hc
    refine ⟨b, off, e, ?_⟩
    rw [hon.cell (p := ⟨b, off + k, none⟩) (by show b ≠ w.heap.size; omega), World.cell?_alloc_past _ _ _ hb]
    exact hc
  have HBl : Hid (∀ wr : World, Only w.heap.size (w.alloc o) wr → Below w.heap.size w wr ∧ w.heap.size < wr.heap.size) := fun wr hon => by
    have hsz : wr.heap.size = w.heap.size + 1 := by rw [hon.size]; simp
    exact ⟨((Below.refl _ w).alloc (Nat.le_refl _) o).trans (hon.below (Nat.le_refl _)), by omega⟩
  have HR : Hid (∀ j, j < K → -9223372036854775808 ≤ kf j ∧ kf j ≤ 9223372036854775807) := hr
  clear hMS hr hk
  go_enter Tryz.func25, Tryz.ntmps25
  go_wp2
  try rw [hO]
  go_loopw [17] (fun i wr => ∃ k : Nat, k ≤ K ∧ i = .int .i64 (k : Int) ∧ Only w.heap.size (w.alloc o) wr ∧ Bls wr w.heap.size m (named kf k) ∧ Hid (Good kf m k)) (fun i _ => K - (intOf i).toNat)
  case atStart => exact ⟨0, Nat.zero_le _, rfl, Only.refl _ _, H0.out, fun j hj => by omega⟩
  case round =>
    obtain ⟨k, hkK, rfl, hon, hbl, hgd⟩ := hrel
    obtain ⟨hB, hlt0⟩ := HBl.out wr hon
    by_cases hlt : k < K
    · have hlt' : (k : Int) < (K : Int) := by omega
      have hk0 : (0 : Int) ≤ (k : Int) := by omega
      obtain ⟨b, off, rfl, hc⟩ := HKr.out wr hon k hlt
      obtain ⟨r1, r2⟩ := HR.out k hlt
      have HNo : Hid (¬ (0 ≤ kf k ∧ kf k < m ∧ ∀ i, i < k → kf i ≠ kf k) → ¬ Good kf m K) := fun h hg => h (hg k hlt)
      by_cases c1 : kf k < 0
      · have HF : Hid (¬ Good kf m K) := HNo.out (fun h => by omega)
        generalize kf k = z at *
        go_wp2
        go_ret2
        exact ⟨hB, .inr ⟨HF.out, rfl⟩⟩
      · by_cases c2 : (m : Int) ≤ kf k
        · have HF : Hid (¬ Good kf m K) := HNo.out (fun h => by omega)
          generalize kf k = z at *
          go_wp2
          go_ret2
          exact ⟨hB, .inr ⟨HF.out, rfl⟩⟩
        · obtain ⟨p, hp⟩ := Int.eq_ofNat_of_zero_le (show 0 ≤ kf k by omega)
          have hpm : p < m := by omega
          have hpm' : (p : Int) < (m : Int) := by omega
          have hpm2 : ¬ (m : Int) ≤ (p : Int) := by omega
          have hp0 : ¬ (p : Int) < 0 := by omega
          have hcell := (hbl p hpm).1
          have hfz := (hbl p hpm).2
          rw [hp] at hc
          cases hn : named kf k p with
          | true =>
            rw [hn] at hcell
            have HF : Hid (¬ Good kf m K) := HNo.out (fun h => by
              obtain ⟨j, j1, j2⟩ := named_iff.1 hn
              exact h.2.2 j j1 (by rw [j2, hp]))
            clear c1 c2 hp hbl hgd hn
            go_wp2
            go_ret2
            exact ⟨hB, .inr ⟨HF.out, rfl⟩⟩
          | false =>
            rw [hn] at hcell
            have HG : Hid (Good kf m (k + 1)) := fun j hj => by
              by_cases e : j = k
              · subst e
                refine ⟨by omega, by omega, fun i hi e2 => ?_⟩
                have : named kf j p = true := named_iff.2 ⟨i, hi, by rw [e2, hp]⟩
                rw [hn] at this
                cases this
              · exact hgd.out j (by omega)
            have HX : Hid (Only w.heap.size (w.alloc o) (wr.setCell ⟨w.heap.size, p, none⟩ (.bool true))) := hon.setCell (p := ⟨w.heap.size, p, none⟩) rfl _
            have HS : Hid (Bls (wr.setCell ⟨w.heap.size, p, none⟩ (.bool true)) w.heap.size m (named kf (k + 1))) := fun q hq => by
              refine ⟨?_, by rw [World.frozen?_setCell]; exact (hbl q hq).2⟩
              by_cases e : q = p
              · subst e
                rw [World.cell?_setCell_same _ _ _ (hbl q hq).1, named, if_pos hp.symm]
              · rw [World.cell?_setCell_other _ _ _ _ (fun e2 => e (congrArg Addr.off e2).symm), (hbl q hq).1, named, if_neg (by rw [hp]; omega)]
            clear c1 c2 hp hbl hgd hn hon
            go_wp2
            go_roundw
            case rel => exact ⟨k + 1, by omega, by go_num, HX.out, HS.out, HG⟩
            case measure => simp [intOf]; omega
    · obtain rfl : k = K := by omega
      have HG := hgd
      clear hgd
      go_wp2
      go_ret2
      exact ⟨hB, .inl ⟨HG.out, _, rfl, hbl, Nat.le_refl _, hlt0⟩⟩

theorem setl_by {dur : Nat → Int} {tf : Nat → Nat} {ld : Nat → Int} {st : Nat → Bool} (h1 : ∀ i, 0 ≤ dur i ∧ dur i ≤ 255) (h2 : ∀ i, 0 ≤ ld i ∧ ld i ≤ 255) : ∀ (k i : Nat), 0 ≤ setl dur tf ld st k i ∧ setl dur tf ld st k i ≤ 255
  | 0, i => h1 i
  | k + 1, i => by
    rw [setl]
    split
    · exact ov_byC (setl_by h1 h2 k) (sh_by h2 _) i
    · exact setl_by h1 h2 k i

set_option maxRecDepth 100000 in
set_option maxHeartbeats 1000000 in
theorem dkCrash_ok (D n m : Nat) (F : Nat → Prop) (dur : Nat → Int) (tf : Nat → Nat) (ld : Nat → Int) (ak : Option Addr) (K ck : Nat) (kf : Nat → Int) (w : World) (h : Dk w D F n dur m tf ld) (hm : m ≤ 549755813887) (hK : K ≤ 9223372036854775807) (hk : FromI w ak K kf) (hr : ∀ j, j < K → -9223372036854775808 ≤ kf j ∧ kf j ≤ 9223372036854775807) (hg : Good kf m K) :
    Calls Tryz.prog 9 #[.pointer (some ⟨D, 0, none⟩), .slice ak K ck] w fun e w' => e = .returned (.int .i64 0) ∧ Dk w' D F n (setl dur tf ld (named kf K) m) 0 tf ld ∧ Part F w w' := by
  obtain ⟨S, Bd, Bl, cD, cL, vT, vL, h⟩ := h
  obtain ⟨d0, s0, s1, s2, s3, _⟩ := heads h.hD h.hS
  obtain ⟨aT, cT, rfl⟩ := ownI_any h.ot
  have H : Hid (DkAt w D S Bd Bl cD cL (.slice aT m cT) vL F n dur m tf ld) := h
  have HC : Hid (Calls Tryz.prog 25 #[.pointer (some ⟨S, 2, none⟩), .slice ak K ck] w fun e w' => Below w.heap.size w w' ∧ ∃ g, e = .returned (.tuple #[.slice (some ⟨g, 0, none⟩) m m, .bool true]) ∧ Bls w' g m (named kf K) ∧ w.heap.size ≤ g ∧ g < w'.heap.size) := by
    refine (dkChosen S m aT cT ak K ck kf w s2 hm hK hk hr).mono ?_
    rintro e w' ⟨hb, ⟨_, g, h1, h2, h3, h4⟩ | ⟨h1, _⟩⟩
    · exact ⟨hb, g, h1, h2, h3, h4⟩
    · exact absurd hg h1
  clear h hk hr hg s0 s1 s3
  go_enter Tryz.func9, Tryz.ntmps9
  go_wp2_with fail
  refine (dMissing D S w d0).mono ?_
  rintro e w1 ⟨rfl, hw⟩
  obtain rfl : w = w1 := hw.symm
  clear hw
  go_wp2_with fail
  refine HC.out.mono ?_
  rintro e w1 ⟨hb, g, rfl, hbl, hg1, hg2⟩
  have hs1 := hb.size
  have h1 := H.out.part (Part.ofBelow (F := fun _ => False) hb) (fun _ _ h => h)
  obtain ⟨d0', s0', s1', s2', s3', _⟩ := heads h1.hD h1.hS
  have hBd : Bd < w.heap.size := H.out.lt _ H.out.FBd
  have HW : Hid (∀ wr : World, Part (fun k => k = Bd) w1 wr → ∀ p, p < m → wr.cell? ⟨g, p, none⟩ = some (.bool (named kf K p))) := fun wr hp p hpm => hp.cell (p := ⟨g, p, none⟩) (by show ¬ g = Bd; omega) (hbl p hpm).1
  have HE : Hid (∀ wr wf : World, Part (fun k => k = Bd) w1 wr → Part (fun k => k = S ∨ k = Bl) wr wf → Part F w wf) := fun wr wf q1 q2 =>
    ((Part.ofBelow (F := F) hb).trans q1 (fun i _ e => by rw [e]; exact H.out.FBd)).trans q2 (fun i _ e => e.elim (fun e => by rw [e]; exact H.out.FS) (fun e => by rw [e]; exact H.out.FBl))
  have H1 : Hid (DkAt w1 D S Bd Bl cD cL (.slice aT m cT) vL F n (setl dur tf ld (named kf K) 0) m tf ld) := h1
  clear h1 s0' s1' s3'
  go_wp2
  go_loopw [32] (fun i wr => ∃ k : Nat, k ≤ m ∧ i = .int .i64 (k : Int) ∧ DkAt wr D S Bd Bl cD cL (.slice aT m cT) vL F n (setl dur tf ld (named kf K) k) m tf ld ∧ Part (fun k => k = Bd) w1 wr) (fun i _ => m - (intOf i).toNat)
  case atStart => exact ⟨0, Nat.zero_le _, rfl, H1.out, Part.refl _ _⟩
  case round =>
    obtain ⟨k, hkm, rfl, hd, hp⟩ := hrel
    obtain ⟨e0, f0, f1, f2, f3, _⟩ := heads hd.hD hd.hS
    by_cases hlt : k < m
    · have hlt' : (k : Int) < (m : Int) := by omega
      have hk0 : (0 : Int) ≤ (k : Int) := by omega
      have hc := HW.out wr hp k hlt
      have HD : Hid (DkAt wr D S Bd Bl cD cL (.slice aT m cT) vL F n (setl dur tf ld (named kf K) k) m tf ld) := hd
      have HS : Hid (setl dur tf ld (named kf K) (k + 1) = if named kf K k then ov (setl dur tf ld (named kf K) k) (tf k * 128) 128 (sh ld (k * 128)) else setl dur tf ld (named kf K) k) := rfl
      clear hd f0 f1 f2 f3
      cases hn : named kf K k with
      | true =>
        rw [hn] at hc
        go_wp2_with fail
        refine (dkSettle k wr HD.out hlt hm).mono ?_
        rintro e w2 ⟨rfl, z1, z2⟩
        have HZ : Hid (DkAt w2 D S Bd Bl cD cL (.slice aT m cT) vL F n (setl dur tf ld (named kf K) (k + 1)) m tf ld) := by rw [HS.out, hn]; exact z1
        have hp2 := hp.trans z2 (fun _ _ e => e)
        clear hn HS z1 z2
        go_wp2
        go_roundw
        case rel => exact ⟨k + 1, by omega, by go_num, HZ.out, hp2⟩
        case measure => simp [intOf]; omega
      | false =>
        rw [hn] at hc
        have HZ : Hid (DkAt wr D S Bd Bl cD cL (.slice aT m cT) vL F n (setl dur tf ld (named kf K) (k + 1)) m tf ld) := by rw [HS.out, hn]; exact HD.out
        clear hn HS
        go_wp2
        go_roundw
        case rel => exact ⟨k + 1, by omega, by go_num, HZ.out, hp⟩
        case measure => simp [intOf]; omega
    · obtain rfl : k = m := by omega
      have HD : Hid (DkAt wr D S Bd Bl cD cL (.slice aT k cT) vL F n (setl dur tf ld (named kf K) k) k tf ld) := hd
      clear hd f0 f1 f2 f3
      go_wp2_with fail
      refine (dkForget wr HD.out hm).mono ?_
      rintro e w2 ⟨rfl, z1, z2⟩
      have HZ : Hid (DkAt w2 D S Bd Bl cD cL (.slice none 0 0) (.slice none 0 0) F n (setl dur tf ld (named kf K) k) 0 tf ld) := z1
      have hp2 := HE.out wr w2 hp z2
      clear z1 z2
      go_wp2
      go_ret
      exact ⟨rfl, ⟨S, Bd, Bl, cD, cL, _, _, HZ.out⟩, hp2⟩

set_option maxRecDepth 100000 in
set_option maxHeartbeats 1000000 in
theorem dkCrash_no (D n m : Nat) (F : Nat → Prop) (dur : Nat → Int) (tf : Nat → Nat) (ld : Nat → Int) (ak : Option Addr) (K ck : Nat) (kf : Nat → Int) (w : World) (h : Dk w D F n dur m tf ld) (hm : m ≤ 549755813887) (hK : K ≤ 9223372036854775807) (hk : FromI w ak K kf) (hr : ∀ j, j < K → -9223372036854775808 ≤ kf j ∧ kf j ≤ 9223372036854775807) (hg : ¬ Good kf m K) :
    Calls Tryz.prog 9 #[.pointer (some ⟨D, 0, none⟩), .slice ak K ck] w fun e w' => e = .returned (.int .i64 20) ∧ Below w.heap.size w w' := by
  obtain ⟨S, Bd, Bl, cD, cL, vT, vL, h⟩ := h
  obtain ⟨d0, s0, s1, s2, s3, _⟩ := heads h.hD h.hS
  obtain ⟨aT, cT, rfl⟩ := ownI_any h.ot
  have HC : Hid (Calls Tryz.prog 25 #[.pointer (some ⟨S, 2, none⟩), .slice ak K ck] w fun e w' => e = .returned (.tuple #[.slice none 0 0, .bool false]) ∧ Below w.heap.size w w') := by
    refine (dkChosen S m aT cT ak K ck kf w s2 hm hK hk hr).mono ?_
    rintro e w' ⟨hb, ⟨h1, _⟩ | ⟨_, h1⟩⟩
    · exact absurd h1 hg
    · exact ⟨h1, hb⟩
  clear h hk hr hg s0 s1 s3
  go_enter Tryz.func9, Tryz.ntmps9
  go_wp2_with fail
  refine (dMissing D S w d0).mono ?_
  rintro e w1 ⟨rfl, hw⟩
  obtain rfl : w = w1 := hw.symm
  clear hw
  go_wp2_with fail
  refine HC.out.mono ?_
  rintro e w1 ⟨rfl, hb⟩
  go_wp2
  go_ret
  exact ⟨rfl, hb⟩

set_option maxRecDepth 100000 in
set_option maxHeartbeats 1000000 in
theorem dkFlush (D n m : Nat) (F : Nat → Prop) (dur : Nat → Int) (tf : Nat → Nat) (ld : Nat → Int) (w : World) (h : Dk w D F n dur m tf ld) (hm : m ≤ 549755813887) :
    Calls Tryz.prog 44 #[.pointer (some ⟨D, 0, none⟩)] w fun e w' => e = .returned (.int .i64 0) ∧ Dk w' D F n (setl dur tf ld (fun _ => true) m) 0 tf ld ∧ Part F w w' := by
  obtain ⟨S, Bd, Bl, cD, cL, vT, vL, h⟩ := h
  obtain ⟨d0, s0, s1, s2, s3, _⟩ := heads h.hD h.hS
  obtain ⟨aT, cT, rfl⟩ := ownI_any h.ot
  have H : Hid (DkAt w D S Bd Bl cD cL (.slice aT m cT) vL F n dur m tf ld) := h
  have HE : Hid (∀ wr wf : World, Part (fun k => k = Bd) w wr → Part (fun k => k = S ∨ k = Bl) wr wf → Part F w wf) := fun wr wf q1 q2 =>
    (q1.mono (fun i _ e => by rw [e]; exact H.out.FBd)).trans q2 (fun i _ e => e.elim (fun e => by rw [e]; exact H.out.FS) (fun e => by rw [e]; exact H.out.FBl))
  have H1 : Hid (DkAt w D S Bd Bl cD cL (.slice aT m cT) vL F n (setl dur tf ld (fun _ => true) 0) m tf ld) := h
  clear h s0 s1 s3
  go_enter Tryz.func44, Tryz.ntmps44
  go_wp2_with fail
  refine (dMissing D S w d0).mono ?_
  rintro e w1 ⟨rfl, hw⟩
  obtain rfl : w = w1 := hw.symm
  clear hw
  go_wp2
  go_loopw [15] (fun i wr => ∃ k : Nat, k ≤ m ∧ i = .int .i64 (k : Int) ∧ DkAt wr D S Bd Bl cD cL (.slice aT m cT) vL F n (setl dur tf ld (fun _ => true) k) m tf ld ∧ Part (fun k => k = Bd) w wr) (fun i _ => m - (intOf i).toNat)
  case atStart => exact ⟨0, Nat.zero_le _, rfl, H1.out, Part.refl _ _⟩
  case round =>
    obtain ⟨k, hkm, rfl, hd, hp⟩ := hrel
    obtain ⟨e0, f0, f1, f2, f3, _⟩ := heads hd.hD hd.hS
    by_cases hlt : k < m
    · have hlt' : (k : Int) < (m : Int) := by omega
      have hk0 : (0 : Int) ≤ (k : Int) := by omega
      have HD : Hid (DkAt wr D S Bd Bl cD cL (.slice aT m cT) vL F n (setl dur tf ld (fun _ => true) k) m tf ld) := hd
      clear hd f0 f1 f2 f3
      go_wp2_with fail
      refine (dkSettle k wr HD.out hlt hm).mono ?_
      rintro e w2 ⟨rfl, z1, z2⟩
      have HZ : Hid (DkAt w2 D S Bd Bl cD cL (.slice aT m cT) vL F n (setl dur tf ld (fun _ => true) (k + 1)) m tf ld) := z1
      have hp2 := hp.trans z2 (fun _ _ e => e)
      clear z1 z2
      go_wp2
      go_roundw
      case rel => exact ⟨k + 1, by omega, by go_num, HZ.out, hp2⟩
      case measure => simp [intOf]; omega
    · obtain rfl : k = m := by omega
      have HD : Hid (DkAt wr D S Bd Bl cD cL (.slice aT k cT) vL F n (setl dur tf ld (fun _ => true) k) k tf ld) := hd
      clear hd f0 f1 f2 f3
      go_wp2_with fail
      refine (dkForget wr HD.out hm).mono ?_
      rintro e w2 ⟨rfl, z1, z2⟩
      have HZ : Hid (DkAt w2 D S Bd Bl cD cL (.slice none 0 0) (.slice none 0 0) F n (setl dur tf ld (fun _ => true) k) 0 tf ld) := z1
      have hp2 := HE.out wr w2 hp z2
      clear z1 z2
      go_wp2
      go_ret
      exact ⟨rfl, ⟨S, Bd, Bl, cD, cL, _, _, HZ.out⟩, hp2⟩
end Go.Proofs.YthfokciijcmhbaaGreatDoor

namespace Go.Proofs.YthfokciijcmhbaaGreatDoor
open Go.RowKit
set_option linter.unusedVariables false

/-- append of numbers, wherever they lie, onto numbers of the call's own. -/
theorem wpList_appF {w : World} {ops : Array Oper} {rest : List Oper} {o : Oper} {a : Act} {Q : Exit → Act → World → Prop} (hgd : o.guard = none) (s x : Operand) (ho : o.op = .call { callee := .builtin .append, args := #[s, x], argTypes := #[26, 26] })
    (B : Nat) (v : Value) (xs : List Int) (hs : a.eval s = v) (hown : OwnI w B v xs) (a2 : Addr) (f : Nat → Int) (m c : Nat) (hx : a.eval x = .slice (some a2) m c) (hf : FromI w (some a2) m f)
    (hbig : xs.length + m ≤ 8796093022208) (hB : B ≤ w.heap.size)
    (h : ∀ v' w', OwnI w' B v' (xs ++ lst f m) → Below B w w' → wpList Tryz.prog ops Q rest (a.put o.dst v') w') : wpList Tryz.prog ops Q (o :: rest) a w := by
  obtain ⟨i0, hi, hz0, hz1, hz2⟩ := info_parts info3
  have hown' : w.ownsRow B 3 1 v xs.length (xs.map (Value.int .i64)) := hown
  refine wpList_append_own w hgd s x 26 ho B 3 i0 (.int .i64 0) 1 8 Tryz.underlying26 hi hz0 hz1 hz2 rfl (by decide) v xs.length (xs.map (Value.int .i64)) hs hown' a2 m c ((lst f m).map (Value.int .i64)) hx (by simp [lst_length]) ?_ ?_ (by unfold maxLen; omega) (by omega) hB ?_
  · intro j u hj
    have hjm : j < m := by
      have := (List.getElem?_eq_some_iff.1 hj).1
      simpa [lst_length] using this
    obtain ⟨b, off, e, hc⟩ := hf j hjm
    cases e
    rw [Addr.add_lit, hc]
    rw [List.getElem?_map, lst_get f m j hjm] at hj
    simpa using hj
  · intro u hu
    obtain ⟨y, _, rfl⟩ := List.mem_map.1 hu
    rfl
  · intro v' w' h3 h4 _
    refine h v' w' ?_ ((Below.refl _ w).grown h4 hB (fun q hq => (World.ownsRow.lt hown q hq).1))
    unfold OwnI
    rw [List.length_append, lst_length, List.map_append]
    exact h3
theorem FromI.below {w w' : World} {B : Nat} {a : Option Addr} {n : Nat} {f : Nat → Int} (h : FromI w a n f) (hb : Below B w w') (hB : w.heap.size ≤ B) : FromI w' a n f := fun i hi => by
  obtain ⟨b, off, e, hc⟩ := h i hi
  exact ⟨b, off, e, by rw [hb.cell (p := ⟨b, off + i, none⟩) (Nat.lt_of_lt_of_le (World.block_lt_of_cell? w _ hc) hB)]; exact hc⟩
theorem OwnI.fromI2 {w : World} {B n c : Nat} {a : Option Addr} {f : Nat → Int} (h : OwnI w B (.slice a n c) (lst f n)) : FromI w a n f := fun i hi => by
  obtain ⟨g, c', e, ho, _⟩ := ownI_some h (show 0 < n by omega)
  injection e with e1 e2 e3
  subst e1
  exact ⟨g, 0, rfl, by rw [Nat.zero_add]; exact OwnI.cellF ho i hi⟩

set_option maxRecDepth 100000 in
set_option maxHeartbeats 400000 in
theorem cloneF (a0 : Option Addr) (n c : Nat) (f : Nat → Int) (w : World) (hbig : n ≤ 8796093022208) (hf : FromI w a0 n f) (hz : a0 = none → n = 0 ∧ c = 0) :
    Calls Tryz.prog 48 #[.slice a0 n c] w fun e w' => ∃ a c', e = .returned (.slice a n c') ∧ OwnI w' w.heap.size (.slice a n c') (lst f n) ∧ Below w.heap.size w w' := by
  have hq : ∀ (w : World) (a : Option Addr) (n c n' c' : Nat), (binOp .eql 26 (.slice a n c) (.slice none n' c')).run Tryz.prog w = .ok (.bool a.isNone) w := fun w a n c n' c' => Lib.run_eql_slice_nil w _ _ a n c n' c' Tryz.underlying26
  cases a0 with
  | none =>
    obtain ⟨rfl, rfl⟩ := hz rfl
    have H0 : Hid (OwnI w w.heap.size (.slice none 0 0) (lst f 0)) := World.ownsRow_nil _ _ _ _
    clear hf hz
    go_enter Tryz.func48, Tryz.ntmps48
    go_wp2
    go_ret
    exact ⟨none, 0, rfl, H0.out, Below.refl _ _⟩
  | some x =>
    have hm : OwnI (w.alloc (.cells #[] 3)) w.heap.size (.slice (some ⟨w.heap.size, 0, none⟩) 0 0) [] := World.ownsRow_made w #[] 0 (Nat.le_refl _) (Nat.zero_le _) rfl
    have HF : Hid (FromI (w.alloc (.cells #[] 3)) (some x) n f) := hf.below ((Below.refl _ w).alloc (Nat.le_refl _) _) (Nat.le_refl _)
    clear hf hz
    go_enter Tryz.func48, Tryz.ntmps48
    go_wp2_with (at_builtin; refine wpList_appF rfl _ _ rfl w.heap.size _ [] rfl hm x f n c rfl HF.out ?q2 ?q3 ?_)
    case q2 => simp; omega
    case q3 => simp
    intro v' w' ho hb
    have hb2 := ((Below.refl w.heap.size w).alloc (Nat.le_refl _) (.cells #[] 3)).trans hb
    obtain ⟨a', c', rfl⟩ := ownI_any (n := n) (f := f) ho
    go_wp2
    go_ret
    exact ⟨a', c', rfl, ho, hb2⟩
end Go.Proofs.YthfokciijcmhbaaGreatDoor
