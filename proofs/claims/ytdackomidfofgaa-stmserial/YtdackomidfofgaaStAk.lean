/-
  StmSerial's inner loops: what was read is held against the model; what was written goes into the model; the slots are held against it.
-/
import Derived.Test.YtdackomidfofgaaStAi
import Derived.Maps.RangeWalk
namespace Go.Proofs.Ytdackomidfofgaa
open Go.RowKit Go.Maps
set_option linter.unusedVariables false
set_option maxRecDepth 100000
set_option maxHeartbeats 1000000

/-- Behind the switch. -/
structure Md (w0 w : World) (i sp mb lb : Nat) (v : Value) (bs : List Nat) : Prop where
  ex : ∃ S Xs m lf, S.sp = sp ∧ Xs.map Xm.sn = bs.reverse ∧ Ser w0 w (2 * (i + 1)) S Xs mb ((i + 1) * 400) m m lb (i * 200000) lf
  row : Rw w w0.heap.size v bs
theorem Md.lp {w0 w : World} {i sp mb lb : Nat} {v : Value} {bs : List Nat} (h : Md w0 w i sp mb lb v bs) : Lp w0 w (i + 1) sp mb lb v bs := by
  obtain ⟨S, Xs, m, lf, e1, e2, hs⟩ := h.ex
  exact ⟨⟨S, Xs, m, lf, e1, e2, hs.lek (Nat.le_refl _) (by omega)⟩, h.row⟩
theorem same_sn {A C : List Xm} {X X' : Xm} (h : X'.sn = X.sn) : (A ++ X' :: C).map Xm.sn = (A ++ X :: C).map Xm.sn := by
  rw [List.map_append, List.map_append, List.map_cons, List.map_cons, h]
/-- The row stays where one transaction is called. -/
theorem Rw.off {w0 w w' : World} {S : Sm} {Ts : List Tm} {T : Tm} (h : Sys w0 w S Ts) (hT : T ∈ Ts) (hO : Off S T w w') {B : Nat} {v : Value} {bs : List Nat} (hR : Rw w B v bs) : Rw w' B v bs := by
  refine hR.part hO (fun b cs t z hf hc => ?_)
  have hx := h.txc T hT
  have hnm : ∀ L, ¬ Mp w b L := fun L hm => by
    obtain ⟨es, k, hob⟩ := hm.obj
    rw [hob] at hc
    cases hc
  rcases hf with (e | e | e) | (e | e | e)
  · have := h.spc.cel
    rw [← e, hc] at this
    injection this with this
    injection this with _ this
    rw [this]
    decide
  · exact absurd (e ▸ h.spc.slo) (hnm _)
  · exact absurd (e ▸ h.spc.loc) (hnm _)
  · have := hx.cel
    rw [← e, hc] at this
    injection this with this
    injection this with _ this
    rw [this]
    decide
  · exact absurd (e ▸ hx.red) (hnm _)
  · exact absurd (e ▸ hx.wri) (hnm _)
theorem Rls.off {w0 w w' : World} {S : Sm} {Ts : List Tm} {T : Tm} (h : Sys w0 w S Ts) (hT : T ∈ Ts) (hO : Off S T w w') {B : Nat} {v : Value} {zs : List Zs} (hR : Rls w B v zs) : Rls w' B v zs := by
  refine hR.kept hO (fun b cs t hf hc => ?_)
  have hx := h.txc T hT
  have hnm : ∀ L, ¬ Mp w b L := fun L hm => by
    obtain ⟨es, k, hob⟩ := hm.obj
    rw [hob] at hc
    cases hc
  rcases hf with (e | e | e) | (e | e | e)
  · have := h.spc.cel
    rw [← e, hc] at this
    injection this with this
    injection this with _ this
    rw [this]
    decide
  · exact absurd (e ▸ h.spc.slo) (hnm _)
  · exact absurd (e ▸ h.spc.loc) (hnm _)
  · have := hx.cel
    rw [← e, hc] at this
    injection this with this
    injection this with _ this
    rw [this]
    decide
  · exact absurd (e ▸ hx.red) (hnm _)
  · exact absurd (e ▸ hx.wri) (hnm _)
theorem Rls.turn {w w' : World} {B q : Nat} {v : Value} {zs : List Zs} (h : Rls w B v zs) (p : Part (fun b => b = q) w w') (hm : ∃ es c, w.heap[q]? = some (.map es c)) : Rls w' B v zs := h.kept p (fun b cs t hb hc => by
  obtain ⟨es, c, hm⟩ := hm
  exact absurd hb (map_not hm hc))

/-- What a range over a map of bytes hands out. -/
theorem keyOf_str_inv {key : Value} {kl : Lit} (h : keyOf Try.prog 9 key = some kl) : ∃ x : ByteArray, key = .string x := by
  cases key <;> simp [keyOf, Try.underlying9, mapKey] at h
  exact ⟨_, rfl⟩
theorem keyOf_str_eq {s : ByteArray} {kl : Lit} (h : keyOf Try.prog 9 (.string s) = some kl) : kl = .string s.data.toList ∧ s.size ≤ maxLen := by
  simp [keyOf, Try.underlying9, mapKey] at h
  obtain ⟨h1, h2⟩ := h
  exact ⟨by rw [← h2], by simpa [Lit.wf] using h1⟩
theorem entry_of {w : World} {L : List Eb} {m : Bf} (h4 : ∀ k x, fnd Eb.ky L k = some x → ∃ xs, m k = some xs ∧ Own w 0 x.vl xs) {s : ByteArray} {kl : Lit} {v : Value} {y : DataW Value × List MemPlace} (hk : keyOf Try.prog 9 (.string s) = some kl) (hv : idR v = some y) (hat : ∀ zd, (toD (L.map Eb.kv)).atKey kl zd = y.1) :
    ∃ a l c xs, v = .slice a l c ∧ m s.data.toList = some xs ∧ From w a l (fn xs) ∧ l = xs.length ∧ s.size ≤ maxLen := by
  obtain ⟨rfl, hs⟩ := keyOf_str_eq hk
  have hy : y = (.held v, []) := by unfold idR at hv; injection hv with hv; exact hv.symm
  rw [hy] at hat
  have h1 : lk (L.map Eb.kv) s.data.toList = some v := by
    have a1 := hat (.held (.bool true))
    have a2 := hat (.held (.bool false))
    rw [toD_at] at a1 a2
    cases e : lk (L.map Eb.kv) s.data.toList with
    | none =>
      rw [e] at a1 a2
      injection a1 with a1
      injection a2 with a2
      rw [← a2] at a1
      cases a1
    | some u =>
      rw [e] at a1
      injection a1 with a1
      rw [← a1]
      rfl
  rw [kv_b, fnd_map] at h1
  cases e : fnd Eb.ky L s.data.toList with
  | none => rw [e] at h1; cases h1
  | some x =>
    rw [e] at h1
    obtain ⟨xs, e1, ho⟩ := h4 _ _ e
    obtain ⟨k1, k2⟩ := Own.at0 (a := x.1.2.1) (n := x.1.2.2.1) (c := x.1.2.2.2) ho
    have h1 : some (Eb.vl x) = some v := h1
    injection h1 with h1
    exact ⟨_, _, _, xs, h1.symm, e1, k1, k2, hs⟩

section
variable {w0 w : World} {n : Nat} {S : Sm} {Xs : List Xm} {mb kk : Nat} {mm m : Bf} {lb ll : Nat} {lf : Lf}
theorem zs_apart {α : Type} {ky : α → List UInt8} {A ys : List α} {vr : α → Int} {bs : α → List Int} {zs : List Zs} (hA : Apart ky A) (hp : ys.Perm A) (hz : zs.map (fun z => (z.ky, z.ver, z.xs)) = ys.map (fun x => (ky x, vr x, bs x))) : Apart Zs.ky zs := by
  have h1 := hA.perm hp
  have h2 : zs.map Zs.ky = ys.map ky := by
    have := congrArg (List.map (fun p : List UInt8 × Int × List Int => p.1)) hz
    rw [List.map_map, List.map_map] at this
    exact this
  have h3 : (ys.map ky).Pairwise (fun x y => x ≠ y) := List.pairwise_map.2 h1
  rw [← h2] at h3
  have h4 := List.pairwise_map.1 h3
  exact h4
/-- The writes, one by one, over the model. -/
def mdl (m : Bf) (zs : List Zs) : Bf := zs.foldl (fun m z => Bf.put m z.ky z.xs) m
theorem mdl_next (m : Bf) (zs : List Zs) (k : Nat) (z : Zs) (h : zs[k]? = some z) : mdl m (zs.take (k + 1)) = Bf.put (mdl m (zs.take k)) z.ky z.xs := by
  rw [take_next zs k z h]
  unfold mdl
  rw [List.foldl_append]
  rfl
theorem mdl_over {w : World} {L : List Eb} {m wm : Bf} (hA : Apart Eb.ky L) (hW : Byt w L wm) {ys : List Eb} {zs : List Zs} (hp : ys.Perm L) (hz : zs.map (fun z => (z.ky, z.ver, z.xs)) = ys.map (fun x => (Eb.ky x, 0, (wm (Eb.ky x)).getD []))) : mdl m zs = over m wm := by
  funext k
  have hzA := zs_apart (vr := fun _ => 0) (bs := fun x => (wm (Eb.ky x)).getD []) hA hp hz
  have h1 := mzf_at (vr := fun _ => 0) (bs := fun x => (wm (Eb.ky x)).getD []) hA hp hz k
  unfold mzf at h1
  rw [fold_put zs _ k hzA] at h1
  unfold mdl
  rw [fold_put zs _ k hzA]
  have h2 : (fnd Eb.ky L k).map (fun x => (wm (Eb.ky x)).getD []) = wm k := by
    cases e : fnd Eb.ky L k with
    | none => rw [hW.1 k e]; rfl
    | some x =>
      obtain ⟨xs, e1, _⟩ := hW.2 k x e
      show some ((wm (Eb.ky x)).getD []) = _
      rw [(fnd_some e).1, e1]
      rfl
  rw [h2] at h1
  have h3 : (fnd Zs.ky zs k).map Zs.xs = wm k := by
    rw [← h1]
    cases (fnd Zs.ky zs k).map Zs.xs <;> rfl
  rw [h3]
  rfl
/-- One write goes into the model. -/
theorem Ser.model (h : Ser w0 w n S Xs mb kk mm m lb ll lf) (hk : kk < 1000000) {B : Nat} {v : Value} {zs : List Zs} (hR : Rls w B v zs) {z : Zs} (hz : z ∈ zs) (hs : (⟨z.ky.toArray⟩ : ByteArray).size ≤ maxLen) :
    ∃ a c w2, z.val = .slice a z.xs.length c ∧ (Instr.mapUpdate 28 (.map (some mb)) (.string ⟨z.ky.toArray⟩) (.slice a z.xs.length c)).run Try.prog w = .ok () w2 ∧ Ser w0 w2 n S Xs mb (kk + 1) (mm.put z.ky z.xs) m lb ll lf ∧ Rls w2 B v zs ∧ (∀ B' v' bs, Rw w B' v' bs → Rw w2 B' v' bs) := by
  have ho := hR.own z hz
  obtain ⟨a, c, hv⟩ := ho.slice
  rw [hv] at ho
  obtain ⟨w2, hrun, hM, hp⟩ := h.mod.put (by omega) ⟨z.ky.toArray⟩ hs ho
  rw [show (⟨z.ky.toArray⟩ : ByteArray).data.toList = z.ky from List.toList_toArray ..] at hM
  exact ⟨a, c, w2, hv, hrun, h.put_mod hp hM, hR.turn hp h.mod.obj, fun B' v' bs hr => hr.turn hp h.mod.obj⟩
/-- One slot is held against the model and the last versions, and noted. -/
theorem Ser.slot (h : Ser w0 w n S Xs mb kk m m lb ll lf) (hk : ll < 1000000000) {x : Es} (hx : x ∈ S.slots) {z : Zs} (e1 : z.ky = Es.ky x) (e2 : z.ver = x.1.2.1) (e3 : z.xs = (m (Es.ky x)).getD []) :
    ∃ lv a l c, (Instr.lookup 29 (.map (some lb)) (.string ⟨z.ky.toArray⟩) false).run Try.prog w = .ok (.int .i64 lv) w ∧ decide (z.ver < lv) = false ∧ (Instr.lookup 28 (.map (some mb)) (.string ⟨z.ky.toArray⟩) false).run Try.prog w = .ok (.slice a l c) w ∧ From w a l (fn z.xs) ∧ l = z.xs.length ∧
      ∃ w2 lf', (Instr.mapUpdate 29 (.map (some lb)) (.string ⟨z.ky.toArray⟩) (.int .i64 z.ver)).run Try.prog w = .ok () w2 ∧ Ser w0 w2 n S Xs mb kk m m lb (ll + 1) lf' ∧ (∀ B v zs, Rls w B v zs → Rls w2 B v zs) ∧ (∀ B' v' bs, Rw w B' v' bs → Rw w2 B' v' bs) := by
  have hsh : (⟨z.ky.toArray⟩ : ByteArray).size ≤ maxLen := by
    show z.ky.toArray.size ≤ _
    rw [List.size_toArray, e1]
    exact x.short
  have hd : (⟨z.ky.toArray⟩ : ByteArray).data.toList = z.ky := List.toList_toArray ..
  have hf := h.apS.fnd hx
  have h1 := h.las.look ⟨z.ky.toArray⟩ hsh
  rw [hd] at h1
  obtain ⟨a, l, c, g1, g2, g3⟩ := h.mod.look ⟨z.ky.toArray⟩ hsh
  rw [hd, e1, ← e3] at g2 g3
  obtain ⟨w2, hrun, hM, hp⟩ := h.las.put (by omega) ⟨z.ky.toArray⟩ hsh z.ver
  rw [hd] at hM
  refine ⟨_, a, l, c, h1, ?_, g1, g2, g3, w2, _, hrun, h.put_las hp hM ?_, fun B v zs hr => hr.turn hp h.las.obj, fun B' v' bs hr => hr.turn hp h.las.obj⟩
  · have := h.lin.low _ x hf
    rw [e1, e2]
    exact decide_eq_false (by omega)
  · rw [e1, e2]
    exact h.lin.put h.syt hf
theorem v_slots (h : Ser w0 w n S Xs mb kk mm m lb ll lf) (hn : n ≤ 300) :
    Calls Try.prog 21 #[.pointer (some ⟨S.sp, 0, none⟩)] w fun e w' => ∃ (v : Value) (zs : List Zs), e = .returned v ∧ zs.length = S.slots.length ∧ Hid ((∀ z ∈ zs, ∃ x ∈ S.slots, z.ky = Es.ky x ∧ z.ver = x.1.2.1 ∧ z.xs = (m (Es.ky x)).getD []) ∧ Rls w' w.heap.size v zs ∧ Below w.heap.size w w') :=
  (s_slots h.sys.spc (by have := h.lsl; omega) (fun x => (m (Es.ky x)).getD []) h.bs).mono fun e w' ⟨v, zs, ys, he, hp, hR, hz, hb⟩ => ⟨v, zs, he, by
    have := congrArg List.length hz
    rw [List.length_map, List.length_map] at this
    rw [this, hp.length_eq], fun z hzz => by
    have h1 : (z.ky, z.ver, z.xs) ∈ ys.map (fun x => (Es.ky x, x.1.2.1, (m (Es.ky x)).getD [])) := by rw [← hz]; exact List.mem_map.2 ⟨z, hzz, rfl⟩
    obtain ⟨x, hx, e⟩ := List.mem_map.1 h1
    injection e with e1 e
    injection e with e2 e3
    exact ⟨x, hp.mem_iff.1 hx, e1.symm, e2.symm, e3.symm⟩, hR, hb⟩
theorem v_writes (h : Ser w0 w n S Xs mb kk mm m lb ll lf) (hn : n ≤ 300) {X : Xm} (hX : X ∈ Xs) :
    Calls Try.prog 11 #[.pointer (some ⟨X.T.t, 0, none⟩)] w fun e w' => ∃ (v : Value) (zs : List Zs), e = .returned v ∧ zs.length ≤ n ∧ Hid ((∀ m' : Bf, mdl m' zs = over m' X.wm) ∧ (∀ z ∈ zs, (⟨z.ky.toArray⟩ : ByteArray).size ≤ maxLen) ∧ (∀ k, (∃ z ∈ zs, z.ky = k) ↔ ∃ x ∈ X.T.writes, Eb.ky x = k) ∧ Rls w' w.heap.size v zs ∧ Below w.heap.size w w') :=
  (t_writes (h.txc hX) (by have := (h.xpu X hX).lwr; omega) (fun x => (X.wm (Eb.ky x)).getD []) (h.bw hX)).mono fun e w' ⟨v, zs, ys, he, hp, hR, hz, hb⟩ => by
    have hlen : zs.length = X.T.writes.length := by
      have := congrArg List.length hz
      rw [List.length_map, List.length_map] at this
      rw [this, hp.length_eq]
    have hmem : ∀ z ∈ zs, ∃ x ∈ X.T.writes, Eb.ky x = z.ky := fun z hzz => by
      have h1 : (z.ky, z.ver, z.xs) ∈ ys.map (fun x => (Eb.ky x, (0 : Int), (X.wm (Eb.ky x)).getD [])) := by rw [← hz]; exact List.mem_map.2 ⟨z, hzz, rfl⟩
      obtain ⟨x, hx, e⟩ := List.mem_map.1 h1
      injection e with e1 e
      exact ⟨x, hp.mem_iff.1 hx, e1⟩
    refine ⟨v, zs, he, by rw [hlen]; exact (h.xpu X hX).lwr, fun m' => mdl_over (h.apT hX) (h.xce X hX).byt hp hz, fun z hzz => ?_, fun k => ⟨fun ⟨z, hzz, e⟩ => ?_, fun ⟨x, hx, e⟩ => ?_⟩, hR, hb⟩
    · obtain ⟨x, hx, e⟩ := hmem z hzz
      show z.ky.toArray.size ≤ _
      rw [List.size_toArray, ← e]
      exact x.short
    · obtain ⟨x, hx, e'⟩ := hmem z hzz
      exact ⟨x, hx, e'.trans e⟩
    · have h1 : (Eb.ky x, (0 : Int), (X.wm (Eb.ky x)).getD []) ∈ zs.map (fun z => (z.ky, z.ver, z.xs)) := by rw [hz]; exact List.mem_map.2 ⟨x, hp.mem_iff.2 hx, rfl⟩
      obtain ⟨z, hzz, e2⟩ := List.mem_map.1 h1
      injection e2 with e3 _
      exact ⟨z, hzz, e3.trans e⟩
end
end Go.Proofs.Ytdackomidfofgaa
