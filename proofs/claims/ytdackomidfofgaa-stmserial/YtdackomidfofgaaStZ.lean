/-
  Maps from names to bytes (Bm); bytesOf.
-/
import Derived.Test.YtdackomidfofgaaStY
namespace Go.Proofs.Ytdackomidfofgaa
open Go.RowKit Go.Maps
set_option linter.unusedVariables false
set_option linter.unusedSimpArgs false
set_option maxRecDepth 100000
set_option maxHeartbeats 2000000

abbrev Bf := List UInt8 → Option (List Int)
def Bf.put (m : Bf) (k : List UInt8) (xs : List Int) : Bf := fun q => if k = q then some xs else m q
/-- A map from names to bytes, of no more than n names; the bytes lie in memory. -/
structure Bm (w : World) (n b : Nat) (m : Bf) : Prop where
  ex : ∃ L : List Eb, Mp w b (L.map Eb.kv) ∧ L.length ≤ n ∧ (∀ k, fnd Eb.ky L k = none → m k = none) ∧ ∀ k x, fnd Eb.ky L k = some x → ∃ xs, m k = some xs ∧ Own w 0 x.vl xs
theorem Bm.lt {w : World} {n b : Nat} {m : Bf} (h : Bm w n b m) : b < w.heap.size := by
  obtain ⟨L, h1, _⟩ := h.ex
  exact h1.lt
theorem Bm.obj {w : World} {n b : Nat} {m : Bf} (h : Bm w n b m) : ∃ es c, w.heap[b]? = some (.map es c) := by
  obtain ⟨L, h1, _⟩ := h.ex
  exact h1.obj
theorem Bm.part {w w' : World} {n b : Nat} {m : Bf} (h : Bm w n b m) {F : Nat → Prop} (p : Part F w w') (hb : ¬ F b) (hF : ∀ q cs, F q → w.heap[q]? ≠ some (.cells cs 5 (0, 0))) : Bm w' n b m := by
  obtain ⟨L, h1, h2, h3, h4⟩ := h.ex
  refine ⟨L, h1.part p hb, h2, h3, fun k x hx => ?_⟩
  obtain ⟨xs, e, ho⟩ := h4 k x hx
  refine ⟨xs, e, p.row ho (fun q hq hf => ?_)⟩
  obtain ⟨cur, hc, _⟩ := row_ty ho hq
  exact hF q cur hf hc
theorem Bm.below {w w' : World} {n b : Nat} {m : Bf} (h : Bm w n b m) (hb : Below w.heap.size w w') : Bm w' n b m := h.part (F := fun _ => False) (.ofBelow hb) id (fun _ _ h => h.elim)
theorem Bm.made (w : World) : Bm (w.alloc (.map #[] 0)) 0 w.heap.size (fun _ => none) := ⟨[], Mp.made w, Nat.le_refl _, fun _ _ => rfl, fun k x hx => by cases hx⟩
theorem Own.at0 {w : World} {B : Nat} {a : Option Addr} {n c : Nat} {xs : List Int} (h : Own w B (.slice a n c) xs) : From w a n (fn xs) ∧ n = xs.length := by
  rcases h.2 with ⟨h1, h2⟩ | ⟨g, cap, cur, h1, _, h2, _, _, h3, h4⟩
  · injection h1 with h1 h5 h6
    exact ⟨.inl ⟨h1, h5⟩, by omega⟩
  · injection h1 with h1 h5 h6
    refine ⟨.inr ⟨⟨g, 0, none⟩, h1, fun i hi => ?_⟩, h5⟩
    have hi' : i < xs.length := by omega
    rw [Addr.add_lit, Nat.zero_add, cells_at h2 i, ← Array.getElem?_toList]
    have h7 : (cur.toList.take (xs.length * 1))[i]? = cur.toList[i]? := List.getElem?_take_of_lt (by omega)
    rw [← h7, h4, List.getElem?_map, List.getElem?_eq_getElem hi']
    show some (Value.int .u8 xs[i]) = some (.int .u8 (xs.getD i 0))
    simp [List.getD, List.getElem?_eq_getElem hi']
/-- What is found under a name. -/
theorem Bm.look {w : World} {n b : Nat} {m : Bf} (h : Bm w n b m) (s : ByteArray) (hs : s.size ≤ maxLen) : ∃ a l c, (Instr.lookup 28 (.map (some b)) (.string s) false).run Try.prog w = .ok (.slice a l c) w ∧ From w a l (fn ((m s.data.toList).getD [])) ∧ l = ((m s.data.toList).getD []).length := by
  obtain ⟨L, h1, h2, h3, h4⟩ := h.ex
  have hl := h1.look Try.underlying28 (zeroEb w) hs
  rw [kv_b, fnd_map] at hl
  cases e : fnd Eb.ky L s.data.toList with
  | none =>
    rw [e] at hl
    rw [h3 _ e]
    exact ⟨_, _, _, hl, .inl ⟨rfl, rfl⟩, rfl⟩
  | some x =>
    rw [e] at hl
    obtain ⟨xs, e1, ho⟩ := h4 _ _ e
    rw [e1]
    obtain ⟨k1, k2⟩ := Own.at0 (a := x.1.2.1) (n := x.1.2.2.1) (c := x.1.2.2.2) ho
    exact ⟨_, _, _, hl, k1, k2⟩
theorem Bm.put {w : World} {n b : Nat} {m : Bf} (h : Bm w n b m) (hn : n < 1099511627776) (s : ByteArray) (hs : s.size ≤ maxLen) {B : Nat} {a : Option Addr} {l c : Nat} {xs : List Int} (ho : Own w B (.slice a l c) xs) :
    ∃ w2, (Instr.mapUpdate 28 (.map (some b)) (.string s) (.slice a l c)).run Try.prog w = .ok () w2 ∧ Bm w2 (n + 1) b (m.put s.data.toList xs) ∧ Part (fun q => q = b) w w2 := by
  obtain ⟨L, h1, h2, h3, h4⟩ := h.ex
  obtain ⟨w2, hrun, hm, ht⟩ := h1.store Try.underlying28 (by rw [List.length_map]; unfold maxLen; omega) hs (.slice a l c)
  have hpt := turned_part ht
  have hsl : s.data.toList.length ≤ maxLen := by rw [Array.length_toList]; exact hs
  have hown : ∀ {v : Value} {ys : List Int} {B : Nat}, Own w B v ys → Own w2 0 v ys := fun {v ys B} ho => Own.mono (B := B) (hpt.row ho (fun q hq e => by
    obtain ⟨cur, hc, _⟩ := row_ty ho hq
    obtain ⟨es, k, hob⟩ := h1.obj
    have e : q = b := e
    rw [e, hob] at hc
    cases hc)) (Nat.zero_le _)
  refine ⟨w2, hrun, ⟨putT Eb.ky L ⟨(s.data.toList, a, l, c), hsl⟩, ?_, ?_, fun k hk => ?_, fun k x hx => ?_⟩, hpt⟩
  · rw [kv_b, putT_map]; exact hm
  · have := putT_len (ky := Eb.ky) L ⟨(s.data.toList, a, l, c), hsl⟩
    omega
  · rw [fnd_put] at hk
    split at hk
    · cases hk
    · rename_i hne
      show (if s.data.toList = k then _ else _) = _
      rw [if_neg (show ¬ s.data.toList = k from hne)]
      exact h3 k hk
  · rw [fnd_put] at hx
    split at hx
    · rename_i he
      cases hx
      exact ⟨xs, if_pos (show s.data.toList = k from he), hown ho⟩
    · rename_i hne
      obtain ⟨ys, e1, h5⟩ := h4 k x hx
      exact ⟨ys, (if_neg (show ¬ s.data.toList = k from hne)).trans e1, hown h5⟩
/-- The bytes of a row of slots, by their names. -/
def mzf (zs : List Zs) : Bf := zs.foldl (fun m z => Bf.put m z.ky z.xs) (fun _ => none)
theorem mzf_next (zs : List Zs) (k : Nat) (z : Zs) (h : zs[k]? = some z) : mzf (zs.take (k + 1)) = Bf.put (mzf (zs.take k)) z.ky z.xs := by
  rw [take_next zs k z h]
  unfold mzf
  rw [List.foldl_append]
  rfl
theorem l_bytes {w : World} {S : Sm} (hS : Spc w S) (hl : S.slots.length < 1099511627776) (bs : Es → List Int) (hbs : ∀ x ∈ S.slots, From w x.1.2.2.1 x.1.2.2.2.1 (fn (bs x)) ∧ x.1.2.2.2.1 = (bs x).length ∧ x.1.2.2.2.1 ≤ 140737488355328) :
    Calls Try.prog 9 #[.pointer (some ⟨S.sp, 0, none⟩)] w fun e w' => ∃ (b : Nat) (zs : List Zs) (ys : List Es), e = .returned (.map (some b)) ∧ Hid (ys.Perm S.slots ∧ zs.map (fun z => (z.ky, z.ver, z.xs)) = ys.map (fun x => (Es.ky x, x.1.2.1, bs x)) ∧ Bm w' S.slots.length b (mzf zs) ∧ w.heap.size ≤ b ∧ Below w.heap.size w w') := by
  have hmm := @run_makeMap Try.prog
  have hb0 : Below w.heap.size w (w.alloc (.map #[] 0)) := (Below.refl _ w).alloc (Nat.le_refl _) _
  have HSl := s_slots (hS.below hb0) (by omega) bs (fun x hx => ⟨(hbs x hx).1.below hb0 (Nat.le_refl _), (hbs x hx).2⟩)
  go_enter Try.func9, Try.ntmps9
  go_wp2_with (go_at_call 21; refine HSl.mono ?_; rintro e w1 ⟨v, zs, ys, rfl, hp, hR, hzs, hB1⟩; obtain ⟨av, cv, rfl⟩ := row_slice hR.row)
  have hs1 := hB1.size
  have hsa : (w.alloc (.map #[] 0)).heap.size = w.heap.size + 1 := by simp
  rw [hsa] at hs1 hB1
  have hM1 : Bm w1 0 w.heap.size (mzf (zs.take 0)) := (Bm.made w).below (by rw [hsa]; exact hB1)
  have hnl : zs.length = S.slots.length := by
    have := congrArg List.length hzs
    rw [List.length_map, List.length_map] at this
    rw [this, hp.length_eq]
  have hzk : ∀ z ∈ zs, (⟨z.ky.toArray⟩ : ByteArray).size ≤ maxLen := fun z hz => by
    have h1 : (z.ky, z.ver, z.xs) ∈ ys.map (fun x => (Es.ky x, x.1.2.1, bs x)) := by rw [← hzs]; exact List.mem_map.2 ⟨z, hz, rfl⟩
    obtain ⟨x, _, e⟩ := List.mem_map.1 h1
    have e1 : Es.ky x = z.ky := congrArg (fun p => p.1) e
    show z.ky.toArray.size ≤ _
    rw [List.size_toArray, ← e1]
    exact x.short
  have HP : Hid (ys.Perm S.slots ∧ zs.map (fun z => (z.ky, z.ver, z.xs)) = ys.map (fun x => (Es.ky x, x.1.2.1, bs x))) := ⟨hp, hzs⟩
  clear hp hzs hS hbs HSl
  go_loopw [10] (fun s' wr => ∃ k : Nat, k ≤ zs.length ∧ s' = .int .i64 (k : Int) ∧ Hid (Bm wr k w.heap.size (mzf (zs.take k)) ∧ Part (fun q => q = w.heap.size) w1 wr)) (fun k _ => zs.length - (intOf k).toNat)
  case atStart => exact ⟨0, Nat.zero_le _, rfl, hM1, Part.refl _ _⟩
  case round =>
    obtain ⟨k, hkl, rfl, HJ⟩ := hrel
    obtain ⟨hM, hPt⟩ := HJ.out
    by_cases hlt : k < zs.length
    · obtain ⟨z, hz⟩ : ∃ z, zs[k]? = some z := ⟨_, List.getElem?_eq_getElem hlt⟩
      have hRk : Rls wr (w.heap.size + 1) (.slice av zs.length cv) zs := by
        have := hR
        rw [hsa] at this
        refine this.kept hPt (fun b cs t hb hc => ?_)
        obtain ⟨es, c, ho⟩ := hM1.obj
        have hb : b = w.heap.size := hb
        rw [hb, ho] at hc
        cases hc
      obtain ⟨g, cap, za, zc, e1, hzv, hF, c0, c1, c2⟩ := hRk.at hz
      injection e1 with e1 _ e3
      subst e1
      subst e3
      have l1 : (k : Int) < (zs.length : Int) := by omega
      have l2 : (0 : Int) ≤ (k : Int) := by omega
      have hbl : Below wr.heap.size wr (wr.alloc (.cells #[.string ⟨z.ky.toArray⟩, .int .i64 z.ver, .slice za z.xs.length zc] 44)) := (Below.refl _ wr).alloc (Nat.le_refl _) _
      have ho := hRk.own z (List.mem_of_getElem? hz)
      rw [hzv] at ho
      obtain ⟨w2, hrun, hM2, hp2⟩ := (hM.below hbl).put (by omega) ⟨z.ky.toArray⟩ (hzk z (List.mem_of_getElem? hz)) (ho.below hbl (Nat.le_refl _))
      have HE : Hid (Bm w2 (k + 1) w.heap.size (mzf (zs.take (k + 1))) ∧ Part (fun q => q = w.heap.size) w1 w2) := by
        refine ⟨?_, (hPt.alloc _).trans hp2 (fun _ _ h => h)⟩
        rw [mzf_next zs k z hz]
        have := hM2
        rw [show (⟨z.ky.toArray⟩ : ByteArray).data.toList = z.ky from List.toList_toArray ..] at this
        exact this
      clear hM hPt hRk hzv hF hM2 hp2 hbl ho hz hzk hM1 hR HJ
      go_wp2
      go_roundw
      case rel => exact ⟨k + 1, by omega, by go_num, HE⟩
      case measure => simp [intOf]; omega
    · obtain rfl : k = zs.length := by omega
      have HE : Hid (Bm wr S.slots.length w.heap.size (mzf zs) ∧ Below w.heap.size w wr) := by
        refine ⟨?_, ?_⟩
        · rw [List.take_length] at hM
          rw [← hnl]
          exact hM
        · have h1 : Below w.heap.size w w1 := hb0.trans (hB1.mono (by omega))
          exact h1.trans (hPt.below (fun q hq => by have hq : q = w.heap.size := hq; omega) h1.size)
      clear hM hPt hM1 hR HJ hzk
      go_wp2
      go_ret
      exact ⟨_, zs, ys, rfl, HP.out.1, HP.out.2, HE.out.1, Nat.le_refl _, HE.out.2⟩
end Go.Proofs.Ytdackomidfofgaa
