/-
  Put.
-/
import Derived.Test.YtdackomidfofgaaStI
namespace Go.Proofs.Ytdackomidfofgaa
open Go.RowKit Go.Maps
set_option linter.unusedVariables false
set_option maxRecDepth 100000
set_option maxHeartbeats 2000000

theorem t_put_no {w : World} {S : Sm} {T : Tm} (hT : Txc w S T) (s : ByteArray) (v : Value) (hr : rn T.ph s ≠ 0) :
    Calls Try.prog 16 #[.pointer (some ⟨T.t, 0, none⟩), .string s, v] w fun e w' => e = .returned (.int .i64 (rn T.ph s)) ∧ Below w.heap.size w w' := by
  have HN := t_refName hT s
  obtain ⟨r, hr'⟩ : ∃ r, r = rn T.ph s := ⟨_, rfl⟩
  rw [← hr'] at HN hr ⊢
  have hd : (r == 0) = false := by simpa using hr
  have hd2 : (!(r == 0)) = true := by rw [hd]; rfl
  clear hT hr hr'
  go_enter Try.func16, Try.ntmps16
  go_wp2_with (go_at_call 34; refine HN.mono ?_; rintro e w' ⟨rfl, hb⟩)
  go_ret
  exact ⟨rfl, hb⟩
theorem Own.slice {w : World} {B : Nat} {v : Value} {xs : List Int} (h : Own w B v xs) : ∃ a c, v = .slice a xs.length c := by
  rcases h.2 with ⟨rfl, h0⟩ | ⟨g, cap, cur, rfl, _⟩
  · rw [h0]; exact ⟨_, _, rfl⟩
  · exact ⟨_, _, rfl⟩
/-- What is behind Put. -/
def Wrote (w : World) (S : Sm) (T : Tm) (k : List UInt8) (xs : List Int) (w' : World) : Prop := ∃ x : Eb, x.ky = k ∧ Spc w' S ∧ Txc w' S { T with writes := putT Eb.ky T.writes x } ∧ Own w' w.heap.size x.vl xs ∧ x.1.2.2.1 = xs.length ∧ Part (fun b => b = T.wr) w w'
theorem t_put {w : World} {S : Sm} {T : Tm} (hS : Spc w S) (hT : Txc w S T) (s : ByteArray) (hs : s.size ≤ maxLen) (a0 : Option Addr) (n c : Nat) (f : Nat → Int) (hf : From w a0 n f) (hn : n ≤ 140737488355328) (hl : T.writes.length ≤ 1099511627776) (hr : rn T.ph s = 0) :
    Calls Try.prog 16 #[.pointer (some ⟨T.t, 0, none⟩), .string s, .slice a0 n c] w fun e w' => e = .returned (.int .i64 0) ∧ Hid (Wrote w S T s.data.toList (lst f n) w') := by
  have HN := t_refName hT s
  rw [hr] at HN
  have hlen2 : (T.writes.map Eb.kv).length < maxLen := by rw [List.length_map]; unfold maxLen; omega
  have HA : ∀ w1, Below w.heap.size w w1 → Hid (w1.drew.cell? ⟨T.t, 3, none⟩ = some (.map (some T.wr)) ∧ From w1.drew a0 n f ∧ Below w.heap.size w w1.drew) := fun w1 h => by
    have h' : Below w.heap.size w w1.drew := blw_drewN 1 h
    exact ⟨(hT.below h').c3, hf.below h' (Nat.le_refl _), h'⟩
  have HB : ∀ w1 v, Below w.heap.size w w1 → Own w1 w.heap.size v (lst f n) → Hid (w1.cell? ⟨T.t, 3, none⟩ = some (.map (some T.wr)) ∧ ∃ w2, (Instr.mapUpdate 28 (.map (some T.wr)) (.string s) v).run Try.prog w1 = .ok () w2 ∧ Hid (Wrote w S T s.data.toList (lst f n) w2)) := by
    intro w1 v h ho
    have hT1 := hT.below h
    have hS1 := hS.below h
    obtain ⟨a, c', rfl⟩ := ho.slice
    obtain ⟨w2, hrun, hm, ht⟩ := hT1.wri.store Try.underlying28 hlen2 hs (.slice a (lst f n).length c')
    refine ⟨hT1.c3, w2, hrun, ?_⟩
    have hpt := turned_part ht
    obtain ⟨a3, a4, a5, a6, a7⟩ := Txc.apart hS1 hT1
    have hnc : ∀ b cs t, w1.heap[b]? = some (.cells cs t (0, 0)) → b ≠ T.wr := fun b cs t hb e => by
      obtain ⟨es, c, ho⟩ := hT1.wri.obj
      rw [e, ho] at hb
      cases hb
    refine ⟨⟨(s.data.toList, a, (lst f n).length, c'), by rw [Array.length_toList]; exact hs⟩, rfl, hS1.part hpt ⟨hnc _ _ _ hS1.cel, fun e => hT.ne.2.2.2.1 e.symm, fun e => hT.ne.2.2.2.2 e.symm⟩ (fun b cs hb hc => absurd hb (hnc _ _ _ hc)), ⟨(hpt.block _ hT1.lts.1 a7).trans hT1.cel, hT1.red.part hpt hT.ne.1, ?_, hT.ne⟩, ?_, rfl, (Part.ofBelow h).trans hpt (fun _ _ h => h)⟩
    · rw [kv_b, putT_map]
      exact hm
    · exact hpt.row ho (fun q hq e => by
        have e : q = T.wr := e
        have hq : (Value.slice a (lst f n).length c').ownBlock = some q := hq
        rcases ho.2 with ⟨h1, _⟩ | ⟨g, cap, cur, h1, _, h2, _⟩
        · rw [h1] at hq; cases hq
        · rw [h1] at hq
          have hq : some g = some q := hq
          injection hq with hq
          exact hnc g _ _ h2 (hq.trans e))
  clear hS hT hf hr
  go_enter Try.func16, Try.ntmps16
  go_wp2_with (go_at_call 34; refine HN.mono ?_; rintro e w1 ⟨rfl, hb1⟩; obtain ⟨c3, hf1, hB1⟩ := (HA w1 hb1).out; clear hb1)
  have HC := clone a0 n c f w1.drew hn hf1
  go_region_with (go_at_call 29; refine HC.mono ?_; rintro e w2 ⟨v', rfl, ho, hb2⟩; obtain ⟨c3', w3, hrun, HE⟩ := (HB w2 v' (hB1.trans (hb2.mono hB1.size)) (ho.mono hB1.size)).out; obtain ⟨a, c', rfl⟩ := ho.slice)
  all_goals
    go_wp2
    go_ret
    exact ⟨rfl, HE.out⟩

/-- Get of a name that the transaction wrote: its own bytes. -/
theorem t_get_own {w : World} {S : Sm} {T : Tm} (hT : Txc w S T) (s : ByteArray) (hs : s.size ≤ maxLen) (hr : rn T.ph s = 0) (x : Eb) (hx : fnd Eb.ky T.writes s.data.toList = some x) (f : Nat → Int) (hf : From w x.1.2.1 x.1.2.2.1 f) (hn : x.1.2.2.1 ≤ 140737488355328) :
    Calls Try.prog 14 #[.pointer (some ⟨T.t, 0, none⟩), .string s] w fun e w' => ∃ v, e = .returned (.tuple #[v, .int .i64 0]) ∧ Own w' w.heap.size v (lst f x.1.2.2.1) ∧ Below w.heap.size w w' := by
  have HN := t_refName hT s
  rw [hr] at HN
  obtain ⟨a, l, c, ha, hb, hc⟩ : ∃ a l c, a = x.1.2.1 ∧ l = x.1.2.2.1 ∧ c = x.1.2.2.2 := ⟨_, _, _, rfl, rfl, rfl⟩
  rw [← ha, ← hb] at hf
  rw [← hb] at hn ⊢
  have HA : ∀ w1, Below w.heap.size w w1 → w1.cell? ⟨T.t, 3, none⟩ = some (.map (some T.wr)) ∧ (Instr.lookup 28 (.map (some T.wr)) (.string s) true).run Try.prog w1 = .ok (.tuple #[.slice a l c, .bool true]) w1 ∧ Hid (From w1 a l f) := fun w1 h => by
    refine ⟨(hT.below h).c3, ?_, hf.below h (Nat.le_refl _)⟩
    have hl := (hT.below h).wri.look_ok Try.underlying28 (zeroEb w1) hs
    rw [kv_b, fnd_map, hx] at hl
    rw [hl, ha, hb, hc]
    rfl
  have HC : ∀ w1, Hid (From w1 a l f) → Calls Try.prog 29 #[.slice a l c] w1 fun e w' => ∃ v', e = .returned v' ∧ Own w' w1.heap.size v' (lst f l) ∧ Below w1.heap.size w1 w' := fun w1 h => clone a l c f w1 hn h.out
  clear hT hf hr ha hb hc hx
  go_enter Try.func14, Try.ntmps14
  go_wp2_with (first | (go_at_call 34; refine HN.mono ?_; rintro e w1 ⟨rfl, hb1⟩; obtain ⟨c3, hl1, hf1⟩ := HA w1 hb1) | (go_at_call 29; refine (HC _ hf1).mono ?_; rintro e w2 ⟨v', rfl, ho, hb2⟩))
  go_ret2
  exact ⟨_, rfl, ho.mono hb1.size, hb1.trans (hb2.mono hb1.size)⟩
/-- Get that is refused. -/
theorem t_get_no {w : World} {S : Sm} {T : Tm} (hT : Txc w S T) (s : ByteArray) (hr : rn T.ph s ≠ 0) :
    Calls Try.prog 14 #[.pointer (some ⟨T.t, 0, none⟩), .string s] w fun e w' => e = .returned (.tuple #[.slice none 0 0, .int .i64 (rn T.ph s)]) ∧ Below w.heap.size w w' := by
  have HN := t_refName hT s
  obtain ⟨r, hr'⟩ : ∃ r, r = rn T.ph s := ⟨_, rfl⟩
  rw [← hr'] at HN hr ⊢
  have hd : (r == 0) = false := by simpa using hr
  have hd2 : (!(r == 0)) = true := by rw [hd]; rfl
  clear hT hr hr'
  go_enter Try.func14, Try.ntmps14
  go_wp2_with (go_at_call 34; refine HN.mono ?_; rintro e w' ⟨rfl, hb⟩)
  go_ret2
  exact ⟨rfl, hb⟩
/-- Get that clashes. -/
theorem t_get_clash {w : World} {S : Sm} {T : Tm} (hS : Spc w S) (hT : Txc w S T) (s : ByteArray) (hs : s.size ≤ maxLen) (hl : T.writes.length ≤ 1099511627776) (hr : rn T.ph s = 0) (hx : fnd Eb.ky T.writes s.data.toList = none) (hst : sty S T s.data.toList = true) :
    Calls Try.prog 14 #[.pointer (some ⟨T.t, 0, none⟩), .string s] w fun e w' => e = .returned (.tuple #[.slice none 0 0, .int .i64 180]) ∧ Hid (Ended w S T 4 w') := by
  have HN := t_refName hT s
  rw [hr] at HN
  have HA : ∀ w1, Below w.heap.size w w1 → w1.cell? ⟨T.t, 3, none⟩ = some (.map (some T.wr)) ∧ (Instr.lookup 28 (.map (some T.wr)) (.string s) true).run Try.prog w1 = .ok (.tuple #[.slice none 0 0, .bool false]) w1 := fun w1 h => by
    refine ⟨(hT.below h).c3, ?_⟩
    have hl := (hT.below h).wri.look_ok Try.underlying28 (zeroEb w1) hs
    rw [kv_b, fnd_map, hx] at hl
    exact hl
  have HT : ∀ w1, Below w.heap.size w w1 → Calls Try.prog 35 #[.pointer (some ⟨T.t, 0, none⟩), .string s] w1 fun e w' => e = .returned (.bool (tkn S T s.data.toList)) ∧ w' = w1 := fun w1 h => t_taken (hS.below h) (hT.below h) s hs
  have HNw : ∀ w1, Below w.heap.size w w1 → Calls Try.prog 36 #[.pointer (some ⟨T.t, 0, none⟩), .string s] w1 fun e w' => e = .returned (.bool (decide (T.time < (slt S s.data.toList).1))) ∧ Below w1.heap.size w1 w' := fun w1 h => t_newer (hS.below h) (hT.below h) s hs
  have HC : ∀ w1, Below w.heap.size w w1 → Calls Try.prog 37 #[.pointer (some ⟨T.t, 0, none⟩)] w1 fun e w' => e = .returned (.int .i64 180) ∧ Hid (Ended w1 S T 4 w') := fun w1 h => t_clash (hS.below h) (hT.below h) hl
  clear hS hT hr hx
  cases ht : tkn S T s.data.toList with
  | true =>
    rw [ht] at HT
    clear HNw hst
    go_enter Try.func14, Try.ntmps14
    go_wp2_with (first | (go_at_call 34; refine HN.mono ?_; rintro e w1 ⟨rfl, hb1⟩; obtain ⟨c3, hl1⟩ := HA w1 hb1) | (go_at_call 35; refine (HT _ hb1).mono ?_; rintro e w2 ⟨rfl, rfl⟩) | (go_at_call 37; refine (HC _ hb1).mono ?_; rintro e w3 ⟨rfl, hE⟩))
    go_ret2
    exact ⟨rfl, Ended.from hb1 hE.out⟩
  | false =>
    have hd : decide (T.time < (slt S s.data.toList).1) = true := by unfold sty at hst; rw [ht] at hst; exact hst
    rw [ht] at HT
    rw [hd] at HNw
    clear hst hd
    go_enter Try.func14, Try.ntmps14
    go_wp2_with (first | (go_at_call 34; refine HN.mono ?_; rintro e w1 ⟨rfl, hb1⟩; obtain ⟨c3, hl1⟩ := HA w1 hb1) | (go_at_call 35; refine (HT _ hb1).mono ?_; rintro e w2 ⟨rfl, rfl⟩) | (go_at_call 36; refine (HNw _ hb1).mono ?_; rintro e w3 ⟨rfl, hb3⟩; have hb4 := hb1.trans (hb3.mono hb1.size)) | (go_at_call 37; refine (HC _ hb4).mono ?_; rintro e w4 ⟨rfl, hE⟩))
    go_ret2
    exact ⟨rfl, Ended.from hb4 hE.out⟩
/-- What is behind Get of a slot. -/
def Read (w : World) (S : Sm) (T : Tm) (k : List UInt8) (w' : World) : Prop := ∃ y : Eu, y.ky = k ∧ Spc w' S ∧ Txc w' S { T with reads := putT Eu.ky T.reads y } ∧ Part (fun b => b = T.rd) w w'
theorem t_get {w : World} {S : Sm} {T : Tm} (hS : Spc w S) (hT : Txc w S T) (s : ByteArray) (hs : s.size ≤ maxLen) (hlr : T.reads.length ≤ 1099511627776) (hr : rn T.ph s = 0) (hx : fnd Eb.ky T.writes s.data.toList = none) (hst : sty S T s.data.toList = false) (f : Nat → Int) (hf : From w (slt S s.data.toList).2.1 (slt S s.data.toList).2.2.1 f) (hn : (slt S s.data.toList).2.2.1 ≤ 140737488355328) :
    Calls Try.prog 14 #[.pointer (some ⟨T.t, 0, none⟩), .string s] w fun e w' => ∃ v, e = .returned (.tuple #[v, .int .i64 0]) ∧ Own w' w.heap.size v (lst f (slt S s.data.toList).2.2.1) ∧ Hid (Read w S T s.data.toList w') := by
  have HN := t_refName hT s
  rw [hr] at HN
  obtain ⟨ht, hd⟩ : tkn S T s.data.toList = false ∧ decide (T.time < (slt S s.data.toList).1) = false := by
    unfold sty at hst
    exact Bool.or_eq_false_iff.1 hst
  have HT : ∀ w1, Below w.heap.size w w1 → Calls Try.prog 35 #[.pointer (some ⟨T.t, 0, none⟩), .string s] w1 fun e w' => e = .returned (.bool false) ∧ w' = w1 := fun w1 h => by rw [← ht]; exact t_taken (hS.below h) (hT.below h) s hs
  have HNw : ∀ w1, Below w.heap.size w w1 → Calls Try.prog 36 #[.pointer (some ⟨T.t, 0, none⟩), .string s] w1 fun e w' => e = .returned (.bool false) ∧ Below w1.heap.size w1 w' := fun w1 h => by rw [← hd]; exact t_newer (hS.below h) (hT.below h) s hs
  obtain ⟨v, a, l, c, hv⟩ : ∃ v a l c, (slt S s.data.toList) = (v, a, l, c) := ⟨_, _, _, _, rfl⟩
  rw [hv] at hf hn ⊢
  have HA : ∀ w1, Below w.heap.size w w1 → w1.cell? ⟨T.t, 3, none⟩ = some (.map (some T.wr)) ∧ (Instr.lookup 28 (.map (some T.wr)) (.string s) true).run Try.prog w1 = .ok (.tuple #[.slice none 0 0, .bool false]) w1 := fun w1 h => by
    refine ⟨(hT.below h).c3, ?_⟩
    have hl := (hT.below h).wri.look_ok Try.underlying28 (zeroEb w1) hs
    rw [kv_b, fnd_map, hx] at hl
    exact hl
  have hkl : s.data.toList.length ≤ maxLen := by rw [Array.length_toList]; exact hs
  have HB : ∀ w1, Below w.heap.size w w1 → ∃ w2, w1.cell? ⟨T.t, 2, none⟩ = some (.map (some T.rd)) ∧ (Instr.mapUpdate 65 (.map (some T.rd)) (.string s) (.agg #[])).run Try.prog w1 = .ok () w2 ∧ w2.cell? ⟨T.t, 0, none⟩ = some (.pointer (some ⟨S.sp, 0, none⟩)) ∧ w2.cell? ⟨S.sp, 1, none⟩ = some (.map (some S.sl)) ∧ (Instr.lookup 60 (.map (some S.sl)) (.string s) false).run Try.prog w2 = .ok (.agg #[.int .i64 v, .slice a l c]) w2 ∧ (Instr.field 73 (.agg #[.int .i64 v, .slice a l c]) 1).run Try.prog w2 = .ok (.slice a l c) w2 ∧ Hid (From w2 a l f ∧ Spc w2 S ∧ Txc w2 S { T with reads := putT Eu.ky T.reads ⟨s.data.toList, hkl⟩ } ∧ Part (fun b => b = T.rd) w w2) := by
    intro w1 h
    have hT1 := hT.below h
    have hS1 := hS.below h
    obtain ⟨w2, hrun, hm, htu⟩ := hT1.red.store Try.underlying65 (by rw [List.length_map]; unfold maxLen; omega) hs (.agg #[])
    have hpt := turned_part htu
    obtain ⟨a3, a4, a5, a6, a7⟩ := Txc.apart hS1 hT1
    have hnc : ∀ b cs t, w1.heap[b]? = some (.cells cs t (0, 0)) → b ≠ T.rd := fun b cs t hb e => by
      obtain ⟨es, c, ho⟩ := hT1.red.obj
      rw [e, ho] at hb
      cases hb
    have hS2 : Spc w2 S := hS1.part hpt ⟨hnc _ _ _ hS1.cel, fun e => hT.ne.2.1 e.symm, fun e => hT.ne.2.2.1 e.symm⟩ (fun b cs hb hc => absurd hb (hnc _ _ _ hc))
    have hT2 : Txc w2 S { T with reads := putT Eu.ky T.reads ⟨s.data.toList, hkl⟩ } := ⟨(hpt.block _ hT1.lts.1 a6).trans hT1.cel, by rw [kv_u, putT_map]; exact hm, hT1.wri.part hpt (fun e => hT.ne.1 e.symm), hT.ne⟩
    have hf1 : From w1 a l f := hf.below h (Nat.le_refl _)
    have hf2 : From w2 a l f := by
      rcases hf1 with h1 | ⟨x, h1, h2⟩
      · exact .inl h1
      · refine .inr ⟨x, h1, fun i hi => ?_⟩
        have h3 := h2 i hi
        refine hpt.cell (fun e => ?_) h3
        have e : (x.add i).block = T.rd := e
        obtain ⟨es, c, ho⟩ := hT1.red.obj
        have h4 : w1.cell? (x.add i) = none := by
          unfold World.cell?
          rw [e, ho]
        rw [h4] at h3
        cases h3
    have hlk := s_look hS2 s hs
    rw [hv] at hlk
    exact ⟨w2, hT1.c2, hrun, hT2.c0, hS2.c1, hlk, fld1 w2 v a l c, hf2, hS2, hT2, (Part.ofBelow h).trans hpt (fun _ _ h => h)⟩
  have HC : ∀ w1, From w1 a l f → Calls Try.prog 29 #[.slice a l c] w1 fun e w' => ∃ v', e = .returned v' ∧ Own w' w1.heap.size v' (lst f l) ∧ Below w1.heap.size w1 w' := fun w1 h => clone a l c f w1 hn h
  clear hS hT hr hx hf hst ht hd hv
  go_enter Try.func14, Try.ntmps14
  go_wp2_with (first | (go_at_call 34; refine HN.mono ?_; rintro e w1 ⟨rfl, hb1⟩; obtain ⟨c3, hl1⟩ := HA w1 hb1) | (go_at_call 35; refine (HT _ hb1).mono ?_; rintro e w2 ⟨rfl, rfl⟩) | (go_at_call 36; refine (HNw _ hb1).mono ?_; rintro e w3 ⟨rfl, hb3⟩; have hb4 := hb1.trans (hb3.mono hb1.size); obtain ⟨w4, q1, q2, q3, q4, q5, q6, q7⟩ := HB w3 hb4) | (go_at_call 29; refine (HC _ q7.out.1).mono ?_; rintro e w5 ⟨v', rfl, ho, hb5⟩))
  go_ret2
  obtain ⟨_, r1, r2, r3⟩ := q7.out
  refine ⟨_, rfl, ho.mono r3.size, ⟨s.data.toList, hkl⟩, rfl, r1.below hb5, r2.below hb5, r3.trans (Part.ofBelow (F := fun b => b = T.rd) hb5) (fun _ _ h => h)⟩
end Go.Proofs.Ytdackomidfofgaa
