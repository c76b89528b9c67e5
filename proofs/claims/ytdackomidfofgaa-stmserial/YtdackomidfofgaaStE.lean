/-
  end: a transaction's locks are let go, and it has a phase. Condition: no more than 2^40 names are written.
-/
import Derived.Test.YtdackomidfofgaaStR
namespace Go.Proofs.Ytdackomidfofgaa
open Go.RowKit Go.Maps Go.Shelf
set_option linter.unusedVariables false
attribute [local go_sem] Oper.semAt_some

/-- Locks with those let go that transaction t holds under the names that went by. -/
def Fr (L : List El) (t : Nat) (pre : List Eb) (L' : List El) : Prop :=
  ∀ k, ((∃ x ∈ pre, Eb.ky x = k) → (∃ y, fnd El.ky L k = some y ∧ y.1.2 = t) → fnd El.ky L' k = none) ∧ (¬ ((∃ x ∈ pre, Eb.ky x = k) ∧ ∃ y, fnd El.ky L k = some y ∧ y.1.2 = t) → fnd El.ky L' k = fnd El.ky L k)
structure Ends (w : World) (S : Sm) (t : Nat) (pre : List Eb) (W : World) : Prop where
  ex : ∃ L', (∀ x ∈ L', x ∈ S.locks) ∧ Mp W S.lk (L'.map El.kv) ∧ Fr S.locks t pre L'
  part : Part (fun b => b = S.lk) w W
theorem Spc.apart {w : World} {S : Sm} (h : Spc w S) : S.sp ≠ S.sl ∧ S.sp ≠ S.lk := by
  obtain ⟨_, _, h1⟩ := h.slo.obj
  obtain ⟨_, _, h2⟩ := h.loc.obj
  refine ⟨fun e => ?_, fun e => ?_⟩
  · rw [← e, h.cel] at h1; cases h1
  · rw [← e, h.cel] at h2; cases h2
theorem Txc.apart {w : World} {S : Sm} {T : Tm} (hS : Spc w S) (h : Txc w S T) : T.t ≠ S.sl ∧ T.t ≠ S.lk ∧ T.t ≠ S.sp ∧ T.t ≠ T.rd ∧ T.t ≠ T.wr := by
  obtain ⟨_, _, h1⟩ := hS.slo.obj
  obtain ⟨_, _, h2⟩ := hS.loc.obj
  obtain ⟨_, _, h3⟩ := h.red.obj
  obtain ⟨_, _, h4⟩ := h.wri.obj
  refine ⟨fun e => ?_, fun e => ?_, fun e => ?_, fun e => ?_, fun e => ?_⟩
  · rw [← e, h.cel] at h1; cases h1
  · rw [← e, h.cel] at h2; cases h2
  · have := hS.cel; rw [← e, h.cel] at this; injection this with this; injection this with _ this; exact absurd this (by decide)
  · rw [← e, h.cel] at h3; cases h3
  · rw [← e, h.cel] at h4; cases h4
/-- A region's panics are left out. -/
theorem wpIn_calm {F : Fence} {rm : Nat} {P : Program} {c : Code} {K : Act → World → Prop} {Q' : Exit → Act → World → Prop} {a : Act} {w : World} (h : c.wpIn F rm P (Exit.then K fun _ _ _ => False) a w) : c.wpIn F rm P (Exit.then K Q') a w := by
  refine wpIn_mono h ?_
  intro e a' w' hq
  cases e with
  | normal => exact hq
  | exit id => exact hq.elim
  | goto l => exact hq.elim
  | ret => exact hq.elim
  | panic ch => exact hq.elim
  | outgrown => exact hq.elim
theorem eql_none (w : World) (a : Addr) : (binOp .eql 33 (.pointer none) (.pointer (some a))).run Try.prog w = .ok (.bool false) w := by
  obtain ⟨j, hj, hsz⟩ := infoTx
  have h : ∀ d : Nat, (Op.equalIn (d + 1) 33 (.pointer none) (.pointer (some a))).run Try.prog w = .ok false w := fun d => by
    simp [Op.equalIn, run_underlying Try.underlying33, sizeOf, typeInfo]
  simp only [binOp]
  simp [Op.equal, Op.maxDepth, h 9999]
/-- A name that t does not hold. -/
theorem Fr.skip {L : List El} {t : Nat} {pre : List Eb} {L' : List El} (h : Fr L t pre L') (x : Eb) (hn : ∀ y, fnd El.ky L' x.ky = some y → y.1.2 ≠ t) : Fr L t (pre ++ [x]) L' := by
  intro k
  obtain ⟨h1, h2⟩ := h k
  by_cases hp : ∃ z ∈ pre, Eb.ky z = k
  · refine ⟨fun _ ho => h1 hp ho, fun hno => h2 (fun hc => hno ⟨?_, hc.2⟩)⟩
    obtain ⟨z, hz, e⟩ := hp
    exact ⟨z, List.mem_append_left _ hz, e⟩
  · have h3 : fnd El.ky L' k = fnd El.ky L k := h2 (fun hc => hp hc.1)
    refine ⟨fun ⟨z, hz, e⟩ ⟨y, hy, ey⟩ => ?_, fun _ => h3⟩
    rcases List.mem_append.1 hz with hz | hz
    · exact absurd ⟨z, hz, e⟩ hp
    · obtain rfl : z = x := by simpa using hz
      exact absurd ey (hn y (by rw [e, h3]; exact hy))
/-- One that it holds: let go. -/
theorem Fr.free {L : List El} {t : Nat} {pre : List Eb} {L' : List El} (h : Fr L t pre L') (x : Eb) {y : El} (hy : fnd El.ky L' x.ky = some y) (ht : y.1.2 = t) : Fr L t (pre ++ [x]) (delT El.ky L' x.ky) := by
  intro k
  obtain ⟨h1, h2⟩ := h k
  rw [fnd_del]
  by_cases e : x.ky = k
  · rw [if_pos e]
    refine ⟨fun _ _ => rfl, fun hno => ?_⟩
    exfalso
    refine hno ⟨⟨x, List.mem_append_right _ (List.mem_singleton.2 rfl), e⟩, ?_⟩
    by_cases hc : (∃ z ∈ pre, Eb.ky z = k) ∧ ∃ y, fnd El.ky L k = some y ∧ y.1.2 = t
    · exact hc.2
    · exact ⟨y, by rw [← h2 hc, ← e]; exact hy, ht⟩
  · rw [if_neg e]
    refine ⟨fun ⟨z, hz, ez⟩ ho => ?_, fun hno => h2 (fun hc => hno ⟨?_, hc.2⟩)⟩
    · rcases List.mem_append.1 hz with hz | hz
      · exact h1 ⟨z, hz, ez⟩ ho
      · obtain rfl : z = x := by simpa using hz
        exact absurd ez e
    · obtain ⟨z, hz, ez⟩ := hc.1
      exact ⟨z, List.mem_append_left _ hz, ez⟩
theorem Part.heapSame {F : Nat → Prop} {a w : World} (h : Part F a w) : Part F a w.drew := h.drewN 1
set_option maxRecDepth 100000 in
set_option maxHeartbeats 2000000 in
theorem t_end {w : World} {S : Sm} {T : Tm} (hS : Spc w S) (hT : Txc w S T) (p : Int) (hl : T.writes.length ≤ 1099511627776) :
    Calls Try.prog 40 #[.pointer (some ⟨T.t, 0, none⟩), .int .i64 p] w fun e w' => e = .returned (.tuple #[]) ∧ ∃ L', (∀ x ∈ L', x ∈ S.locks) ∧ Fr S.locks T.t T.writes L' ∧ Spc w' { S with locks := L' } ∧ Txc w' { S with locks := L' } { T with ph := p } ∧ Part (fun b => b = S.lk ∨ b = T.t) w w' := by
  obtain ⟨w1, hw1⟩ : ∃ w1, w1 = w.alloc (.cells #[.pointer (some ⟨T.t, 0, none⟩)] 33) := ⟨_, rfl⟩
  obtain ⟨w2, hw2⟩ : ∃ w2, w2 = w1.alloc (.cells #[.map (some T.wr)] 28) := ⟨_, rfl⟩
  have hB1 : Below w.heap.size w w1 := by rw [hw1]; exact (Below.refl _ w).alloc (Nat.le_refl _) _
  have hs1 : w1.heap.size = w.heap.size + 1 := by rw [hw1]; simp
  have hs2 : w2.heap.size = w.heap.size + 2 := by rw [hw2]; simp [hs1]
  have hB2 : Below w1.heap.size w1 w2 := by rw [hw2]; exact (Below.refl _ w1).alloc (Nat.le_refl _) _
  have hB : Below w.heap.size w w2 := hB1.trans (hB2.mono hB1.size)
  have c3 := (hT.below hB1).c3
  have HM := Eb.mk T.wr w1
  have hS2 := hS.below hB
  have hT2 := hT.below hB
  have hbx : w2.heap[w.heap.size]? = some (.cells #[.pointer (some ⟨T.t, 0, none⟩)] 33 (0, 0)) := by
    rw [hB2.block _ (by omega), hw1]
    exact World.alloc_heap_new w _
  have hbm : w2.heap[w.heap.size + 1]? = some (.cells #[.map (some T.wr)] 28 (0, 0)) := by
    have := World.alloc_heap_new w1 (.cells #[.map (some T.wr)] 28)
    rw [← hw2, hs1] at this
    exact this
  refine (callsIn_wide (n := 8)).1 ?_
  have hro : Fence.wide.round = none := rfl
  have h1' : 1 ≤ 8 := by decide
  refine callsIn_of_wp_marks Try.func40 rfl trivial ?_ hro
  simp only [Try.ntmps40, List.size_toArray, List.length_cons, List.length_nil, Nat.reduceAdd, Nat.reduceSub, Array.replicate_succ, Array.replicate_zero, List.push_toArray, List.append_toArray, List.nil_append, List.cons_append]
  have HW : Hid (w1 = w.alloc (.cells #[.pointer (some ⟨T.t, 0, none⟩)] 33)) := hw1
  rw [hs1, ← hw2] at HM
  rw [hw1] at c3 HM
  clear hw1 hw2 hs1
  gi_wp2_with (refine ⟨trivial, ?_⟩; gi_at_call 33; refine (callsIn_wide.2 HM).mono ?_; rintro e w' ⟨rfl, rfl⟩)
  clear HM c3 HW
  refine wpIn_rangeFunc_ownG hro h1' (gf := 45) (lb := #[.pointer (some ⟨w.heap.size + 1, 0, none⟩)]) rfl trivial (enters_of Try.func45 (by kernel_rfl) rfl)
    (Eb.stops (8 - 1) (by decide) (w.heap.size + 1) T.wr T.writes hl _ hbm hT2.wri) Kq.trans (Kq.put (by rw [hs2]; omega) hT2.wri.lt) (Below.refl _ _) (fun _ => rfl)
    (fun pre W => Ends w' S T.t pre W)
    (fun _ _ _ => False)
    (fun s A B row hs hg hr => ?own)
    (fun _ _ _ _ _ hs _ _ => hs)
    ⟨⟨S.locks, fun _ h => h, hS2.loc, fun k => ⟨fun ⟨x, h, _⟩ => (by cases h), fun _ => rfl⟩⟩, Part.refl _ _⟩
    (fun x => { tmps := #[.pointer (some ⟨T.t, 0, none⟩), .int .i64 p, .pointer (some ⟨w.heap.size, 0, none⟩), undef, .string ⟨x.ky.toArray⟩, .pointer (some ⟨T.t, 0, none⟩), .pointer (some ⟨T.t, 0, none⟩), .pointer (some ⟨T.t, 3, none⟩), .map (some T.wr), .func (.func 45) #[] #[.pointer (some ⟨w.heap.size + 1, 0, none⟩)], .string ⟨x.ky.toArray⟩, x.vl, undef, undef, undef, undef, undef, undef, undef, undef, undef, undef, undef, undef, undef, undef, undef, undef, undef, undef, undef, undef, undef, undef, undef], defers := [] }) ?assign ?body ?done ?stop
  case own =>
    obtain ⟨⟨L', h1, h2, h3⟩, hp⟩ := hs
    have hlk : S.lk < w'.heap.size := hS2.loc.lt
    refine ⟨⟨L', h1, h2.heap (hg.block _ h2.lt (fun e => ?_)), h3⟩, hp.grown hg (fun k e hk => ?_)⟩
    · have := (hr _ e.symm).1; omega
    · have := (hr _ e).1; omega
  case assign =>
    intro l x W K hK
    gi_wp2
    exact hK
  case body =>
    rintro l pre x W ⟨⟨L', h1, h2, h3⟩, hp⟩ hlen
    obtain ⟨a1, a2⟩ := hS2.apart
    obtain ⟨a3, a4, a5, _, _⟩ := Txc.apart hS2 hT2
    have hlw : S.lk < w.heap.size := hS.loc.lt
    have cb : W.cell? ⟨w.heap.size, 0, none⟩ = some (.pointer (some ⟨T.t, 0, none⟩)) := by
      rw [cells_at ((hp.block _ (by omega) (fun e => by omega)).trans hbx) 0]; rfl
    have hTW : W.heap[T.t]? = _ := (hp.block _ (Array.getElem?_eq_some_iff.1 hT2.cel).1 a4).trans hT2.cel
    have c0 : W.cell? ⟨T.t, 0, none⟩ = some (.pointer (some ⟨S.sp, 0, none⟩)) := by rw [cells_at hTW 0]; rfl
    have c2 : W.cell? ⟨S.sp, 2, none⟩ = some (.map (some S.lk)) := by rw [cells_at ((hp.block _ (Array.getElem?_eq_some_iff.1 hS2.cel).1 a2).trans hS2.cel) 2]; rfl
    have hsz : (⟨x.ky.toArray⟩ : ByteArray).size ≤ maxLen := by show x.ky.toArray.size ≤ _; simpa using x.short
    have h2d : Mp W.drew S.lk (L'.map El.kv) := h2
    have hl := h2d.look Try.underlying61 (zeroEl _) hsz
    rw [kv_l, fnd_map] at hl
    have HK : ∀ (F : Nat → Prop) W', Part F W W' → (∀ b, F b → b = S.lk) → Hid (KeepsFrom w'.heap.size W W' ∧ Kq (w.heap.size + 1) T.wr W W' ∧ Part (fun b => b = S.lk) w' W') := by
      intro F W' hpp hF
      have hpl : Part (fun b => b = S.lk) w' W' := hp.trans hpp (fun i _ h => hF i h)
      refine ⟨⟨hpp.size, fun k o hk ho _ => (hpp.block k (Array.getElem?_eq_some_iff.1 ho).1 (fun f => by have := hF k f; omega)).trans ho⟩, Kq.part hpp ?_ (fun f => by have := hF _ f; omega) ?_ (fun f => hT2.ne.2.2.2.2 (hF _ f)) (fun g cur z hg f => ?_), hpl⟩
      · have := hp.size; omega
      · have := hp.size; have := hT2.wri.lt; omega
      · obtain ⟨es, c, ho⟩ := h2.obj
        rw [hF g f, ho] at hg
        cases hg
    have HD := (HK (fun _ => False) W.drew ((Part.refl _ W).drewN 1) (fun _ f => f.elim))
    cases e : fnd El.ky L' x.ky with
    | none =>
      have hl' : (Instr.lookup 61 (.map (some S.lk)) (.string ⟨x.ky.toArray⟩) false).run Try.prog W.drew = .ok (.pointer none) W.drew := by rw [hl]; show Result.ok (((fnd El.ky L' x.ky).map El.vl).getD _) _ = _; rw [e]; rfl
      have hq := eql_none W.drew ⟨T.t, 0, none⟩
      have HE : Hid (Ends w' S T.t (pre ++ [x]) W.drew) := ⟨⟨L', h1, h2, h3.skip x (fun y hy => by rw [e] at hy; cases hy)⟩, HD.out.2.2⟩
      clear hl h2 h2d h3 hS2 hT2 hp HK hS hT hTW
      gi_wp2
      refine round_still (by kernel_rfl) (by kernel_rfl) (by kernel_rfl) ?_
      repeat still_step
      refine wpStill_nil ?_
      gi_wp2
      exact ⟨HD.out.1, HD.out.2.1, HE.out⟩
    | some y =>
      obtain ⟨q, hq⟩ : ∃ q, q = y.1.2 := ⟨_, rfl⟩
      have hl' : (Instr.lookup 61 (.map (some S.lk)) (.string ⟨x.ky.toArray⟩) false).run Try.prog W.drew = .ok (.pointer (some ⟨q, 0, none⟩)) W.drew := by rw [hl, hq]; show Result.ok (((fnd El.ky L' x.ky).map El.vl).getD _) _ = _; rw [e]; rfl
      by_cases ho : y.1.2 = T.t
      · obtain rfl : q = T.t := hq.trans ho
        obtain ⟨j, hj, _⟩ := infoTx
        have he := run_eql_ptr_same (P := Try.prog) W.drew ⟨T.t, 0, none⟩ Try.underlying33 hj
        have hkey := key_s ⟨x.ky.toArray⟩ hsz
        have HE : ∀ W3, W3.ownsMap Try.prog 9 idR S.lk (L'.map El.kv).length ((toD (L'.map El.kv)).del (.string x.ky)) → W.drew.mapTurned W3 S.lk → Hid (KeepsFrom w'.heap.size W W3 ∧ Kq (w.heap.size + 1) T.wr W W3 ∧ Ends w' S T.t (pre ++ [x]) W3) := by
          intro W3 ho3 ht3
          have hpp : Part (fun b => b = S.lk) W W3 := ((Part.refl _ W).drewN 1).trans (turned_part ht3) (fun _ _ h => h)
          obtain ⟨k1, k2, k3⟩ := (HK _ W3 hpp (fun _ h => h)).out
          refine ⟨k1, k2, ⟨⟨delT El.ky L' x.ky, fun z hz => h1 z (mem_del hz).2, ?_, h3.free x e ho⟩, k3⟩⟩
          rw [toD_del, kv_l, ← delT_map] at ho3
          exact .of ho3
        clear hl h2 h3 hS2 hT2 hp HK hS hT hTW HD hq ho e h1
        gi_wp2
        refine round_still (by kernel_rfl) (by kernel_rfl) (by kernel_rfl) ?_
        repeat still_step
        refine wpStill_nil ?_
        gi_wp2_with (gi_at_delete; refine wpListIn_delete_own _ rfl _ _ 61 9 rfl 33 law9 Try.underlying61 idR S.lk (L'.map El.kv).length _ rfl h2d _ _ rfl hkey ?_; intro W3 ho3 ht3)
        obtain ⟨k1, k2, k3⟩ := (HE _ ho3 ht3).out
        exact ⟨k1, k2, k3⟩
      · obtain ⟨cs, hcs⟩ := hS2.liv y (h1 y (fnd_some e).2)
        have hne : y.1.2 ≠ S.lk := fun e' => by
          obtain ⟨es, c, ho⟩ := hS2.loc.obj
          rw [e', ho] at hcs
          cases hcs
        have hcs' : W.drew.heap[q]? = some (.cells cs 67 (0, 0)) := by rw [hq]; exact (hp.block _ (Array.getElem?_eq_some_iff.1 hcs).1 hne).trans hcs
        obtain ⟨j, hj, hjs⟩ := infoTx
        have he := run_eql_ptr_other (P := Try.prog) W.drew (a := ⟨q, 0, none⟩) (b := ⟨T.t, 0, none⟩) Try.underlying33 hj hjs (fun e' => ho (by injection e' with e'; rw [← hq]; exact e')) hcs' hTW
        have HE : Hid (Ends w' S T.t (pre ++ [x]) W.drew) := ⟨⟨L', h1, h2, h3.skip x (fun z hz => by rw [e] at hz; cases hz; exact ho)⟩, HD.out.2.2⟩
        clear hl h2 h2d h3 hS2 hT2 hp HK hS hT hTW hcs hcs' hne ho e h1 hq
        gi_wp2
        refine round_still (by kernel_rfl) (by kernel_rfl) (by kernel_rfl) ?_
        repeat still_step
        refine wpStill_nil ?_
        gi_wp2
        exact ⟨HD.out.1, HD.out.2.1, HE.out⟩
  case done =>
    rintro D ys W hD hperm ⟨⟨L', h1, h2, h3⟩, hp⟩ hK
    obtain ⟨a1, a2⟩ := hS2.apart
    obtain ⟨a3, a4, a5, a6, a7⟩ := Txc.apart hS2 hT2
    have hlw : S.lk < w.heap.size := hS.loc.lt
    have htw : T.t < w.heap.size := (Array.getElem?_eq_some_iff.1 hT.cel).1
    have cb : W.cell? ⟨w.heap.size, 0, none⟩ = some (.pointer (some ⟨T.t, 0, none⟩)) := by
      rw [cells_at ((hp.block _ (by omega) (fun e => by omega)).trans hbx) 0]; rfl
    have hTW := (hp.block _ (Array.getElem?_eq_some_iff.1 hT2.cel).1 a4).trans hT2.cel
    have c4 : W.cell? ⟨T.t, 4, none⟩ = some (.int .i64 T.ph) := by rw [cells_at hTW 4]; rfl
    have f4 : W.frozen? ⟨T.t, 4, none⟩ = false := cells_free hTW 4
    have HZ : Hid ((W.setCell ⟨T.t, 4, none⟩ (.int .i64 p)).heap[D]? = some (.deferred (some [])) ∧ ∃ L', (∀ x ∈ L', x ∈ S.locks) ∧ Fr S.locks T.t T.writes L' ∧ Spc ((W.setCell ⟨T.t, 4, none⟩ (.int .i64 p)).putObj D (.deferred none)) { S with locks := L' } ∧ Txc ((W.setCell ⟨T.t, 4, none⟩ (.int .i64 p)).putObj D (.deferred none)) { S with locks := L' } { T with ph := p } ∧ Part (fun b => b = S.lk ∨ b = T.t) w ((W.setCell ⟨T.t, 4, none⟩ (.int .i64 p)).putObj D (.deferred none))) := by
      have hK2 : (W.setCell ⟨T.t, 4, none⟩ (.int .i64 p)).heap[D]? = some (.deferred (some [])) := (heap_set_other W (by omega) 4 _).trans hK
      have hoth : ∀ b, b < w'.heap.size → b ≠ T.t → ((W.setCell ⟨T.t, 4, none⟩ (.int .i64 p)).putObj D (.deferred none)).heap[b]? = W.heap[b]? := fun b hb hne => (World.putObj_heap_other (by omega)).trans (heap_set_other W hne 4 _)
      have hself : ((W.setCell ⟨T.t, 4, none⟩ (.int .i64 p)).putObj D (.deferred none)).heap[T.t]? = some (.cells #[.pointer (some ⟨S.sp, 0, none⟩), .int .i64 T.time, .map (some T.rd), .map (some T.wr), .int .i64 p] 67 (0, 0)) := by
        refine (World.putObj_heap_other (by omega)).trans ?_
        have := heap_set_at (i := 4) hTW (.int .i64 p)
        exact this
      have hpt : Part (fun b => b = S.lk ∨ b = T.t) w' ((W.setCell ⟨T.t, 4, none⟩ (.int .i64 p)).putObj D (.deferred none)) := by
        have h5 : Part (fun b => b = S.lk ∨ b = T.t) w' (W.setCell ⟨T.t, 4, none⟩ (.int .i64 p)) := (hp.mono (fun _ _ h => .inl h)).setCell (p := ⟨T.t, 4, none⟩) (fun _ => .inr rfl) _
        exact h5.grown (grownBy_putObj' _ D _) (fun k e hk => by cases e; omega)
      have hdw : ∀ b, b < w.heap.size → b < w'.heap.size := fun b hb => Nat.lt_of_lt_of_le hb hB.size
      refine ⟨hK2, L', h1, ?_, ⟨?_, ?_, ?_, hS.ne, ?_⟩, ⟨hself, ?_, ?_, hT.ne⟩, ?_⟩
      · intro k
        have hm : (∃ x ∈ T.writes, Eb.ky x = k) ↔ ∃ x ∈ ys, Eb.ky x = k := ⟨fun ⟨x, hx, e⟩ => ⟨x, hperm.mem_iff.2 hx, e⟩, fun ⟨x, hx, e⟩ => ⟨x, hperm.mem_iff.1 hx, e⟩⟩
        have := h3 k
        rw [hm]
        exact this
      · exact (hpt.block _ (Array.getElem?_eq_some_iff.1 hS2.cel).1 (fun h => h.elim a2 (fun e => a5 e.symm))).trans hS2.cel
      · exact hS2.slo.part hpt (fun h => h.elim hS.ne (fun e => a3 e.symm))
      · exact h2.heap (hoth _ (hdw _ hlw) (fun e => a4 e.symm))
      · intro y hy
        obtain ⟨cs, hcs⟩ := hS2.liv y (h1 y hy)
        by_cases e1 : y.1.2 = T.t
        · rw [e1]; exact ⟨_, hself⟩
        · refine ⟨cs, (hpt.block _ (Array.getElem?_eq_some_iff.1 hcs).1 (fun h => h.elim (fun e2 => ?_) e1)).trans hcs⟩
          obtain ⟨es, c, ho⟩ := hS2.loc.obj
          rw [e2, ho] at hcs
          cases hcs
      · exact hT2.red.part hpt (fun h => h.elim hT.ne.2.2.1 (fun e => a6 e.symm))
      · exact hT2.wri.part hpt (fun h => h.elim hT.ne.2.2.2.2 (fun e => a7 e.symm))
      · exact (Part.ofBelow hB).trans hpt (fun _ _ h => h)
    clear h1 h2 h3 hp hK hTW hS2 hT2 hS hT hB hB1 hB2 hbx hbm hs2 hD
    gi_wp2
    refine ⟨by simp, .inl ⟨_, _, rfl, run_takeDeferred HZ.out.1, ?_⟩⟩
    exact ⟨_, results_none rfl _ _ _, rfl, HZ.out.2⟩
  case stop =>
    rintro D c pre W _ _ h _
    exact h.elim
end Go.Proofs.Ytdackomidfofgaa
