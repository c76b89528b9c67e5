/-
  Publish: of a checked transaction: what it wrote is in the slots, or it clashes.
-/
import Derived.Test.YtdackomidfofgaaStG
import Derived.Sort.CutIn
namespace Go.Proofs.Ytdackomidfofgaa
open Go.RowKit Go.Maps Go.Shelf
set_option linter.unusedVariables false
attribute [local go_sem] Oper.semAt_some
set_option maxRecDepth 100000
set_option maxHeartbeats 2000000

/-- Slots with what went by. -/
def Pub (L : List Es) (c : Int) (pre : List Eb) (L' : List Es) : Prop :=
  (∀ k, ((∃ x ∈ pre, Eb.ky x = k) → ∃ x ∈ pre, Eb.ky x = k ∧ ∃ y, fnd Es.ky L' k = some y ∧ y.1.2 = (c, x.1.2)) ∧ (¬ (∃ x ∈ pre, Eb.ky x = k) → fnd Es.ky L' k = fnd Es.ky L k)) ∧ L'.length ≤ L.length + pre.length
theorem Pub.start (L : List Es) (c : Int) : Pub L c [] L := ⟨fun k => ⟨fun ⟨x, h, _⟩ => (by cases h), fun _ => rfl⟩, Nat.le_add_right _ _⟩
theorem Pub.step {L : List Es} {c : Int} {pre : List Eb} {L' : List Es} (h : Pub L c pre L') (x : Eb) (y : Es) (h1 : y.ky = x.ky) (h2 : y.1.2 = (c, x.1.2)) : Pub L c (pre ++ [x]) (putT Es.ky L' y) := by
  have hx : x ∈ pre ++ [x] := List.mem_append_right _ (List.mem_singleton.2 rfl)
  refine ⟨fun k => ?_, ?_⟩
  · obtain ⟨a, b⟩ := h.1 k
    rw [fnd_put]
    by_cases e : y.ky = k
    · rw [if_pos e]
      exact ⟨fun _ => ⟨x, hx, h1.symm.trans e, y, rfl, h2⟩, fun hn => absurd ⟨x, hx, h1.symm.trans e⟩ hn⟩
    · rw [if_neg e]
      refine ⟨fun ⟨z, hz, ez⟩ => ?_, fun hn => b (fun ⟨z, hz, ez⟩ => hn ⟨z, List.mem_append_left _ hz, ez⟩)⟩
      rcases List.mem_append.1 hz with hz | hz
      · obtain ⟨u, hu, r⟩ := a ⟨z, hz, ez⟩
        exact ⟨u, List.mem_append_left _ hu, r⟩
      · obtain rfl : z = x := by simpa using hz
        exact absurd (h1.trans ez) e
  · have := putT_len (ky := Es.ky) L' y
    have := h.2
    rw [List.length_append, List.length_singleton]
    omega
theorem Pub.perm {L : List Es} {c : Int} {p q : List Eb} {L' : List Es} (h : Pub L c p L') (hp : p.Perm q) : Pub L c q L' := by
  refine ⟨fun k => ⟨fun ⟨x, hx, e⟩ => ?_, fun hn => (h.1 k).2 (fun ⟨x, hx, e⟩ => hn ⟨x, hp.mem_iff.1 hx, e⟩)⟩, by have := h.2; rw [hp.length_eq] at this; exact this⟩
  obtain ⟨u, hu, r⟩ := (h.1 k).1 ⟨x, hp.mem_iff.2 hx, e⟩
  exact ⟨u, hp.mem_iff.1 hu, r⟩
/-- The clock behind Publish. -/
def clk (S : Sm) (T : Tm) : Int := if T.writes = [] then S.clock else S.clock + 1
/-- What is behind Publish that went well. -/
def Done (w : World) (S : Sm) (T : Tm) (w' : World) : Prop := ∃ SL' L', Pub S.slots (clk S T) T.writes SL' ∧ (∀ x ∈ L', x ∈ S.locks) ∧ Fr S.locks T.t T.writes L' ∧ Spc w' { S with clock := clk S T, slots := SL', locks := L' } ∧ Txc w' { S with clock := clk S T, slots := SL', locks := L' } { T with ph := 3 } ∧ Part (fun b => S.own b ∨ b = T.t) w w'
theorem t_publish {w : World} {S : Sm} {T : Tm} (hS : Spc w S) (hT : Txc w S T) (hl : T.writes.length ≤ 1099511627776) (hlr : T.reads.length ≤ 1099511627776) (hls : S.slots.length ≤ 1125899906842624) (hc0 : 0 ≤ S.clock) (hc1 : S.clock < 1099511627776) (hp0 : T.ph = 2) :
    Calls Try.prog 20 #[.pointer (some ⟨T.t, 0, none⟩)] w fun e w' => (stl S T = true → e = .returned (.int .i64 180) ∧ Hid (Ended w S T 4 w')) ∧ (stl S T = false → e = .returned (.int .i64 0) ∧ Hid (Done w S T w')) := by
  obtain ⟨w0, hw0⟩ : ∃ w0, w0 = w.alloc (.cells #[.pointer (some ⟨T.t, 0, none⟩)] 33) := ⟨_, rfl⟩
  obtain ⟨w1, hw1⟩ : ∃ w1, w1 = w0.alloc (.cells #[.int .i64 2] 3) := ⟨_, rfl⟩
  have hs0 : w0.heap.size = w.heap.size + 1 := by rw [hw0]; simp
  have hs1 : w1.heap.size = w.heap.size + 2 := by rw [hw1]; simp [hs0]
  have hB0 : Below w.heap.size w w0 := by rw [hw0]; exact (Below.refl _ w).alloc (Nat.le_refl _) _
  have hB01 : Below w0.heap.size w0 w1 := by rw [hw1]; exact (Below.refl _ w0).alloc (Nat.le_refl _) _
  have hB1 : Below w.heap.size w w1 := hB0.trans (hB01.mono hB0.size)
  have hbx0 : w0.heap[w.heap.size]? = some (.cells #[.pointer (some ⟨T.t, 0, none⟩)] 33 (0, 0)) := by rw [hw0]; exact World.alloc_heap_new w _
  have hbx1 := (hB01.block w.heap.size (by omega)).trans hbx0
  have hph : w1.heap[w.heap.size + 1]? = some (.cells #[.int .i64 2] 3 (0, 0)) := by
    have := World.alloc_heap_new w0 (.cells #[.int .i64 2] 3)
    rw [← hw1, hs0] at this
    exact this
  have cx0 : w0.cell? ⟨w.heap.size, 0, none⟩ = some (.pointer (some ⟨T.t, 0, none⟩)) := by rw [cells_at hbx0 0]; rfl
  have cx1 : w1.cell? ⟨w.heap.size, 0, none⟩ = some (.pointer (some ⟨T.t, 0, none⟩)) := by rw [cells_at hbx1 0]; rfl
  have HR := t_refuse (hT.below hB1) (w.heap.size + 1) 1 [2] rfl (by decide) (fun j hj => cells_j (ps := [2]) hph j hj)
  have e1 : rf T.ph [2] = 0 := by unfold rf; simp [hp0]
  rw [e1] at HR
  have HSt := t_stale (hS.below hB1) (hT.below hB1) hlr
  have HA : ∀ w2, Below w1.heap.size w1 w2 → Hid (Spc w2 S ∧ Txc w2 S T ∧ w2.heap[w.heap.size]? = some (.cells #[.pointer (some ⟨T.t, 0, none⟩)] 33 (0, 0)) ∧ Below w.heap.size w w2 ∧ w.heap.size + 2 ≤ w2.heap.size) := fun w2 h => ⟨(hS.below hB1).below h, (hT.below hB1).below h, (h.block _ (by omega)).trans hbx1, hB1.trans (h.mono hB1.size), by have := h.size; omega⟩
  refine (callsIn_wide (n := 8)).1 ?_
  have hro : Fence.wide.round = none := rfl
  have h1' : 1 ≤ 8 := by decide
  refine callsIn_of_wp_marks Try.func20 rfl trivial ?_ hro
  simp only [Try.ntmps20, List.size_toArray, List.length_cons, List.length_nil, Nat.reduceAdd, Nat.reduceSub, Array.replicate_succ, Array.replicate_zero, List.push_toArray, List.append_toArray, List.nil_append, List.cons_append]
  rw [hw1, hw0] at cx1 HR HSt HA
  rw [hw0] at cx0
  clear hw1 hw0 hs1 hs0 hbx0 hbx1 hph e1 hB0 hB01 hB1
  cases hst : stl S T with
  | true =>
    rw [hst] at HSt
    gi_wp2_with (first | (refine ⟨trivial, ?_⟩; gi_at_call 38; refine (callsIn_wide.2 HR).mono ?_; rintro e w' ⟨rfl, rfl⟩) | (refine ⟨trivial, ?_⟩; gi_at_call 39; refine (callsIn_wide.2 HSt).mono ?_; rintro e w2 ⟨rfl, hb2⟩; obtain ⟨hS2, hT2, hx2, hB2, _⟩ := (HA w2 hb2).out; have cx2 : w2.cell? ⟨w.heap.size, 0, none⟩ = some (.pointer (some ⟨T.t, 0, none⟩)) := (by rw [cells_at hx2 0]; rfl); have HC := t_clash hS2 hT2 hl; clear hb2 hS2 hT2 hx2) | (refine ⟨trivial, ?_⟩; gi_at_call 37; refine (callsIn_wide.2 HC).mono ?_; rintro e w3 ⟨rfl, hE⟩))
    exact ⟨_, results_tmp rfl _ _ _, rfl, Ended.from hB2 hE.out⟩
  | false =>
    rw [hst] at HSt
    gi_upto_if 21 with (first | (refine ⟨trivial, ?_⟩; gi_at_call 38; refine (callsIn_wide.2 HR).mono ?_; rintro e w' ⟨rfl, rfl⟩) | (refine ⟨trivial, ?_⟩; gi_at_call 39; refine (callsIn_wide.2 HSt).mono ?_; rintro e w2 ⟨rfl, hb2⟩; obtain ⟨hS2, hT2, hx2, hB2, hs2⟩ := (HA w2 hb2).out; have cx2 : w2.cell? ⟨w.heap.size, 0, none⟩ = some (.pointer (some ⟨T.t, 0, none⟩)) := (by rw [cells_at hx2 0]; rfl); have c23 := hT2.c3; have hln := hT2.wri.len Try.underlying28 3; clear hb2))
    clear HA HR HSt cx0 cx1
    gi_cut [] from 16 (fun wc => Spc wc { S with clock := clk S T } ∧ Txc wc { S with clock := clk S T } T ∧ wc.heap[w.heap.size]? = some (.cells #[.pointer (some ⟨T.t, 0, none⟩)] 33 (0, 0)) ∧ Part (fun b => b = S.sp) w2 wc)
    case first =>
      have c0 := hT2.c0
      have s0 := hS2.c0
      have f0 : w2.frozen? ⟨S.sp, 0, none⟩ = false := cells_free hS2.cel 0
      have hbc : (S.clock + 1) < 9223372036854775808 := by omega
      have hbd : -9223372036854775808 ≤ (S.clock + 1) := by omega
      rw [List.length_map] at *
      have HS : Hid (T.writes ≠ [] → Spc (w2.setCell ⟨S.sp, 0, none⟩ (.int .i64 (S.clock + 1))) { S with clock := clk S T } ∧ Txc (w2.setCell ⟨S.sp, 0, none⟩ (.int .i64 (S.clock + 1))) { S with clock := clk S T } T ∧ (w2.setCell ⟨S.sp, 0, none⟩ (.int .i64 (S.clock + 1))).heap[w.heap.size]? = some (.cells #[.pointer (some ⟨T.t, 0, none⟩)] 33 (0, 0)) ∧ Part (fun b => b = S.sp) w2 (w2.setCell ⟨S.sp, 0, none⟩ (.int .i64 (S.clock + 1)))) := by
        intro hne
        have hck : clk S T = S.clock + 1 := if_neg hne
        obtain ⟨a1, a2⟩ := hS2.apart
        obtain ⟨a3, a4, a5, a6, a7⟩ := Txc.apart hS2 hT2
        have hlt := hS.lts.1
        have hpt : Part (fun b => b = S.sp) w2 (w2.setCell ⟨S.sp, 0, none⟩ (.int .i64 (S.clock + 1))) := (Part.refl (fun b => b = S.sp) w2).setCell (p := ⟨S.sp, 0, none⟩) (fun _ => rfl) _
        have hnm : ∀ b L, Mp w2 b L → b ≠ S.sp := fun b L hm e => by
          obtain ⟨es, c, ho⟩ := hm.obj
          rw [e, hS2.cel] at ho
          cases ho
        refine ⟨⟨?_, hS2.slo.part hpt (hnm _ _ hS2.slo), hS2.loc.part hpt (hnm _ _ hS2.loc), hS2.ne, fun x hx => ?_⟩, ⟨(hpt.block _ hT2.lts.1 a5).trans hT2.cel, hT2.red.part hpt (hnm _ _ hT2.red), hT2.wri.part hpt (hnm _ _ hT2.wri), hT2.ne⟩, (hpt.block _ (Array.getElem?_eq_some_iff.1 hx2).1 (fun e => by omega)).trans hx2, hpt⟩
        · rw [hck]; exact heap_set_at (i := 0) hS2.cel _
        · obtain ⟨cs, hcs⟩ := hS2.liv x hx
          refine ⟨cs, (hpt.block _ (Array.getElem?_eq_some_iff.1 hcs).1 (fun e => ?_)).trans hcs⟩
          rw [e, hS2.cel] at hcs
          injection hcs with hcs
          injection hcs with _ h
          exact absurd h (by decide)
      have HN : Hid (T.writes = [] → Spc w2 { S with clock := clk S T } ∧ Txc w2 { S with clock := clk S T } T ∧ w2.heap[w.heap.size]? = some (.cells #[.pointer (some ⟨T.t, 0, none⟩)] 33 (0, 0)) ∧ Part (fun b => b = S.sp) w2 w2) := by
        intro he
        have hck : clk S T = S.clock := if_pos he
        rw [hck]
        exact ⟨hS2, hT2, hx2, Part.refl _ _⟩
      clear hS2 hT2 hS hT hx2 hB2
      gi_wp2
      · have hq : 0 < T.writes.length := by assumption
        gi_meet
        exact HS.out (fun e => by rw [e] at hq; cases hq)
      · have hq : ¬ 0 < T.writes.length := by assumption
        gi_meet
        exact HN.out (List.length_eq_zero_iff.1 (by omega))
    case rest =>
      obtain ⟨hSc, hTc, hxc, hpc⟩ := hcut
      have cx : wc.cell? ⟨w.heap.size, 0, none⟩ = some (.pointer (some ⟨T.t, 0, none⟩)) := by rw [cells_at hxc 0]; rfl
      have c3 := hTc.c3
      have hsc := hpc.size
      obtain ⟨W3, hW3⟩ : ∃ W3, W3 = wc.alloc (.cells #[.map (some T.wr)] 28) := ⟨_, rfl⟩
      have hB3 : Below wc.heap.size wc W3 := by rw [hW3]; exact (Below.refl _ wc).alloc (Nat.le_refl _) _
      have hs3 : W3.heap.size = wc.heap.size + 1 := by rw [hW3]; simp
      have hbm3 : W3.heap[wc.heap.size]? = some (.cells #[.map (some T.wr)] 28 (0, 0)) := by rw [hW3]; exact World.alloc_heap_new wc _
      have HM := Eb.mk T.wr wc
      rw [← hW3] at HM
      have hS3 := hSc.below hB3
      have hT3 := hTc.below hB3
      have hx3 := (hB3.block _ (Array.getElem?_eq_some_iff.1 hxc).1).trans hxc
      have hp3 : Part (fun b => b = S.sp) w W3 := ((Part.ofBelow hB2).trans (hpc.trans (Part.ofBelow (F := fun b => b = S.sp) hB3) (fun _ _ h => h)) (fun _ _ h => h))
      clear hW3 hSc hTc hxc hS2 hT2 hx2 cx2 c23 hln hB2
      gi_wp2_with (refine ⟨trivial, ?_⟩; gi_at_call 33; refine (callsIn_wide.2 HM).mono ?_; rintro e w3 ⟨rfl, rfl⟩)
      clear HM c3 cx
      refine wpIn_rangeFunc_ownG hro h1' (gf := 45) (lb := #[.pointer (some ⟨wc.heap.size, 0, none⟩)]) rfl trivial (enters_of Try.func45 (by kernel_rfl) rfl)
        (Eb.stops (8 - 1) (by decide) wc.heap.size T.wr T.writes hl _ hbm3 hT3.wri) Kq.trans (Kq.put (by rw [hs3]; omega) hT3.wri.lt) (Below.refl _ _) (fun _ => rfl)
        (fun pre V => (∃ L', Pub S.slots (clk S T) pre L' ∧ Mp V S.sl (L'.map Es.kv)) ∧ Part (fun b => b = S.sl) w3 V)
        (fun _ _ _ => False)
        (fun s A B row hs hg hr => ?own2)
        (fun _ _ _ _ _ hs _ _ => hs)
        ⟨⟨S.slots, Pub.start _ _, hS3.slo⟩, Part.refl _ _⟩
        (fun x => { tmps := #[.pointer (some ⟨T.t, 0, none⟩), .pointer (some ⟨w.heap.size, 0, none⟩), .int .i64 0, .int .i64 0, .string ⟨x.ky.toArray⟩, .slice x.1.2.1 x.1.2.2.1 x.1.2.2.2, .pointer (some ⟨T.t, 0, none⟩), .slice (some ⟨w.heap.size + 1, 0, none⟩) 1 1, .int .i64 0, .int .i64 0, .bool false, undef, .pointer (some ⟨T.t, 0, none⟩), .bool false, undef, undef, u16, u17, u18, u19, u20, u21, u22, u23, u24, u25, u26, u27, u28, u29, u30, u31, .pointer (some ⟨T.t, 0, none⟩), .pointer (some ⟨T.t, 0, none⟩), .pointer (some ⟨T.t, 3, none⟩), .map (some T.wr), .func (.func 45) #[] #[.pointer (some ⟨wc.heap.size, 0, none⟩)], .string ⟨x.ky.toArray⟩, .slice x.1.2.1 x.1.2.2.1 x.1.2.2.2, u39, u40, u41, u42, u43, u44, u45, u46, u47, u48, u49, u50, u51, u52, u53, u54, u55, u56, u57], defers := [] }) ?assign2 ?body2 ?done2 ?stop2
      case own2 =>
        obtain ⟨⟨L', h1, h2⟩, hp⟩ := hs
        have hlk : S.sl < w3.heap.size := hS3.slo.lt
        refine ⟨⟨L', h1, h2.heap (hg.block _ h2.lt (fun e => ?_))⟩, hp.grown hg (fun k e hk => ?_)⟩
        · have := (hr _ e.symm).1; omega
        · have := (hr _ e).1; omega
      case assign2 =>
        intro l x V K hK
        gi_wp2
        exact hK
      case body2 =>
        rintro l pre x V ⟨⟨L', h1, h2⟩, hp⟩ hlen
        obtain ⟨a1, a2⟩ := hS3.apart
        obtain ⟨a3, a4, a5, _, _⟩ := Txc.apart hS3 hT3
        have hlw : S.sl < w.heap.size := hS.slo.lt
        have cb : V.cell? ⟨w.heap.size, 0, none⟩ = some (.pointer (some ⟨T.t, 0, none⟩)) := by
          rw [cells_at ((hp.block _ (Array.getElem?_eq_some_iff.1 hx3).1 (fun e => by omega)).trans hx3) 0]; rfl
        have c0 : V.cell? ⟨T.t, 0, none⟩ = some (.pointer (some ⟨S.sp, 0, none⟩)) := by rw [cells_at ((hp.block _ (Array.getElem?_eq_some_iff.1 hT3.cel).1 a3).trans hT3.cel) 0]; rfl
        have hSV := (hp.block _ (Array.getElem?_eq_some_iff.1 hS3.cel).1 a1).trans hS3.cel
        have d0 : V.cell? ⟨S.sp, 0, none⟩ = some (.int .i64 (clk S T)) := by rw [cells_at hSV 0]; rfl
        have d1 : V.cell? ⟨S.sp, 1, none⟩ = some (.map (some S.sl)) := by rw [cells_at hSV 1]; rfl
        have hsz : (⟨x.ky.toArray⟩ : ByteArray).size ≤ maxLen := by show x.ky.toArray.size ≤ _; simpa using x.short
        have h2d : Mp V.drew S.sl (L'.map Es.kv) := h2
        have hkey := key_s ⟨x.ky.toArray⟩ hsz
        have hlen2 : (L'.map Es.kv).length < maxLen := by rw [List.length_map]; have := h1.2; unfold maxLen; omega
        obtain ⟨ck, hck⟩ : ∃ ck, ck = clk S T := ⟨_, rfl⟩
        have HE : ∀ V3, V3.ownsMap Try.prog 9 idR S.sl ((L'.map Es.kv).length + 1) ((toD (L'.map Es.kv)).put (.string x.ky) (.held (.agg #[.int .i64 ck, .slice x.1.2.1 x.1.2.2.1 x.1.2.2.2]))) → V.drew.mapTurned V3 S.sl → Hid (KeepsFrom w3.heap.size V V3 ∧ Kq wc.heap.size T.wr V V3 ∧ (∃ L', Pub S.slots (clk S T) (pre ++ [x]) L' ∧ Mp V3 S.sl (L'.map Es.kv)) ∧ Part (fun b => b = S.sl) w3 V3) := by
          intro V3 ho3 ht3
          have hpp : Part (fun b => b = S.sl) V V3 := ((Part.refl _ V).drewN 1).trans (turned_part ht3) (fun _ _ h => h)
          have hps := hp.size
          have hwr := hT3.wri.lt
          refine ⟨⟨hpp.size, fun k o hk ho _ => (hpp.block k (Array.getElem?_eq_some_iff.1 ho).1 (fun f => by omega)).trans ho⟩, Kq.part hpp ?_ (fun f => by omega) ?_ (fun f => hT.ne.2.2.2.1 f) (fun g cur z hg f => ?_), ⟨putT Es.ky L' ⟨(x.ky, ck, x.1.2.1, x.1.2.2.1, x.1.2.2.2), x.short⟩, h1.step x _ rfl (by rw [hck]), ?_⟩, hp.trans hpp (fun _ _ h => h)⟩
          · omega
          · omega
          · obtain ⟨es, c, ho⟩ := h2.obj
            rw [f, ho] at hg
            cases hg
          · rw [toD_put] at ho3
            have := Mp.of ho3
            rw [kv_s, putT_map]
            exact this
        rw [← hck] at d0
        clear h2 h1 hp hS3 hT3 hS hT hx3 hp3 hB3 hbm3 hSV hck hpc
        gi_wp2
        refine round_tail 17 (by kernel_rfl) (by kernel_rfl) (by kernel_rfl) ?_
        simp only [List.take_succ_cons, List.take_zero, List.drop_succ_cons, List.drop_zero]
        repeat still_step
        refine wpStill_nil ?_
        gi_wp2_with (gi_at_mapUpdate; refine wpListIn_mapUpdate_in _ rfl _ _ _ 60 rfl 9 73 law9 Try.underlying60 idR S.sl _ _ rfl h2d hlen2 _ _ _ rfl rfl hkey (.held (.agg #[.int .i64 ck, .slice x.1.2.1 x.1.2.2.1 x.1.2.2.2])) [] rfl ?_; intro V3 ho3 ht3)
        exact (HE _ ho3 ht3).out
      case done2 =>
        rintro D zs V hD hperm ⟨⟨L', h1, h2⟩, hp⟩ hK
        obtain ⟨a1, a2⟩ := hS3.apart
        obtain ⟨a3, a4, a5, a6, a7⟩ := Txc.apart hS3 hT3
        have hlts := hS.lts
        have hltt := hT.lts
        have hxV := (hp.block _ (Array.getElem?_eq_some_iff.1 hx3).1 (fun e => by omega)).trans hx3
        have cb : V.cell? ⟨w.heap.size, 0, none⟩ = some (.pointer (some ⟨T.t, 0, none⟩)) := by rw [cells_at hxV 0]; rfl
        have hSV : Spc V { S with clock := clk S T, slots := L' } := by
          refine ⟨(hp.block _ (Array.getElem?_eq_some_iff.1 hS3.cel).1 a1).trans hS3.cel, h2, hS3.loc.part hp (fun e => hS.ne e.symm), hS.ne, fun x hx => ?_⟩
          obtain ⟨cs, hcs⟩ := hS3.liv x hx
          refine ⟨cs, (hp.block _ (Array.getElem?_eq_some_iff.1 hcs).1 (fun e => ?_)).trans hcs⟩
          obtain ⟨es, c, ho⟩ := hS3.slo.obj
          rw [e, ho] at hcs
          cases hcs
        have hTV : Txc V { S with clock := clk S T, slots := L' } T := ⟨(hp.block _ (Array.getElem?_eq_some_iff.1 hT3.cel).1 a3).trans hT3.cel, hT3.red.part hp hT.ne.2.1, hT3.wri.part hp hT.ne.2.2.2.1, hT.ne⟩
        have HE := t_end hSV hTV 3 hl
        have HZ : ∀ w4, (∃ LL, (∀ x ∈ LL, x ∈ S.locks) ∧ Fr S.locks T.t T.writes LL ∧ Spc w4 { S with clock := clk S T, slots := L', locks := LL } ∧ Txc w4 { S with clock := clk S T, slots := L', locks := LL } { T with ph := 3 } ∧ Part (fun b => b = S.lk ∨ b = T.t) V w4) → Hid (w4.heap[D]? = some (.deferred (some [])) ∧ Done w S T (w4.putObj D (.deferred none))) := by
          rintro w4 ⟨LL, k1, k2, k3, k4, k5⟩
          have hK4 : w4.heap[D]? = some (.deferred (some [])) := (k5.block _ (Array.getElem?_eq_some_iff.1 hK).1 (fun h => by omega)).trans hK
          have hb5 : Below w.heap.size w4 (w4.putObj D (.deferred none)) := belowK_b (w := w) (Nat.le_refl _) _ D _ _ (by omega) hK4 rfl rfl
          refine ⟨hK4, L', LL, h1.perm hperm, k1, k2, k3.low hb5 hlts (fun x hx => hS.low2 x (k1 x hx)), k4.low hb5 hltt, ?_⟩
          have q1 : Part (fun b => S.own b ∨ b = T.t) w w3 := hp3.mono (fun _ _ h => .inl (.inl h))
          have q2 : Part (fun b => S.own b ∨ b = T.t) w V := q1.trans hp (fun _ _ h => .inl (.inr (.inl h)))
          have q3 : Part (fun b => S.own b ∨ b = T.t) w w4 := q2.trans k5 (fun _ _ h => h.elim (fun h => .inl (.inr (.inr h))) .inr)
          exact q3.grown (grownBy_putObj' _ D _) (fun k e hk => by cases e; omega)
        clear h2 h1 hp hS3 hT3 hS hT hx3 hp3 hB3 hbm3 hSV hTV hpc hxV hperm hK
        gi_wp2_with (refine ⟨trivial, ?_⟩; gi_at_call 40; refine (callsIn_wide.2 HE).mono ?_; rintro e w4 ⟨rfl, h4⟩; have hz := HZ w4 h4; clear h4)
        refine ⟨by simp, .inl ⟨_, _, rfl, run_takeDeferred hz.out.1, ?_⟩⟩
        exact ⟨_, results_tmp rfl _ _ _, rfl, hz.out.2⟩
      case stop2 =>
        rintro D c pre V _ _ h _
        exact h.elim
end Go.Proofs.Ytdackomidfofgaa
