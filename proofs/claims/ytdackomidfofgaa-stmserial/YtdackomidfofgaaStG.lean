/-
  Lock: of an open transaction: its names are locked, or it clashes.
-/
import Derived.Test.YtdackomidfofgaaStF
namespace Go.Proofs.Ytdackomidfofgaa
open Go.RowKit Go.Maps Go.Shelf
set_option linter.unusedVariables false
attribute [local go_sem] Oper.semAt_some
set_option maxRecDepth 100000
set_option maxHeartbeats 2000000

theorem Spc.lts {w : World} {S : Sm} (h : Spc w S) : S.sp < w.heap.size ∧ S.sl < w.heap.size ∧ S.lk < w.heap.size := ⟨(Array.getElem?_eq_some_iff.1 h.cel).1, h.slo.lt, h.loc.lt⟩
theorem Txc.lts {w : World} {S : Sm} {T : Tm} (h : Txc w S T) : T.t < w.heap.size ∧ T.rd < w.heap.size ∧ T.wr < w.heap.size := ⟨(Array.getElem?_eq_some_iff.1 h.cel).1, h.red.lt, h.wri.lt⟩
theorem Spc.low {n : Nat} {w w' : World} {S : Sm} (h : Spc w S) (hb : Below n w w') (h1 : S.sp < n ∧ S.sl < n ∧ S.lk < n) (h2 : ∀ x ∈ S.locks, x.1.2 < n) : Spc w' S :=
  ⟨(hb.block _ h1.1).trans h.cel, h.slo.heap (hb.block _ h1.2.1), h.loc.heap (hb.block _ h1.2.2), h.ne, fun x hx => by
    obtain ⟨cs, hc⟩ := h.liv x hx
    exact ⟨cs, (hb.block _ (h2 x hx)).trans hc⟩⟩
theorem Txc.low {n : Nat} {w w' : World} {S : Sm} {T : Tm} (h : Txc w S T) (hb : Below n w w') (h1 : T.t < n ∧ T.rd < n ∧ T.wr < n) : Txc w' S T :=
  ⟨(hb.block _ h1.1).trans h.cel, h.red.heap (hb.block _ h1.2.1), h.wri.heap (hb.block _ h1.2.2), h.ne⟩
theorem Spc.low2 {w : World} {S : Sm} (h : Spc w S) : ∀ x ∈ S.locks, x.1.2 < w.heap.size := fun x hx => by
  obtain ⟨cs, hc⟩ := h.liv x hx
  exact (Array.getElem?_eq_some_iff.1 hc).1
theorem Ended.later {w W W' : World} {S : Sm} {T : Tm} {p : Int} (hS : Spc w S) (hT : Txc w S T) (h : Ended w S T p W) (hb : Below w.heap.size W W') : Ended w S T p W' := by
  obtain ⟨L', h1, h2, h3, h4, h5⟩ := h
  refine ⟨L', h1, h2, h3.low hb hS.lts (fun x hx => hS.low2 x (h1 x hx)), h4.low hb hT.lts, h5.trans (G := fun k => w.heap.size ≤ k) ⟨hb.os, hb.tape, hb.output, hb.size, fun k _ hn => hb.block k (by omega)⟩ (fun i hi h => by omega)⟩

/-- Locks with those of t under the names that went by. -/
def Lkd (L : List El) (t : Nat) (pre : List Eb) (L' : List El) : Prop :=
  (∀ k, ((∃ x ∈ pre, Eb.ky x = k) → ∃ y, fnd El.ky L' k = some y ∧ y.1.2 = t) ∧ (¬ (∃ x ∈ pre, Eb.ky x = k) → fnd El.ky L' k = fnd El.ky L k)) ∧ (∀ y ∈ L', y.1.2 = t ∨ y ∈ L) ∧ L'.length ≤ L.length + pre.length
/-- What is behind Lock that went well. -/
def Locked (w : World) (S : Sm) (T : Tm) (w' : World) : Prop := ∃ L', Lkd S.locks T.t T.writes L' ∧ Spc w' { S with locks := L' } ∧ Txc w' { S with locks := L' } { T with ph := 1 } ∧ Part (fun b => b = S.lk ∨ b = T.t) w w'
/-- No name that is written is taken. -/
def tks (S : Sm) (T : Tm) : Bool := T.writes.any (fun x => tkn S T x.ky)
theorem Lkd.start (L : List El) (t : Nat) : Lkd L t [] L := ⟨fun k => ⟨fun ⟨x, h, _⟩ => (by cases h), fun _ => rfl⟩, fun y h => .inr h, Nat.le_add_right _ _⟩
theorem Lkd.step {L : List El} {t : Nat} {pre : List Eb} {L' : List El} (h : Lkd L t pre L') (x : Eb) (y : El) (h1 : y.ky = x.ky) (h2 : y.1.2 = t) : Lkd L t (pre ++ [x]) (putT El.ky L' y) := by
  refine ⟨fun k => ?_, fun z hz => ?_, ?_⟩
  · obtain ⟨a, b⟩ := h.1 k
    rw [fnd_put]
    by_cases e : y.ky = k
    · rw [if_pos e]
      exact ⟨fun _ => ⟨y, rfl, h2⟩, fun hn => absurd ⟨x, List.mem_append_right _ (List.mem_singleton.2 rfl), h1.symm.trans e⟩ hn⟩
    · rw [if_neg e]
      refine ⟨fun ⟨z, hz, ez⟩ => ?_, fun hn => b (fun ⟨z, hz, ez⟩ => hn ⟨z, List.mem_append_left _ hz, ez⟩)⟩
      rcases List.mem_append.1 hz with hz | hz
      · exact a ⟨z, hz, ez⟩
      · obtain rfl : z = x := by simpa using hz
        exact absurd (h1.trans ez) e
  · rcases mem_put hz with rfl | hz
    · exact .inl h2
    · exact h.2.1 z hz
  · have := putT_len (ky := El.ky) L' y
    have := h.2.2
    rw [List.length_append, List.length_singleton]
    omega
theorem Lkd.perm {L : List El} {t : Nat} {p q : List Eb} {L' : List El} (h : Lkd L t p L') (hp : p.Perm q) : Lkd L t q L' := by
  have hm : ∀ k, (∃ x ∈ q, Eb.ky x = k) ↔ ∃ x ∈ p, Eb.ky x = k := fun k => ⟨fun ⟨x, hx, e⟩ => ⟨x, hp.mem_iff.2 hx, e⟩, fun ⟨x, hx, e⟩ => ⟨x, hp.mem_iff.1 hx, e⟩⟩
  refine ⟨fun k => ?_, h.2.1, by have := h.2.2; rw [hp.length_eq] at this; exact this⟩
  rw [hm]
  exact h.1 k
theorem t_lock {w : World} {S : Sm} {T : Tm} (hS : Spc w S) (hT : Txc w S T) (hl : T.writes.length ≤ 1099511627776) (hll : S.locks.length ≤ 1099511627776) (hp0 : T.ph = 0) :
    Calls Try.prog 17 #[.pointer (some ⟨T.t, 0, none⟩)] w fun e w' => (tks S T = true → e = .returned (.int .i64 180) ∧ Hid (Ended w S T 4 w')) ∧ (tks S T = false → e = .returned (.int .i64 0) ∧ Hid (Locked w S T w')) := by
  obtain ⟨w0, hw0⟩ : ∃ w0, w0 = (w.alloc (.cells #[.pointer (some ⟨T.t, 0, none⟩)] 33)).alloc (.cells #[.int .i64 0] 24) := ⟨_, rfl⟩
  obtain ⟨w1, hw1⟩ : ∃ w1, w1 = w0.alloc (.cells #[.int .i64 0] 3) := ⟨_, rfl⟩
  obtain ⟨w2, hw2⟩ : ∃ w2, w2 = w1.alloc (.cells #[.map (some T.wr)] 28) := ⟨_, rfl⟩
  have hs0 : w0.heap.size = w.heap.size + 2 := by rw [hw0]; simp
  have hs1 : w1.heap.size = w.heap.size + 3 := by rw [hw1]; simp [hs0]
  have hs2 : w2.heap.size = w.heap.size + 4 := by rw [hw2]; simp [hs1]
  have hB0 : Below w.heap.size w w0 := by rw [hw0]; exact ((Below.refl _ w).alloc (Nat.le_refl _) _).alloc (by simp) _
  have hB01 : Below w0.heap.size w0 w1 := by rw [hw1]; exact (Below.refl _ w0).alloc (Nat.le_refl _) _
  have hB1 : Below w.heap.size w w1 := hB0.trans (hB01.mono hB0.size)
  have hB12 : Below w1.heap.size w1 w2 := by rw [hw2]; exact (Below.refl _ w1).alloc (Nat.le_refl _) _
  have hB : Below w.heap.size w w2 := hB1.trans (hB12.mono hB1.size)
  have c3 := (hT.below hB1).c3
  have HM := Eb.mk T.wr w1
  have hS2 := hS.below hB
  have hT2 := hT.below hB
  have hbx0 : w0.heap[w.heap.size]? = some (.cells #[.pointer (some ⟨T.t, 0, none⟩)] 33 (0, 0)) := by
    rw [hw0, Below.heap_alloc _ _ _ (by simp)]
    exact World.alloc_heap_new w _
  have hbr0 : w0.heap[w.heap.size + 1]? = some (.cells #[.int .i64 0] 24 (0, 0)) := by
    have := World.alloc_heap_new (w.alloc (.cells #[.pointer (some ⟨T.t, 0, none⟩)] 33)) (.cells #[.int .i64 0] 24)
    rw [World.size_alloc, ← hw0] at this
    exact this
  have hbx1 := (hB01.block w.heap.size (by omega)).trans hbx0
  have hbx : w2.heap[w.heap.size]? = some (.cells #[.pointer (some ⟨T.t, 0, none⟩)] 33 (0, 0)) := (hB12.block _ (by omega)).trans hbx1
  have hbr : w2.heap[w.heap.size + 1]? = some (.cells #[.int .i64 0] 24 (0, 0)) := (hB12.block _ (by omega)).trans ((hB01.block _ (by omega)).trans hbr0)
  have hbm : w2.heap[w.heap.size + 3]? = some (.cells #[.map (some T.wr)] 28 (0, 0)) := by
    have := World.alloc_heap_new w1 (.cells #[.map (some T.wr)] 28)
    rw [← hw2, hs1] at this
    exact this
  have hph : w1.heap[w.heap.size + 2]? = some (.cells #[.int .i64 0] 3 (0, 0)) := by
    have := World.alloc_heap_new w0 (.cells #[.int .i64 0] 3)
    rw [← hw1, hs0] at this
    exact this
  have cx0 : w0.cell? ⟨w.heap.size, 0, none⟩ = some (.pointer (some ⟨T.t, 0, none⟩)) := by rw [cells_at hbx0 0]; rfl
  have cx1 : w1.cell? ⟨w.heap.size, 0, none⟩ = some (.pointer (some ⟨T.t, 0, none⟩)) := by rw [cells_at hbx1 0]; rfl
  have HR := t_refuse (hT.below hB1) (w.heap.size + 2) 1 [0] rfl (by decide) (fun j hj => cells_j (ps := [0]) hph j hj)
  have e1 : rf T.ph [0] = 0 := by unfold rf; simp [hp0]
  rw [e1] at HR
  refine (callsIn_wide (n := 8)).1 ?_
  have hro : Fence.wide.round = none := rfl
  have h1' : 1 ≤ 8 := by decide
  refine callsIn_of_wp_marks Try.func17 rfl trivial ?_ hro
  simp only [Try.ntmps17, List.size_toArray, List.length_cons, List.length_nil, Nat.reduceAdd, Nat.reduceSub, Array.replicate_succ, Array.replicate_zero, List.push_toArray, List.append_toArray, List.nil_append, List.cons_append]
  rw [hs1, ← hw2] at HM
  rw [hw1, hw0] at c3 HM cx1 HR
  rw [hw0] at cx0
  clear hw1 hw2 hw0 hs1 hs0 hbx0 hbr0 hbx1 hph e1
  gi_wp2_with (first | (refine ⟨trivial, ?_⟩; gi_at_call 38; refine (callsIn_wide.2 HR).mono ?_; rintro e w' ⟨rfl, rfl⟩) | (refine ⟨trivial, ?_⟩; gi_at_call 33; refine (callsIn_wide.2 HM).mono ?_; rintro e w' ⟨rfl, rfl⟩))
  clear HM c3 cx0 cx1 HR
  refine wpIn_rangeFunc_ownG hro h1' (gf := 45) (lb := #[.pointer (some ⟨w.heap.size + 3, 0, none⟩)]) rfl trivial (enters_of Try.func45 (by kernel_rfl) rfl)
    (Eb.stops (8 - 1) (by decide) (w.heap.size + 3) T.wr T.writes hl _ hbm hT2.wri) Kq.trans (Kq.put (by rw [hs2]; omega) hT2.wri.lt) (Below.refl _ _) (fun _ => rfl)
    (fun pre W => (∀ x ∈ pre, tkn S T (Eb.ky x) = false) ∧ Below w'.heap.size w' W)
    (fun c pre W => c = .ret ∧ (∃ x ∈ pre, tkn S T (Eb.ky x) = true) ∧ Ended w S T 4 W ∧ w.heap.size + 4 ≤ W.heap.size ∧ W.heap[w.heap.size + 1]? = some (.cells #[.int .i64 180] 24 (0, 0)))
    (fun s A B row hs hg hr => ?own)
    (fun c s A B row hs hg hr => ?ownx)
    ⟨fun _ h => (by cases h), Below.refl _ _⟩
    (fun x => { tmps := #[.pointer (some ⟨T.t, 0, none⟩), .pointer (some ⟨w.heap.size, 0, none⟩), .pointer (some ⟨w.heap.size + 1, 0, none⟩), .int .i64 0, .string ⟨x.ky.toArray⟩, undef, .pointer (some ⟨T.t, 0, none⟩), .slice (some ⟨w.heap.size + 1 + 1, 0, none⟩) 1 1, .int .i64 0, .int .i64 0, .bool false, undef, .pointer (some ⟨T.t, 0, none⟩), .pointer (some ⟨T.t, 0, none⟩), .pointer (some ⟨T.t, 3, none⟩), .map (some T.wr), .func (.func 45) #[] #[.pointer (some ⟨w.heap.size + 3, 0, none⟩)], .string ⟨x.ky.toArray⟩, x.vl, undef, undef, undef, undef, undef, undef, undef, undef, undef, undef, undef, undef, undef, undef, undef, undef, undef, undef, undef, undef, undef, undef, undef, undef], defers := [] }) ?assign ?body ?done ?stop
  case own => exact ⟨hs.1, hs.2.grown hg hs.2.size (fun k e => (hr k e).1)⟩
  case ownx =>
    obtain ⟨h1, h2, h3, h4, h5⟩ := hs
    have hrow : ∀ k, row = some k → w.heap.size + 4 ≤ k := fun k e => by have := (hr k e).1; omega
    refine ⟨h1, h2, h3.later hS hT ((Below.refl _ A).grown hg (by omega) (fun k e => by have := hrow k e; omega)), Nat.le_trans h4 hg.size, (hg.block _ (Array.getElem?_eq_some_iff.1 h5).1 (fun e => ?_)).trans h5⟩
    have := hrow _ e.symm; omega
  case assign =>
    intro l x W K hK
    gi_wp2
    exact hK
  case body =>
    rintro l pre x W ⟨hp, hBW⟩ hlen
    have hsW := hBW.size
    have hsz : (⟨x.ky.toArray⟩ : ByteArray).size ≤ maxLen := by show x.ky.toArray.size ≤ _; simpa using x.short
    have hSW := hS2.below hBW
    have hTW := hT2.below hBW
    have hBwW : Below w.heap.size w W := hB.trans (hBW.mono hB.size)
    have HT : Calls Try.prog 35 #[.pointer (some ⟨T.t, 0, none⟩), .string ⟨x.ky.toArray⟩] W fun e w' => e = .returned (.bool (tkn S T x.ky)) ∧ w' = W := t_taken hSW hTW ⟨x.ky.toArray⟩ hsz
    have HC := t_clash hSW hTW hl
    have hbW : W.heap[w.heap.size]? = some (.cells #[.pointer (some ⟨T.t, 0, none⟩)] 33 (0, 0)) := (hBW.block _ (by omega)).trans hbx
    have hrW : W.heap[w.heap.size + 1]? = some (.cells #[.int .i64 0] 24 (0, 0)) := (hBW.block _ (by omega)).trans hbr
    have cb : W.cell? ⟨w.heap.size, 0, none⟩ = some (.pointer (some ⟨T.t, 0, none⟩)) := by rw [cells_at hbW 0]; rfl
    cases ht : tkn S T x.ky with
    | true =>
      rw [ht] at HT
      have HST : ∀ W1, Hid (Ended W S T 4 W1) → W1.cell? ⟨w.heap.size + 1, 0, none⟩ = some (.int .i64 0) ∧ W1.frozen? ⟨w.heap.size + 1, 0, none⟩ = false ∧ Hid (KeepsFrom w'.heap.size W (W1.setCell ⟨w.heap.size + 1, 0, none⟩ (.int .i64 180)) ∧ (∃ z ∈ pre ++ [x], tkn S T (Eb.ky z) = true) ∧ Ended w S T 4 (W1.setCell ⟨w.heap.size + 1, 0, none⟩ (.int .i64 180)) ∧ w.heap.size + 4 ≤ (W1.setCell ⟨w.heap.size + 1, 0, none⟩ (.int .i64 180)).heap.size ∧ (W1.setCell ⟨w.heap.size + 1, 0, none⟩ (.int .i64 180)).heap[w.heap.size + 1]? = some (.cells #[.int .i64 180] 24 (0, 0))) := by
        intro W1 hE
        have hE := hE.out
        obtain ⟨L', h1, h2, h3, h4, h5⟩ := hE
        have hlk := hS.lts.2.2
        have htt := hT.lts.1
        have hr1 := (h5.block _ (Array.getElem?_eq_some_iff.1 hrW).1 (fun h => by omega)).trans hrW
        have hss : (W1.setCell ⟨w.heap.size + 1, 0, none⟩ (.int .i64 180)).heap.size = W1.heap.size := by simp [World.setCell]
        have h6 := h5.size
        refine ⟨by rw [cells_at hr1 0]; rfl, cells_free hr1 0, ⟨by rw [hss]; exact h6, fun k o hk ho hc => ?_⟩, ⟨x, List.mem_append_right _ (List.mem_singleton.2 rfl), ht⟩, ?_, by rw [hss]; omega, heap_set_at (i := 0) hr1 (.int .i64 180)⟩
        · exact (heap_set_other W1 (by omega) 0 _).trans ((h5.block k (Array.getElem?_eq_some_iff.1 ho).1 (fun h => by omega)).trans ho)
        · have hEw : Ended w S T 4 W1 := ⟨L', h1, h2, h3, h4, (Part.ofBelow hBwW).trans h5 (fun _ _ h => h)⟩
          exact hEw.later hS hT ((Below.refl _ W1).setCell (p := ⟨w.heap.size + 1, 0, none⟩) (by show w.heap.size ≤ w.heap.size + 1; omega) _)
      clear hSW hTW hbW hrW hp hBW hS hT hS2 hT2 hB hB1 hB12 hB0 hB01 hbx hbr hbm ht hBwW
      gi_wp2_with (first | (refine ⟨trivial, ?_⟩; gi_at_call 35; refine (CallsIn.inRound l (callsIn_wide.2 HT)).mono ?_; rintro e W1 ⟨rfl, rfl⟩) | (refine ⟨trivial, ?_⟩; gi_at_call 37; refine (CallsIn.inRound l (callsIn_wide.2 HC)).mono ?_; rintro e W2 ⟨rfl, hE⟩; obtain ⟨cr, fr, HE⟩ := HST W2 hE))
      exact ⟨HE.out.1, rfl, HE.out.2⟩
    | false =>
      rw [ht] at HT
      have HE : Hid (KeepsFrom w'.heap.size W W ∧ Kq (w.heap.size + 3) T.wr W W ∧ (∀ z ∈ pre ++ [x], tkn S T (Eb.ky z) = false) ∧ Below w'.heap.size w' W) := by
        refine ⟨KeepsFrom.refl _ _, Kq.refl _ _ _, fun z hz => ?_, hBW⟩
        rcases List.mem_append.1 hz with hz | hz
        · exact hp z hz
        · obtain rfl : z = x := by simpa using hz
          exact ht
      clear hSW hTW hbW hrW hp hBW hS hT hS2 hT2 hB hB1 hB12 hB0 hB01 hbx hbr hbm ht HC hBwW
      gi_wp2_with (refine ⟨trivial, ?_⟩; gi_at_call 35; refine (CallsIn.inRound l (callsIn_wide.2 HT)).mono ?_; rintro e W1 ⟨rfl, rfl⟩)
      exact HE.out
  case done =>
    rintro D ys W hD hperm ⟨hp, hBW⟩ hK
    have hsW := hBW.size
    have htk : tks S T = false := by
      unfold tks
      rw [List.any_eq_false]
      intro x hx
      rw [hp x (hperm.mem_iff.2 hx)]
      decide
    have hSW := hS2.below hBW
    have hTW := hT2.below hBW
    have hBwW : Below w.heap.size w W := hB.trans (hBW.mono hB.size)
    have hbW : W.heap[w.heap.size]? = some (.cells #[.pointer (some ⟨T.t, 0, none⟩)] 33 (0, 0)) := (hBW.block _ (by omega)).trans hbx
    have hrW : W.heap[w.heap.size + 1]? = some (.cells #[.int .i64 0] 24 (0, 0)) := (hBW.block _ (by omega)).trans hbr
    have cb : W.cell? ⟨w.heap.size, 0, none⟩ = some (.pointer (some ⟨T.t, 0, none⟩)) := by rw [cells_at hbW 0]; rfl
    have c3 := hTW.c3
    obtain ⟨W3, hW3⟩ : ∃ W3, W3 = W.alloc (.cells #[.map (some T.wr)] 28) := ⟨_, rfl⟩
    have hB3 : Below W.heap.size W W3 := by rw [hW3]; exact (Below.refl _ W).alloc (Nat.le_refl _) _
    have hs3 : W3.heap.size = W.heap.size + 1 := by rw [hW3]; simp
    have hbm3 : W3.heap[W.heap.size]? = some (.cells #[.map (some T.wr)] 28 (0, 0)) := by rw [hW3]; exact World.alloc_heap_new W _
    have HM := Eb.mk T.wr W
    rw [← hW3] at HM
    have hS3 := hSW.below hB3
    have hT3 := hTW.below hB3
    have hb3 := (hB3.block _ (Array.getElem?_eq_some_iff.1 hbW).1).trans hbW
    have hr3 := (hB3.block _ (Array.getElem?_eq_some_iff.1 hrW).1).trans hrW
    have hK3 := (hB3.block _ (Array.getElem?_eq_some_iff.1 hK).1).trans hK
    have hDW : D < W.heap.size := (Array.getElem?_eq_some_iff.1 hK).1
    have hBw3 : Below w.heap.size w W3 := hBwW.trans (hB3.mono hBwW.size)
    clear hW3 hSW hTW hbW hrW hK hp hperm hbx hbr hbm hS2 hT2
    gi_wp2_with (refine ⟨trivial, ?_⟩; gi_at_call 33; refine (callsIn_wide.2 HM).mono ?_; rintro e w3 ⟨rfl, rfl⟩)
    clear HM c3 cb
    refine wpIn_rangeFunc_ownG hro h1' (gf := 45) (lb := #[.pointer (some ⟨W.heap.size, 0, none⟩)]) rfl trivial (enters_of Try.func45 (by kernel_rfl) rfl)
      (Eb.stops (8 - 1) (by decide) W.heap.size T.wr T.writes hl _ hbm3 hT3.wri) Kq.trans (Kq.put (by rw [hs3]; omega) hT3.wri.lt) (Below.refl _ _) (fun _ => rfl)
      (fun pre V => (∃ L', Lkd S.locks T.t pre L' ∧ Mp V S.lk (L'.map El.kv)) ∧ Part (fun b => b = S.lk) w3 V)
      (fun _ _ _ => False)
      (fun s A B row hs hg hr => ?own2)
      (fun _ _ _ _ _ hs _ _ => hs)
      ⟨⟨S.locks, Lkd.start _ _, hS3.loc⟩, Part.refl _ _⟩
      (fun x => { tmps := #[.pointer (some ⟨T.t, 0, none⟩), .pointer (some ⟨w.heap.size, 0, none⟩), .pointer (some ⟨w.heap.size + 1, 0, none⟩), .int .i64 0, undef, .string ⟨x.ky.toArray⟩, .pointer (some ⟨T.t, 0, none⟩), .slice (some ⟨w.heap.size + 1 + 1, 0, none⟩) 1 1, .int .i64 0, .int .i64 0, .bool false, undef, .pointer (some ⟨T.t, 0, none⟩), .pointer (some ⟨T.t, 0, none⟩), .pointer (some ⟨T.t, 3, none⟩), .map (some T.wr), .func (.func 45) #[] #[.pointer (some ⟨w.heap.size + 3, 0, none⟩)], undef, undef, undef, undef, undef, undef, undef, .pointer (some ⟨T.t, 0, none⟩), .pointer (some ⟨T.t, 0, none⟩), .pointer (some ⟨T.t, 3, none⟩), .map (some T.wr), .func (.func 45) #[] #[.pointer (some ⟨W.heap.size, 0, none⟩)], .string ⟨x.ky.toArray⟩, x.vl, undef, undef, undef, undef, undef, undef, undef, undef, undef, undef, undef, undef], defers := [] }) ?assign2 ?body2 ?done2 ?stop2
    case own2 =>
      obtain ⟨⟨L', h1, h2⟩, hp⟩ := hs
      have hlk : S.lk < w3.heap.size := hS3.loc.lt
      refine ⟨⟨L', h1, h2.heap (hg.block _ h2.lt (fun e => ?_))⟩, hp.grown hg (fun k e hk => ?_)⟩
      · have := (hr _ e.symm).1; omega
      · have := (hr _ e).1; omega
    case assign2 =>
      intro l x V K hK
      gi_wp2
      exact hK
    case body2 =>
      rintro l pre x V ⟨⟨L', h1, h2⟩, hp⟩ hlen
      obtain ⟨a1, a2⟩ := hS3.apart
      obtain ⟨a3, a4, a5, _, _⟩ := Txc.apart hS3 hT3
      have hlw : S.lk < w.heap.size := hS.loc.lt
      have cb : V.cell? ⟨w.heap.size, 0, none⟩ = some (.pointer (some ⟨T.t, 0, none⟩)) := by
        rw [cells_at ((hp.block _ (Array.getElem?_eq_some_iff.1 hb3).1 (fun e => by omega)).trans hb3) 0]; rfl
      have c0 : V.cell? ⟨T.t, 0, none⟩ = some (.pointer (some ⟨S.sp, 0, none⟩)) := by rw [cells_at ((hp.block _ (Array.getElem?_eq_some_iff.1 hT3.cel).1 a4).trans hT3.cel) 0]; rfl
      have c2 : V.cell? ⟨S.sp, 2, none⟩ = some (.map (some S.lk)) := by rw [cells_at ((hp.block _ (Array.getElem?_eq_some_iff.1 hS3.cel).1 a2).trans hS3.cel) 2]; rfl
      have hsz : (⟨x.ky.toArray⟩ : ByteArray).size ≤ maxLen := by show x.ky.toArray.size ≤ _; simpa using x.short
      have h2d : Mp V.drew S.lk (L'.map El.kv) := h2
      have hkey := key_s ⟨x.ky.toArray⟩ hsz
      have hlen2 : (L'.map El.kv).length < maxLen := by rw [List.length_map]; have := h1.2.2; unfold maxLen; omega
      have HE : ∀ V3, V3.ownsMap Try.prog 9 idR S.lk ((L'.map El.kv).length + 1) ((toD (L'.map El.kv)).put (.string x.ky) (.held (.pointer (some ⟨T.t, 0, none⟩)))) → V.drew.mapTurned V3 S.lk → Hid (KeepsFrom w3.heap.size V V3 ∧ Kq W.heap.size T.wr V V3 ∧ (∃ L', Lkd S.locks T.t (pre ++ [x]) L' ∧ Mp V3 S.lk (L'.map El.kv)) ∧ Part (fun b => b = S.lk) w3 V3) := by
        intro V3 ho3 ht3
        have hpp : Part (fun b => b = S.lk) V V3 := ((Part.refl _ V).drewN 1).trans (turned_part ht3) (fun _ _ h => h)
        have hps := hp.size
        have hwr := hT3.wri.lt
        refine ⟨⟨hpp.size, fun k o hk ho _ => (hpp.block k (Array.getElem?_eq_some_iff.1 ho).1 (fun f => by omega)).trans ho⟩, Kq.part hpp ?_ (fun f => by omega) ?_ (fun f => hT.ne.2.2.2.2 f) (fun g cur z hg f => ?_), ⟨putT El.ky L' ⟨(x.ky, T.t), x.short⟩, h1.step x _ rfl rfl, ?_⟩, hp.trans hpp (fun _ _ h => h)⟩
        · omega
        · omega
        · obtain ⟨es, c, ho⟩ := h2.obj
          rw [f, ho] at hg
          cases hg
        · rw [toD_put] at ho3
          have := Mp.of ho3
          rw [kv_l, putT_map]
          exact this
      clear h2 h1 hp hS3 hT3 hS hT hb3 hr3 hK3 hB hB1 hB12 hB0 hB01 hBW hBwW hBw3 hB3 hbm3
      gi_wp2
      refine round_tail 9 (by kernel_rfl) (by kernel_rfl) (by kernel_rfl) ?_
      simp only [List.take_succ_cons, List.take_zero, List.drop_succ_cons, List.drop_zero]
      repeat still_step
      refine wpStill_nil ?_
      gi_wp2_with (gi_at_mapUpdate; refine wpListIn_mapUpdate_in _ rfl _ _ _ 61 rfl 9 33 law9 Try.underlying61 idR S.lk _ _ rfl h2d hlen2 _ _ _ rfl rfl hkey (.held (.pointer (some ⟨T.t, 0, none⟩))) [] rfl ?_; intro V3 ho3 ht3)
      exact (HE _ ho3 ht3).out
    case done2 =>
      rintro D2 zs V hD2 hperm ⟨⟨L', h1, h2⟩, hp⟩ hK2
      obtain ⟨a1, a2⟩ := hS3.apart
      obtain ⟨a3, a4, a5, a6, a7⟩ := Txc.apart hS3 hT3
      have hlw : S.lk < w.heap.size := hS.loc.lt
      have htw := hT.lts.1
      have hps := hp.size
      have hbV : V.heap[w.heap.size]? = _ := (hp.block _ (Array.getElem?_eq_some_iff.1 hb3).1 (fun e => by omega)).trans hb3
      have hrV : V.heap[w.heap.size + 1]? = _ := (hp.block _ (Array.getElem?_eq_some_iff.1 hr3).1 (fun e => by omega)).trans hr3
      have hTV : V.heap[T.t]? = _ := (hp.block _ (Array.getElem?_eq_some_iff.1 hT3.cel).1 a4).trans hT3.cel
      have hKV : V.heap[D]? = _ := (hp.block _ (Array.getElem?_eq_some_iff.1 hK3).1 (fun e => by omega)).trans hK3
      have cb : V.cell? ⟨w.heap.size, 0, none⟩ = some (.pointer (some ⟨T.t, 0, none⟩)) := by rw [cells_at hbV 0]; rfl
      have c4 : V.cell? ⟨T.t, 4, none⟩ = some (.int .i64 T.ph) := by rw [cells_at hTV 4]; rfl
      have f4 : V.frozen? ⟨T.t, 4, none⟩ = false := cells_free hTV 4
      obtain ⟨V1, hV1⟩ : ∃ V1, V1 = V.setCell ⟨T.t, 4, none⟩ (.int .i64 1) := ⟨_, rfl⟩
      have hrV1 : V1.heap[w.heap.size + 1]? = some (.cells #[.int .i64 0] 24 (0, 0)) := by rw [hV1]; exact (heap_set_other V (by omega) 4 _).trans hrV
      have cr : V1.cell? ⟨w.heap.size + 1, 0, none⟩ = some (.int .i64 0) := by rw [cells_at hrV1 0]; rfl
      have fr : V1.frozen? ⟨w.heap.size + 1, 0, none⟩ = false := cells_free hrV1 0
      have HZ : Hid ((V1.setCell ⟨w.heap.size + 1, 0, none⟩ (.int .i64 0)).heap[D2]? = some (.deferred (some [])) ∧ ((V1.setCell ⟨w.heap.size + 1, 0, none⟩ (.int .i64 0)).putObj D2 (.deferred none)).heap[D]? = some (.deferred (some [])) ∧ (((V1.setCell ⟨w.heap.size + 1, 0, none⟩ (.int .i64 0)).putObj D2 (.deferred none)).putObj D (.deferred none)).cell? ⟨w.heap.size + 1, 0, none⟩ = some (.int .i64 0) ∧ tks S T = false ∧ Locked w S T (((V1.setCell ⟨w.heap.size + 1, 0, none⟩ (.int .i64 0)).putObj D2 (.deferred none)).putObj D (.deferred none))) := by
        have k1 : V1.heap[D2]? = some (.deferred (some [])) := by rw [hV1]; exact (heap_set_other V (by omega) 4 _).trans hK2
        have k2 : (V1.setCell ⟨w.heap.size + 1, 0, none⟩ (.int .i64 0)).heap[D2]? = some (.deferred (some [])) := (heap_set_other V1 (by omega) 0 _).trans k1
        have k3 : V1.heap[D]? = some (.deferred (some [])) := by rw [hV1]; exact (heap_set_other V (by omega) 4 _).trans hKV
        have k4 : (V1.setCell ⟨w.heap.size + 1, 0, none⟩ (.int .i64 0)).heap[D]? = some (.deferred (some [])) := (heap_set_other V1 (by omega) 0 _).trans k3
        have k5 := heap_set_at (i := 0) hrV1 (.int .i64 0)
        have hoth : ∀ b, b < w.heap.size → (((V1.setCell ⟨w.heap.size + 1, 0, none⟩ (.int .i64 0)).putObj D2 (.deferred none)).putObj D (.deferred none)).heap[b]? = V1.heap[b]? := fun b hb => (World.putObj_heap_other (by omega)).trans ((World.putObj_heap_other (by omega)).trans (heap_set_other V1 (by omega) 0 _))
        have hoth2 : ∀ b, b < w.heap.size → b ≠ T.t → (((V1.setCell ⟨w.heap.size + 1, 0, none⟩ (.int .i64 0)).putObj D2 (.deferred none)).putObj D (.deferred none)).heap[b]? = V.heap[b]? := fun b hb hne => (hoth b hb).trans (by rw [hV1]; exact heap_set_other V hne 4 _)
        have hself : (((V1.setCell ⟨w.heap.size + 1, 0, none⟩ (.int .i64 0)).putObj D2 (.deferred none)).putObj D (.deferred none)).heap[T.t]? = some (.cells #[.pointer (some ⟨S.sp, 0, none⟩), .int .i64 T.time, .map (some T.rd), .map (some T.wr), .int .i64 1] 67 (0, 0)) := by
          rw [hoth _ htw, hV1]
          exact heap_set_at (i := 4) hTV (.int .i64 1)
        have hpt : Part (fun b => b = S.lk ∨ b = T.t) w (((V1.setCell ⟨w.heap.size + 1, 0, none⟩ (.int .i64 0)).putObj D2 (.deferred none)).putObj D (.deferred none)) := by
          have h5 : Part (fun b => b = S.lk ∨ b = T.t) w V := (Part.ofBelow hBw3).trans (hp.mono (fun _ _ h => Or.inl (b := _ = T.t) h)) (fun _ _ h => h)
          have h6 : Part (fun b => b = S.lk ∨ b = T.t) w V1 := by rw [hV1]; exact h5.setCell (p := ⟨T.t, 4, none⟩) (fun _ => .inr rfl) _
          have h7 := h6.setCell (p := ⟨w.heap.size + 1, 0, none⟩) (fun h => by have h : w.heap.size + 1 < w.heap.size := h; omega) (.int .i64 0)
          exact (h7.grown (grownBy_putObj' _ D2 _) (fun k e hk => by cases e; omega)).grown (grownBy_putObj' _ D _) (fun k e hk => by cases e; omega)
        have hlts := hS.lts
        have hltt := hT.lts
        refine ⟨k2, (World.putObj_heap_other (by omega)).trans k4, ?_, htk, L', h1.perm hperm, ⟨?_, ?_, ?_, hS.ne, ?_⟩, ⟨hself, ?_, ?_, hT.ne⟩, hpt⟩
        · rw [cells_at ((World.putObj_heap_other (by omega)).trans ((World.putObj_heap_other (by omega)).trans k5)) 0]; rfl
        · exact (hpt.block _ hlts.1 (fun h => h.elim a2 (fun e => a5 e.symm))).trans hS.cel
        · exact hS.slo.part hpt (fun h => h.elim hS.ne (fun e => a3 e.symm))
        · exact h2.heap (hoth2 _ hlw (fun e => a4 e.symm))
        · intro y hy
          by_cases e1 : y.1.2 = T.t
          · rw [e1]; exact ⟨_, hself⟩
          · obtain ⟨cs, hcs⟩ := hS.liv y ((h1.2.1 y hy).resolve_left e1)
            refine ⟨cs, (hpt.block _ (Array.getElem?_eq_some_iff.1 hcs).1 (fun h => h.elim (fun e2 => ?_) e1)).trans hcs⟩
            obtain ⟨es, c, ho⟩ := hS.loc.obj
            rw [e2, ho] at hcs
            cases hcs
        · exact hT.red.part hpt (fun h => h.elim hT.ne.2.2.1 (fun e => a6 e.symm))
        · exact hT.wri.part hpt (fun h => h.elim hT.ne.2.2.2.2 (fun e => a7 e.symm))
      rw [hV1] at cr fr HZ
      clear h2 h1 hp hS3 hT3 hS hT hb3 hr3 hK3 hB hB1 hB12 hB0 hB01 hBW hBwW hBw3 hB3 hbm3 hbV hrV hTV hKV hK2 hV1 hrV1 hperm
      gi_wp2
      refine ⟨by simp, .inl ⟨_, _, rfl, run_takeDeferred HZ.out.1, ⟨by simp, .inl ⟨_, _, rfl, run_takeDeferred HZ.out.2.1, ?_⟩⟩⟩⟩
      have hc := HZ.out.2.2.1
      exact ⟨.int .i64 0, by simp [results, Try.results17, go_sem, hc], fun h => (by rw [HZ.out.2.2.2.1] at h; cases h), fun _ => ⟨rfl, HZ.out.2.2.2.2⟩⟩
    case stop2 =>
      rintro D c pre V _ _ h _
      exact h.elim
  case stop =>
    rintro D c pre W hD ⟨suf, hsuf⟩ ⟨rfl, ⟨x, hx, hxs⟩, hE, hsW, hres⟩ hK
    have hst : tks S T = true := by
      unfold tks
      rw [List.any_eq_true]
      exact ⟨x, hsuf.mem_iff.1 (List.mem_append_left _ hx), hxs⟩
    have HZ : Hid ((W.putObj D (.deferred none)).cell? ⟨w.heap.size + 1, 0, none⟩ = some (.int .i64 180) ∧ tks S T = true ∧ Ended w S T 4 (W.putObj D (.deferred none))) := by
      refine ⟨?_, hst, hE.later hS hT (belowK_b (w := w) (Nat.le_refl _) _ D _ _ (by omega) hK rfl rfl)⟩
      rw [cells_at ((World.putObj_heap_other (by omega)).trans hres) 0]; rfl
    clear hS hT hS2 hT2 hB hB1 hB12 hB0 hB01 hbx hbr hbm hst hD hx hxs hsuf hE hres
    gi_wp2
    refine ⟨by simp, .inl ⟨_, _, rfl, run_takeDeferred hK, ?_⟩⟩
    have hc := HZ.out.1
    exact ⟨.int .i64 180, by simp [results, Try.results17, go_sem, hc], fun _ => ⟨rfl, HZ.out.2.2⟩, fun h => by rw [HZ.out.2.1] at h; cases h⟩
end Go.Proofs.Ytdackomidfofgaa
