/-
  Transactions: clash, Abort; isStale: whether something that was read is locked by another one, or newer.
-/
import Derived.Test.YtdackomidfofgaaStE
namespace Go.Proofs.Ytdackomidfofgaa
open Go.RowKit Go.Maps Go.Shelf
set_option linter.unusedVariables false
attribute [local go_sem] Oper.semAt_some
set_option maxRecDepth 100000
set_option maxHeartbeats 2000000

/-- What is behind end. -/
def Ended (w : World) (S : Sm) (T : Tm) (p : Int) (w' : World) : Prop := ∃ L', (∀ x ∈ L', x ∈ S.locks) ∧ Fr S.locks T.t T.writes L' ∧ Spc w' { S with locks := L' } ∧ Txc w' { S with locks := L' } { T with ph := p } ∧ Part (fun b => b = S.lk ∨ b = T.t) w w'
theorem Ended.from {w w1 w' : World} {S : Sm} {T : Tm} {p : Int} (hB : Below w.heap.size w w1) (h : Ended w1 S T p w') : Ended w S T p w' := by
  obtain ⟨L', h1, h2, h3, h4, h5⟩ := h
  exact ⟨L', h1, h2, h3, h4, (Part.ofBelow hB).trans h5 (fun _ _ h => h)⟩
theorem t_clash {w : World} {S : Sm} {T : Tm} (hS : Spc w S) (hT : Txc w S T) (hl : T.writes.length ≤ 1099511627776) :
    Calls Try.prog 37 #[.pointer (some ⟨T.t, 0, none⟩)] w fun e w' => e = .returned (.int .i64 180) ∧ Hid (Ended w S T 4 w') := by
  have HE := t_end hS hT 4 hl
  clear hS hT
  go_enter Try.func37, Try.ntmps37
  go_wp2_with (go_at_call 40; refine HE.mono ?_; rintro e w' ⟨rfl, h⟩)
  go_ret
  exact ⟨rfl, h⟩
theorem cells_j {w : World} {g : Nat} {ps : List Int} (h : w.heap[g]? = some (.cells (ps.map (Value.int .i64)).toArray 3 (0, 0))) (j : Nat) (hj : j < ps.length) : w.cell? ⟨g, j, none⟩ = some (.int .i64 (ps.getD j 0)) := by
  rw [cells_at h j]
  simp [List.getD, List.getElem?_eq_getElem hj]
theorem t_abort {w : World} {S : Sm} {T : Tm} (hS : Spc w S) (hT : Txc w S T) (hl : T.writes.length ≤ 1099511627776) :
    Calls Try.prog 25 #[.pointer (some ⟨T.t, 0, none⟩)] w fun e w' => (T.ph ∈ [(0 : Int), 1, 2] → e = .returned (.int .i64 0) ∧ Hid (Ended w S T 4 w')) ∧ (T.ph ∉ [(0 : Int), 1, 2] → e = .returned (.int .i64 3) ∧ Below w.heap.size w w') := by
  have hB : Below w.heap.size w (w.alloc (.cells #[.int .i64 0, .int .i64 1, .int .i64 2] 3)) := (Below.refl _ w).alloc (Nat.le_refl _) _
  have HR := t_refuse (hT.below hB) w.heap.size 3 [0, 1, 2] rfl (by decide) (fun j hj => cells_j (ps := [0, 1, 2]) (World.alloc_heap_new w (.cells #[.int .i64 0, .int .i64 1, .int .i64 2] 3)) j hj)
  have HE := t_end (hS.below hB) (hT.below hB) 4 hl
  have HB : Hid (Below w.heap.size w (w.alloc (.cells #[.int .i64 0, .int .i64 1, .int .i64 2] 3))) := hB
  clear hB
  by_cases hp : T.ph ∈ [(0 : Int), 1, 2]
  · have e1 : rf T.ph [0, 1, 2] = 0 := if_pos hp
    have HP : Hid (T.ph ∈ [(0 : Int), 1, 2]) := hp
    rw [e1] at HR
    clear hS hT hp e1
    go_enter Try.func25, Try.ntmps25
    go_wp2_with (first | (go_at_call 38; refine HR.mono ?_; rintro e w' ⟨rfl, rfl⟩) | (go_at_call 40; refine HE.mono ?_; rintro e w' ⟨rfl, h⟩))
    go_ret
    exact ⟨fun _ => ⟨rfl, Ended.from HB.out h⟩, fun hn => absurd HP.out hn⟩
  · have e1 : rf T.ph [0, 1, 2] = 3 := if_neg hp
    have HP : Hid (T.ph ∉ [(0 : Int), 1, 2]) := hp
    rw [e1] at HR
    clear hS hT hp e1 HE
    go_enter Try.func25, Try.ntmps25
    go_wp2_with (go_at_call 38; refine HR.mono ?_; rintro e w' ⟨rfl, rfl⟩)
    go_ret
    exact ⟨fun hn => absurd hn HP.out, fun _ => ⟨rfl, HB.out⟩⟩

/-- A name that was read is stale. -/
def sty (S : Sm) (T : Tm) (k : List UInt8) : Bool := tkn S T k || decide (T.time < (slt S k).1)
def stl (S : Sm) (T : Tm) : Bool := T.reads.any (fun x => sty S T x.ky)
theorem Kq.below {Bx b : Nat} {W W' : World} (h : Below W.heap.size W W') (h1 : Bx < W.heap.size) (h2 : b < W.heap.size) : Kq Bx b W W' := Kq.part (F := fun _ => False) (.ofBelow h) h1 id h2 id (fun _ _ _ _ h => h)
theorem keeps_below {B : Nat} {W W' : World} (h : Below W.heap.size W W') : KeepsFrom B W W' := ⟨h.size, fun k o _ ho _ => (h.block k (Array.getElem?_eq_some_iff.1 ho).1).trans ho⟩
theorem t_stale {w : World} {S : Sm} {T : Tm} (hS : Spc w S) (hT : Txc w S T) (hl : T.reads.length ≤ 1099511627776) :
    Calls Try.prog 39 #[.pointer (some ⟨T.t, 0, none⟩)] w fun e w' => e = .returned (.bool (stl S T)) ∧ Below w.heap.size w w' := by
  obtain ⟨w1, hw1⟩ : ∃ w1, w1 = (w.alloc (.cells #[.pointer (some ⟨T.t, 0, none⟩)] 33)).alloc (.cells #[.bool false] 4) := ⟨_, rfl⟩
  obtain ⟨w2, hw2⟩ : ∃ w2, w2 = w1.alloc (.cells #[.map (some T.rd)] 65) := ⟨_, rfl⟩
  have hB1 : Below w.heap.size w w1 := by rw [hw1]; exact ((Below.refl _ w).alloc (Nat.le_refl _) _).alloc (by simp) _
  have hs1 : w1.heap.size = w.heap.size + 2 := by rw [hw1]; simp
  have hs2 : w2.heap.size = w.heap.size + 3 := by rw [hw2]; simp [hs1]
  have hB2 : Below w1.heap.size w1 w2 := by rw [hw2]; exact (Below.refl _ w1).alloc (Nat.le_refl _) _
  have hB : Below w.heap.size w w2 := hB1.trans (hB2.mono hB1.size)
  have c2 := (hT.below hB1).c2
  have HM := Eu.mk T.rd w1
  have hS2 := hS.below hB
  have hT2 := hT.below hB
  have hbx1 : w1.heap[w.heap.size]? = some (.cells #[.pointer (some ⟨T.t, 0, none⟩)] 33 (0, 0)) := by
    rw [hw1, Below.heap_alloc _ _ _ (by simp)]
    exact World.alloc_heap_new w _
  have hbx : w2.heap[w.heap.size]? = some (.cells #[.pointer (some ⟨T.t, 0, none⟩)] 33 (0, 0)) := (hB2.block _ (by omega)).trans hbx1
  have hbr : w2.heap[w.heap.size + 1]? = some (.cells #[.bool false] 4 (0, 0)) := by
    rw [hB2.block _ (by omega), hw1]
    have := World.alloc_heap_new (w.alloc (.cells #[.pointer (some ⟨T.t, 0, none⟩)] 33)) (.cells #[.bool false] 4)
    rw [World.size_alloc] at this
    exact this
  have hbm : w2.heap[w.heap.size + 2]? = some (.cells #[.map (some T.rd)] 65 (0, 0)) := by
    have := World.alloc_heap_new w1 (.cells #[.map (some T.rd)] 65)
    rw [← hw2, hs1] at this
    exact this
  have cx1 : w1.cell? ⟨w.heap.size, 0, none⟩ = some (.pointer (some ⟨T.t, 0, none⟩)) := by rw [cells_at hbx1 0]; rfl
  refine (callsIn_wide (n := 8)).1 ?_
  have hro : Fence.wide.round = none := rfl
  have h1' : 1 ≤ 8 := by decide
  refine callsIn_of_wp_marks Try.func39 rfl trivial ?_ hro
  simp only [Try.ntmps39, List.size_toArray, List.length_cons, List.length_nil, Nat.reduceAdd, Nat.reduceSub, Array.replicate_succ, Array.replicate_zero, List.push_toArray, List.append_toArray, List.nil_append, List.cons_append]
  rw [hs1, ← hw2] at HM
  rw [hw1] at c2 HM cx1
  clear hw1 hw2 hs1 hbx1
  gi_wp2_with (refine ⟨trivial, ?_⟩; gi_at_call 44; refine (callsIn_wide.2 HM).mono ?_; rintro e w' ⟨rfl, rfl⟩)
  clear HM c2 cx1
  refine wpIn_rangeFunc_ownG hro h1' (gf := 48) (lb := #[.pointer (some ⟨w.heap.size + 2, 0, none⟩)]) rfl trivial (enters_of Try.func48 (by kernel_rfl) rfl)
    (Eu.stops (8 - 1) (by decide) (w.heap.size + 2) T.rd T.reads hl _ hbm hT2.red) Kq.trans (Kq.put (by rw [hs2]; omega) hT2.red.lt) (Below.refl _ _) (fun _ => rfl)
    (fun pre W => (∀ x ∈ pre, sty S T (Eu.ky x) = false) ∧ Below w'.heap.size w' W)
    (fun c pre W => c = .ret ∧ (∃ x ∈ pre, sty S T (Eu.ky x) = true) ∧ Below (w.heap.size + 1) w' W ∧ W.heap[w.heap.size + 1]? = some (.cells #[.bool true] 4 (0, 0)))
    (fun s A B row hs hg hr => ?own)
    (fun c s A B row hs hg hr => ?ownx)
    ⟨fun _ h => (by cases h), Below.refl _ _⟩
    (fun x => { tmps := #[.pointer (some ⟨T.t, 0, none⟩), .pointer (some ⟨w.heap.size, 0, none⟩), .pointer (some ⟨w.heap.size + 1, 0, none⟩), .string ⟨x.ky.toArray⟩, .pointer (some ⟨T.t, 0, none⟩), .pointer (some ⟨T.t, 0, none⟩), .pointer (some ⟨T.t, 2, none⟩), .map (some T.rd), .func (.func 48) #[] #[.pointer (some ⟨w.heap.size + 2, 0, none⟩)], .string ⟨x.ky.toArray⟩, x.vl, undef, undef, undef, undef, undef, undef, undef, undef], defers := [] }) ?assign ?body ?done ?stop
  case own => exact ⟨hs.1, hs.2.grown hg hs.2.size (fun k e => (hr k e).1)⟩
  case ownx =>
    obtain ⟨h1, h2, h3, h4⟩ := hs
    refine ⟨h1, h2, h3.grown hg ?_ (fun k e => ?_), (hg.block _ (Array.getElem?_eq_some_iff.1 h4).1 (fun e => ?_)).trans h4⟩
    · have := h3.size; omega
    · have := (hr k e).1; omega
    · have := (hr _ e.symm).1; omega
  case assign =>
    intro l x W K hK
    gi_wp2
    exact hK
  case body =>
    rintro l pre x W ⟨hp, hBW⟩ hlen
    have hsW := hBW.size
    have hsz : (⟨x.ky.toArray⟩ : ByteArray).size ≤ maxLen := by show x.ky.toArray.size ≤ _; simpa using x.short
    have hSW := hS2.below hBW
    have hTW := hT2.below hBW
    have HT : Calls Try.prog 35 #[.pointer (some ⟨T.t, 0, none⟩), .string ⟨x.ky.toArray⟩] W fun e w' => e = .returned (.bool (tkn S T x.ky)) ∧ w' = W := t_taken hSW hTW ⟨x.ky.toArray⟩ hsz
    have HN : Calls Try.prog 36 #[.pointer (some ⟨T.t, 0, none⟩), .string ⟨x.ky.toArray⟩] W fun e w' => e = .returned (.bool (decide (T.time < (slt S x.ky).1))) ∧ Below W.heap.size W w' := t_newer hSW hTW ⟨x.ky.toArray⟩ hsz
    have hbW : W.heap[w.heap.size]? = some (.cells #[.pointer (some ⟨T.t, 0, none⟩)] 33 (0, 0)) := (hBW.block _ (by omega)).trans hbx
    have hrW : W.heap[w.heap.size + 1]? = some (.cells #[.bool false] 4 (0, 0)) := (hBW.block _ (by omega)).trans hbr
    have cb : W.cell? ⟨w.heap.size, 0, none⟩ = some (.pointer (some ⟨T.t, 0, none⟩)) := by rw [cells_at hbW 0]; rfl
    have HST : ∀ W1, Below W.heap.size W W1 → sty S T x.ky = true → W1.cell? ⟨w.heap.size + 1, 0, none⟩ = some (.bool false) ∧ W1.frozen? ⟨w.heap.size + 1, 0, none⟩ = false ∧ Hid (KeepsFrom w'.heap.size W (W1.setCell ⟨w.heap.size + 1, 0, none⟩ (.bool true)) ∧ Code.ret = Code.ret ∧ (∃ z ∈ pre ++ [x], sty S T (Eu.ky z) = true) ∧ Below (w.heap.size + 1) w' (W1.setCell ⟨w.heap.size + 1, 0, none⟩ (.bool true)) ∧ (W1.setCell ⟨w.heap.size + 1, 0, none⟩ (.bool true)).heap[w.heap.size + 1]? = some (.cells #[.bool true] 4 (0, 0))) := by
      intro W1 hb1 hst
      have hr1 := (hb1.block _ (Array.getElem?_eq_some_iff.1 hrW).1).trans hrW
      refine ⟨by rw [cells_at hr1 0]; rfl, cells_free hr1 0, ⟨?_, ?_⟩, rfl, ⟨x, List.mem_append_right _ (List.mem_singleton.2 rfl), hst⟩, ?_, heap_set_at (i := 0) hr1 (.bool true)⟩
      · show W.heap.size ≤ _
        have := hb1.size
        simpa [World.setCell] using this
      · intro k o hk ho hc
        exact (heap_set_other W1 (by omega) 0 _).trans ((hb1.block k (Array.getElem?_eq_some_iff.1 ho).1).trans ho)
      · exact ((hBW.mono (by omega)).trans (hb1.mono (by omega))).setCell (p := ⟨w.heap.size + 1, 0, none⟩) (by show w.heap.size + 1 ≤ w.heap.size + 1; omega) _
    have HGO : ∀ W1, Below W.heap.size W W1 → sty S T x.ky = false → Hid (KeepsFrom w'.heap.size W W1 ∧ Kq (w.heap.size + 2) T.rd W W1 ∧ (∀ z ∈ pre ++ [x], sty S T (Eu.ky z) = false) ∧ Below w'.heap.size w' W1) := by
      intro W1 hb1 hst
      refine ⟨keeps_below hb1, .below hb1 (by omega) hTW.red.lt, fun z hz => ?_, hBW.trans (hb1.mono hsW)⟩
      rcases List.mem_append.1 hz with hz | hz
      · exact hp z hz
      · obtain rfl : z = x := by simpa using hz
        exact hst
    cases ht : tkn S T x.ky with
    | true =>
      rw [ht] at HT
      have hsx : sty S T x.ky = true := by unfold sty; rw [ht]; rfl
      obtain ⟨cr, fr, HE⟩ := HST W (Below.refl _ W) hsx
      clear HST HGO HN hSW hTW hbW hrW hp hBW hS hT hS2 hT2 hB hB1 hB2 hbx hbr hbm ht hsx
      gi_wp2_with (refine ⟨trivial, ?_⟩; gi_at_call 35; refine (CallsIn.inRound l (callsIn_wide.2 HT)).mono ?_; rintro e W1 ⟨rfl, rfl⟩)
      refine ⟨trivial, ?_⟩
      gi_wp2
      exact ⟨HE.out.1, rfl, HE.out.2.2⟩
    | false =>
      rw [ht] at HT
      cases hn : decide (T.time < (slt S x.ky).1) with
      | true =>
        have hsx : sty S T x.ky = true := by unfold sty; rw [ht, hn]; rfl
        rw [hn] at HN
        have HST' : ∀ W1, Below W.heap.size W W1 → W1.cell? ⟨w.heap.size + 1, 0, none⟩ = some (.bool false) ∧ W1.frozen? ⟨w.heap.size + 1, 0, none⟩ = false ∧ _ := fun W1 h => HST W1 h hsx
        clear HST HGO hSW hTW hbW hrW hp hBW hS hT hS2 hT2 hB hB1 hB2 hbx hbr hbm ht hsx hn
        gi_wp2_with (first | (refine ⟨trivial, ?_⟩; gi_at_call 35; refine (CallsIn.inRound l (callsIn_wide.2 HT)).mono ?_; rintro e W1 ⟨rfl, rfl⟩) | (refine ⟨trivial, ?_⟩; gi_at_call 36; refine (CallsIn.inRound l (callsIn_wide.2 HN)).mono ?_; rintro e W2 ⟨rfl, hb2⟩; obtain ⟨cr, fr, HE⟩ := HST' W2 hb2))
        exact ⟨HE.out.1, rfl, HE.out.2.2⟩
      | false =>
        have hsx : sty S T x.ky = false := by unfold sty; rw [ht, hn]; rfl
        rw [hn] at HN
        clear HST hSW hTW hbW hrW hp hBW hS hT hS2 hT2 hB hB1 hB2 hbx hbr hbm ht hn
        gi_wp2_with (first | (refine ⟨trivial, ?_⟩; gi_at_call 35; refine (CallsIn.inRound l (callsIn_wide.2 HT)).mono ?_; rintro e W1 ⟨rfl, rfl⟩) | (refine ⟨trivial, ?_⟩; gi_at_call 36; refine (CallsIn.inRound l (callsIn_wide.2 HN)).mono ?_; rintro e W2 ⟨rfl, hb2⟩))
        exact (HGO _ hb2 hsx).out
  case done =>
    rintro D ys W hD hperm ⟨hp, hBW⟩ hK
    have hst : stl S T = false := by
      unfold stl
      rw [List.any_eq_false]
      intro x hx
      rw [hp x (hperm.mem_iff.2 hx)]
      decide
    have hrW : W.heap[w.heap.size + 1]? = some (.cells #[.bool false] 4 (0, 0)) := (hBW.block _ (by omega)).trans hbr
    have cr : W.cell? ⟨w.heap.size + 1, 0, none⟩ = some (.bool false) := by rw [cells_at hrW 0]; rfl
    have fr : W.frozen? ⟨w.heap.size + 1, 0, none⟩ = false := cells_free hrW 0
    have HZ : Hid ((W.setCell ⟨w.heap.size + 1, 0, none⟩ (.bool false)).heap[D]? = some (.deferred (some [])) ∧ ((W.setCell ⟨w.heap.size + 1, 0, none⟩ (.bool false)).putObj D (.deferred none)).cell? ⟨w.heap.size + 1, 0, none⟩ = some (.bool false) ∧ Below w.heap.size w ((W.setCell ⟨w.heap.size + 1, 0, none⟩ (.bool false)).putObj D (.deferred none))) := by
      have h1 := heap_set_at (i := 0) hrW (.bool false)
      have h2 : (W.setCell ⟨w.heap.size + 1, 0, none⟩ (.bool false)).heap[D]? = some (.deferred (some [])) := (heap_set_other W (by omega) 0 _).trans hK
      refine ⟨h2, ?_, ?_⟩
      · rw [cells_at ((World.putObj_heap_other (by omega)).trans h1) 0]; rfl
      · exact (((hB.trans (hBW.mono hB.size))).setCell (p := ⟨w.heap.size + 1, 0, none⟩) (by show w.heap.size ≤ w.heap.size + 1; omega) _).trans (belowK_b (w := w) (Nat.le_refl _) _ D _ _ (by omega) h2 rfl rfl)
    have HSt : Hid (stl S T = false) := hst
    clear hp hBW hS hT hS2 hT2 hB hB1 hB2 hbx hbr hbm hrW hst hK hD
    gi_wp2
    refine ⟨by simp, .inl ⟨_, _, rfl, run_takeDeferred HZ.out.1, ?_⟩⟩
    have hc := HZ.out.2.1
    exact ⟨.bool false, by simp [results, Try.results39, go_sem, hc], by rw [HSt.out], HZ.out.2.2⟩
  case stop =>
    rintro D c pre W hD ⟨suf, hsuf⟩ ⟨rfl, ⟨x, hx, hxs⟩, hBW, hres⟩ hK
    have hst : stl S T = true := by
      unfold stl
      rw [List.any_eq_true]
      exact ⟨x, hsuf.mem_iff.1 (List.mem_append_left _ hx), hxs⟩
    have HZ : Hid ((W.putObj D (.deferred none)).cell? ⟨w.heap.size + 1, 0, none⟩ = some (.bool true) ∧ Below w.heap.size w (W.putObj D (.deferred none))) := by
      refine ⟨?_, ?_⟩
      · rw [cells_at ((World.putObj_heap_other (by omega)).trans hres) 0]; rfl
      · exact (hB.trans (hBW.mono (by omega))).trans (belowK_b (w := w) (Nat.le_refl _) _ D _ _ (by omega) hK rfl rfl)
    have HSt : Hid (stl S T = true) := hst
    clear hBW hS hT hS2 hT2 hB hB1 hB2 hbx hbr hbm hst hD hx hxs hsuf
    gi_wp2
    refine ⟨by simp, .inl ⟨_, _, rfl, run_takeDeferred hK, ?_⟩⟩
    have hc := HZ.out.1
    exact ⟨.bool true, by simp [results, Try.results39, go_sem, hc], by rw [HSt.out], HZ.out.2⟩
end Go.Proofs.Ytdackomidfofgaa
