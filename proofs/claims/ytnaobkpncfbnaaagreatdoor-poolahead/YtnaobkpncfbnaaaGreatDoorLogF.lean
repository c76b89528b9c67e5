/-
  Contract of a log's Force. Conditions: the log and its tail lie apart from the disk; nothing pends there; the library's table of sums is as it starts.
-/
import Derived.Test.YtnaobkpncfbnaaaGreatDoorGg
namespace Go.Proofs.YtnaobkpncfbnaaaGreatDoor
open Go.RowKit Go.Shelf
set_option linter.unusedVariables false

set_option maxRecDepth 100000 in
set_option maxHeartbeats 1000000 in
theorem force_same (L T D from_ sectors first last place : Nat) (vt : Value) (w : World) (h : LogW w L T D from_ sectors first last last place vt) :
    Calls Tryz.prog 74 #[.pointer (some ⟨L, 0, none⟩)] w fun r w' => r = .returned (.int .i64 0) ∧ ∃ q, w' = w.drewN q := by
  have l0 := h.l0
  have c4 : w.cell? ⟨T, 4, none⟩ = some (.int .i64 (last : Int)) := by rw [cells_at h.hT 4]; rfl
  have c5 : w.cell? ⟨T, 5, none⟩ = some (.int .i64 (last : Int)) := by rw [cells_at h.hT 5]; rfl
  clear h
  go_enter Tryz.func74, Tryz.ntmps74
  go_wp2_with fail
  refine (lMissing L T w l0).mono ?_
  rintro r w0 ⟨rfl, hw⟩
  obtain rfl : w = w0 := hw.symm
  clear hw
  go_wp2_with fail
  go_quiet (fail)
  go_wp2
  go_ret
  exact ⟨rfl, _, rfl⟩

/-- What Force leaves. -/
def ForceTo (w w' : World) (L T D n from_ sectors first last place tl N : Nat) (F : Nat → Prop) (e f : Nat → Int) : Prop := ∃ q v', LogW w' L T D from_ sectors first last last (place + tl / 112) v' ∧ Own w' q v' (lst (sh f (tl / 112 * 112)) (tl - tl / 112 * 112)) ∧ Sd w' D (fun k => F k ∨ (w.heap.size ≤ k ∧ k < q)) n 0 (svs e from_ place first (ckL tl) (fun k => sh f (k * 112)) N) ∧ Part (fun k => F k ∨ k = T) w w' ∧ w.heap.size ≤ q

set_option maxRecDepth 100000 in
set_option maxHeartbeats 2000000 in
theorem forceL (L T D n from_ sectors first last forced place g tl c N : Nat) (F : Nat → Prop) (e f : Nat → Int) (w : World) (h : LogW w L T D from_ sectors first last forced place (.slice (some ⟨g, 0, none⟩) tl c)) (hne : L ≠ T) (hfl : forced ≠ last) (hS : Sd w D F n 0 e) (hLF : ¬ F L) (hTF : ¬ F T) (hgF : ¬ F g) (hgT : g ≠ T) (hgl : g < w.heap.size)
    (hc : ∀ i, i < tl → w.cell? ⟨g, i, none⟩ = some (.int .u8 (f i))) (hcap : tl ≤ c) (hc2 : c ≤ 9223372036854775807) (hf : ∀ i, 0 ≤ f i ∧ f i ≤ 255) (htl : 0 < tl) (hN : tl ≤ N * 112) (hN2 : N * 112 < tl + 112) (hp : from_ + place + N ≤ n) (hfi : first ≤ 9223372036854775807) (ht : Tab w) (htb : ¬ F 0) :
    Calls Tryz.prog 74 #[.pointer (some ⟨L, 0, none⟩)] w fun r w' => r = .returned (.int .i64 0) ∧ ForceTo w w' L T D n from_ sectors first last place tl N F e f := by
  have hLl : L < w.heap.size := (Array.getElem?_eq_some_iff.1 h.hL).1
  have hTl : T < w.heap.size := (Array.getElem?_eq_some_iff.1 h.hT).1
  obtain ⟨n1, n2⟩ := hS.n2
  have hFl := hS.lt
  obtain ⟨hL, hT⟩ := h
  have HK : Hid (∀ w5 : World, Part F w w5 → w5.heap[L]? = some (.cells #[.pointer (some ⟨T, 0, none⟩)] 78 (0, 0)) ∧ w5.heap[T]? = some (.cells #[.pointer (some ⟨D, 0, none⟩), .int .i64 (from_ : Int), .int .i64 (sectors : Int), .int .i64 (first : Int), .int .i64 (last : Int), .int .i64 (forced : Int), .int .i64 (place : Int), .slice (some ⟨g, 0, none⟩) tl c] 76 (0, 0))) := fun w5 hP => ⟨(hP.block L hLl hLF).trans hL, (hP.block T hTl hTF).trans hT⟩
  have HC : Hid (∀ w5 : World, Part F w w5 → w5.cell? ⟨L, 0, none⟩ = some (.pointer (some ⟨T, 0, none⟩)) ∧ w5.cell? ⟨T, 0, none⟩ = some (.pointer (some ⟨D, 0, none⟩)) ∧ w5.cell? ⟨T, 1, none⟩ = some (.int .i64 (from_ : Int)) ∧ w5.cell? ⟨T, 2, none⟩ = some (.int .i64 (sectors : Int)) ∧ w5.cell? ⟨T, 3, none⟩ = some (.int .i64 (first : Int)) ∧ w5.cell? ⟨T, 4, none⟩ = some (.int .i64 (last : Int)) ∧ w5.cell? ⟨T, 5, none⟩ = some (.int .i64 (forced : Int)) ∧ w5.cell? ⟨T, 6, none⟩ = some (.int .i64 (place : Int)) ∧ w5.cell? ⟨T, 7, none⟩ = some (.slice (some ⟨g, 0, none⟩) tl c)) := fun w5 hP => by
    obtain ⟨k1, k2⟩ := HK.out w5 hP
    exact ⟨by rw [cells_at k1 0]; rfl, by rw [cells_at k2 0]; rfl, by rw [cells_at k2 1]; rfl, by rw [cells_at k2 2]; rfl, by rw [cells_at k2 3]; rfl, by rw [cells_at k2 4]; rfl, by rw [cells_at k2 5]; rfl, by rw [cells_at k2 6]; rfl, by rw [cells_at k2 7]; rfl⟩
  have hFT : Hid (∀ w5 : World, Part F w w5 → ∀ i, i < tl → w5.cell? ⟨g, i, none⟩ = some (.int .u8 (f i))) := fun w5 hP i hi => hP.cell (p := ⟨g, i, none⟩) hgF (hc i hi)
  -- the row of chunks, and what save does with it
  have HSv : Hid (∀ (w1 w2 : World) (v : Value), Below w.heap.size w w1 → w1.heap.size = w.heap.size + 2 → w2.ownsRow w1.heap.size 36 1 v N ((cks N N (Nat.le_refl _)).map (fun x => ckV g tl x.1)) → Below w1.heap.size w1 w2 → ∃ g2 c2, v = .slice (some ⟨g2, 0, none⟩) N c2 ∧ Below w.heap.size w w2 ∧ Hid (∀ W5 : World, W5.heap = w2.heap → W5.os = w2.os → W5.tape = w2.tape → W5.output = w2.output → Calls Tryz.prog 113 #[.agg #[.pointer (some ⟨D, 0, none⟩), .int .i64 (from_ : Int), .int .i64 (sectors : Int)], .int .i64 (place : Int), .int .i64 (first : Int), .slice (some ⟨g2, 0, none⟩) N c2] W5 fun r w6 => r = .returned (.int .i64 0) ∧ Hid (Sd w6 D (fun k => F k ∨ (w.heap.size ≤ k ∧ k < w6.heap.size)) n 0 (svs e from_ place first (ckL tl) (fun k => sh f (k * 112)) N)) ∧ Part F w w6)) := fun w1 w2 v hb1 hs1 ho hb2 => by
    have hb12 : Below w.heap.size w w2 := hb1.trans (hb2.mono (by omega))
    have hz2 := hb2.size
    have hN1 : N ≠ 0 := by omega
    obtain ⟨g2, c2, rfl, hg2⟩ : ∃ g2 c2, v = .slice (some ⟨g2, 0, none⟩) N c2 ∧ w1.heap.size ≤ g2 ∧ g2 < w2.heap.size := by
      rcases ho.2 with ⟨_, h0⟩ | ⟨g2, cap, cur, e1, e2, e3, _⟩
      · exact absurd h0 hN1
      · exact ⟨g2, cap, e1, e2, (Array.getElem?_eq_some_iff.1 e3).1⟩
    have hcl : ∀ j, j < N → w2.cell? ⟨g2, j, none⟩ = some (ckV g tl j) := fun j hj => by
      have := World.ownsRow.cells (g := g2) ho rfl j (ckV g tl j) (by rw [List.getElem?_map, cks_get N N (Nat.le_refl _) j hj]; rfl)
      rwa [Addr.add_lit, Nat.zero_add] at this
    refine ⟨g2, c2, rfl, hb12, fun W5 e1 e2 e3 e4 => ?_⟩
    have hb5 : Below w.heap.size w W5 := ⟨e2.trans hb12.os, e3.trans hb12.tape, e4.trans hb12.output, by rw [e1]; exact hb12.size, fun k hk => by rw [e1]; exact hb12.block k hk⟩
    have hs5 : W5.heap.size = w2.heap.size := by rw [e1]
    refine (saveL D n from_ sectors place first N F e g2 c2 (fun k => some ⟨g, k * 112, none⟩) (ckL tl) (ckL tl) (fun k => sh f (k * 112)) W5 (hS.below hb5) n2 (by omega) hfi (ht.below hb5 (Nat.le_refl _)) htb (fun wr hP i hi => ?_) (fun k => Nat.min_le_left _ _) (fun k i => hf _)).mono ?_
    · refine ⟨_, _, rfl, ?_, .inr ⟨_, rfl, fun j hj => ?_⟩, fun h => by cases h⟩
      · have h1 : W5.cell? ⟨g2, i, none⟩ = some (ckV g tl i) := (World.cell?_of_block (w := w2) (by rw [e1])).trans (hcl i hi)
        rw [Nat.zero_add]
        exact hP.cell (p := ⟨g2, i, none⟩) (fun k => by have := hFl g2 k; omega) h1
      · rw [Addr.add_lit]
        have hj' : j < min 112 (tl - i * 112) := hj
        exact hFT.out wr ((Part.ofBelow hb5).trans hP (fun _ _ h => h)) (i * 112 + j) (by omega)
    · rintro r w6 ⟨rfl, s6, p6⟩
      have hz6 := p6.size
      refine ⟨rfl, s6.grow (fun k hk => ?_) (fun k hk => ?_), (Part.ofBelow hb5).trans p6 (fun _ _ h => h)⟩
      · rcases hk with hk | hk
        · exact .inl hk
        · exact .inr (by have := hb12.size; omega)
      · rcases hk with hk | hk
        · have := hFl _ hk; have := hb12.size; omega
        · exact hk.2
  have HE : Hid (∀ w6 w7 v', Part F w w6 → Sd w6 D (fun k => F k ∨ (w.heap.size ≤ k ∧ k < w6.heap.size)) n 0 (svs e from_ place first (ckL tl) (fun k => sh f (k * 112)) N) → w7.heap[T]? = some (.cells #[.pointer (some ⟨D, 0, none⟩), .int .i64 (from_ : Int), .int .i64 (sectors : Int), .int .i64 (first : Int), .int .i64 (last : Int), .int .i64 (last : Int), .int .i64 ((place + tl / 112 : Nat) : Int), v'] 76 (0, 0)) → Own w7 w6.heap.size v' (lst (sh f (tl / 112 * 112)) (tl - tl / 112 * 112)) → Part (fun q => q = T) w6 w7 → ForceTo w w7 L T D n from_ sectors first last place tl N F e f) := fun w6 w7 v' p6 s6 h1 h2 h3 => by
    have hz6 := p6.size
    obtain ⟨k1, _⟩ := HK.out w6 p6
    refine ⟨w6.heap.size, v', ⟨(h3.block L (by omega) hne).trans k1, h1⟩, h2, s6.part h3 (fun k hk e => ?_), (p6.mono (fun _ _ h => .inl h)).trans h3 (fun i hi h => .inr h), hz6⟩
    subst e
    rcases hk with hk | hk
    · exact hTF hk
    · omega
  have HSt : Hid (∀ w6 : World, Part F w w6 → Calls Tryz.prog 34 #[.pointer (some ⟨T, 0, none⟩)] w6 fun r w' => ∃ v', r = .returned (.tuple #[]) ∧ w'.heap[T]? = some (.cells #[.pointer (some ⟨D, 0, none⟩), .int .i64 (from_ : Int), .int .i64 (sectors : Int), .int .i64 (first : Int), .int .i64 (last : Int), .int .i64 (last : Int), .int .i64 ((place + tl / 112 : Nat) : Int), v'] 76 (0, 0)) ∧ Own w' w6.heap.size v' (lst (sh f (tl / 112 * 112)) (tl - tl / 112 * 112)) ∧ Part (fun q => q = T) w6 w') := fun w6 p6 =>
    settleL T last place tl c _ _ _ _ _ (some ⟨g, 0, none⟩) f w6 (HK.out w6 p6).2 ⟨hcap, hc2, .inr ⟨g, rfl, fun i hi => hFT.out w6 p6 i hi⟩⟩ (fun g' e => by cases e; exact hgT) (by omega) (by omega) ⟨_, rfl⟩
  have HCo : Hid (∀ w0 : World, Below w.heap.size w w0 → w0.heap.size = w.heap.size → Calls Tryz.prog 111 #[.func (.func 135) #[] #[.pointer (some ⟨w0.heap.size, 0, none⟩), .pointer (some ⟨w0.heap.size + 1, 0, none⟩)]] ((w0.alloc (.cells #[.slice (some ⟨g, 0, none⟩) tl c] 36)).alloc (.cells #[.int .i64 112] 3)) fun r w2 => ∃ g2 c2, r = .returned (.slice (some ⟨g2, 0, none⟩) N c2) ∧ Part F w w2 ∧ Hid (∀ W5 : World, W5.heap = w2.heap → W5.os = w2.os → W5.tape = w2.tape → W5.output = w2.output → Calls Tryz.prog 113 #[.agg #[.pointer (some ⟨D, 0, none⟩), .int .i64 (from_ : Int), .int .i64 (sectors : Int)], .int .i64 (place : Int), .int .i64 (first : Int), .slice (some ⟨g2, 0, none⟩) N c2] W5 fun r w6 => r = .returned (.int .i64 0) ∧ Hid (Sd w6 D (fun k => F k ∨ (w.heap.size ≤ k ∧ k < w6.heap.size)) n 0 (svs e from_ place first (ckL tl) (fun k => sh f (k * 112)) N)) ∧ Part F w w6)) := fun w0 hb0 hs0 => by
    obtain ⟨W1, hW1⟩ : ∃ W1, (w0.alloc (.cells #[.slice (some ⟨g, 0, none⟩) tl c] 36)).alloc (.cells #[.int .i64 112] 3) = W1 := ⟨_, rfl⟩
    have hs1 : W1.heap.size = w.heap.size + 2 := by rw [← hW1]; simp; omega
    have hb1 : Below w.heap.size w W1 := by rw [← hW1]; exact (hb0.alloc (by omega) _).alloc (by simp; omega) _
    have x1 : W1.heap[w0.heap.size]? = some (.cells #[.slice (some ⟨g, 0, none⟩) tl c] 36 (0, 0)) := by rw [← hW1, Below.heap_alloc _ _ _ (by simp)]; exact heap_alloc_at _ _ _ rfl
    have x2 : W1.heap[w0.heap.size + 1]? = some (.cells #[.int .i64 112] 3 (0, 0)) := by rw [← hW1]; exact heap_alloc_at _ _ _ (by simp)
    rw [hW1]
    refine (collectC W1 w0.heap.size (w0.heap.size + 1) g tl c N hN hN2 (by omega) hcap (by omega) (by omega) (by rw [cells_at x1 0]; rfl) (by rw [cells_at x2 0]; rfl)).mono ?_
    rintro r w2 ⟨v, rfl, ho, hb2⟩
    obtain ⟨g2, c2, rfl, hb12, H⟩ := HSv.out W1 w2 v hb1 hs1 ho hb2
    exact ⟨g2, c2, rfl, Part.ofBelow hb12, H⟩
  obtain ⟨l0, _, _, _, _, c4, c5, _, c7⟩ := HC.out w (Part.refl _ _)
  obtain ⟨d0, _, _, _, _, d4, d5, _, d7⟩ := HC.out w.drew ((Part.refl _ _).drewN 1)
  have hq : ((forced : Int) == (last : Int)) = false := by rw [beq_eq_false_iff_ne]; omega
  have HB0 : Hid (Below w.heap.size w w.drew) := blw_drewN 1 (Below.refl _ _)
  clear hL hT hS ht HSv hFT hc hf hfl hN hN2 HK
  go_enter Tryz.func74, Tryz.ntmps74
  go_wp2_with fail
  refine (lMissing L T w l0).mono ?_
  rintro r w0 ⟨rfl, hw⟩
  obtain rfl : w = w0 := hw.symm
  clear hw
  go_wp2_with fail
  go_region
  go_wp2_with fail
  refine (chunkC (some ⟨g, 0, none⟩) tl c w.drew).mono ?_
  rintro r w1 ⟨rfl, rfl⟩
  go_wp2_with fail
  refine (HCo.out w.drew HB0.out rfl).mono ?_
  rintro r w2 ⟨g2, c2, rfl, p2, HV⟩
  obtain ⟨e0, e1, e2, e3, e4, e5, e6, e7, e8⟩ := HC.out w2 p2
  obtain ⟨j0, j1, j2, j3, j4, j5, j6, j7, j8⟩ := HC.out w2.drew (p2.drewN 1)
  clear HCo c4 c5 c7 d0 d4 d5 d7 hq HB0 hp hLl hTl hFl
  go_upto_region 6 with fail
  refine wp_region_still_tail 22 (by kernel_rfl) (by kernel_rfl) ?_
  simp only [List.take_succ_cons, List.take_zero, List.drop_succ_cons, List.drop_zero]
  repeat still_step
  refine wpStill_nil ?_
  go_wp2_with fail
  refine (HV.out _ (by rfl) (by rfl) (by rfl) (by rfl)).mono ?_
  rintro r w6 ⟨rfl, s6, p6⟩
  obtain ⟨q0, _⟩ := HC.out w6 p6
  have CS := HSt.out w6 p6
  clear HC HV e0 e1 e2 e3 e4 e5 e6 e7 e8 j0 j1 j2 j3 j4 j5 j6 j7 j8
  go_wp2_with fail
  refine CS.mono ?_
  rintro r w7 ⟨v', rfl, h1, h2, h3⟩
  go_wp2
  go_ret
  exact ⟨rfl, HE.out _ _ _ p6 s6.out h1 h2 h3⟩
end Go.Proofs.YtnaobkpncfbnaaaGreatDoor
