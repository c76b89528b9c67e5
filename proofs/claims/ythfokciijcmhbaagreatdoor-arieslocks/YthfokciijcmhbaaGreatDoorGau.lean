/-
  Contract of a log's Reset. Conditions: the log lies apart from its disk; nothing pends there; the library's table of sums is as it starts.
-/
import Derived.Test.YthfokciijcmhbaaGreatDoorGat
namespace Go.Proofs.YthfokciijcmhbaaGreatDoor
open Go.RowKit
set_option linter.unusedVariables false

set_option maxHeartbeats 400000 in
theorem lMissing (L T : Nat) (w : World) (h0 : w.cell? ⟨L, 0, none⟩ = some (.pointer (some ⟨T, 0, none⟩))) : Calls Tryz.prog 82 #[.pointer (some ⟨L, 0, none⟩)] w fun e w' => e = .returned (.bool false) ∧ w' = w := by
  go_enter Tryz.func82, Tryz.ntmps82
  go_wp2
  go_ret
  exact ⟨rfl, rfl⟩

/-- What Reset leaves. -/
def ResetTo (w w' : World) (L T D n from_ sectors last : Nat) (F : Nat → Prop) (e : Nat → Int) : Prop := ∃ q v', LogW w' L T D from_ sectors (last + 1) last last 0 v' ∧ Own w' q v' [] ∧ Sd w' D (fun k => F k ∨ (w.heap.size ≤ k ∧ k < q)) n 0 (svs e from_ 0 (last + 1) (fun _ => 0) (fun _ _ => 0) 1) ∧ Part (fun k => F k ∨ k = T) w w' ∧ w.heap.size ≤ q

theorem ResetTo.end_ {w w6 w' : World} {L T D n from_ sectors last : Nat} {F : Nat → Prop} {e : Nat → Int} {v' : Value} (hL : w6.heap[L]? = some (.cells #[.pointer (some ⟨T, 0, none⟩)] 137 (0, 0))) (hLT : L ≠ T)
    (hT : w'.heap[T]? = some (.cells #[.pointer (some ⟨D, 0, none⟩), .int .i64 (from_ : Int), .int .i64 (sectors : Int), .int .i64 ((last + 1 : Nat) : Int), .int .i64 (last : Int), .int .i64 (last : Int), .int .i64 ((0 : Nat) : Int), v'] 135 (0, 0))) (ho : Own w' w6.heap.size v' []) (hS : Sd w6 D (fun k => F k ∨ (w.heap.size ≤ k ∧ k < w6.heap.size)) n 0 (svs e from_ 0 (last + 1) (fun _ => 0) (fun _ _ => 0) 1)) (hTF : ¬ F T) (hTl : T < w.heap.size) (hPw : Part F w w6) (hP : Part (fun k => k = T) w6 w') : ResetTo w w' L T D n from_ sectors last F e := by
  have hs := hPw.size
  refine ⟨w6.heap.size, v', ⟨?_, hT⟩, ho, hS.part hP (fun k hk e => ?_), ?_, hs⟩
  · rw [hP.block L (Array.getElem?_eq_some_iff.1 hL).1 hLT]; exact hL
  · subst e
    rcases hk with hk | hk
    · exact hTF hk
    · omega
  · exact (hPw.mono (fun _ _ h => .inl h)).trans hP (fun i hi h => .inr h)

set_option maxRecDepth 100000 in
set_option maxHeartbeats 2000000 in
theorem resetL (L T D n from_ sectors first last forced place : Nat) (vt : Value) (F : Nat → Prop) (e : Nat → Int) (w : World) (h : LogW w L T D from_ sectors first last forced place vt) (hne : L ≠ T) (hS : Sd w D F n 0 e) (hLF : ¬ F L) (hTF : ¬ F T) (hp : from_ + 1 ≤ n) (ht : Tab w) (htb : ¬ F 0) (hl : last < 4611686018427387904) :
    Calls Tryz.prog 98 #[.pointer (some ⟨L, 0, none⟩)] w fun r w' => r = .returned (.int .i64 0) ∧ ResetTo w w' L T D n from_ sectors last F e := by
  have hLl : L < w.heap.size := (Array.getElem?_eq_some_iff.1 h.hL).1
  have hTl : T < w.heap.size := (Array.getElem?_eq_some_iff.1 h.hT).1
  obtain ⟨n1, n2⟩ := hS.n2
  have hFl := hS.lt
  have hby := hS.by_
  obtain ⟨hL, hT⟩ := h
  have l0 : w.cell? ⟨L, 0, none⟩ = some (.pointer (some ⟨T, 0, none⟩)) := by rw [cells_at hL 0]; rfl
  have c4 : w.cell? ⟨T, 4, none⟩ = some (.int .i64 (last : Int)) := by rw [cells_at hT 4]; rfl
  have hl1 : decide ((4611686018427387904 : Int) ≤ (last : Int)) = false := by simp; omega
  obtain ⟨oA, hoA⟩ : ∃ oA, Obj.cells #[] 5 = oA := ⟨_, rfl⟩
  obtain ⟨oB, hoB⟩ : ∃ oB, Obj.cells #[.slice (some ⟨w.heap.size, 0, none⟩) 0 0] 47 = oB := ⟨_, rfl⟩
  have hbA : Below w.heap.size w (w.alloc oA) := (Below.refl _ w).alloc (Nat.le_refl _) oA
  have hbB : Below w.heap.size w ((w.alloc oA).alloc oB) := hbA.alloc hbA.size oB
  have hsA : (w.alloc oA).heap.size = w.heap.size + 1 := by simp
  have HSv : Hid (∀ W5 : World, W5.heap = ((w.alloc oA).alloc oB).heap → W5.os = w.os → W5.tape = w.tape → W5.output = w.output → ∀ (z : Int) (g : Nat), z = ((last + 1 : Nat) : Int) → g = w.heap.size + 1 → Calls Tryz.prog 95 #[.agg #[.pointer (some ⟨D, 0, none⟩), .int .i64 (from_ : Int), .int .i64 (sectors : Int)], .int .i64 0, .int .i64 z, .slice (some ⟨g, 0, none⟩) 1 1] W5 fun r w6 => r = .returned (.int .i64 0) ∧ Hid (Sd w6 D (fun k => F k ∨ (w.heap.size ≤ k ∧ k < w6.heap.size)) n 0 (svs e from_ 0 (last + 1) (fun _ => 0) (fun _ _ => 0) 1)) ∧ Part F w w6) := fun W5 e1 e2 e3 e4 z g hz hg => by
    subst hz
    subst hg
    have hs5 : W5.heap.size = w.heap.size + 2 := by rw [e1]; simp
    have hb5 : Below w.heap.size w W5 := ⟨e2, e3, e4, by omega, fun k hk => by rw [e1]; exact hbB.block k hk⟩
    have hO5 : W5.heap[w.heap.size + 1]? = some (.cells #[.slice (some ⟨w.heap.size, 0, none⟩) 0 0] 47 (0, 0)) := by
      rw [e1, ← hoB]
      exact heap_alloc_at _ _ _ (by omega)
    have := saveL D n from_ sectors 0 (last + 1) 1 F e (w.heap.size + 1) 1 (fun _ => some ⟨w.heap.size, 0, none⟩) (fun _ => 0) (fun _ => 0) (fun _ _ => 0) W5 (hS.below hb5) n2 (by omega) (by omega) (ht.below hb5 (Nat.le_refl _)) htb (fun wr hP i hi => ?_) (fun _ => by omega) (fun _ _ => by omega)
    · refine this.mono ?_
      rintro r w6 ⟨rfl, s6, p6⟩
      have hz6 := p6.size
      refine ⟨rfl, s6.grow (fun k hk => ?_) (fun k hk => ?_), (Part.ofBelow hb5).trans p6 (fun _ _ h => h)⟩
      · rcases hk with hk | hk
        · exact .inl hk
        · exact .inr (by omega)
      · rcases hk with hk | hk
        · have := hFl _ hk; omega
        · exact hk.2
    · obtain rfl : i = 0 := by omega
      refine ⟨_, _, rfl, ?_, .inr ⟨_, rfl, fun i hi => absurd hi (Nat.not_lt_zero _)⟩, fun h => by cases h⟩
      have h9 := (hP.block (w.heap.size + 1) (by omega) (fun k => by have := hFl _ k; omega)).trans hO5
      rw [cells_at h9 (0 + 0)]
      rfl
  have HK : Hid (∀ w5 : World, Part F w w5 → w5.heap[L]? = some (.cells #[.pointer (some ⟨T, 0, none⟩)] 137 (0, 0)) ∧ w5.heap[T]? = some (.cells #[.pointer (some ⟨D, 0, none⟩), .int .i64 (from_ : Int), .int .i64 (sectors : Int), .int .i64 (first : Int), .int .i64 (last : Int), .int .i64 (forced : Int), .int .i64 (place : Int), vt] 135 (0, 0))) := fun w5 hP => ⟨(hP.block L hLl hLF).trans hL, (hP.block T hTl hTF).trans hT⟩
  have HC : Hid (∀ w5 : World, Part F w w5 → w5.cell? ⟨L, 0, none⟩ = some (.pointer (some ⟨T, 0, none⟩)) ∧ w5.cell? ⟨T, 0, none⟩ = some (.pointer (some ⟨D, 0, none⟩)) ∧ w5.cell? ⟨T, 1, none⟩ = some (.int .i64 (from_ : Int)) ∧ w5.cell? ⟨T, 2, none⟩ = some (.int .i64 (sectors : Int)) ∧ w5.cell? ⟨T, 4, none⟩ = some (.int .i64 (last : Int))) := fun w5 hP => by
    obtain ⟨k1, k2⟩ := HK.out w5 hP
    exact ⟨by rw [cells_at k1 0]; rfl, by rw [cells_at k2 0]; rfl, by rw [cells_at k2 1]; rfl, by rw [cells_at k2 2]; rfl, by rw [cells_at k2 4]; rfl⟩
  have HZ : Hid (IntKind.i64.wrap ((last : Int) + 1) = ((last + 1 : Nat) : Int)) := (by rw [IntKind.wrap_i64]; omega : IntKind.i64.wrap ((last : Int) + 1) = ((last + 1 : Nat) : Int))
  have HL1 : Hid (last < 4611686018427387904) := hl
  clear hl hS ht hL hT hbB hby hsA
  go_enter Tryz.func98, Tryz.ntmps98
  go_wp2_with fail
  refine (lMissing L T w l0).mono ?_
  rintro r w0 ⟨rfl, hw⟩
  obtain rfl : w = w0 := hw.symm
  clear hw
  go_upto_region 6 with fail
  try rw [hoA]
  have hPA : Part F w (w.alloc oA) := Part.ofBelow hbA
  have A0 : ∀ q o', (((w.alloc oA).drewN q).alloc o').cell? ⟨L, 0, none⟩ = some (.pointer (some ⟨T, 0, none⟩)) := fun q o' => (HC.out _ ((hPA.drewN q).alloc o')).1
  have A1 : ∀ q o', (((w.alloc oA).drewN q).alloc o').cell? ⟨T, 0, none⟩ = some (.pointer (some ⟨D, 0, none⟩)) := fun q o' => (HC.out _ ((hPA.drewN q).alloc o')).2.1
  have A2 : ∀ q o', (((w.alloc oA).drewN q).alloc o').cell? ⟨T, 1, none⟩ = some (.int .i64 (from_ : Int)) := fun q o' => (HC.out _ ((hPA.drewN q).alloc o')).2.2.1
  have A3 : ∀ q o', (((w.alloc oA).drewN q).alloc o').cell? ⟨T, 2, none⟩ = some (.int .i64 (sectors : Int)) := fun q o' => (HC.out _ ((hPA.drewN q).alloc o')).2.2.2.1
  have A4 : ∀ q o', (((w.alloc oA).drewN q).alloc o').cell? ⟨T, 4, none⟩ = some (.int .i64 (last : Int)) := fun q o' => (HC.out _ ((hPA.drewN q).alloc o')).2.2.2.2
  have B0 : ∀ o', ((w.alloc oA).alloc o').drew.cell? ⟨L, 0, none⟩ = some (.pointer (some ⟨T, 0, none⟩)) := fun o' => A0 0 o'
  have B1 : ∀ o', ((w.alloc oA).alloc o').drew.cell? ⟨T, 0, none⟩ = some (.pointer (some ⟨D, 0, none⟩)) := fun o' => A1 0 o'
  have B2 : ∀ o', ((w.alloc oA).alloc o').drew.cell? ⟨T, 1, none⟩ = some (.int .i64 (from_ : Int)) := fun o' => A2 0 o'
  have B3 : ∀ o', ((w.alloc oA).alloc o').drew.cell? ⟨T, 2, none⟩ = some (.int .i64 (sectors : Int)) := fun o' => A3 0 o'
  have B4 : ∀ o', ((w.alloc oA).alloc o').drew.cell? ⟨T, 4, none⟩ = some (.int .i64 (last : Int)) := fun o' => A4 0 o'
  obtain ⟨D0, D1, D2, D3, D4⟩ := HC.out (w.alloc oA).drew (hPA.drewN 1)
  obtain ⟨E0, E1, E2, E3, E4⟩ := HC.out (w.alloc oA) hPA
  go_cut [4] (fun s4 wc => s4 = .int .i64 0 ∧ Hid (Sd wc D (fun k => F k ∨ (w.heap.size ≤ k ∧ k < wc.heap.size)) n 0 (svs e from_ 0 (last + 1) (fun _ => 0) (fun _ _ => 0) 1)) ∧ Part F w wc)
  case first =>
    go_region_with (go_at_call 95; refine (HSv.out _ (by first | rfl | (rw [← hoB]; rfl)) (by rfl) (by rfl) (by rfl) _ _ (by first | exact HZ.out | omega) (by first | rfl | simp)).mono ?_; rintro r w6 ⟨rfl, s6, p6⟩)
    all_goals
      go_wp2_with fail
      go_meet
      exact ⟨rfl, s6, p6⟩
  case rest =>
    obtain ⟨rfl, s6, p6⟩ := hcut
    have hs6 := p6.size
    obtain ⟨kL, kT⟩ := HK.out _ p6
    obtain ⟨f0, _, _, _, f4⟩ := HC.out _ p6
    have f3 : wc.cell? ⟨T, 3, none⟩ = some (.int .i64 (first : Int)) := by rw [cells_at kT 3]; rfl
    have z3 : wc.frozen? ⟨T, 3, none⟩ = false := cells_free kT 3
    have d3 : wc.drew.cell? ⟨T, 3, none⟩ = some (.int .i64 (first : Int)) := f3
    have d0 : wc.drew.cell? ⟨L, 0, none⟩ = some (.pointer (some ⟨T, 0, none⟩)) := f0
    have d4 : wc.drew.cell? ⟨T, 4, none⟩ = some (.int .i64 (last : Int)) := f4
    have zd3 : wc.drew.frozen? ⟨T, 3, none⟩ = false := z3
    clear A0 A1 A2 A3 A4 B0 B1 B2 B3 B4 D0 D1 D2 D3 D4 E0 E1 E2 E3 E4 HSv hoA hoB
    go_wp2_with fail
    go_region
    have hw : wrap64 ((last : Int) + 1) = ((last + 1 : Nat) : Int) := by have := HL1.out; first | (unfold wrap64; omega) | (rw [← HZ.out, IntKind.wrap_i64]; rfl) | go_num
    rw [hw]
    clear hw
    obtain ⟨W1, hW1⟩ : ∃ W1, (wc.setCell ⟨T, 3, none⟩ (.int .i64 ((last + 1 : Nat) : Int))).drew = W1 := ⟨_, rfl⟩
    rw [hW1]
    have kL1 : W1.heap[L]? = some (.cells #[.pointer (some ⟨T, 0, none⟩)] 137 (0, 0)) := by
      rw [← hW1]
      exact (heap_setCell_other _ _ _ _ hne).trans kL
    have kT1 : W1.heap[T]? = some (.cells #[.pointer (some ⟨D, 0, none⟩), .int .i64 (from_ : Int), .int .i64 (sectors : Int), .int .i64 ((last + 1 : Nat) : Int), .int .i64 (last : Int), .int .i64 (forced : Int), .int .i64 (place : Int), vt] 135 (0, 0)) := by
      rw [← hW1]
      exact heap_set_at kT _
    have hP1 : Part (fun k => k = T) wc W1 := by rw [← hW1]; exact ((Part.refl (fun k => k = T) wc).setCell (p := ⟨T, 3, none⟩) (fun _ => rfl) _).drewN 1
    have hq1 : W1.heap.size = wc.heap.size := by rw [← hW1]; simp [World.setCell]
    have g0 : W1.cell? ⟨L, 0, none⟩ = some (.pointer (some ⟨T, 0, none⟩)) := by rw [cells_at kL1 0]; rfl
    have g6 : W1.cell? ⟨T, 6, none⟩ = some (.int .i64 (place : Int)) := by rw [cells_at kT1 6]; rfl
    have g7 : W1.cell? ⟨T, 7, none⟩ = some vt := by rw [cells_at kT1 7]; rfl
    have y6 : W1.frozen? ⟨T, 6, none⟩ = false := cells_free kT1 6
    have y7 : W1.frozen? ⟨T, 7, none⟩ = false := cells_free kT1 7
    have gd0 : W1.drew.cell? ⟨L, 0, none⟩ = some (.pointer (some ⟨T, 0, none⟩)) := g0
    have gd6 : W1.drew.cell? ⟨T, 6, none⟩ = some (.int .i64 (place : Int)) := g6
    have gd7 : W1.drew.cell? ⟨T, 7, none⟩ = some vt := g7
    have yd6 : W1.drew.frozen? ⟨T, 6, none⟩ = false := y6
    have yd7 : W1.drew.frozen? ⟨T, 7, none⟩ = false := y7
    clear f0 f3 f4 z3 d3 d0 d4 zd3 l0 c4 hl1 hW1 hq1
    go_wp2_with fail
    go_region
    obtain ⟨W3, hW3⟩ : ∃ W3, ((W1.setCell ⟨T, 6, none⟩ (.int .i64 0)).setCell ⟨T, 7, none⟩ (.slice none 0 0)).drew = W3 := ⟨_, rfl⟩
    rw [hW3]
    have kT3 : W3.heap[T]? = some (.cells #[.pointer (some ⟨D, 0, none⟩), .int .i64 (from_ : Int), .int .i64 (sectors : Int), .int .i64 ((last + 1 : Nat) : Int), .int .i64 (last : Int), .int .i64 (forced : Int), .int .i64 ((0 : Nat) : Int), .slice none 0 0] 135 (0, 0)) := by
      rw [← hW3]
      exact heap_set_at (heap_set_at kT1 _) _
    have hP3 : Part (fun k => k = T) wc W3 := by rw [← hW3]; exact ((hP1.setCell (p := ⟨T, 6, none⟩) (fun _ => rfl) _).setCell (p := ⟨T, 7, none⟩) (fun _ => rfl) _).drewN 1
    have kL3 := (hP3.block L (by omega) hne).trans kL
    have l3 : W3.cell? ⟨L, 0, none⟩ = some (.pointer (some ⟨T, 0, none⟩)) := by rw [cells_at kL3 0]; rfl
    have CS := settleL T last 0 0 0 _ _ _ _ _ none (fun _ => 0) W3 kT3 ⟨Nat.le_refl _, by omega, .inl ⟨rfl, rfl, rfl⟩⟩ (fun g e => by cases e) (by omega) (by omega) ⟨_, rfl⟩
    have HE : Hid (∀ w7 v', w7.heap[T]? = some (.cells #[.pointer (some ⟨D, 0, none⟩), .int .i64 (from_ : Int), .int .i64 (sectors : Int), .int .i64 ((last + 1 : Nat) : Int), .int .i64 (last : Int), .int .i64 (last : Int), .int .i64 ((0 + 0 / 112 : Nat) : Int), v'] 135 (0, 0)) → Own w7 W3.heap.size v' (lst (sh (fun _ => 0) (0 / 112 * 112)) (0 - 0 / 112 * 112)) → Part (fun q => q = T) W3 w7 → ResetTo w w7 L T D n from_ sectors last F e) := fun w7 v' h1 h2 h3 =>
      ResetTo.end_ kL hne h1 (h2.mono hP3.size) s6.out hTF hTl p6 (hP3.trans h3 (fun _ _ h => h))
    clear hW3 kT3 hP3 kL3 kT1 kL1 kL kT hP1 g0 g6 g7 y6 y7 gd0 gd6 gd7 yd6 yd7 HK HC s6 p6 hbA hPA
    go_wp2_with fail
    refine CS.mono ?_
    rintro r w7 ⟨v', rfl, h1, h2, h3⟩
    go_wp2
    go_ret
    exact ⟨rfl, HE.out _ _ h1 h2 h3⟩
end Go.Proofs.YthfokciijcmhbaaGreatDoor
