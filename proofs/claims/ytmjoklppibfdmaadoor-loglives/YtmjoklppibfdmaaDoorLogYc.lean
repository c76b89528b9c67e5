/-
  LogLives' pair: open, within the disk's bounds and outside of them. Condition: the library's table of sums is as it starts.
-/
import Derived.Test.YtmjoklppibfdmaaDoorLogYb
namespace Go.Proofs.YtmjoklppibfdmaaDoor
open Go.RowKit
set_option linter.unusedVariables false

/-- Both disks, side by side, since the law began at w0. -/
structure Two (w0 w : World) (b D X n : Nat) (e : Nat → Int) (PA PB : Nat → Prop) (vl vm : Value) : Prop where
  sa : ∃ F, Sd w D F n 0 e ∧ ∀ k, F k → PA k
  sb : ∃ F, Sx w X F n 0 e ∧ ∀ k, F k → PB k
  ta : ∀ k, PA k → k < w.heap.size
  tb : ∀ k, PB k → k < w.heap.size
  dj : ∀ k, PA k → ¬ PB k
  na : ¬ PA b
  nb : ¬ PB b
  hb : Prb w b D X vl vm
  b0 : w0.heap.size ≤ b
  la : ∀ k, PA k → w0.heap.size ≤ k
  lb : ∀ k, PB k → w0.heap.size ≤ k
  bl : Below w0.heap.size w0 w
theorem Bth.two {w0 w : World} {b D X L M n from_ sectors : Nat} {e : Nat → Int} {x : St} {PA PB : Nat → Prop} (h : Bth w0 w b D X L M n from_ sectors e x PA PB) : Two w0 w b D X n e PA PB (.pointer (some ⟨L, 0, none⟩)) (.pointer (some ⟨M, 0, none⟩)) := by
  obtain ⟨T, F, vt, q, _, _, _, h4, _, _, _, _, h9, _⟩ := h.pg.lay
  obtain ⟨G, a0, cs, _, _, _, _, _, h6, _, h8, _⟩ := h.dg.lay
  exact ⟨⟨F, h4, h9⟩, ⟨G, h6, h8⟩, h.pg.lt, h.dg.lt, h.dj, h.na, h.nb, h.hb, h.b0, h.la, h.lb, h.bl⟩
theorem Two.below {w0 w w' : World} {b D X n : Nat} {e : Nat → Int} {PA PB : Nat → Prop} {vl vm : Value} (h : Two w0 w b D X n e PA PB vl vm) (hb : Below w.heap.size w w') : Two w0 w' b D X n e PA PB vl vm := by
  obtain ⟨F, f1, f2⟩ := h.sa
  obtain ⟨G, g1, g2⟩ := h.sb
  have hs := hb.size
  exact ⟨⟨F, f1.below hb, f2⟩, ⟨G, g1.below hb, g2⟩, fun k hk => by have := h.ta k hk; omega, fun k hk => by have := h.tb k hk; omega, h.dj, h.na, h.nb, h.hb.part (Part.ofBelow (F := fun _ => False) hb) (fun h => h), h.b0, h.la, h.lb, h.bl.trans (hb.mono h.bl.size)⟩
theorem Two.set {w0 w : World} {b D X n : Nat} {e : Nat → Int} {PA PB : Nat → Prop} {vl vm : Value} (h : Two w0 w b D X n e PA PB vl vm) (ul um : Value) : Two w0 ((w.setCell ⟨b, 2, none⟩ ul).setCell ⟨b, 3, none⟩ um) b D X n e PA PB ul um := by
  obtain ⟨F, f1, f2⟩ := h.sa
  obtain ⟨G, g1, g2⟩ := h.sb
  have hp : Part (fun k => k = b) w ((w.setCell ⟨b, 2, none⟩ ul).setCell ⟨b, 3, none⟩ um) := ((Part.refl (fun k => k = b) w).setCell (p := ⟨b, 2, none⟩) (fun _ => rfl) _).setCell (p := ⟨b, 3, none⟩) (fun _ => rfl) _
  have hs := hp.size
  exact ⟨⟨F, f1.part hp (fun k hk hh => h.na (by cases hh; exact f2 _ hk)), f2⟩, ⟨G, g1.part hp (fun k hk hh => h.nb (by cases hh; exact g2 _ hk)), g2⟩, fun k hk => by have := h.ta k hk; omega, fun k hk => by have := h.tb k hk; omega, h.dj, h.na, h.nb, by exact heap_set_at (heap_set_at h.hb _) _, h.b0, h.la, h.lb, part_below h.bl hp (fun k hk => by cases hk; exact h.b0)⟩

theorem imgs_equal {w : World} {v v2 : Value} {B B2 : Nat} {R : List (Nat × Nat)} {A C A2 C2} {f : Nat → Int} (hR : R.length ≤ 458752) (h1 : RecG w B v R.length A (lenF R) C (bytF f R)) (h2 : RecG w B2 v2 R.length A2 (lenF R) C2 (bytF f R)) :
    Calls Tryd.prog 19 #[v, v2, .func (.func 21) #[] #[]] w fun r w' => r = .returned (.bool true) ∧ w' = w := by
  obtain ⟨a, c, rfl⟩ := own_slice h1.own
  obtain ⟨a2, c2, rfl⟩ := own_slice h2.own
  exact equalImg a a2 R.length c c2 A A2 (lenF R) C (lenF R) C2 (bytF f R) (bytF f R) w (by omega) h1.img h2.img (fun _ _ => rfl)

set_option maxRecDepth 100000 in
set_option maxHeartbeats 4000000 in
theorem pr_open_no {w0 w : World} {b D X n : Nat} {e : Nat → Int} {PA PB : Nat → Prop} {vl vm : Value} (h : Two w0 w b D X n e PA PB vl vm) (from_ sectors : Int) (hw1 : -9223372036854775808 ≤ from_ ∧ from_ ≤ 9223372036854775807) (hb : from_ < 0 ∨ sectors < 1 ∨ (n : Int) - from_ < sectors) :
    Calls Tryd.prog 8 #[.pointer (some ⟨b, 0, none⟩), .int .i64 from_, .int .i64 sectors] w fun r w' => r = .returned (.bool true) ∧ Hid (Two w0 w' b D X n e PA PB (.pointer none) (.pointer none)) := by
  obtain ⟨c0, c1, c2, c3⟩ := h.hb.cells
  obtain ⟨F, f1, f2⟩ := h.sa
  obtain ⟨G, g1, g2⟩ := h.sb
  have H1 : Hid (Calls Tryd.prog 31 #[.pointer (some ⟨D, 0, none⟩), .int .i64 from_, .int .i64 sectors] w fun r w' => r = .returned (.tuple #[.pointer none, .slice none 0 0, .int .i64 1]) ∧ w' = w) := openL_no f1 from_ sectors hw1 hb
  have H2 : Hid (Calls Tryd.prog 32 #[.pointer (some ⟨X, 0, none⟩), .int .i64 from_, .int .i64 sectors] w fun r w' => r = .returned (.tuple #[.pointer none, .slice none 0 0, .int .i64 1]) ∧ w' = w) := zOpen_no g1 from_ sectors (by omega)
  have q2 : w.frozen? ⟨b, 2, none⟩ = false := cells_free h.hb 2
  have q3 : w.frozen? ⟨b, 3, none⟩ = false := cells_free h.hb 3
  obtain ⟨W, hW⟩ : ∃ W, (w.setCell ⟨b, 2, none⟩ (.pointer none)).setCell ⟨b, 3, none⟩ (.pointer none) = W := ⟨_, rfl⟩
  have HT : Hid (Two w0 W b D X n e PA PB (.pointer none) (.pointer none)) := by rw [← hW]; exact h.set _ _
  have HS : Hid (∀ wq, Below W.heap.size W wq → wq.cell? ⟨b, 0, none⟩ = some (.pointer (some ⟨D, 0, none⟩)) ∧ wq.cell? ⟨b, 1, none⟩ = some (.pointer (some ⟨X, 0, none⟩))) := fun wq hq => ⟨(HT.out.below hq).hb.cells.1, (HT.out.below hq).hb.cells.2.1⟩
  have H3 : Hid (∀ wq, Below W.heap.size W wq → Calls Tryd.prog 19 #[.slice none 0 0, .slice none 0 0, .func (.func 21) #[] #[]] wq fun r w' => r = .returned (.bool true) ∧ Below W.heap.size W w') := fun wq hq =>
    (equalImg none none 0 0 0 (fun _ => none) (fun _ => none) (fun _ => 0) (fun _ => 0) (fun _ => 0) (fun _ => 0) (fun _ _ => 0) (fun _ _ => 0) wq (by decide) (fun i hi => by omega) (fun i hi => by omega) (fun i hi => by omega)).mono fun r w' ⟨hr, hw⟩ => ⟨hr, by rw [hw]; exact hq⟩
  have H4 : Hid (∀ wq, Below W.heap.size W wq → Calls Tryd.prog 33 #[.pointer (some ⟨D, 0, none⟩), .pointer (some ⟨X, 0, none⟩)] wq fun r w' => r = .returned (.bool true) ∧ Below W.heap.size W w') := fun wq hq => by
    obtain ⟨F, f1, f2⟩ := (HT.out.below hq).sa
    obtain ⟨G, g1, g2⟩ := (HT.out.below hq).sb
    exact (sd_same f1 g1).mono fun r w' ⟨hr, hw⟩ => ⟨hr, hq.trans (hw.mono hq.size)⟩
  have k0 : Below W.heap.size W W := Below.refl _ W
  clear h f1 f2 g1 g2 hb hw1
  go_enter Tryd.func8, Tryd.ntmps8
  go_wp2_with fail
  refine H1.out.mono ?_
  rintro r w1 ⟨rfl, hw⟩
  obtain rfl : w = w1 := hw.symm
  clear hw
  go_wp2_with fail
  refine H2.out.mono ?_
  rintro r w1 ⟨rfl, hw⟩
  obtain rfl : w = w1 := hw.symm
  clear hw
  go_wp2_with fail
  try rw [hW]
  clear hW H1 H2 c0 c1 c2 c3 q2 q3
  go_region_held2 (fun wq => wq.cell? ⟨b, 0, none⟩ = some (.pointer (some ⟨D, 0, none⟩)) ∧ wq.cell? ⟨b, 1, none⟩ = some (.pointer (some ⟨X, 0, none⟩)))
    (first | exact HS.out _ (by assumption) | exact HS.out _ (Below.drew (by assumption)) | go_keep)
    (first
      | (go_at_call 19; refine (H3.out _ (by first | exact k0 | exact k0.drew)).mono ?_; rintro e' w1 ⟨rfl, k1⟩)
      | (go_at_call 33; refine (H4.out _ k1).mono ?_; rintro e' w2 ⟨rfl, k2⟩))
  go_wp2
  go_ret
  exact ⟨rfl, HT.out.below k2⟩

set_option maxRecDepth 100000 in
set_option maxHeartbeats 4000000 in
theorem pr_open {w0 w : World} {b D X n : Nat} {e : Nat → Int} {PA PB : Nat → Prop} {vl vm : Value} (h : Two w0 w b D X n e PA PB vl vm) (from_ sectors : Nat) (hp : from_ + sectors ≤ n) (hs1 : 1 ≤ sectors) (ht : Tab w0) (htb : 1 < w0.heap.size) :
    Calls Tryd.prog 8 #[.pointer (some ⟨b, 0, none⟩), .int .i64 (from_ : Int), .int .i64 (sectors : Int)] w fun r w' => r = .returned (.bool true) ∧ Hid (∃ L M e' x PA' PB', Bth w0 w' b D X L M n from_ sectors e' x PA' PB') := by
  obtain ⟨c0, c1, c2, c3⟩ := h.hb.cells
  obtain ⟨F, f1, f2⟩ := h.sa
  obtain ⟨G, g1, g2⟩ := h.sb
  obtain ⟨n1, n2⟩ := f1.n2
  have hby := f1.by_
  have hbw : b < w.heap.size := (Array.getElem?_eq_some_iff.1 h.hb).1
  have hs0 := h.bl.size
  have HO : Hid (Calls Tryd.prog 31 #[.pointer (some ⟨D, 0, none⟩), .int .i64 (from_ : Int), .int .i64 (sectors : Int)] w fun r w1 => ∃ L v, r = .returned (.tuple #[.pointer (some ⟨L, 0, none⟩), v, .int .i64 0]) ∧ w1.cell? ⟨b, 1, none⟩ = some (.pointer (some ⟨X, 0, none⟩)) ∧
      Hid (Calls Tryd.prog 32 #[.pointer (some ⟨X, 0, none⟩), .int .i64 (from_ : Int), .int .i64 (sectors : Int)] w1 fun r w2 => ∃ M v2, r = .returned (.tuple #[.pointer (some ⟨M, 0, none⟩), v2, .int .i64 0]) ∧ w2.frozen? ⟨b, 2, none⟩ = false ∧ w2.frozen? ⟨b, 3, none⟩ = false ∧ (∃ u2, w2.cell? ⟨b, 2, none⟩ = some u2) ∧ (∃ u3, w2.cell? ⟨b, 3, none⟩ = some u3) ∧
        Hid (∀ W, (w2.setCell ⟨b, 2, none⟩ (.pointer (some ⟨L, 0, none⟩))).setCell ⟨b, 3, none⟩ (.pointer (some ⟨M, 0, none⟩)) = W → (∃ e' x PA' PB', Bth w0 W b D X L M n from_ sectors e' x PA' PB') ∧ ∀ wq, Below W.heap.size W wq → Calls Tryd.prog 19 #[v, v2, .func (.func 21) #[] #[]] wq fun r w' => r = .returned (.bool true) ∧ Below W.heap.size W w'))) := by
    refine (openL D n from_ sectors F e w f1 hp hs1 (ht.below h.bl (Nat.le_refl _)) (fun hk => by have := h.la _ (f2 _ hk); omega)).mono ?_
    rintro r w1 ⟨L, v, first, tot, size, R, rfl, hO⟩
    have p1 := hO.part
    have hs1' := p1.size
    obtain ⟨e1, hPg, hC1, A, C, hG1⟩ := pg_opened hO f2 h.ta
    have hb1 := h.hb.part p1 (fun hk => h.na (f2 _ hk))
    have g1' := g1.part p1 (fun k hk hk2 => h.dj k (f2 _ hk2) (g2 _ hk))
    refine ⟨L, v, rfl, hb1.cells.2.1, ?_⟩
    refine (zOpen X n from_ sectors G e w1 g1' hp hs1).mono ?_
    rintro r w2 ⟨M, v2, first', tot', size', R', rfl, HZ⟩
    have p2 := HZ.out.part
    have hs2 := p2.size
    obtain ⟨e2, hDg, hC2, A2, C2, hG2⟩ := dg_opened HZ.out g2 (fun k hk => by have := h.tb k hk; omega)
    obtain ⟨rfl, rfl⟩ := hO.has.uniq HZ.out.has
    obtain ⟨rfl, rfl⟩ := hO.prs.uniq HZ.out.prs
    obtain rfl := hC1.uniq hC2
    have hb2 := hb1.part p2 (fun hk => h.nb (g2 _ hk))
    refine ⟨M, v2, rfl, cells_free hb2 2, cells_free hb2 3, ⟨_, hb2.cells.2.2.1⟩, ⟨_, hb2.cells.2.2.2⟩, fun W hW => ?_⟩
    have p3 : Part (fun k => k = b) w2 W := by rw [← hW]; exact ((Part.refl (fun k => k = b) w2).setCell (p := ⟨b, 2, none⟩) (fun _ => rfl) _).setCell (p := ⟨b, 3, none⟩) (fun _ => rfl) _
    have hs3 := p3.size
    have hGl1 := fun k (hk : G k) => h.tb k (g2 k hk)
    have r1 : RecG w2 w.heap.size v R.length A (lenF R) C (bytF (lg (from0 e from_)) R) := hG1.part2 p2 (fun q hq hk => by have := (World.ownsRow.lt hG1.own q hq).1; have := hGl1 _ hk; omega) (fun j g hj hA hk => by
      obtain ⟨g', _, _, x1, x2, _⟩ := hG1.each j hj
      rw [x1] at hA
      cases hA
      have := hGl1 _ hk
      omega)
    have r2 : RecG W w.heap.size v R.length A (lenF R) C (bytF (lg (from0 e from_)) R) := r1.part2 p3 (fun q hq hk => by have := (World.ownsRow.lt r1.own q hq).1; omega) (fun j g hj hA hk => by
      obtain ⟨g', _, _, x1, x2, _⟩ := r1.each j hj
      rw [x1] at hA
      cases hA
      omega)
    have r3 : RecG W w1.heap.size v2 R.length A2 (lenF R) C2 (bytF (lg (from0 e from_)) R) := hG2.part2 p3 (fun q hq hk => by have := (World.ownsRow.lt hG2.own q hq).1; omega) (fun j g hj hA hk => by
      obtain ⟨g', _, _, x1, x2, _⟩ := hG2.each j hj
      rw [x1] at hA
      cases hA
      omega)
    have hln := hO.prs.1.len
    have hle := hO.has.le
    have hpl := hO.prs.1.le
    refine ⟨⟨e1, opnX e from_ first size R.length, more PA w w1, more PB w1 w2, ?_⟩, fun wq hq => ?_⟩
    · refine ⟨(hPg.part p2 (fun k hk hk2 => ?_)).part p3 (fun k hk hk2 => ?_), hDg.part p3 (fun k hk hk2 => ?_), ⟨hp, hs1, n2, Nat.le_refl _, ?_, fun hk => absurd rfl hk, ?_, ?_, fun i => hby _⟩, fun k hk hk2 => ?_, fun hk => ?_, fun hk => ?_, ?_, h.b0, fun k hk => ?_, fun k hk => ?_, ?_⟩
      · have := hGl1 _ hk2
        rcases hk with hk | hk
        · exact h.dj k hk (g2 _ hk2)
        · omega
      · cases hk2
        rcases hk with hk | hk
        · exact h.na hk
        · omega
      · cases hk2
        rcases hk with hk | hk
        · exact h.nb hk
        · omega
      · show size ≤ _; omega
      · show max first 1 ≤ _
        have := hO.has.first.1
        omega
      · show max first 1 + R.length - 1 ≤ _
        have := hO.has.first.1
        omega
      · rcases hk with hk | hk <;> rcases hk2 with hk2 | hk2
        · exact h.dj k hk hk2
        · have := h.ta k hk; omega
        · have := h.tb k hk2; omega
        · omega
      · rcases hk with hk | hk
        · exact h.na hk
        · omega
      · rcases hk with hk | hk
        · exact h.nb hk
        · omega
      · rw [← hW]
        exact heap_set_at (heap_set_at hb2 _) _
      · rcases hk with hk | hk
        · exact h.la k hk
        · omega
      · rcases hk with hk | hk
        · exact h.lb k hk
        · omega
      · exact part_below (part_below (part_below h.bl p1 (fun k hk => h.la _ (f2 _ hk))) p2 (fun k hk => h.lb _ (g2 _ hk))) p3 (fun k hk => by cases hk; exact h.b0)
    · have t1 := r2.below hq
      have t2 := r3.below hq
      exact (imgs_equal (by omega) t1 t2).mono fun r w' ⟨hr, hw⟩ => ⟨hr, by rw [hw]; exact hq⟩
  clear h f1 f2 g1 g2 hby hbw hs0 c1 c2 c3 ht
  go_enter Tryd.func8, Tryd.ntmps8
  go_wp2_with fail
  refine HO.out.mono ?_
  rintro r w1 ⟨L, v, rfl, c1, HZ⟩
  clear HO c0
  go_wp2_with fail
  refine HZ.out.mono ?_
  rintro r w2 ⟨M, v2, rfl, q2, q3, ⟨u2, c2⟩, ⟨u3, c3⟩, HW⟩
  clear HZ c1
  go_wp2_with fail
  obtain ⟨W, hW⟩ : ∃ W, (w2.setCell ⟨b, 2, none⟩ (.pointer (some ⟨L, 0, none⟩))).setCell ⟨b, 3, none⟩ (.pointer (some ⟨M, 0, none⟩)) = W := ⟨_, rfl⟩
  try rw [hW]
  obtain ⟨h1, h2⟩ := HW.out W hW
  obtain ⟨e', x, PA', PB', hB⟩ := h1
  have HB : Hid (Bth w0 W b D X L M n from_ sectors e' x PA' PB') := hB
  have H3 : Hid (∀ wq, Below W.heap.size W wq → Calls Tryd.prog 19 #[v, v2, .func (.func 21) #[] #[]] wq fun r w' => r = .returned (.bool true) ∧ Below W.heap.size W w') := h2
  have HS : Hid (∀ wq, Below W.heap.size W wq → wq.cell? ⟨b, 0, none⟩ = some (.pointer (some ⟨D, 0, none⟩)) ∧ wq.cell? ⟨b, 1, none⟩ = some (.pointer (some ⟨X, 0, none⟩))) := fun wq hq => ⟨(HB.out.below hq).hb.cells.1, (HB.out.below hq).hb.cells.2.1⟩
  have H4 : Hid (∀ wq, Below W.heap.size W wq → Calls Tryd.prog 33 #[.pointer (some ⟨D, 0, none⟩), .pointer (some ⟨X, 0, none⟩)] wq fun r w' => r = .returned (.bool true) ∧ Below W.heap.size W w') := fun wq hq => by
    obtain ⟨F, f1, f2⟩ := (HB.out.below hq).two.sa
    obtain ⟨G, g1, g2⟩ := (HB.out.below hq).two.sb
    exact (sd_same f1 g1).mono fun r w' ⟨hr, hw⟩ => ⟨hr, hq.trans (hw.mono hq.size)⟩
  have k0 : Below W.heap.size W W := Below.refl _ W
  clear h2 hB hW HW q2 q3 c2 c3
  go_region_held2 (fun wq => wq.cell? ⟨b, 0, none⟩ = some (.pointer (some ⟨D, 0, none⟩)) ∧ wq.cell? ⟨b, 1, none⟩ = some (.pointer (some ⟨X, 0, none⟩)))
    (first | exact HS.out _ (by assumption) | exact HS.out _ (Below.drew (by assumption)) | go_keep)
    (first
      | (go_at_call 19; refine (H3.out _ (by first | exact k0 | exact k0.drew)).mono ?_; rintro e' w1 ⟨rfl, k1⟩)
      | (go_at_call 33; refine (H4.out _ k1).mono ?_; rintro e' w2 ⟨rfl, k2⟩))
  go_wp2
  go_ret
  exact ⟨rfl, L, M, _, _, _, _, HB.out.below k2⟩
end Go.Proofs.YtmjoklppibfdmaaDoor
