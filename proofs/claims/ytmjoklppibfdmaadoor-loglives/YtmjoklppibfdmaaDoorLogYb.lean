/-
  Log.Open out of bounds; two quiet disks with the same bytes are told the same; LogLives' pair: same.
-/
import Derived.Test.YtmjoklppibfdmaaDoorLogYa
import Derived.Test.YtmjoklppibfdmaaDoorGm
import Derived.Test.YtmjoklppibfdmaaDoorGn
import Derived.Deep.RegionHeld
import Derived.Deep.RegionHeld2
namespace Go.Proofs.YtmjoklppibfdmaaDoor
open Go.RowKit
set_option linter.unusedVariables false

set_option maxRecDepth 100000 in
set_option maxHeartbeats 1000000 in
theorem openL_no {w : World} {D n M : Nat} {F : Nat → Prop} {e : Nat → Int} (h : Sd w D F n M e) (from_ sectors : Int) (hw1 : -9223372036854775808 ≤ from_ ∧ from_ ≤ 9223372036854775807) (hb : from_ < 0 ∨ sectors < 1 ∨ (n : Int) - from_ < sectors) :
    Calls Tryd.prog 31 #[.pointer (some ⟨D, 0, none⟩), .int .i64 from_, .int .i64 sectors] w fun r w' => r = .returned (.tuple #[.pointer none, .slice none 0 0, .int .i64 1]) ∧ w' = w := by
  obtain ⟨n1, n2⟩ := h.n2
  have HSc : Hid (Calls Tryd.prog 43 #[.pointer (some ⟨D, 0, none⟩)] w fun r w' => r = .returned (.int .i64 (n : Int)) ∧ w' = w) := sdSectors D n M F e w h
  clear h
  have i5 : ((n : Int) == 0) = false := by rw [beq_eq_false_iff_ne]; omega
  by_cases h1 : from_ < 0
  · have d1 : decide (from_ < 0) = true := decide_eq_true h1
    clear hb
    go_enter Tryd.func31, Tryd.ntmps31
    go_wp2_with fail
    refine HSc.out.mono ?_
    rintro r w0 ⟨rfl, hw⟩
    obtain rfl : w = w0 := hw.symm
    clear hw
    go_wp2
    go_ret3
    exact ⟨rfl, rfl⟩
  · have d1 : decide (from_ < 0) = false := decide_eq_false h1
    by_cases h2 : sectors < 1
    · have d2 : decide (sectors < 1) = true := decide_eq_true h2
      clear hb
      go_enter Tryd.func31, Tryd.ntmps31
      go_wp2_with fail
      refine HSc.out.mono ?_
      rintro r w0 ⟨rfl, hw⟩
      obtain rfl : w = w0 := hw.symm
      clear hw
      go_wp2
      go_ret3
      exact ⟨rfl, rfl⟩
    · have d2 : decide (sectors < 1) = false := decide_eq_false h2
      have h4 : (n : Int) - from_ < sectors := by omega
      have hw9 : IntKind.i64.wrap ((n : Int) - from_) = (n : Int) - from_ := by rw [IntKind.wrap_i64]; omega
      have d4 : decide ((n : Int) - from_ < sectors) = true := decide_eq_true h4
      clear hb hw1
      go_enter Tryd.func31, Tryd.ntmps31
      go_wp2_with fail
      refine HSc.out.mono ?_
      rintro r w0 ⟨rfl, hw⟩
      obtain rfl : w = w0 := hw.symm
      clear hw
      go_wp2_with fail
      refine HSc.out.mono ?_
      rintro r w0 ⟨rfl, hw⟩
      obtain rfl : w = w0 := hw.symm
      clear hw
      go_wp2
      go_ret3
      exact ⟨rfl, rfl⟩

theorem sd_same {w : World} {D X n : Nat} {F G : Nat → Prop} {e : Nat → Int} (hd : Sd w D F n 0 e) (hx : Sx w X G n 0 e) :
    Calls Tryd.prog 33 #[.pointer (some ⟨D, 0, none⟩), .pointer (some ⟨X, 0, none⟩)] w fun r w' => r = .returned (.bool true) ∧ Below w.heap.size w w' := by
  obtain ⟨dur, m, tf, ld, hr, hm, hs, hb⟩ := hx
  obtain rfl : m = 0 := by omega
  obtain ⟨tf0, ld0, S, Bd, Bl, cD, cL, vT, vL, h1⟩ := hd.quiet
  have hR := hr
  obtain ⟨gB, cB, vP, rb, rc, pb, pc, r⟩ := hr
  refine sameDisks D X n 0 F G dur tf ld w ⟨S, Bd, Bl, cD, cL, vT, vL, h1.ext (fun i hi => ?_) (fun _ h => by omega) (fun _ h => by omega) r.by1 r.by2⟩ hR (by decide)
  have := hs (i / 128) (by omega) (i % 128) (Nat.mod_lt _ (by decide))
  rw [seen0] at this
  have e1 : sh dur (i / 128 * 128) (i % 128) = dur i := by
    unfold sh
    congr 1
    omega
  rw [e1, show i / 128 * 128 + i % 128 = i by omega] at this
  exact this.symm

/-- The law's pair. -/
def Prb (w : World) (b D X : Nat) (vl vm : Value) : Prop := w.heap[b]? = some (.cells #[.pointer (some ⟨D, 0, none⟩), .pointer (some ⟨X, 0, none⟩), vl, vm] 32 (0, 0))
theorem Prb.cells {w : World} {b D X : Nat} {vl vm : Value} (h : Prb w b D X vl vm) : w.cell? ⟨b, 0, none⟩ = some (.pointer (some ⟨D, 0, none⟩)) ∧ w.cell? ⟨b, 1, none⟩ = some (.pointer (some ⟨X, 0, none⟩)) ∧ w.cell? ⟨b, 2, none⟩ = some vl ∧ w.cell? ⟨b, 3, none⟩ = some vm :=
  ⟨by rw [cells_at h 0]; rfl, by rw [cells_at h 1]; rfl, by rw [cells_at h 2]; rfl, by rw [cells_at h 3]; rfl⟩
/-- Both logs, side by side, since the law began at w0. -/
structure Bth (w0 w : World) (b D X L M n from_ sectors : Nat) (e : Nat → Int) (x : St) (PA PB : Nat → Prop) : Prop where
  pg : Pg w PA D L n from_ sectors e x
  dg : Dg w PB X M n from_ sectors e x
  ok : Okx from_ sectors n x
  dj : ∀ k, PA k → ¬ PB k
  na : ¬ PA b
  nb : ¬ PB b
  hb : Prb w b D X (.pointer (some ⟨L, 0, none⟩)) (.pointer (some ⟨M, 0, none⟩))
  b0 : w0.heap.size ≤ b
  la : ∀ k, PA k → w0.heap.size ≤ k
  lb : ∀ k, PB k → w0.heap.size ≤ k
  bl : Below w0.heap.size w0 w
theorem Prb.part {w w' : World} {G : Nat → Prop} {b D X : Nat} {vl vm : Value} (h : Prb w b D X vl vm) (hp : Part G w w') (hn : ¬ G b) : Prb w' b D X vl vm := (hp.block b (Array.getElem?_eq_some_iff.1 h).1 hn).trans h
theorem part_below {w0 w w' : World} {G : Nat → Prop} (h : Below w0.heap.size w0 w) (hp : Part G w w') (hG : ∀ k, G k → w0.heap.size ≤ k) : Below w0.heap.size w0 w' := h.trans ⟨hp.os, hp.tape, hp.output, hp.size, fun q hq => hp.block q (by have := h.size; omega) (fun hg => by have := hG q hg; omega)⟩
theorem Bth.below {w0 w w' : World} {b D X L M n from_ sectors : Nat} {e : Nat → Int} {x : St} {PA PB : Nat → Prop} (h : Bth w0 w b D X L M n from_ sectors e x PA PB) (hb : Below w.heap.size w w') : Bth w0 w' b D X L M n from_ sectors e x PA PB :=
  ⟨h.pg.below hb, h.dg.below hb, h.ok, h.dj, h.na, h.nb, h.hb.part (Part.ofBelow (F := fun _ => False) hb) (fun h => h), h.b0, h.la, h.lb, h.bl.trans (hb.mono h.bl.size)⟩

set_option maxRecDepth 100000 in
set_option maxHeartbeats 4000000 in
theorem pr_same {w0 w : World} {b D X L M n from_ sectors : Nat} {e : Nat → Int} {x : St} {PA PB : Nat → Prop} (h : Bth w0 w b D X L M n from_ sectors e x PA PB) :
    Calls Tryd.prog 10 #[.pointer (some ⟨b, 0, none⟩)] w fun r w' => r = .returned (.bool true) ∧ Below w.heap.size w w' := by
  have HS : Hid (∀ wq, Below w.heap.size w wq → wq.cell? ⟨b, 0, none⟩ = some (.pointer (some ⟨D, 0, none⟩)) ∧ wq.cell? ⟨b, 1, none⟩ = some (.pointer (some ⟨X, 0, none⟩)) ∧ wq.cell? ⟨b, 2, none⟩ = some (.pointer (some ⟨L, 0, none⟩)) ∧ wq.cell? ⟨b, 3, none⟩ = some (.pointer (some ⟨M, 0, none⟩))) := fun wq hq => (h.below hq).hb.cells
  have H1 : Hid (∀ wq, Below w.heap.size w wq → Calls Tryd.prog 26 #[.pointer (some ⟨L, 0, none⟩)] wq fun r w' => r = .returned (.int .i64 (x.first : Int)) ∧ Below w.heap.size w w') := fun wq hq => (pg_first (h.below hq).pg).mono fun r w' ⟨hr, hw⟩ => ⟨hr, by rw [hw]; exact hq⟩
  have H2 : Hid (∀ wq, Below w.heap.size w wq → Calls Tryd.prog 39 #[.pointer (some ⟨M, 0, none⟩)] wq fun r w' => r = .returned (.int .i64 (x.first : Int)) ∧ Below w.heap.size w w') := fun wq hq => (dg_first (h.below hq).dg).mono fun r w' ⟨hr, hw⟩ => ⟨hr, by rw [hw]; exact hq⟩
  have H3 : Hid (∀ wq, Below w.heap.size w wq → Calls Tryd.prog 16 #[.pointer (some ⟨L, 0, none⟩)] wq fun r w' => r = .returned (.int .i64 (x.last : Int)) ∧ Below w.heap.size w w') := fun wq hq => (pg_last (h.below hq).pg).mono fun r w' ⟨hr, hw⟩ => ⟨hr, by rw [hw]; exact hq⟩
  have H4 : Hid (∀ wq, Below w.heap.size w wq → Calls Tryd.prog 40 #[.pointer (some ⟨M, 0, none⟩)] wq fun r w' => r = .returned (.int .i64 (x.last : Int)) ∧ Below w.heap.size w w') := fun wq hq => (dg_last (h.below hq).dg).mono fun r w' ⟨hr, hw⟩ => ⟨hr, by rw [hw]; exact hq⟩
  have H5 : Hid (∀ wq, Below w.heap.size w wq → Calls Tryd.prog 15 #[.pointer (some ⟨L, 0, none⟩)] wq fun r w' => r = .returned (.int .i64 (x.forced : Int)) ∧ Below w.heap.size w w') := fun wq hq => (pg_forced (h.below hq).pg).mono fun r w' ⟨hr, hw⟩ => ⟨hr, by rw [hw]; exact hq⟩
  have H6 : Hid (∀ wq, Below w.heap.size w wq → Calls Tryd.prog 41 #[.pointer (some ⟨M, 0, none⟩)] wq fun r w' => r = .returned (.int .i64 (x.forced : Int)) ∧ Below w.heap.size w w') := fun wq hq => (dg_forced (h.below hq).dg).mono fun r w' ⟨hr, hw⟩ => ⟨hr, by rw [hw]; exact hq⟩
  obtain ⟨rm, hrm⟩ : ∃ rm : Int, ((sectors * 112 - x.tot : Nat) : Int) = rm := ⟨_, rfl⟩
  have H7 : Hid (∀ wq, Below w.heap.size w wq → Calls Tryd.prog 28 #[.pointer (some ⟨L, 0, none⟩)] wq fun r w' => r = .returned (.int .i64 rm) ∧ Below w.heap.size w w') := fun wq hq => (pg_room (h.below hq).pg h.ok).mono fun r w' ⟨hr, q, hw⟩ => ⟨by rw [← hrm]; exact hr, by rw [hw]; exact blw_drewN q hq⟩
  have H8 : Hid (∀ wq, Below w.heap.size w wq → Calls Tryd.prog 42 #[.pointer (some ⟨M, 0, none⟩)] wq fun r w' => r = .returned (.int .i64 rm) ∧ Below w.heap.size w w') := fun wq hq => (dg_room (h.below hq).dg h.ok).mono fun r w' ⟨hr, q, hw⟩ => ⟨by rw [← hrm]; exact hr, by rw [hw]; exact blw_drewN q hq⟩
  have H9 : Hid (∀ wq, Below w.heap.size w wq → Calls Tryd.prog 33 #[.pointer (some ⟨D, 0, none⟩), .pointer (some ⟨X, 0, none⟩)] wq fun r w' => r = .returned (.bool true) ∧ Below w.heap.size w w') := fun wq hq => by
    obtain ⟨T, F, vt, q, _, _, _, h4, _⟩ := (h.below hq).pg.lay
    obtain ⟨G, a0, cs, _, _, _, _, _, h6, _⟩ := (h.below hq).dg.lay
    exact (sd_same h4 h6).mono fun r w' ⟨hr, hw⟩ => ⟨hr, hq.trans (hw.mono hq.size)⟩
  obtain ⟨zf, hzf⟩ : ∃ z : Int, (x.first : Int) = z := ⟨_, rfl⟩
  obtain ⟨zl, hzl⟩ : ∃ z : Int, (x.last : Int) = z := ⟨_, rfl⟩
  obtain ⟨zo, hzo⟩ : ∃ z : Int, (x.forced : Int) = z := ⟨_, rfl⟩
  rw [hzf] at H1 H2
  rw [hzl] at H3 H4
  rw [hzo] at H5 H6
  have k0 : Below w.heap.size w w := Below.refl _ w
  obtain ⟨p0, p1, p2, p3⟩ := h.hb.cells
  clear h hzf hzl hzo hrm
  go_enter Tryd.func10, Tryd.ntmps10
  go_wp2_with fail
  go_region_held2 (fun wq => wq.cell? ⟨b, 0, none⟩ = some (.pointer (some ⟨D, 0, none⟩)) ∧ wq.cell? ⟨b, 1, none⟩ = some (.pointer (some ⟨X, 0, none⟩)) ∧ wq.cell? ⟨b, 2, none⟩ = some (.pointer (some ⟨L, 0, none⟩)) ∧ wq.cell? ⟨b, 3, none⟩ = some (.pointer (some ⟨M, 0, none⟩)))
    (first | exact HS.out _ (by assumption) | exact HS.out _ (Below.drew (by assumption)) | go_keep)
    (first
      | (go_at_call 26; refine (H1.out _ (by first | exact k0 | exact k0.drew)).mono ?_; rintro e' w1 ⟨rfl, k1⟩)
      | (go_at_call 39; refine (H2.out _ k1).mono ?_; rintro e' w2 ⟨rfl, k2⟩)
      | (go_at_call 16; refine (H3.out _ k2).mono ?_; rintro e' w3 ⟨rfl, k3⟩)
      | (go_at_call 40; refine (H4.out _ k3).mono ?_; rintro e' w4 ⟨rfl, k4⟩)
      | (go_at_call 15; refine (H5.out _ k4).mono ?_; rintro e' w5 ⟨rfl, k5⟩)
      | (go_at_call 41; refine (H6.out _ k5).mono ?_; rintro e' w6 ⟨rfl, k6⟩)
      | (go_at_call 28; refine (H7.out _ k6).mono ?_; rintro e' w7 ⟨rfl, k7⟩)
      | (go_at_call 42; refine (H8.out _ k7).mono ?_; rintro e' w8 ⟨rfl, k8⟩)
      | (go_at_call 33; refine (H9.out _ k8).mono ?_; rintro e' w9 ⟨rfl, k9⟩))
  go_wp2
  go_ret
  exact ⟨rfl, k9⟩
end Go.Proofs.YtmjoklppibfdmaaDoor
