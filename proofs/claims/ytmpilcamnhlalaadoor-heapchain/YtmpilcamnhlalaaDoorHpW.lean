/-
  A heap's contract: add of a new object that wants a collection of a list.
-/
import Derived.Test.YtmpilcamnhlalaaDoorHpU
namespace Go.Proofs.YtmpilcamnhlalaaDoor
open Go.RowKit
set_option linter.unusedVariables false

theorem add_part {w : World} {h : Nat} {P : Nat → Prop} {x : HV} (k : Hp w h P x) (kd fb m : Nat) (f : Nat → Int) (hf : w.heap[fb]? = some (.cells (wrow f m) 28 (0, 0))) (hfP : ¬ P fb) (hn : x.ny + 1 ≤ 1000) (hm : m ≤ 30) (hyc : x.yc ≤ 1000) (l : Obj) (hl : l = Obj.cells #[.int .i64 (kd : Int), .slice (some ⟨fb, 0, none⟩) m m, .string ⟨#[]⟩, .bool false] 60) :
    Calls Tryd.prog 36 #[.pointer (some ⟨h, 3, none⟩), .slice (some ⟨w.heap.size, 0, none⟩) 1 1] (w.alloc l).drew fun r w' => r = .returned (.tuple #[]) ∧ Hid (Hp w' h (more P fb w w') (x.add kd fb m f) ∧ Part (fun q => P q ∨ q = fb) w w') := by
  obtain ⟨so, sy, sr, k1, k2, k3, k4, k5, k6, k7, k8, k9⟩ := k.lay
  obtain ⟨ao, co, rfl⟩ := row_slice k2
  obtain ⟨ay, cy, rfl⟩ := row_slice k3
  have n1 := k.n1
  have n2 := k.n2
  have hhl : h < w.heap.size := k.lt _ k.hP
  have hfl : fb < w.heap.size := (Array.getElem?_eq_some_iff.1 hf).1
  have bq : Below w.heap.size w (w.alloc l).drew := ((Below.refl _ w).alloc (Nat.le_refl _) l).drew
  have hs := bq.size
  have kq := k.below bq
  have e1 := (bq.block h hhl).trans k1
  have r2 := (Part.ofBelow (F := fun _ => False) bq).row k2 (fun _ _ h => h)
  have r3 := (Part.ofBelow (F := fun _ => False) bq).row k3 (fun _ _ h => h)
  have r4 := (Part.ofBelow (F := fun _ => False) bq).row k4 (fun _ _ h => h)
  have hlq : (w.alloc l).drew.heap[w.heap.size]? = some (.cells (obj4 (kd : Int) fb m).toArray 60 (0, 0)) := by rw [hl]; exact heap_alloc_at _ _ _ rfl
  refine (h_partAdd (w := (w.alloc l).drew) (b := h) (p := 3) (v := .slice ay x.ny cy) (n := x.ny) (lb := w.heap.size) (fb := fb) (m := m) (yc := x.yc) (kd := (kd : Int)) e1 rfl rfl r3 (row_ne r3 e1 (by decide)) (fun e => by have := (World.ownsRow.lt k3 _ e).2; omega) hlq (by omega) (by omega) (by omega) (by omega)).mono ?_
  rintro r w' ⟨v', rfl, z1, z2, z3, z4⟩
  have hs3 := z3.size
  refine ⟨rfl, ?_, ?_⟩
  · have hA := Hp.added (f := f) kq e1 r2 r3 r4 k5 k6 k7 k8 k9 ((bq.block fb hfl).trans hf) hfP hn z1 z2 z3 z4
    refine hA.grow (fun q hq => ?_) (fun q hq => ?_)
    · rcases hq with a | a | a
      · exact .inl a
      · exact .inr (.inl a)
      · exact .inr (.inr ⟨by omega, a.2⟩)
    · rcases hq with a | rfl | a
      · have := k.lt q a; omega
      · omega
      · exact a.2
  · refine (Part.ofBelow (F := fun q => P q ∨ q = fb) bq).trans z3 (fun q _ hq => ?_)
    rcases hq with rfl | hq
    · exact .inl k.hP
    · exact .inl (k8 q hq.symm)
theorem add_fin {w : World} {h : Nat} {P : Nat → Prop} {x : HV} {N : Nat} (k : Hp w h P x) (hN : x.no + x.ny = N + 1) : Hid (∀ wq, Dr w wq → Calls Tryd.prog 34 #[.pointer (some ⟨h, 0, none⟩)] wq fun r w2 => r = .returned (.int .i64 ((N : Int) + 1)) ∧ Dr w w2) ∧ Hid (∀ wq, Dr w wq → Calls Tryd.prog 33 #[.int .i64 (N : Int)] wq fun r w2 => r = .returned (.int .i64 (2 * (N : Int) + 2)) ∧ Dr w w2) ∧ Hid (∀ wq, Dr w wq → Calls Tryd.prog 27 #[.pointer (some ⟨h, 0, none⟩), .int .i64 (2 * (N : Int) + 2)] wq fun r w2 => r = .returned (.int .i64 (tw x.sft (some N))) ∧ Dr w w2) ∧ Hid (∀ wq, Dr w wq → Hp wq h P x) := by
  have n1 := k.n1
  have n2 := k.n2
  have s1 := k.s1
  have key : ∀ wq, Dr w wq → Hp wq h P x := fun wq hq => k.below hq.below
  refine ⟨fun wq hq => ?_, fun wq hq => ?_, fun wq hq => ?_, key⟩
  · obtain ⟨so', sy', sr', e1, e2, e3, _⟩ := (key wq hq).lay
    obtain ⟨_, _, rfl⟩ := row_slice e2
    obtain ⟨_, _, rfl⟩ := row_slice e3
    refine (h_count e1 (by omega) (by omega)).mono fun r w2 ⟨hr, hw⟩ => ⟨?_, hq.trans hw⟩
    rw [hr, hN]
    congr 2
  · exact (h_word N wq (by omega)).mono fun r w2 ⟨hr, hw⟩ => ⟨hr, by rw [hw]; exact hq⟩
  · obtain ⟨so', sy', sr', e1, _⟩ := (key wq hq).lay
    exact (h_told (sft := x.sft) e1 (some N) (fun j hj => by cases hj; omega) (by omega)).mono fun r w2 ⟨hr, hw⟩ => ⟨hr, by rw [hw]; exact hq⟩

set_option maxRecDepth 100000 in
set_option maxHeartbeats 1000000 in
theorem h_add_col {w : World} {h : Nat} {P : Nat → Prop} {x : HV} {t : Nat} {y : Nat → Nat} {oo : Option Nat} (k : Hp w h P x) (c : Yc x t y oo) (kd fb m : Nat) (f : Nat → Int) (hf : w.heap[fb]? = some (.cells (wrow f m) 28 (0, 0))) (hfP : ¬ P fb) (l1 : 1 ≤ m) (l2 : m ≤ 2) (kf1 : f (m - 1) = kw x.r) (kf0 : ∀ q, q + 1 < m → Sk x.no (f q)) (hny : 0 < x.ny) (hyc : x.yc ≤ 32) (hno : 32 < x.yc + (1 + m)) (hoc : x.oc + 3 * t ≤ 1000) (hnt : x.no + t ≤ 1000) (hs : x.sft + 2 * (x.no + x.ny) ≤ 4000000) (hmi : x.mi ≤ 1000000) :
    Calls Tryd.prog 25 #[.pointer (some ⟨h, 0, none⟩), .agg #[.int .i64 (kd : Int), .slice (some ⟨fb, 0, none⟩) m m, .string ⟨#[]⟩, .bool false]] w fun r w' => r = .returned (.tuple #[.int .i64 (tw (x.col t y oo).sft (some (x.no + t))), .int .i64 0]) ∧ Hid (Hp w' h (more P fb w w') ((x.col t y oo).add kd fb m (fun q => if q + 1 = m then kw (x.col t y oo).r else f q)) ∧ Part (fun q => P q ∨ q = fb) w w') := by
  obtain ⟨so, sy, sr, k1, _⟩ := k.lay
  have n1 := k.n1
  have n2 := k.n2
  have hhl : h < w.heap.size := k.lt _ k.hP
  have hfl : fb < w.heap.size := (Array.getElem?_eq_some_iff.1 hf).1
  obtain ⟨o, ho⟩ : ∃ o, Obj.cells #[.int .i64 (kd : Int), .slice (some ⟨fb, 0, none⟩) m m, .string ⟨#[]⟩, .bool false] 60 = o := ⟨_, rfl⟩
  have bo : Below w.heap.size w (w.alloc o) := (Below.refl _ w).alloc (Nat.le_refl _) o
  have so1 : (w.alloc o).heap.size = w.heap.size + 1 := by simp
  have hbox : (w.alloc o).heap[w.heap.size]? = some (.cells #[.int .i64 (kd : Int), .slice (some ⟨fb, 0, none⟩) m m, .string ⟨#[]⟩, .bool false] 60 (0, 0)) := by rw [← ho]; exact heap_alloc_at _ _ _ rfl
  have HC : Hid (Calls Tryd.prog 35 #[.pointer (some ⟨w.heap.size, 0, none⟩)] (w.alloc o) fun r w' => r = .returned (.int .i64 ((1 + m : Nat) : Int)) ∧ Dr (w.alloc o) w') := h_cells (g := w.heap.size) (off := 0) (m := m) (c := m) (a := some ⟨fb, 0, none⟩) (by rw [cells_at hbox 1]; rfl) (by rw [cells_at hbox 2]; rfl) (by omega)
  have HS : Hid (∀ wq, Dr (w.alloc o) wq → wq.cell? ⟨h, 4, none⟩ = some (.int .i64 (x.yc : Int)) ∧ wq.cell? ⟨h, 5, none⟩ = some (.int .i64 32) ∧ wq.cell? ⟨h, 11, none⟩ = some (.bool false) ∧ wq.cell? ⟨w.heap.size, 1, none⟩ = some (.slice (some ⟨fb, 0, none⟩) m m)) := fun wq hq => by
    obtain ⟨q, rfl⟩ := hq
    have e1 : Hd (w.alloc o) h _ _ _ _ _ _ _ _ _ _ _ _ := (bo.block h hhl).trans k1
    obtain ⟨_, _, _, _, c4, c5, _, _, _, _, _, c11⟩ := hget e1
    exact ⟨c4, c5, c11, by show (w.alloc o).cell? _ = _; rw [cells_at hbox 1]; rfl⟩
  have HCo : Hid (∀ wq, Dr (w.alloc o) wq → Calls Tryd.prog 32 #[.pointer (some ⟨h, 0, none⟩), .bool false, .slice (some ⟨fb, 0, none⟩) m m] wq fun r w2 => r = .returned (.int .i64 0) ∧ w2.cell? ⟨w.heap.size, 0, none⟩ = some (.int .i64 (kd : Int)) ∧ w2.cell? ⟨w.heap.size, 1, none⟩ = some (.slice (some ⟨fb, 0, none⟩) m m) ∧ w2.cell? ⟨w.heap.size, 2, none⟩ = some (.string ⟨#[]⟩) ∧ w2.cell? ⟨w.heap.size, 3, none⟩ = some (.bool false) ∧ Hid (Calls Tryd.prog 36 #[.pointer (some ⟨h, 3, none⟩), .slice (some ⟨w2.heap.size, 0, none⟩) 1 1] (w2.alloc o).drew fun r w3 => r = .returned (.tuple #[]) ∧ Hid (Hp w3 h (more P fb w w3) ((x.col t y oo).add kd fb m (fun q => if q + 1 = m then kw (x.col t y oo).r else f q)) ∧ Part (fun q => P q ∨ q = fb) w w3))) := fun wq hq => by
    have bq : Below w.heap.size w wq := bo.trans hq.below
    have sq : wq.heap.size = w.heap.size + 1 := by obtain ⟨n, rfl⟩ := hq; exact so1
    have hboxq : wq.heap[w.heap.size]? = some (.cells #[.int .i64 (kd : Int), .slice (some ⟨fb, 0, none⟩) m m, .string ⟨#[]⟩, .bool false] 60 (0, 0)) := by obtain ⟨n, rfl⟩ := hq; exact hbox
    refine (h_collect (k.below bq) c hny ((bq.block fb hfl).trans hf) hfP l1 l2 kf1 kf0 hoc hnt hs hmi).mono ?_
    rintro r w2 ⟨rfl, HL⟩
    obtain ⟨a1, a2, a3⟩ := HL.out
    have s2 := a3.size
    have hbox2 := a3.pair hboxq (fun e => by
      rcases e with e | e
      · have := k.lt _ e; omega
      · omega)
    refine ⟨rfl, by rw [cells_at hbox2 0]; rfl, by rw [cells_at hbox2 1]; rfl, by rw [cells_at hbox2 2]; rfl, by rw [cells_at hbox2 3]; rfl, ?_⟩
    refine (add_part a1 kd fb m _ a2 (fun e => ?_) (by show 0 + 1 ≤ 1000; omega) (by omega) (by show 0 ≤ 1000; omega) o ho.symm).mono ?_
    · rcases e with e | e
      · exact hfP e
      · omega
    rintro r w3 ⟨rfl, HP⟩
    obtain ⟨b1, b2⟩ := HP.out
    have s3 := b2.size
    refine ⟨rfl, b1.grow (fun q hq' => ?_) (fun q hq' => ?_), ?_⟩
    · rcases hq' with (e | e) | e | e
      · exact .inl e
      · exact .inr (.inr ⟨by omega, by omega⟩)
      · exact .inr (.inl e)
      · exact .inr (.inr ⟨by omega, e.2⟩)
    · rcases hq' with e | rfl | e
      · have := k.lt q e; omega
      · omega
      · exact e.2
    · refine ((Part.ofBelow (F := fun q => P q ∨ q = fb) bq).trans a3 (fun _ _ h => h)).trans b2 (fun q hql e => ?_)
      rcases e with (e | e) | e
      · exact .inl e
      · omega
      · exact .inr e
  have HFin : Hid (∀ w3, Hp w3 h (more P fb w w3) ((x.col t y oo).add kd fb m (fun q => if q + 1 = m then kw (x.col t y oo).r else f q)) → Hid (∀ wq, Dr w3 wq → Calls Tryd.prog 34 #[.pointer (some ⟨h, 0, none⟩)] wq fun r w2 => r = .returned (.int .i64 (((x.no + t : Nat) : Int) + 1)) ∧ Dr w3 w2) ∧ Hid (∀ wq, Dr w3 wq → Calls Tryd.prog 33 #[.int .i64 ((x.no + t : Nat) : Int)] wq fun r w2 => r = .returned (.int .i64 (2 * ((x.no + t : Nat) : Int) + 2)) ∧ Dr w3 w2) ∧ Hid (∀ wq, Dr w3 wq → Calls Tryd.prog 27 #[.pointer (some ⟨h, 0, none⟩), .int .i64 (2 * ((x.no + t : Nat) : Int) + 2)] wq fun r w2 => r = .returned (.int .i64 (tw (x.col t y oo).sft (some (x.no + t)))) ∧ Dr w3 w2) ∧ Hid (∀ wq, Dr w3 wq → Hp wq h (more P fb w wq) ((x.col t y oo).add kd fb m (fun q => if q + 1 = m then kw (x.col t y oo).r else f q)))) := fun w3 hH => by
    obtain ⟨f1, f2, f3, f4⟩ := add_fin (N := x.no + t) hH (by show x.no + t + (0 + 1) = _; omega)
    refine ⟨f1, f2, f3, fun wq hq => ?_⟩
    obtain ⟨q, rfl⟩ := hq
    exact f4.out _ ⟨q, rfl⟩
  obtain ⟨cc, hcc⟩ : ∃ cc : Nat, 1 + m = cc := ⟨_, rfl⟩
  rw [hcc] at HC
  have d1 : decide ((32 : Int) < (cc : Int)) = false := decide_eq_false (by omega)
  have d2 : decide ((32 : Int) < (x.yc : Int) + (cc : Int)) = true := decide_eq_true (by omega)
  have d3 : (32 : Int) < (x.yc : Int) + (cc : Int) := by omega
  have hcc' : (cc : Int) ≤ 31 := by omega
  have hyc' : (x.yc : Int) ≤ 32 := by omega
  have hN : ((x.no + t : Nat) : Int) ≤ 2000 := by omega
  have hN0 : (0 : Int) ≤ ((x.no + t : Nat) : Int) := by omega
  generalize ((x.no + t : Nat) : Int) = N at *
  generalize tw (x.col t y oo).sft (some (x.no + t)) = z9 at *
  have k0 : Dr (w.alloc o) (w.alloc o) := Dr.refl _
  clear k k1 c hf hfP bo hbox hfl hhl n1 n2 hcc hno l1 l2 kf1 kf0 hoc hnt hs hmi hyc so1 hny
  go_enter Tryd.func25, Tryd.ntmps25
  go_wp2_with fail
  try rw [ho]
  refine HC.out.mono ?_
  rintro r w1 ⟨rfl, q1⟩
  obtain ⟨c4, c5, c11, _⟩ := HS.out _ q1
  go_wp2_with fail
  go_quiet (fail)
  have q2 : Dr (w.alloc o) (w1.drewN nq) := q1.trans ⟨nq, rfl⟩
  generalize w1.drewN nq = w2 at *
  obtain ⟨_, _, _, b1⟩ := HS.out _ q2
  clear c4 c5 c11 HC HS q1
  go_wp2_with fail
  refine (HCo.out _ q2).mono ?_
  rintro r w3 ⟨rfl, e0, e1, e2, e3, HP2⟩
  clear HCo b1 q2
  go_wp2_with fail
  go_region_with (first
    | (go_at_call 36; refine HP2.out.mono ?_; rintro e' w4 ⟨rfl, HR⟩))
  all_goals
    obtain ⟨G1, G2, G3, G4⟩ := HFin.out _ HR.out.1
    have q3 : Dr w4 w4 := Dr.refl _
    clear HP2 HFin e0 e1 e2 e3
    go_wp2_with fail
    refine (G1.out _ q3).mono ?_
    rintro r w5 ⟨rfl, q5⟩
    go_wp2_with fail
    refine (G2.out _ q5).mono ?_
    rintro r w6 ⟨rfl, q6⟩
    go_wp2_with fail
    refine (G3.out _ q6).mono ?_
    rintro r w7 ⟨rfl, q7⟩
    go_wp2
    go_ret2
    exact ⟨rfl, G4.out _ q7, by obtain ⟨n, rfl⟩ := q7; exact HR.out.2.drewN n⟩
end Go.Proofs.YtmpilcamnhlalaaDoor
