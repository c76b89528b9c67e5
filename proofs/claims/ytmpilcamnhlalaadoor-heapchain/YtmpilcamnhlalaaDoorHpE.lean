/-
  A heap's contracts: add of a new object that goes in without a collection; SetRoot.
-/
import Derived.Test.YtmpilcamnhlalaaDoorHpD
namespace Go.Proofs.YtmpilcamnhlalaaDoor
open Go.RowKit
set_option linter.unusedVariables false

theorem row_ne {w : World} {B : Nat} {e : TypeId} {s : Nat} {v : Value} {n : Nat} {xs : List Value} (h : w.ownsRow B e s v n xs) {k : Nat} {cs : Array Value} {t : TypeId} {fz : Nat × Nat} (hk : w.heap[k]? = some (.cells cs t fz)) (ht : t ≠ e) : v.ownBlock ≠ some k := by
  rcases h.2 with ⟨rfl, _⟩ | ⟨g, cap, cur, rfl, h2, h3, h4, h5⟩
  · exact fun h => by cases h
  · intro e
    cases e
    rw [h3] at hk
    injection hk with hk
    injection hk with _ hk _
    exact ht hk.symm
theorem Hp.grow {w : World} {h : Nat} {P Q : Nat → Prop} {x : HV} (k : Hp w h P x) (h1 : ∀ k, P k → Q k) (h2 : ∀ k, Q k → k < w.heap.size) : Hp w h Q x := by
  obtain ⟨so, sy, sr, k1, k2, k3, k4, k5, k6, k7, k8, k9⟩ := k.lay
  exact ⟨⟨so, sy, sr, k1, k2, k3, k4, k5, k6, fun q hq => h1 _ (k7 q hq), fun q hq => h1 _ (k8 q hq), fun q hq => h1 _ (k9 q hq)⟩, fun j hj => ⟨(k.ff j hj).1, h1 _ (k.ff j hj).2⟩, k.inj, h1 _ k.hP, h2, k.n1, k.n2, k.rt, k.s1, k.s2⟩
/-- A table with one entry more. -/
def upd {α : Type} (f : Nat → α) (n : Nat) (v : α) : Nat → α := fun j => if j = n then v else f j
theorem upd_new {α : Type} (f : Nat → α) (n : Nat) (v : α) : upd f n v n = v := if_pos rfl
theorem upd_old {α : Type} (f : Nat → α) (n : Nat) (v : α) {j : Nat} (h : j < n) : upd f n v j = f j := if_neg (by omega)
def HV.add (x : HV) (kd fb m : Nat) (f : Nat → Int) : HV := { x with ny := x.ny + 1, K := upd x.K (x.no + x.ny) kd, FB := upd x.FB (x.no + x.ny) fb, FL := upd x.FL (x.no + x.ny) m, FW := upd x.FW (x.no + x.ny) f, yc := x.yc + (1 + m) }
def more (P : Nat → Prop) (fb : Nat) (w w' : World) : Nat → Prop := fun k => P k ∨ k = fb ∨ (w.heap.size ≤ k ∧ k < w'.heap.size)
theorem objL_add (x : HV) (kd fb m : Nat) (f : Nat → Int) : objL x.K x.FB x.FL x.no x.ny ++ obj4 (kd : Int) fb m = objL (x.add kd fb m f).K (x.add kd fb m f).FB (x.add kd fb m f).FL x.no (x.ny + 1) := by
  show _ = objL (upd x.K (x.no + x.ny) kd) (upd x.FB (x.no + x.ny) fb) (upd x.FL (x.no + x.ny) m) x.no (x.ny + 1)
  rw [objL]
  congr 1
  · exact objL_ext (fun j _ h2 => ⟨(upd_old _ _ _ h2).symm, (upd_old _ _ _ h2).symm, (upd_old _ _ _ h2).symm⟩)
  · unfold objC obj4
    rw [upd_new, upd_new, upd_new]
theorem Hp.added {w w' : World} {h : Nat} {P : Nat → Prop} {x : HV} {kd fb m : Nat} {f : Nat → Int} {so sy sr v' : Value} (k : Hp w h P x) (k1 : Hd w h so (x.oc : Int) 1000 sy (x.yc : Int) 32 sr (.slice none 0 0) (x.sft : Int) (x.mi : Int) 0 false) (k2 : w.ownsRow 0 60 4 so x.no (objL x.K x.FB x.FL 0 x.no)) (k3 : w.ownsRow 0 60 4 sy x.ny (objL x.K x.FB x.FL x.no x.ny)) (k4 : w.ownsRow 0 28 1 sr 1 [.int .i64 (kw x.r)]) (k5 : ∀ k, so.ownBlock = some k → sy.ownBlock ≠ some k) (k6 : ∀ j, j < x.no + x.ny → sr.ownBlock ≠ some (x.FB j)) (k7 : ∀ k, so.ownBlock = some k → P k) (k8 : ∀ k, sy.ownBlock = some k → P k) (k9 : ∀ k, sr.ownBlock = some k → P k)
    (hf : w.heap[fb]? = some (.cells (wrow f m) 28 (0, 0))) (hfP : ¬ P fb) (hn : x.ny + 1 ≤ 1000)
    (z1 : w'.heap[h]? = some (.cells ((#[so, .int .i64 (x.oc : Int), .int .i64 1000, sy, .int .i64 (x.yc : Int), .int .i64 32, sr, .slice none 0 0, .int .i64 (x.sft : Int), .int .i64 (x.mi : Int), .int .i64 0, .bool false].setIfInBounds 3 v').setIfInBounds (3 + 1) (.int .i64 ((x.yc + (1 + m) : Nat) : Int))) 43 (0, 0)))
    (z2 : w'.ownsRow 0 60 4 v' (x.ny + 1) (objL x.K x.FB x.FL x.no x.ny ++ obj4 (kd : Int) fb m)) (z3 : Part (fun k => k = h ∨ some k = sy.ownBlock) w w') (z4 : v'.ownBlock = sy.ownBlock ∨ ∃ k, v'.ownBlock = some k ∧ w.heap.size ≤ k) : Hp w' h (more P fb w w') (x.add kd fb m f) := by
  have hs := z3.size
  have hfl : fb < w.heap.size := (Array.getElem?_eq_some_iff.1 hf).1
  have hso := row_ne k2 k1 (by decide)
  have hsr := row_ne k4 k1 (by decide)
  have hsyr : ∀ q, sr.ownBlock = some q → sy.ownBlock ≠ some q := fun q hq e => by
    rcases k4.2 with ⟨rfl, _⟩ | ⟨g, cap, cur, rfl, h2, h3, _⟩
    · cases hq
    · cases hq
      exact row_ne k3 h3 (by decide) e
  have hv' : ∀ q, v'.ownBlock = some q → more P fb w w' q := fun q hq => by
    rcases z4 with a | ⟨q', a, b⟩
    · exact .inl (k8 q (by rw [← a]; exact hq))
    · rw [a] at hq; cases hq
      exact .inr (.inr ⟨b, (World.ownsRow.lt z2 _ a).2⟩)
  refine ⟨⟨so, v', sr, z1, ?_, ?_, ?_, fun q hq e => ?_, fun j hj e => ?_, fun q hq => .inl (k7 q hq), hv', fun q hq => .inl (k9 q hq)⟩, fun j hj => ?_, fun i j hi hj e => ?_, .inl k.hP, fun q hq => ?_, k.n1, hn, fun j hj => ?_, k.s1, k.s2⟩
  · have e9 : objL (x.add kd fb m f).K (x.add kd fb m f).FB (x.add kd fb m f).FL 0 x.no = objL x.K x.FB x.FL 0 x.no := objL_ext (fun j _ h2 => ⟨upd_old _ _ _ (by omega), upd_old _ _ _ (by omega), upd_old _ _ _ (by omega)⟩)
    show w'.ownsRow 0 60 4 so x.no (objL (x.add kd fb m f).K (x.add kd fb m f).FB (x.add kd fb m f).FL 0 x.no)
    rw [e9]
    refine z3.row k2 (fun q hq e => ?_)
    rcases e with rfl | e
    · exact hso hq
    · exact k5 q hq e.symm
  · show w'.ownsRow 0 60 4 v' (x.ny + 1) (objL (x.add kd fb m f).K (x.add kd fb m f).FB (x.add kd fb m f).FL x.no (x.ny + 1))
    rw [← objL_add]
    exact z2
  · refine z3.row k4 (fun q hq e => ?_)
    rcases e with rfl | e
    · exact hsr hq
    · exact hsyr q hq e.symm
  · rcases z4 with a | ⟨q', a, b⟩
    · exact k5 q hq (by rw [← a]; exact e)
    · rw [a] at e; cases e
      have := (World.ownsRow.lt k2 q hq).2
      omega
  · have hj' : j < x.no + (x.ny + 1) := hj
    change sr.ownBlock = some (upd x.FB (x.no + x.ny) fb j) at e
    by_cases ej : j = x.no + x.ny
    · rw [ej, upd_new] at e
      exact hfP (k9 _ e)
    · rw [upd_old _ _ _ (by omega)] at e
      exact k6 j (by omega) e
  · have hj' : j < x.no + (x.ny + 1) := hj
    show w'.heap[upd x.FB (x.no + x.ny) fb j]? = some (.cells (wrow (upd x.FW (x.no + x.ny) f j) (upd x.FL (x.no + x.ny) m j)) 28 (0, 0)) ∧ more P fb w w' (upd x.FB (x.no + x.ny) fb j)
    by_cases ej : j = x.no + x.ny
    · rw [ej, upd_new, upd_new, upd_new]
      refine ⟨z3.pair hf (fun e => ?_), .inr (.inl rfl)⟩
      rcases e with e | e
      · exact hfP (by rw [e]; exact k.hP)
      · exact hfP (k8 _ e.symm)
    · rw [upd_old _ _ _ (by omega), upd_old _ _ _ (by omega), upd_old _ _ _ (by omega)]
      obtain ⟨f1, f2⟩ := k.ff j (by omega)
      refine ⟨z3.pair f1 (fun e => ?_), .inl f2⟩
      rcases e with e | e
      · rw [e, k1] at f1
        injection f1 with f1
        injection f1 with _ f1 _
        exact absurd f1 (by decide)
      · exact row_ne k3 f1 (by decide) e.symm
  · have hi' : i < x.no + (x.ny + 1) := hi
    have hj' : j < x.no + (x.ny + 1) := hj
    change upd x.FB (x.no + x.ny) fb i = upd x.FB (x.no + x.ny) fb j at e
    by_cases ei : i = x.no + x.ny <;> by_cases ej : j = x.no + x.ny
    · omega
    · rw [ei, upd_new, upd_old _ _ _ (by omega)] at e
      exact absurd (by rw [e]; exact (k.ff j (by omega)).2) hfP
    · rw [ej, upd_new, upd_old _ _ _ (by omega)] at e
      exact absurd (by rw [← e]; exact (k.ff i (by omega)).2) hfP
    · rw [upd_old _ _ _ (by omega), upd_old _ _ _ (by omega)] at e
      exact k.inj i j (by omega) (by omega) e
  · rcases hq with a | rfl | a
    · have := k.lt q a; omega
    · omega
    · exact a.2
  · have := k.rt j hj
    show j < x.no + (x.ny + 1)
    omega

set_option maxRecDepth 100000 in
set_option maxHeartbeats 2000000 in
theorem h_add_fit {w : World} {h : Nat} {P : Nat → Prop} {x : HV} (k : Hp w h P x) (kd fb m : Nat) (f : Nat → Int) (hf : w.heap[fb]? = some (.cells (wrow f m) 28 (0, 0))) (hfP : ¬ P fb) (hn : x.ny + 1 ≤ 1000) (hm : m ≤ 30) (hfit : x.yc + (1 + m) ≤ 32) :
    Calls Tryd.prog 25 #[.pointer (some ⟨h, 0, none⟩), .agg #[.int .i64 (kd : Int), .slice (some ⟨fb, 0, none⟩) m m, .string ⟨#[]⟩, .bool false]] w fun r w' => r = .returned (.tuple #[.int .i64 (tw x.sft (some (x.no + x.ny))), .int .i64 0]) ∧ Hid (Hp w' h (more P fb w w') (x.add kd fb m f) ∧ Part (fun q => P q ∨ q = fb) w w') := by
  obtain ⟨so, sy, sr, k1, k2, k3, k4, k5, k6, k7, k8, k9⟩ := k.lay
  obtain ⟨ao, co, rfl⟩ := row_slice k2
  obtain ⟨ay, cy, rfl⟩ := row_slice k3
  have n1 := k.n1
  have n2 := k.n2
  have s1 := k.s1
  have hhl : h < w.heap.size := k.lt _ k.hP
  have hfl : fb < w.heap.size := (Array.getElem?_eq_some_iff.1 hf).1
  obtain ⟨o, ho⟩ : ∃ o, Obj.cells #[.int .i64 (kd : Int), .slice (some ⟨fb, 0, none⟩) m m, .string ⟨#[]⟩, .bool false] 60 = o := ⟨_, rfl⟩
  have bo : Below w.heap.size w (w.alloc o) := (Below.refl _ w).alloc (Nat.le_refl _) o
  have hbox : (w.alloc o).heap[w.heap.size]? = some (.cells #[.int .i64 (kd : Int), .slice (some ⟨fb, 0, none⟩) m m, .string ⟨#[]⟩, .bool false] 60 (0, 0)) := by rw [← ho]; exact heap_alloc_at _ _ _ rfl
  have HC : Hid (Calls Tryd.prog 35 #[.pointer (some ⟨w.heap.size, 0, none⟩)] (w.alloc o) fun r w' => r = .returned (.int .i64 ((1 + m : Nat) : Int)) ∧ Dr (w.alloc o) w') := h_cells (g := w.heap.size) (off := 0) (m := m) (c := m) (a := some ⟨fb, 0, none⟩) (by rw [cells_at hbox 1]; rfl) (by rw [cells_at hbox 2]; rfl) (by omega)
  have HS : Hid (∀ wq, Dr (w.alloc o) wq → wq.cell? ⟨h, 4, none⟩ = some (.int .i64 (x.yc : Int)) ∧ wq.cell? ⟨h, 5, none⟩ = some (.int .i64 32) ∧ wq.cell? ⟨h, 11, none⟩ = some (.bool false) ∧ wq.cell? ⟨w.heap.size, 0, none⟩ = some (.int .i64 (kd : Int)) ∧ wq.cell? ⟨w.heap.size, 1, none⟩ = some (.slice (some ⟨fb, 0, none⟩) m m) ∧ wq.cell? ⟨w.heap.size, 2, none⟩ = some (.string ⟨#[]⟩) ∧ wq.cell? ⟨w.heap.size, 3, none⟩ = some (.bool false)) := fun wq hq => by
    obtain ⟨q, rfl⟩ := hq
    have e1 : Hd (w.alloc o) h _ _ _ _ _ _ _ _ _ _ _ _ := (bo.block h hhl).trans k1
    obtain ⟨_, _, _, _, c4, c5, _, _, _, _, _, c11⟩ := hget e1
    exact ⟨c4, c5, c11, by show (w.alloc o).cell? _ = _; rw [cells_at hbox 0]; rfl, by show (w.alloc o).cell? _ = _; rw [cells_at hbox 1]; rfl, by show (w.alloc o).cell? _ = _; rw [cells_at hbox 2]; rfl, by show (w.alloc o).cell? _ = _; rw [cells_at hbox 3]; rfl⟩
  have HPA : Hid (∀ wq l, Dr (w.alloc o) wq → l = Obj.cells #[.int .i64 (kd : Int), .slice (some ⟨fb, 0, none⟩) m m, .string ⟨#[]⟩, .bool false] 60 → ∀ lb, lb = wq.heap.size → Calls Tryd.prog 36 #[.pointer (some ⟨h, 3, none⟩), .slice (some ⟨lb, 0, none⟩) 1 1] (wq.alloc l) fun r w' => r = .returned (.tuple #[]) ∧ Hid (Hp w' h (more P fb w w') (x.add kd fb m f) ∧ Part (fun q => P q ∨ q = fb) w w')) := fun wq l hq hl lb hlb => by
    subst hlb
    have bq : Below w.heap.size w (wq.alloc l) := by
      obtain ⟨q, rfl⟩ := hq
      exact (blw_drewN q bo).alloc (by simp) l
    have hs := bq.size
    have hsl : (wq.alloc l).heap.size = wq.heap.size + 1 := by simp
    have hsq : w.heap.size < wq.heap.size := by
      obtain ⟨q, rfl⟩ := hq
      show w.heap.size < (w.alloc o).heap.size
      simp
    have kq := k.below bq
    have e1 := (bq.block h hhl).trans k1
    have r2 := (Part.ofBelow (F := fun _ => False) bq).row k2 (fun _ _ h => h)
    have r3 := (Part.ofBelow (F := fun _ => False) bq).row k3 (fun _ _ h => h)
    have r4 := (Part.ofBelow (F := fun _ => False) bq).row k4 (fun _ _ h => h)
    have hlq : (wq.alloc l).heap[wq.heap.size]? = some (.cells (obj4 (kd : Int) fb m).toArray 60 (0, 0)) := by rw [hl]; exact heap_alloc_at _ _ _ rfl
    refine (h_partAdd (w := wq.alloc l) (b := h) (p := 3) (n := x.ny) (lb := wq.heap.size) (fb := fb) (m := m) (yc := x.yc) (kd := (kd : Int)) e1 rfl rfl r3 (row_ne r3 e1 (by decide)) (fun e => by have := (World.ownsRow.lt k3 _ e).2; omega) hlq (by omega) (by omega) (by omega) (by omega)).mono ?_
    rintro r w' ⟨v', rfl, z1, z2, z3, z4⟩
    have hs3 := z3.size
    refine ⟨rfl, ?_, ?_⟩
    · have hA := Hp.added (f := f) kq e1 r2 r3 r4 k5 k6 k7 k8 k9 ((bq.block fb hfl).trans hf) hfP hn z1 z2 z3 z4
      refine hA.grow (fun q hq => ?_) (fun q hq => ?_)
      · rcases hq with a | a | a
        · exact .inl a
        · exact .inr (.inl a)
        · exact .inr (.inr ⟨by omega, a.2⟩)
      · rcases hq with a | rfl | a
        · have := k.lt q a; omega
        · omega
        · exact a.2
    · refine (Part.ofBelow (F := fun q => P q ∨ q = fb) bq).trans z3 (fun q _ hq => ?_)
      rcases hq with rfl | hq
      · exact .inl k.hP
      · exact .inl (k8 q hq.symm)
  have HFin : Hid (∀ w', Hp w' h (more P fb w w') (x.add kd fb m f) → Hid (∀ wq, Dr w' wq → Calls Tryd.prog 34 #[.pointer (some ⟨h, 0, none⟩)] wq fun r w2 => r = .returned (.int .i64 (((x.no + x.ny : Nat) : Int) + 1)) ∧ Dr w' w2) ∧ Hid (∀ wq, Dr w' wq → Calls Tryd.prog 33 #[.int .i64 ((x.no + x.ny : Nat) : Int)] wq fun r w2 => r = .returned (.int .i64 (2 * ((x.no + x.ny : Nat) : Int) + 2)) ∧ Dr w' w2) ∧ Hid (∀ wq, Dr w' wq → Calls Tryd.prog 27 #[.pointer (some ⟨h, 0, none⟩), .int .i64 (2 * ((x.no + x.ny : Nat) : Int) + 2)] wq fun r w2 => r = .returned (.int .i64 (tw x.sft (some (x.no + x.ny)))) ∧ Dr w' w2) ∧ Hid (∀ wq, Dr w' wq → Hp wq h (more P fb w wq) (x.add kd fb m f) ∧ Part (fun _ => False) w' wq)) := fun w' hH => by
    have key : ∀ wq, Dr w' wq → Hp wq h (more P fb w wq) (x.add kd fb m f) := fun wq hq => by
      obtain ⟨q, rfl⟩ := hq
      exact (hH.below (blw_drewN q (Below.refl _ _))).grow (fun _ h => h) (fun q' hq' => hH.lt q' hq')
    refine ⟨fun wq hq => ?_, fun wq hq => ?_, fun wq hq => ?_, fun wq hq => ⟨key wq hq, Part.ofBelow hq.below⟩⟩
    · obtain ⟨so', sy', sr', e1, e2, e3, _⟩ := (key wq hq).lay
      obtain ⟨_, _, rfl⟩ := row_slice e2
      obtain ⟨_, _, rfl⟩ := row_slice e3
      refine (h_count e1 (by show x.no ≤ _; omega) (by show x.ny + 1 ≤ _; omega)).mono fun r w2 ⟨hr, hw⟩ => ⟨?_, hq.trans hw⟩
      rw [hr]
      congr 2
    · exact (h_word (x.no + x.ny) wq (by omega)).mono fun r w2 ⟨hr, hw⟩ => ⟨hr, by rw [hw]; exact hq⟩
    · obtain ⟨so', sy', sr', e1, _⟩ := (key wq hq).lay
      exact (h_told (sft := x.sft) e1 (some (x.no + x.ny)) (fun j hj => by cases hj; omega) (by omega)).mono fun r w2 ⟨hr, hw⟩ => ⟨hr, by rw [hw]; exact hq⟩
  have hy' : (x.yc : Int) ≤ 32 := by omega
  have hm' : (m : Int) ≤ 30 := by omega
  obtain ⟨cc, hcc⟩ : ∃ cc : Nat, 1 + m = cc := ⟨_, rfl⟩
  rw [hcc] at HC
  have d1 : decide ((32 : Int) < (cc : Int)) = false := decide_eq_false (by omega)
  have d2 : decide ((32 : Int) < (x.yc : Int) + (cc : Int)) = false := decide_eq_false (by omega)
  have d3 : ¬ (32 : Int) < (x.yc : Int) + (cc : Int) := by omega
  have hcc' : (cc : Int) ≤ 31 := by omega
  have hN : ((x.no + x.ny : Nat) : Int) ≤ 2000 := by omega
  have hN0 : (0 : Int) ≤ ((x.no + x.ny : Nat) : Int) := by omega
  generalize ((x.no + x.ny : Nat) : Int) = N at *
  generalize tw x.sft (some (x.no + x.ny)) = z9 at *
  have k0 : Dr (w.alloc o) (w.alloc o) := Dr.refl _
  clear k k1 k2 k3 k4 k5 k6 k7 k8 k9 hf hfP bo hbox hfl hhl n1 n2 s1 hcc hfit hm hn
  go_enter Tryd.func25, Tryd.ntmps25
  go_wp2_with fail
  try rw [ho]
  refine HC.out.mono ?_
  rintro r w1 ⟨rfl, q1⟩
  obtain ⟨c4, c5, c11, _, _, _, _⟩ := HS.out _ q1
  go_wp2_with fail
  go_quiet (fail)
  have q2 : Dr (w.alloc o) (w1.drewN nq) := q1.trans ⟨nq, rfl⟩
  generalize w1.drewN nq = w2 at *
  obtain ⟨_, _, _, e0, e1, e2, e3⟩ := HS.out _ q2
  have HP2 : Hid (Calls Tryd.prog 36 #[.pointer (some ⟨h, 3, none⟩), .slice (some ⟨w2.heap.size, 0, none⟩) 1 1] (w2.alloc o).drew fun r w' => r = .returned (.tuple #[]) ∧ Hid (Hp w' h (more P fb w w') (x.add kd fb m f) ∧ Part (fun q => P q ∨ q = fb) w w')) := HPA.out w2.drew o q2.drew ho.symm w2.heap.size rfl
  clear c4 c5 c11 HC HS q1 HPA
  go_wp2_with fail
  go_region_with (first
    | (go_at_call 36; refine HP2.out.mono ?_; rintro e' w3 ⟨rfl, HR⟩))
  all_goals
    obtain ⟨G1, G2, G3, G4⟩ := HFin.out _ HR.out.1
    have q3 : Dr w3 w3 := Dr.refl _
    clear HP2 HFin e0 e1 e2 e3 q2
    go_wp2_with fail
    refine (G1.out _ q3).mono ?_
    rintro r w4 ⟨rfl, q4⟩
    go_wp2_with fail
    refine (G2.out _ q4).mono ?_
    rintro r w5 ⟨rfl, q5⟩
    go_wp2_with fail
    refine (G3.out _ q5).mono ?_
    rintro r w6 ⟨rfl, q6⟩
    go_wp2
    go_ret2
    exact ⟨rfl, (G4.out _ q6).1, HR.out.2.trans (G4.out _ q6).2 (fun _ _ h => h.elim)⟩
end Go.Proofs.YtmpilcamnhlalaaDoor
