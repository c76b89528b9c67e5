/-
  A heap's contract: collectYoung over a list.
-/
import Derived.Test.YtmpilcamnhlalaaDoorHpQ
namespace Go.Proofs.YtmpilcamnhlalaaDoor
open Go.RowKit
set_option linter.unusedVariables false

/-- The young part of a list: t pairs that y tells, behind them what oo leads to. -/
structure Yc (x : HV) (t : Nat) (y : Nat → Nat) (oo : Option Nat) : Prop where
  y1 : ∀ s, s < t → y s < x.ny
  yi : ∀ a b, a < t → b < t → y a = y b → a = b
  k : ∀ s, s < t → x.K (x.no + y s) = 1
  fl : ∀ s, s < t → x.FL (x.no + y s) = 2
  f0 : ∀ s, s < t → ∃ a : Nat, a ≤ 1000000 ∧ x.FW (x.no + y s) 0 = 2 * (a : Int) + 1
  f1 : ∀ s, s < t → x.FW (x.no + y s) 1 = kw (if s + 1 < t then some (x.no + y (s + 1)) else oo)
  o1 : ∀ j, oo = some j → j < x.no
  r : x.r = if 0 < t then some (x.no + y 0) else oo
/-- What a young collection leaves. -/
def HV.col (x : HV) (t : Nat) (y : Nat → Nat) (oo : Option Nat) : HV :=
  { no := x.no + t, ny := 0, K := mK x.K x.no y, FB := mK x.FB x.no y, FL := mK x.FL x.no y,
    FW := fun j q => if j < x.no then x.FW j q else if q = 1 then kw (if j - x.no + 1 < t then some (x.no + (j - x.no + 1)) else oo) else x.FW (x.no + y (j - x.no)) q,
    r := if 0 < t then some (x.no + 0) else oo, oc := x.oc + 3 * t, yc := 0, sft := x.sft + 2 * (x.no + x.ny), mi := x.mi + 1 }
theorem Env.fw_old {E : Env} {j : Nat} (hj : j < E.no) : ∀ a q, E.fw a j q = E.FW j q
  | 0, q => rfl
  | a + 1, q => by rw [Env.fw, if_neg (fun e => by omega), E.fw_old hj a q]
theorem Env.fw_done {E : Env} (ok : EnvOk E) {s : Nat} (hs : s < E.t) : ∀ a, s < a → a ≤ E.t → ∀ q, E.fw a (E.no + E.y s) q = if q = 1 then kw (E.nx s) else E.FW (E.no + E.y s) q
  | 0, h, _, q => by omega
  | a + 1, h, ha, q => by
    rw [Env.fw]
    by_cases e : s = a
    · subst e
      by_cases eq : q = 1
      · rw [if_pos ⟨rfl, eq⟩, if_pos eq]
      · rw [if_neg (fun e2 => eq e2.2), if_neg eq, E.fw_young ok hs s (Nat.le_refl _)]
    · rw [if_neg (fun e2 => e (ok.yi s a hs (by omega) (by omega))), E.fw_done ok hs a (by omega) (by omega) q]
/-- What a collection leaves in memory. -/
def Coll (w w' : World) (h : Nat) (P : Nat → Prop) (x : HV) (t : Nat) (y : Nat → Nat) (oo : Option Nat) (fb L : Nat) (kf : Nat → Int) : Prop :=
  Hp w' h (fun k => P k ∨ (w.heap.size ≤ k ∧ k < w'.heap.size)) (x.col t y oo) ∧ w'.heap[fb]? = some (.cells (wrow (fun q => if q + 1 = L then kw (x.col t y oo).r else kf q) L) 28 (0, 0)) ∧ Part (fun k => P k ∨ k = fb) w w'

set_option maxRecDepth 100000 in
set_option maxHeartbeats 1000000 in
theorem h_young {w : World} {h : Nat} {P : Nat → Prop} {x : HV} {t : Nat} {y : Nat → Nat} {oo : Option Nat} {fb L : Nat} {kf : Nat → Int} (k : Hp w h P x) (c : Yc x t y oo) (hny : 0 < x.ny) (hf : w.heap[fb]? = some (.cells (wrow kf L) 28 (0, 0))) (hfP : ¬ P fb) (l1 : 1 ≤ L) (l2 : L ≤ 2) (kf1 : kf (L - 1) = kw x.r) (kf0 : ∀ q, q + 1 < L → Sk x.no (kf q)) (hoc : x.oc ≤ 1000) (hnt : x.no + t ≤ 1000) (hs : x.sft + 2 * (x.no + x.ny) ≤ 4000000) (hmi : x.mi ≤ 1000000) :
    Calls Tryd.prog 40 #[.pointer (some ⟨h, 0, none⟩), .slice (some ⟨fb, 0, none⟩) L L] w fun r w' => r = .returned (.tuple #[]) ∧ Hid (Coll w w' h P x t y oo fb L kf) := by
  obtain ⟨so, sy, sr, k1, k2, k3, k4, k5, k6, k7, k8, k9⟩ := k.lay
  obtain ⟨ao, co, rfl⟩ := row_slice k2
  obtain ⟨ay, cy, rfl⟩ := row_slice k3
  obtain ⟨g, rfl⟩ : ∃ g, ay = some ⟨g, 0, none⟩ := by
    rcases k3.2 with ⟨e0, h0⟩ | ⟨g', cap, cur, e0, _⟩
    · omega
    · cases e0; exact ⟨g', rfl⟩
  obtain ⟨gr, cr, rfl, hcr⟩ : ∃ gr cr, sr = .slice (some ⟨gr, 0, none⟩) 1 cr ∧ 1 ≤ cr := by
    rcases k4.2 with ⟨e0, h0⟩ | ⟨g', cap, cur, e0, _, _, h4, _⟩
    · omega
    · exact ⟨g', cap, e0, h4⟩
  have n1 := k.n1
  have n2 := k.n2
  have s1 := k.s1
  have hhl : h < w.heap.size := k.lt _ k.hP
  -- the count of collections
  obtain ⟨W1, hW1⟩ : ∃ W1, w.setCell ⟨h, 9, none⟩ (.int .i64 ((x.mi : Int) + 1)) = W1 := ⟨_, rfl⟩
  have p1 : Part (fun q => q = h) w W1 := by rw [← hW1]; exact (Part.refl (fun q => q = h) w).setCell (p := ⟨h, 9, none⟩) (fun _ => rfl) _
  have hs1 : W1.heap.size = w.heap.size := by rw [← hW1]; simp [World.setCell]
  have q1 : Hd W1 h (.slice ao x.no co) (x.oc : Int) 1000 (.slice (some ⟨g, 0, none⟩) x.ny cy) (x.yc : Int) 32 (.slice (some ⟨gr, 0, none⟩) 1 cr) (.slice none 0 0) (x.sft : Int) ((x.mi + 1 : Nat) : Int) 0 false := by rw [← hW1]; exact heap_set_at k1 _
  have q2 := p1.row k2 (fun q hq e => row_ne k2 k1 (by decide) (by rw [← e]; exact hq))
  have q3 := p1.row k3 (fun q hq e => row_ne k3 k1 (by decide) (by rw [← e]; exact hq))
  have q4 := p1.row k4 (fun q hq e => row_ne k4 k1 (by decide) (by rw [← e]; exact hq))
  have hfh : fb ≠ h := fun e => hfP (by rw [e]; exact k.hP)
  have qf := p1.pair hf hfh
  have qff : ∀ j, j < x.no + x.ny → W1.heap[x.FB j]? = some (.cells (wrow (x.FW j) (x.FL j)) 28 (0, 0)) := fun j hj => p1.pair (k.ff j hj).1 (fun e => cells_ne (k.ff j hj).1 k1 (by decide) e)
  have HMv : Hid (∀ wq, Dr W1 wq → Calls Tryd.prog 42 #[.slice (some ⟨g, 0, none⟩) x.ny cy, .agg #[.slice ao x.no co, .int .i64 (x.oc : Int), .int .i64 1000]] wq fun r w2 => ∃ mb, r = .returned (.pointer (some ⟨mb, 0, none⟩)) ∧ w2.cell? ⟨h, 7, none⟩ = some (.slice none 0 0) ∧ w2.cell? ⟨h, 6, none⟩ = some (.slice (some ⟨gr, 0, none⟩) 1 cr) ∧
      Hid (∀ l, l = Obj.cells #[.slice (some ⟨gr, 0, none⟩) 1 cr, .slice (some ⟨fb, 0, none⟩) L L] 33 → Calls Tryd.prog 44 #[.pointer (some ⟨mb, 0, none⟩), .slice (some ⟨w2.heap.size, 0, none⟩) 2 2] (w2.alloc l) fun r w3 => r = .returned (.tuple #[]) ∧ ∃ at_ ct, w3.cell? ⟨mb, 3, none⟩ = some (.slice at_ (x.no + t) ct) ∧ w3.cell? ⟨mb, 4, none⟩ = some (.int .i64 ((x.oc + 3 * t : Nat) : Int)) ∧ w3.cell? ⟨mb, 5, none⟩ = some (.int .i64 1000) ∧
        Hid (Calls Tryd.prog 45 #[.pointer (some ⟨h, 0, none⟩), .agg #[.slice at_ (x.no + t) ct, .int .i64 ((x.oc + 3 * t : Nat) : Int), .int .i64 1000]] w3 fun r w4 => r = .returned (.tuple #[]) ∧ Hid (Coll w w4 h P x t y oo fb L kf)))) := fun wq hq => by
    have bq : Below W1.heap.size W1 wq := hq.below
    have sq : wq.heap.size = W1.heap.size := by obtain ⟨n, rfl⟩ := hq; rfl
    refine (h_mover (w := wq) (y := y) ((Part.ofBelow (F := fun _ => False) bq).row q2 (fun _ _ h => h)) ((Part.ofBelow (F := fun _ => False) bq).row q3 (fun _ _ h => h)) k5 (by omega)).mono ?_
    rintro r w2 ⟨mb, vm, rfl, HM⟩
    obtain ⟨m1, m2, m3, m4⟩ := HM.out
    have b2 : Below W1.heap.size W1 w2 := bq.trans (m2.mono bq.size)
    have q1w : Hd w2 h _ _ _ _ _ _ _ _ _ _ _ _ := (b2.block h (by omega)).trans q1
    refine ⟨mb, rfl, (hget q1w).2.2.2.2.2.2.2.1, (hget q1w).2.2.2.2.2.2.1, fun l hl => ?_⟩
    have b3 : Below W1.heap.size W1 (w2.alloc l) := b2.alloc b2.size l
    let E : Env := { no := x.no, ny := x.ny, t := t, oc := x.oc, L := L, mb := mb, rl := w2.heap.size, fb := fb, W0 := w.heap.size, sy := .slice (some ⟨g, 0, none⟩) x.ny cy, so := .slice ao x.no co, vm := vm, sr := .slice (some ⟨gr, 0, none⟩) 1 cr, K := x.K, FB := x.FB, FL := x.FL, FW := x.FW, y := y, oo := oo, kf := kf }
    have hfl : fb < w.heap.size := (Array.getElem?_eq_some_iff.1 hf).1
    have er0 : E.r0 = x.r := c.r.symm
    have ok : EnvOk E := ⟨c.y1, c.yi, c.fl, c.f0, c.f1, c.o1, l1, l2, by rw [er0]; exact kf1, kf0, hnt, n2, hoc, by show w.heap.size ≤ mb; omega, fun q hq' => by show w.heap.size ≤ q; have := m4 q hq'; omega, hfl, fun q hq' => ⟨k.lt _ (k9 q hq'), fun e => hfP (by have e' : q = fb := e; rw [← e']; exact k9 q hq')⟩, fun j hj => ⟨k.lt _ (k.ff j hj).2, fun e => hfP (by have e' : x.FB j = fb := e; rw [← e']; exact (k.ff j hj).2), k6 j hj⟩, k.inj⟩
    have start : Rx E W1 (w2.alloc l) 0 0 false false := by
      refine ⟨.slice ao x.no co, m1.below ((Below.refl _ w2).alloc (Nat.le_refl _) l), ?_, ?_, fun j hj => (b3.block _ (by have := (ok.b5 j hj).1; show x.FB j < W1.heap.size; rw [hs1]; exact this)).trans (qff j hj), by rw [hl]; exact heap_alloc_at _ _ _ rfl, .inl rfl, Part.ofBelow b3⟩
      · rw [if_neg (by decide), er0]
        exact (Part.ofBelow (F := fun _ => False) b3).row q4 (fun _ _ h => h)
      · rw [show wrow (fun q => if false = true ∧ q + 1 = E.L then kw E.r1 else E.kf q) E.L = wrow kf L from wrow_ext (fun q _ => if_neg (fun e => by cases e.1))]
        exact (b3.block _ (by rw [hs1]; exact hfl)).trans qf
    refine (h_run (E := E) ok hs1 rfl hcr start).mono ?_
    rintro r w3 ⟨rfl, HR⟩
    obtain ⟨v', hR⟩ := HR.out
    obtain ⟨at_, ct, rfl⟩ := row_slice hR.mv.rt
    refine ⟨rfl, at_, ct, by rw [cells_at hR.mv.hm 3]; rfl, by rw [cells_at hR.mv.hm 4]; rfl, by rw [cells_at hR.mv.hm 5]; rfl, ?_⟩
    have q13 : Hd w3 h (.slice ao x.no co) (x.oc : Int) 1000 (.slice (some ⟨g, 0, none⟩) x.ny cy) (x.yc : Int) 32 (.slice (some ⟨gr, 0, none⟩) 1 cr) (.slice none 0 0) (x.sft : Int) ((x.mi + 1 : Nat) : Int) 0 false := hR.pt.pair q1 (fun e => by
      rcases e with e | e | e | ⟨j, hj, e⟩
      · exact row_ne q2 q1 (by decide) e
      · exact row_ne q4 q1 (by decide) e
      · exact hfh e.symm
      · exact cells_ne (qff j hj) q1 (by decide) e.symm)
    refine (h_settle (w := w3) q13 hR.mv.rs hny n1 n2 s1).mono ?_
    rintro r w4 ⟨rfl, HS⟩
    obtain ⟨e1, e2, e3⟩ := HS.out
    have sz3 := hR.pt.size
    have sz4 := e3.size
    obtain ⟨gcur, hgc⟩ := row_block hR.mv.rs (k := g) rfl
    have notg : ∀ j cur, w3.heap[j]? = some (.cells cur 28 (0, 0)) → j ≠ h → w4.heap[j]? = some (.cells cur 28 (0, 0)) := fun j cur hj hjh => e3.pair hj (fun e => by
      rcases e with e | e
      · exact hjh e
      · exact cells_ne hj hgc (by decide) e)
    have ffj : ∀ j, j < x.no + t → ∃ j0, j0 < x.no + x.ny ∧ mK x.FB x.no y j = x.FB j0 ∧ mK x.FL x.no y j = x.FL j0 ∧ (∀ q, (x.col t y oo).FW j q = E.fw t j0 q) ∧ (j < x.no → j0 = j) ∧ (¬ j < x.no → j0 = x.no + y (j - x.no)) := fun j hj => by
      by_cases hlt : j < x.no
      · refine ⟨j, by omega, if_pos hlt, if_pos hlt, fun q => ?_, fun _ => rfl, fun h => absurd hlt h⟩
        rw [E.fw_old hlt]
        exact if_pos hlt
      · have hyj := c.y1 (j - x.no) (by omega)
        refine ⟨x.no + y (j - x.no), by omega, if_neg hlt, if_neg hlt, fun q => ?_, fun h => absurd h hlt, fun _ => rfl⟩
        have := E.fw_done ok (s := j - x.no) (by show j - x.no < t; omega) t (by omega) (Nat.le_refl _) q
        rw [show E.fw t (x.no + y (j - x.no)) q = _ from this]
        show (if j < x.no then x.FW j q else if q = 1 then kw (if j - x.no + 1 < t then some (x.no + (j - x.no + 1)) else oo) else x.FW (x.no + y (j - x.no)) q) = _
        rw [if_neg hlt]
        rfl
    refine ⟨rfl, ⟨⟨.slice at_ (x.no + t) ct, .slice (some ⟨g, 0, none⟩) 0 cy, .slice (some ⟨gr, 0, none⟩) 1 cr, e1, ?_, e2, ?_, fun q hq' e => hR.mv.d1 q hq' e, fun j hj e => ?_, fun q hq' => ?_, fun q hq' => .inl (k8 q hq'), fun q hq' => .inl (k9 q hq')⟩, fun j hj => ?_, fun i j hi hj e => ?_, .inl k.hP, fun q hq' => ?_, hnt, Nat.zero_le _, fun j hj => ?_, hs, ?_⟩, ?_, ?_⟩
    · refine e3.row hR.mv.rt (fun q hq' e => ?_)
      rcases e with rfl | rfl
      · exact row_ne hR.mv.rt q13 (by decide) hq'
      · exact hR.mv.d1 _ hq' rfl
    · refine e3.row hR.hr (fun q hq' e => ?_)
      rcases e with rfl | rfl
      · exact row_ne hR.hr q13 (by decide) hq'
      · exact row_ne hR.hr hgc (by decide) hq'
    · obtain ⟨j0, a1, a2, _⟩ := ffj j hj
      exact k6 j0 a1 (by rw [← a2]; exact e)
    · rcases hR.vt with e | ⟨q', e, le⟩
      · exact .inl (k7 q (by rw [← e]; exact hq'))
      · rw [e] at hq'; cases hq'
        exact .inr ⟨le, by have := (World.ownsRow.lt hR.mv.rt _ e).2; omega⟩
    · obtain ⟨j0, a1, a2, a3, a4, _⟩ := ffj j hj
      show w4.heap[mK x.FB x.no y j]? = some (.cells (wrow ((x.col t y oo).FW j) (mK x.FL x.no y j)) 28 (0, 0)) ∧ _
      rw [show mK x.FB x.no y j = x.FB j0 from a2, show mK x.FL x.no y j = x.FL j0 from a3, wrow_ext (fun q _ => a4 q)]
      exact ⟨notg _ _ (hR.ff j0 a1) (fun e => cells_ne (qff j0 a1) q1 (by decide) e), .inl (by show P (mK x.FB x.no y j); rw [a2]; exact (k.ff j0 a1).2)⟩
    · obtain ⟨i0, a1, a2, _, _, a5, a6⟩ := ffj i hi
      obtain ⟨j0, b1, b2, _, _, b5, b6⟩ := ffj j hj
      have e0 : i0 = j0 := k.inj i0 j0 a1 b1 (by rw [← a2, ← b2]; exact e)
      have hi' : i < x.no + t := hi
      have hj' : j < x.no + t := hj
      by_cases hi2 : i < x.no <;> by_cases hj2 : j < x.no
      · have := a5 hi2; have := b5 hj2; omega
      · have := a5 hi2; have := b6 hj2; omega
      · have := a6 hi2; have := b5 hj2; omega
      · have := a6 hi2; have := b6 hj2
        have := c.yi (i - x.no) (j - x.no) (by omega) (by omega) (by omega)
        omega
    · rcases hq' with a | a
      · have := k.lt q a; omega
      · exact a.2
    · change (if 0 < t then some (x.no + 0) else oo) = some j at hj
      show j < x.no + t + 0
      by_cases ht : 0 < t
      · rw [if_pos ht] at hj; cases hj; omega
      · rw [if_neg ht] at hj
        have := c.o1 j hj
        omega
    · show (x.sft + 2 * (x.no + x.ny)) % 2 = 0
      have := k.s2
      omega
    · rw [show wrow (fun q => if q + 1 = L then kw (x.col t y oo).r else kf q) L = wrow (fun q => if true = true ∧ q + 1 = E.L then kw E.r1 else E.kf q) E.L from wrow_ext (fun q _ => by
        by_cases e : q + 1 = L
        · rw [if_pos e, if_pos ⟨rfl, e⟩]; rfl
        · rw [if_neg e, if_neg (fun e2 => e e2.2)])]
      exact notg _ _ hR.hf hfh
    · refine ((p1.mono (G := fun q => P q ∨ q = fb) (fun q _ e => .inl (by rw [e]; exact k.hP))).trans hR.pt (fun q _ e => ?_)).trans e3 (fun q _ e => ?_)
      · rcases e with e | e | e | ⟨j, hj, e⟩
        · exact .inl (k7 q e)
        · exact .inl (k9 q e)
        · exact .inr e
        · exact .inl (by rw [e]; exact (k.ff j hj).2)
      · rcases e with rfl | rfl
        · exact .inl k.hP
        · exact .inl (k8 _ rfl)
  obtain ⟨_, _, _, _, _, _, _, _, _, z9, _, _⟩ := hget k1
  have f9 := cells_free k1 9
  have HS : Hid (∀ wq, Dr W1 wq → wq.cell? ⟨h, 3, none⟩ = some (.slice (some ⟨g, 0, none⟩) x.ny cy) ∧ wq.cell? ⟨h, 0, none⟩ = some (.slice ao x.no co) ∧ wq.cell? ⟨h, 1, none⟩ = some (.int .i64 (x.oc : Int)) ∧ wq.cell? ⟨h, 2, none⟩ = some (.int .i64 1000)) := fun wq hq => by
    obtain ⟨n, rfl⟩ := hq
    obtain ⟨a0, a1, a2, a3, _⟩ := hget (w := W1.drewN n) q1
    exact ⟨a3, a0, a1, a2⟩
  have k0 : Dr W1 W1 := Dr.refl _
  have hmi' : (x.mi : Int) ≤ 1000000 := by omega
  have hmi0 : (0 : Int) ≤ (x.mi : Int) := by omega
  clear k k1 k2 k3 k4 k5 k6 k7 k8 k9 q1 q2 q3 q4 qf qff p1 c hf hfP kf1 kf0 hhl
  go_enter Tryd.func40, Tryd.ntmps40
  go_wp2_with fail
  try rw [hW1]
  obtain ⟨a3, a0, a1, a2⟩ := HS.out _ k0
  clear hW1 z9 f9 HS
  go_region_with (first
    | (go_at_call 42; refine (HMv.out _ (by first | exact k0 | exact k0.drew)).mono ?_; rintro e' w2 ⟨mb, rfl, x7, x6, HRn⟩))
  all_goals
    clear HMv a0 a1 a2 a3 k0
    go_wp2
    go_loopw [30] (fun s30 wr => s30 = .int .i64 0 ∧ wr = w2) (fun _ _ => 0)
    case atStart => exact ⟨rfl, rfl⟩
    case round =>
      obtain ⟨rfl, rfl⟩ := hrel
      go_wp2_with fail
      refine (HRn.out _ rfl).mono ?_
      rintro r w3 ⟨rfl, at_, ct, y3, y4, y5, HSt⟩
      clear HRn x7 x6
      go_wp2_with fail
      refine HSt.out.mono ?_
      rintro r w4 ⟨rfl, HC⟩
      clear HSt y3 y4 y5
      go_wp2
      go_end0
      exact ⟨rfl, HC⟩
end Go.Proofs.YtmpilcamnhlalaaDoor
