/-
  A heap's contracts: collect (young) over a list; add of a new object that wants a collection.
-/
import Derived.Test.YtmpilcamnhlalaaDoorHpT
namespace Go.Proofs.YtmpilcamnhlalaaDoor
open Go.RowKit
set_option linter.unusedVariables false

theorem Hp.spent {w : World} {h : Nat} {P : Nat → Prop} {x : HV} (k : Hp w h P x) : Hp (w.setCell ⟨h, 11, none⟩ (.bool false)) h P x ∧ Part (fun q => q = h) w (w.setCell ⟨h, 11, none⟩ (.bool false)) := by
  obtain ⟨so, sy, sr, k1, k2, k3, k4, k5, k6, k7, k8, k9⟩ := k.lay
  have hp : Part (fun q => q = h) w (w.setCell ⟨h, 11, none⟩ (.bool false)) := (Part.refl (fun q => q = h) w).setCell (p := ⟨h, 11, none⟩) (fun _ => rfl) _
  have hs := hp.size
  exact ⟨⟨⟨so, sy, sr, heap_set_at k1 _, hp.row k2 (fun q hq e => row_ne k2 k1 (by decide) (by rw [← e]; exact hq)), hp.row k3 (fun q hq e => row_ne k3 k1 (by decide) (by rw [← e]; exact hq)), hp.row k4 (fun q hq e => row_ne k4 k1 (by decide) (by rw [← e]; exact hq)), k5, k6, k7, k8, k9⟩, fun j hj => ⟨hp.pair (k.ff j hj).1 (fun e => cells_ne (k.ff j hj).1 k1 (by decide) e), (k.ff j hj).2⟩, k.inj, k.hP, fun q hq => by have := k.lt q hq; omega, k.n1, k.n2, k.rt, k.s1, k.s2⟩, hp⟩
theorem Coll.dr {w w1 w2 : World} {h : Nat} {P : Nat → Prop} {x : HV} {t : Nat} {y : Nat → Nat} {oo : Option Nat} {fb L : Nat} {kf : Nat → Int} (c : Coll w w1 h P x t y oo fb L kf) (hd : Dr w1 w2) : Coll w w2 h P x t y oo fb L kf := by
  obtain ⟨q, rfl⟩ := hd
  exact ⟨c.1.below (blw_drewN q (Below.refl _ _)), c.2.1, c.2.2.drewN q⟩
theorem Coll.spent {w w1 : World} {h : Nat} {P : Nat → Prop} {x : HV} {t : Nat} {y : Nat → Nat} {oo : Option Nat} {fb L : Nat} {kf : Nat → Int} (c : Coll w w1 h P x t y oo fb L kf) (hP : P h) (hne : fb ≠ h) : Coll w (w1.setCell ⟨h, 11, none⟩ (.bool false)) h P x t y oo fb L kf := by
  obtain ⟨c1, c2, c3⟩ := c
  obtain ⟨d1, d2⟩ := c1.spent
  have hz : (w1.setCell ⟨h, 11, none⟩ (.bool false)).heap.size = w1.heap.size := by simp [World.setCell]
  refine ⟨by rw [hz]; exact d1, d2.pair c2 hne, c3.trans d2 (fun q _ e => .inl (by rw [e]; exact hP))⟩

set_option maxRecDepth 100000 in
set_option maxHeartbeats 1000000 in
theorem h_collect {w : World} {h : Nat} {P : Nat → Prop} {x : HV} {t : Nat} {y : Nat → Nat} {oo : Option Nat} {fb L : Nat} {kf : Nat → Int} (k : Hp w h P x) (c : Yc x t y oo) (hny : 0 < x.ny) (hf : w.heap[fb]? = some (.cells (wrow kf L) 28 (0, 0))) (hfP : ¬ P fb) (l1 : 1 ≤ L) (l2 : L ≤ 2) (kf1 : kf (L - 1) = kw x.r) (kf0 : ∀ q, q + 1 < L → Sk x.no (kf q)) (hoc : x.oc + 3 * t ≤ 1000) (hnt : x.no + t ≤ 1000) (hs : x.sft + 2 * (x.no + x.ny) ≤ 4000000) (hmi : x.mi ≤ 1000000) :
    Calls Tryd.prog 32 #[.pointer (some ⟨h, 0, none⟩), .bool false, .slice (some ⟨fb, 0, none⟩) L L] w fun r w' => r = .returned (.int .i64 0) ∧ Hid (Coll w w' h P x t y oo fb L kf) := by
  have hne : fb ≠ h := fun e => hfP (by rw [e]; exact k.hP)
  have hP := k.hP
  have HY : Hid (Calls Tryd.prog 40 #[.pointer (some ⟨h, 0, none⟩), .slice (some ⟨fb, 0, none⟩) L L] w fun r w1 => r = .returned (.tuple #[]) ∧ w1.cell? ⟨h, 1, none⟩ = some (.int .i64 ((x.oc + 3 * t : Nat) : Int)) ∧ w1.cell? ⟨h, 2, none⟩ = some (.int .i64 1000) ∧ w1.frozen? ⟨h, 11, none⟩ = false ∧ w1.cell? ⟨h, 11, none⟩ = some (.bool false) ∧ Hid (Coll w w1 h P x t y oo fb L kf)) := by
    refine (h_young k c hny hf hfP l1 l2 kf1 kf0 (by omega) hnt hs hmi).mono ?_
    rintro r w1 ⟨rfl, HC⟩
    obtain ⟨so, sy, sr, e1, _⟩ := HC.out.1.lay
    obtain ⟨_, a1, a2, _, _, _, _, _, _, _, _, a11⟩ := hget e1
    exact ⟨rfl, a1, a2, cells_free e1 11, a11, HC⟩
  obtain ⟨O, hO⟩ : ∃ O : Int, ((x.oc + 3 * t : Nat) : Int) = O := ⟨_, rfl⟩
  rw [hO] at HY
  have d1 : ¬ (1000 : Int) < O := by omega
  have d2 : decide ((1000 : Int) < O) = false := decide_eq_false d1
  have HEnd : Hid (∀ w1, Coll w w1 h P x t y oo fb L kf → Coll w (w1.setCell ⟨h, 11, none⟩ (.bool false)) h P x t y oo fb L kf) := fun w1 hc => hc.spent hP hne
  clear k c hf hfP kf1 kf0 hO
  go_enter Tryd.func32, Tryd.ntmps32
  go_wp2_with fail
  refine HY.out.mono ?_
  rintro r w1 ⟨rfl, x1, x2, x3, x4, HC⟩
  clear HY
  go_wp2_with fail
  go_quiet (fail)
  have HC2 : Hid (Coll w (w1.drewN nq) h P x t y oo fb L kf) := HC.out.dr ⟨nq, rfl⟩
  have z1 : (w1.drewN nq).cell? ⟨h, 1, none⟩ = some (.int .i64 O) := x1
  have z2 : (w1.drewN nq).cell? ⟨h, 2, none⟩ = some (.int .i64 1000) := x2
  have z3 : (w1.drewN nq).frozen? ⟨h, 11, none⟩ = false := x3
  have z4 : (w1.drewN nq).cell? ⟨h, 11, none⟩ = some (.bool false) := x4
  clear x1 x2 x3 x4 HC
  generalize w1.drewN nq = w2 at *
  go_wp2_with fail
  go_region
  all_goals
    have HC3 : Hid (Coll w (w2.setCell ⟨h, 11, none⟩ (.bool false)).drew h P x t y oo fb L kf) := (HEnd.out _ HC2.out).dr ⟨1, rfl⟩
    have u4 : (w2.setCell ⟨h, 11, none⟩ (.bool false)).drew.cell? ⟨h, 11, none⟩ = some (.bool false) := by
      obtain ⟨so, sy, sr, e1, _⟩ := HC3.out.1.lay
      exact (hget e1).2.2.2.2.2.2.2.2.2.2.2
    clear HC2 HEnd z1 z2 z3 z4
    generalize (w2.setCell ⟨h, 11, none⟩ (.bool false)).drew = W at *
    go_wp2
    go_ret
    exact ⟨rfl, HC3⟩
end Go.Proofs.YtmpilcamnhlalaaDoor
