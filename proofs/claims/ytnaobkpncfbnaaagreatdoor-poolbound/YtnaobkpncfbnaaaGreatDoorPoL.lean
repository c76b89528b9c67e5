/-
  pool.New, over a fresh disk and a fresh log.
-/
import Derived.Test.YtnaobkpncfbnaaaGreatDoorPoK
namespace Go.Proofs.YtnaobkpncfbnaaaGreatDoor
open Go.RowKit
set_option linter.unusedVariables false

theorem z_first {w : World} {L T D : Nat} {a b : Int} {c d e : Int} {v : Value} (h : LogAt w L T D a b 1 c d e v) : Calls Tryz.prog 35 #[.pointer (some ⟨L, 0, none⟩)] w fun r w' => r = .returned (.int .i64 1) ∧ w' = w := by
  have k1 := h.l
  have k2 := h.c3
  clear h
  go_enter Tryz.func35, Tryz.ntmps35
  go_wp2
  go_ret
  exact ⟨rfl, rfl⟩
def X0 : Nat → Bf := fun _ => ⟨0, 0, 0, 0, 0, .slice none 0 0⟩
theorem Pz.new [E : Ext] {w : World} {D L bf : Nat} (hE : ∀ k cs, ¬ E.default k cs) (hF : Fresh w D 14) (hb : bf ≤ 5) (o : Obj) (o2 : Obj) (ho : o = stO 0 D L 4 10 bf (.slice none 0 0)) (ho2 : o2 = .cells #[.pointer (some ⟨w.heap.size, 0, none⟩)] 93) : Pz w ((w.alloc o).alloc o2) w.heap.size 0 D L bf 0 X0 := by
  subst ho ho2
  have e1 : ((w.alloc (stO 0 D L 4 10 bf (.slice none 0 0))).alloc (.cells #[.pointer (some ⟨w.heap.size, 0, none⟩)] 93)).heap[w.heap.size]? = some (stO 0 D L 4 10 bf (.slice none 0 0)) := by
    rw [((Below.refl (w.alloc (stO 0 D L 4 10 bf (.slice none 0 0))).heap.size (w.alloc (stO 0 D L 4 10 bf (.slice none 0 0)))).alloc (Nat.le_refl _) _).block w.heap.size (by simp)]
    exact heap_alloc_at _ _ _ rfl
  have e2 : ((w.alloc (stO 0 D L 4 10 bf (.slice none 0 0))).alloc (.cells #[.pointer (some ⟨w.heap.size, 0, none⟩)] 93)).heap[w.heap.size + 1]? = some (.cells #[.pointer (some ⟨w.heap.size, 0, none⟩)] 93) := heap_alloc_at _ _ _ (by simp)
  exact ⟨((Below.refl _ w).alloc (Nat.le_refl _) _).trans ((Below.refl _ _).alloc (by simp) _), hF, ⟨⟨_, e1, ⟨rfl, .inl ⟨rfl, rfl⟩⟩⟩, fun j hj => absurd hj (by omega), fun i j hi => absurd hi (by omega), by omega, Nat.le_refl _⟩, fun j hj => absurd hj (by omega), fun j hj => absurd hj (by omega), fun i j hi => absurd hi (by omega), fun j hj => absurd hj (by omega), ⟨by omega, hb⟩, e2, fun k cs h => absurd h (hE k cs)⟩
set_option maxRecDepth 100000 in
set_option maxHeartbeats 2000000 in
theorem z_new [E : Ext] {w : World} {D L T bf : Nat} {v : Value} (hE : ∀ k cs, ¬ E.default k cs) (hF : Fresh w D 14) (hL : LogAt w L T D 0 4 1 0 0 0 v) (h1 : 1 ≤ bf) (h5 : bf ≤ 5) : Calls Tryz.prog 8 #[.pointer (some ⟨D, 0, none⟩), .pointer (some ⟨L, 0, none⟩), .int .i64 4, .int .i64 10, .int .i64 (bf : Int)] w fun r w' => r = .returned (.tuple #[.pointer (some ⟨w.heap.size + 1, 0, none⟩), .int .i64 0]) ∧ Hid (Pz w w' w.heap.size 0 D L bf 0 X0) := by
  have HS : Hid (Calls Tryz.prog 30 #[.pointer (some ⟨D, 0, none⟩)] w fun e w' => e = .returned (.int .i64 14) ∧ w' = w) := dSectors D 14 w hF
  have HL : Hid (Calls Tryz.prog 35 #[.pointer (some ⟨L, 0, none⟩)] w fun r w' => r = .returned (.int .i64 1) ∧ w' = w) := z_first hL
  have HN : Hid (∀ o o2, o = stO 0 D L 4 10 bf (.slice none 0 0) → o2 = Obj.cells #[.pointer (some ⟨w.heap.size, 0, none⟩)] 93 → Pz w ((w.alloc o).alloc o2) w.heap.size 0 D L bf 0 X0) := fun o o2 ho ho2 => Pz.new hE hF h5 o o2 ho ho2
  have d1 : decide ((bf : Int) < 1) = false := decide_eq_false (by omega)
  have d2 : decide ((64 : Int) < (bf : Int)) = false := decide_eq_false (by omega)
  clear hF hL hE
  go_enter Tryz.func8, Tryz.ntmps8
  go_wp2_with fail
  refine HS.out.mono ?_
  rintro r w1 ⟨rfl, hw⟩
  obtain rfl : w = w1 := hw.symm
  clear hw
  go_wp2_with fail
  refine HL.out.mono ?_
  rintro r w1 ⟨rfl, hw⟩
  obtain rfl : w = w1 := hw.symm
  clear hw
  go_wp2_with fail
  refine HS.out.mono ?_
  rintro r w1 ⟨rfl, hw⟩
  obtain rfl : w = w1 := hw.symm
  clear hw
  go_wp2
  go_ret2
  exact ⟨by simp, HN.out _ _ rfl rfl⟩
