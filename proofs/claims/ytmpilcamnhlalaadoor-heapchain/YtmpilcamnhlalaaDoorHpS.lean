/-
  HeapChain where all goes into the young cells: no collection.
-/
import Derived.Test.YtmpilcamnhlalaaDoorHpH
namespace Go.Proofs.YtmpilcamnhlalaaDoor
open Go.RowKit
set_option linter.unusedVariables false

/-- A list of i pairs under the root, with room left. -/
def Sfit (w : World) (h n J i q : Nat) (wr : World) : Prop := ∃ x P, Hp wr h P x ∧ Lst x x.r i ∧ x.yc + (3 + 2 * J) * (n - i) + 2 * q ≤ 32 ∧ x.ny ≤ x.yc ∧ Below w.heap.size w wr ∧ (∀ k, P k → w.heap.size ≤ k) ∧ i ≤ 200
def kf2 (a b : Int) : Nat → Int := fun q => if q = 0 then a else b
theorem wd_below {w wr : World} (hw : w.cell? ⟨0, 1, none⟩ = some (.int .i64 2)) (hb : Below w.heap.size w wr) : wr.cell? ⟨0, 1, none⟩ = some (.int .i64 2) := by rw [hb.cell (p := ⟨0, 1, none⟩) (World.block_lt_of_cell? w _ hw)]; exact hw
theorem fit_pair {w : World} {h n J : Nat} (hw : w.cell? ⟨0, 1, none⟩ = some (.int .i64 2)) (i : Nat) (wr : World) (hi : i < n) (hn : n < 200) (hS : Sfit w h n J i 0 wr) : ∃ t, Hid (Calls Tryd.prog 8 #[.pointer (some ⟨h, 0, none⟩), .int .i64 0] wr fun r w1 => r = .returned (.int .i64 t) ∧ w1 = wr) ∧ Hid (Calls Tryd.prog 7 #[.pointer (some ⟨h, 0, none⟩), .int .i64 1, .slice (some ⟨wr.heap.size, 0, none⟩) 2 2] (wr.alloc (.cells #[.int .i64 (2 * (i : Int) + 1), .int .i64 t] 28)) fun r w2 => ∃ z, r = .returned (.tuple #[.int .i64 z, .int .i64 0]) ∧ Hid (Calls Tryd.prog 9 #[.pointer (some ⟨h, 0, none⟩), .int .i64 0, .int .i64 z] w2 fun r w3 => r = .returned (.int .i64 0) ∧ Hid (Sfit w h n J (i + 1) J w3))) := by
  obtain ⟨x, P, k, kl, kb, kn, b, lo, hi2⟩ := hS
  have hbud : x.yc + (3 + 2 * J) * (n - (i + 1)) + 2 * J + 3 ≤ 32 := by
    have e1 : n - i = (n - (i + 1)) + 1 := by omega
    rw [e1, Nat.mul_add, Nat.mul_one] at kb
    omega
  have n1 := k.n1
  have n2 := k.n2
  have s1 := k.s1
  refine ⟨tw x.sft x.r, h_root k, ?_⟩
  obtain ⟨l, hl⟩ : ∃ l, Obj.cells #[.int .i64 (2 * (i : Int) + 1), .int .i64 (tw x.sft x.r)] 28 = l := ⟨_, rfl⟩
  rw [hl]
  have bl : Below wr.heap.size wr (wr.alloc l) := (Below.refl _ wr).alloc (Nat.le_refl _) l
  have hbox : (wr.alloc l).heap[wr.heap.size]? = some (.cells #[.int .i64 (2 * (i : Int) + 1), .int .i64 (tw x.sft x.r)] 28 (0, 0)) := by rw [← hl]; exact heap_alloc_at _ _ _ rfl
  have kq := k.below bl
  have sW : (wr.alloc l).heap.size = wr.heap.size + 1 := by simp
  have hwd := wd_below hw (b.trans (bl.mono b.size))
  refine (h_make2 kq wr.heap.size (kf2 (2 * (i : Int) + 1) (tw x.sft x.r)) (kf2 (2 * (i : Int) + 1) (kw x.r)) (fun q hq => ?_) hwd (fun q hq wq hwq => ?_) (fun z e w' => e = 0 ∧ z = tw x.sft (some (x.no + x.ny)) ∧ ∃ P', Hp w' h P' (x.add 1 (wr.alloc l).heap.size 2 (kf2 (2 * (i : Int) + 1) (kw x.r))) ∧ (∀ q, P' q → w.heap.size ≤ q) ∧ Below w.heap.size w w') (fun W bW hf => ?_)).mono ?_
  · rw [cells_at hbox q]
    match q, hq with
    | 0, _ => rfl
    | 1, _ => rfl
  · match q, hq with
    | 0, _ => exact h_kept_odd i (by omega)
    | 1, _ =>
      obtain ⟨so, sy, sr, l1, l2, l3, _⟩ := (kq.below hwq).lay
      obtain ⟨_, _, rfl⟩ := row_slice l2
      obtain ⟨_, _, rfl⟩ := row_slice l3
      exact h_kept (sft := x.sft) l1 (by omega) (by omega) x.r k.rt (by omega) k.s2
  · have sB := bW.size
    refine (h_add_fit (kq.below bW) 1 (wr.alloc l).heap.size 2 (kf2 (2 * (i : Int) + 1) (kw x.r)) hf (fun hP => by have := kq.lt _ hP; omega) (by omega) (by omega) (by omega)).mono ?_
    rintro r w' ⟨rfl, HA⟩
    obtain ⟨a1, a2⟩ := HA.out
    have sW2 := a2.size
    refine ⟨_, _, rfl, rfl, rfl, _, a1, fun q hq => ?_, ?_⟩
    · have := b.size
      rcases hq with q1 | q1 | q1
      · exact lo q q1
      · omega
      · omega
    · have b1 : Below w.heap.size w W := (b.trans (bl.mono b.size)).trans (bW.mono (by have := b.size; omega))
      exact b1.trans (a2.below (fun q hq => by
        have := b.size
        rcases hq with q1 | q1
        · exact lo q q1
        · omega) b1.size)
  · rintro r w2 ⟨z, e, rfl, rfl, rfl, P', kP, loP, bP⟩
    refine ⟨_, rfl, ?_⟩
    refine (h_setRoot kP (x.no + x.ny) (by show x.no + x.ny < x.no + (x.ny + 1); omega)).mono ?_
    rintro r w3 ⟨rfl, HR⟩
    obtain ⟨r1, r2⟩ := HR.out
    refine ⟨rfl, _, _, r1, ?_, ?_, ?_, bP.trans (r2.below loP bP.size), loP, by omega⟩
    · refine ⟨x.no + x.ny, x.r, rfl, by show x.no + x.ny < x.no + (x.ny + 1); omega, upd_new _ _ _, upd_new _ _ _, ?_, ?_, Lst.root _ (Lst.add _ _ _ _ kl)⟩
      · show upd x.FW _ _ _ 0 = _
        rw [upd_new]; rfl
      · show upd x.FW _ _ _ 1 = _
        rw [upd_new]; rfl
    · show x.yc + (1 + 2) + _ + _ ≤ 32
      omega
    · show x.ny + 1 ≤ x.yc + (1 + 2)
      omega
theorem fit_junk {w : World} {h n J : Nat} (hw : w.cell? ⟨0, 1, none⟩ = some (.int .i64 2)) (i q : Nat) (wr : World) (hS : Sfit w h n J i (q + 1) wr) : ∃ t, Hid (Calls Tryd.prog 8 #[.pointer (some ⟨h, 0, none⟩), .int .i64 0] wr fun r w1 => r = .returned (.int .i64 t) ∧ w1 = wr) ∧ Hid (Calls Tryd.prog 7 #[.pointer (some ⟨h, 0, none⟩), .int .i64 2, .slice (some ⟨wr.heap.size, 0, none⟩) 1 1] (wr.alloc (.cells #[.int .i64 t] 28)) fun r w2 => ∃ z, r = .returned (.tuple #[.int .i64 z, .int .i64 0]) ∧ Hid (Sfit w h n J i q w2)) := by
  obtain ⟨x, P, k, kl, kb, kn, b, lo, hi2⟩ := hS
  have n1 := k.n1
  have n2 := k.n2
  have s1 := k.s1
  refine ⟨tw x.sft x.r, h_root k, ?_⟩
  obtain ⟨l, hl⟩ : ∃ l, Obj.cells #[.int .i64 (tw x.sft x.r)] 28 = l := ⟨_, rfl⟩
  rw [hl]
  have bl : Below wr.heap.size wr (wr.alloc l) := (Below.refl _ wr).alloc (Nat.le_refl _) l
  have hbox : (wr.alloc l).heap[wr.heap.size]? = some (.cells #[.int .i64 (tw x.sft x.r)] 28 (0, 0)) := by rw [← hl]; exact heap_alloc_at _ _ _ rfl
  have kq := k.below bl
  have sW : (wr.alloc l).heap.size = wr.heap.size + 1 := by simp
  have hwd := wd_below hw (b.trans (bl.mono b.size))
  refine (h_make1 kq wr.heap.size (fun _ => tw x.sft x.r) (fun _ => kw x.r) (fun q hq => ?_) hwd (fun q hq wq hwq => ?_) (fun z e w' => e = 0 ∧ ∃ P', Hp w' h P' (x.add 2 (wr.alloc l).heap.size 1 (fun _ => kw x.r)) ∧ (∀ q, P' q → w.heap.size ≤ q) ∧ Below w.heap.size w w') (fun W bW hf => ?_)).mono ?_
  · rw [cells_at hbox q]
    match q, hq with
    | 0, _ => rfl
  · obtain ⟨so, sy, sr, l1, l2, l3, _⟩ := (kq.below hwq).lay
    obtain ⟨_, _, rfl⟩ := row_slice l2
    obtain ⟨_, _, rfl⟩ := row_slice l3
    exact h_kept (sft := x.sft) l1 (by omega) (by omega) x.r k.rt (by omega) k.s2
  · have sB := bW.size
    refine (h_add_fit (kq.below bW) 2 (wr.alloc l).heap.size 1 (fun _ => kw x.r) hf (fun hP => by have := kq.lt _ hP; omega) (by omega) (by omega) (by omega)).mono ?_
    rintro r w' ⟨rfl, HA⟩
    obtain ⟨a1, a2⟩ := HA.out
    have sW2 := a2.size
    refine ⟨_, _, rfl, rfl, _, a1, fun q hq => ?_, ?_⟩
    · have := b.size
      rcases hq with q1 | q1 | q1
      · exact lo q q1
      · omega
      · omega
    · have b1 : Below w.heap.size w W := (b.trans (bl.mono b.size)).trans (bW.mono (by have := b.size; omega))
      exact b1.trans (a2.below (fun q hq => by
        have := b.size
        rcases hq with q1 | q1
        · exact lo q q1
        · omega) b1.size)
  · rintro r w2 ⟨z, e, rfl, rfl, P', kP, loP, bP⟩
    refine ⟨_, rfl, _, _, kP, Lst.add _ _ _ _ kl, ?_, ?_, bP, loP, hi2⟩
    · show x.yc + (1 + 1) + _ + _ ≤ 32
      omega
    · show x.ny + 1 ≤ x.yc + (1 + 1)
      omega
theorem fit_start (w : World) (n J : Nat) (hb : (3 + 2 * J) * n ≤ 32) : Hid (Calls Tryd.prog 5 #[.int .i64 32, .int .i64 1000] w fun r w1 => r = .returned (.tuple #[.pointer (some ⟨w.heap.size, 0, none⟩), .int .i64 0]) ∧ Hid (Calls Tryd.prog 6 #[.pointer (some ⟨w.heap.size, 0, none⟩), .int .i64 0] w1 fun r w2 => r = .returned (.int .i64 0) ∧ Hid (Sfit w w.heap.size n J 0 0 w2))) := by
  refine (h_new w).mono ?_
  rintro r w1 ⟨rfl, h1, b1⟩
  refine ⟨rfl, (h_push0 h1).mono ?_⟩
  rintro r w2 ⟨rfl, HP⟩
  have s1 := b1.size
  refine ⟨rfl, HV0, _, HP.out.1, rfl, by show 0 + (3 + 2 * J) * (n - 0) + 2 * 0 ≤ 32; rw [Nat.sub_zero]; omega, Nat.le_refl _, b1.trans (HP.out.2.below (fun q hq => by omega) s1), fun q hq => ?_, by omega⟩
  rcases hq with rfl | hq
  · exact Nat.le_refl _
  · omega
/-- HeapChain of three pairs with one other object each. -/
theorem chain31 (w : World) (hw : w.cell? ⟨0, 1, none⟩ = some (.int .i64 2)) : Calls Tryd.prog 3 #[.int .i64 3, .int .i64 1] w fun r w' => r = .returned (.bool true) ∧ Below w.heap.size w w' := by
  refine chain_walk 3 1 3 1 (by decide) (by decide) (by decide) (by decide) w (Sfit w w.heap.size 3 1) w.heap.size (fit_start w 3 1 (by decide)) (fun i q wr hS => ?_) (fun i wr hi hS => fit_pair hw i wr hi (by decide) hS) (fun i q wr hS => fit_junk hw i q wr hS) (fun wr hS => ?_)
  · obtain ⟨x, P, _, _, _, _, b, _⟩ := hS
    exact b
  · obtain ⟨x, P, k, kl, _, _, _, _, h2⟩ := hS
    exact ⟨tw x.sft x.r, h_root k, x, P, x.r, k, rfl, kl, h2⟩
end Go.Proofs.YtmpilcamnhlalaaDoor
