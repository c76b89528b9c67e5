/-
  PrimsNobody, walked.
-/
import Derived.Test.YtkjnigbnbfjdhaaGreatDoorPtC
import Derived.Test.YtkjnigbnbfjdhaaGreatDoorPmA
namespace Go.Proofs.YtkjnigbnbfjdhaaGreatDoor
open Go.RowKit
set_option linter.unusedVariables false

theorem fnd_plus : Fnd ⟨#[43]⟩ 0 true := .inl ⟨rfl, 0, by decide, rfl, by kernel_rfl, fun j hj => absurd hj (by omega)⟩
set_option maxRecDepth 100000 in
set_option maxHeartbeats 4000000 in
theorem pnobody_walk (n : Int) (y0 y1 y2 y3 : Value) (w : World) : Calls Tryz.prog 4 #[.int .i64 n, .agg #[y0, y1, y2, y3]] w fun r w' => r = .returned (.bool true) ∧ Below w.heap.size w w' := by
  obtain ⟨o0, ho0⟩ : ∃ o, Obj.cells #[y0, y1, y2, y3] 28 = o := ⟨_, rfl⟩
  obtain ⟨o1, ho1⟩ : ∃ o, Obj.cells #[.slice none 0 0, .int .i64 0, .int .i64 0, .slice none 0 0, .int .i64 0, .int .i64 0, .slice none 0 0, .slice none 0 0, .int .i64 0, .int .i64 0, .int .i64 0, .bool false] 37 = o := ⟨_, rfl⟩
  obtain ⟨o2, ho2⟩ : ∃ o, Obj.cells #[.pointer none, .pointer (some ⟨w.heap.size + 1, 0, none⟩)] 29 = o := ⟨_, rfl⟩
  have b0 : Below w.heap.size w (w.alloc o0) := (Below.refl _ w).alloc (Nat.le_refl _) o0
  have b1 : Below w.heap.size w ((w.alloc o0).alloc o1) := b0.alloc b0.size o1
  have b2 : Below w.heap.size w (((w.alloc o0).alloc o1).alloc o2) := b1.alloc b1.size o2
  have s0 : (w.alloc o0).heap.size = w.heap.size + 1 := by simp
  have s1 : ((w.alloc o0).alloc o1).heap.size = w.heap.size + 2 := by simp
  have hd : (((w.alloc o0).alloc o1).alloc o2).heap[w.heap.size]? = some (.cells #[y0, y1, y2, y3] 28 (0, 0)) := by
    rw [Below.heap_alloc ((w.alloc o0).alloc o1) o2 w.heap.size (by omega), Below.heap_alloc (w.alloc o0) o1 w.heap.size (by omega), ← ho0]
    exact heap_alloc_at _ _ _ rfl
  have hz : Hd (((w.alloc o0).alloc o1).alloc o2) (w.heap.size + 1) (.slice none 0 0) 0 0 (.slice none 0 0) 0 0 (.slice none 0 0) (.slice none 0 0) 0 0 0 false := by
    show (((w.alloc o0).alloc o1).alloc o2).heap[w.heap.size + 1]? = _
    rw [Below.heap_alloc ((w.alloc o0).alloc o1) o2 (w.heap.size + 1) (by omega), ← ho1]
    exact heap_alloc_at _ _ _ (by omega)
  have hl : (((w.alloc o0).alloc o1).alloc o2).heap[w.heap.size + 2]? = some (.cells #[.pointer none, .pointer (some ⟨w.heap.size + 1, 0, none⟩)] 29 (0, 0)) := by rw [← ho2]; exact heap_alloc_at _ _ _ (by omega)
  obtain ⟨W, hW⟩ : ∃ W, ((w.alloc o0).alloc o1).alloc o2 = W := ⟨_, rfl⟩
  rw [hW] at b2 hd hz hl
  have H1 : Hid (∀ wq, Below W.heap.size W wq → Ms (.pointer none) wq) := fun wq _ => h_missing_nil _
  have H2 : Hid (∀ wq, Below W.heap.size W wq → Ms (.pointer (some ⟨w.heap.size + 1, 0, none⟩)) wq) := fun wq hq => h_missing_zero (w := wq) ((hq.block _ (Array.getElem?_eq_some_iff.1 hz).1).trans hz)
  have HY : Hid (∀ wq, Below W.heap.size W wq → wq.cell? ⟨w.heap.size, 0, none⟩ = some y0 ∧ wq.cell? ⟨w.heap.size, 1, none⟩ = some y1 ∧ wq.cell? ⟨w.heap.size, 2, none⟩ = some y2 ∧ wq.cell? ⟨w.heap.size, 3, none⟩ = some y3) := fun wq hq => by
    have e := (hq.block _ (Array.getElem?_eq_some_iff.1 hd).1).trans hd
    exact ⟨by rw [cells_at e 0]; rfl, by rw [cells_at e 1]; rfl, by rw [cells_at e 2]; rfl, by rw [cells_at e 3]; rfl⟩
  have HX : Hid (∀ wq, Below W.heap.size W wq → wq.cell? ⟨w.heap.size + 2, 0, none⟩ = some (.pointer none) ∧ wq.cell? ⟨w.heap.size + 2, 1, none⟩ = some (.pointer (some ⟨w.heap.size + 1, 0, none⟩))) := fun wq hq => by
    have e := (hq.block _ (Array.getElem?_eq_some_iff.1 hl).1).trans hl
    exact ⟨by rw [cells_at e 0]; rfl, by rw [cells_at e 1]; rfl⟩
  have HO0 : Hid (Obj.cells #[y0, y1, y2, y3] 28 = o0) := ho0
  have HB2 : Hid (Below w.heap.size w W) := b2
  clear hd hz hl b0 b1 b2 s0 s1 ho0
  go_enter Tryz.func4, Tryz.ntmps4
  go_wp2
  rw [HO0.out]
  try rw [ho1]
  try rw [ho2]
  rw [hW]
  clear hW ho1 ho2 HO0
  go_loopw [21] (fun s21 wr => ∃ k : Nat, k ≤ 2 ∧ s21 = .int .i64 (k : Int) ∧ Hid (Below W.heap.size W wr)) (fun k _ => 2 - (intOf k).toNat)
  case atStart => exact ⟨0, by decide, rfl, Below.refl _ _⟩
  case round =>
    obtain ⟨k, hk, rfl, HBr⟩ := hrel
    by_cases hlt : k < 2
    · obtain ⟨ao, hp, HMq⟩ : ∃ ao, wr.cell? ⟨w.heap.size + 2, k, none⟩ = some (.pointer ao) ∧ Hid (∀ wq, Below W.heap.size W wq → Ms (.pointer ao) wq) := by
        match k, hlt with
        | 0, _ => exact ⟨_, (HX.out _ HBr.out).1, H1⟩
        | 1, _ => exact ⟨_, (HX.out _ HBr.out).2, H2⟩
      have HM : Hid (Ms (.pointer ao) wr) := HMq.out wr HBr.out
      obtain ⟨c0, c1, c2, c3⟩ := HY.out _ HBr.out
      have HL : Hid (Calls Tryz.prog 11 #[.pointer ao, .agg #[y0, y1, y2, y3]] wr fun r w' => r = .returned (.tuple #[.int .i64 0, .int .i64 2]) ∧ Hid (Below W.heap.size W w')) := (m_load (w := wr) (fun wq hq => HMq.out wq (HBr.out.trans (hq.mono HBr.out.size))) y0 y1 y2 y3).mono fun r w' ⟨hr, hb⟩ => ⟨hr, HBr.out.trans (hb.mono HBr.out.size)⟩
      have hlt' : (k : Int) < 2 := by omega
      have hk0 : (0 : Int) ≤ (k : Int) := by omega
      clear H1 H2 HX HY
      go_wp2_with fail
      refine (m_apply HM n 0).mono ?_
      rintro r w1 ⟨rfl, hw⟩
      obtain rfl : wr = w1 := hw.symm
      clear hw
      go_wp2_with fail
      refine HL.out.mono ?_
      rintro r w1 ⟨rfl, HB1⟩
      have HM1 : Hid (Ms (.pointer ao) w1) := HMq.out w1 HB1.out
      clear HL HM c0 c1 c2 c3
      go_wp2_with fail
      refine (m_number HM1 _).mono ?_
      rintro r w2 ⟨rfl, hw⟩
      obtain rfl : w1 = w2 := hw.symm
      clear hw
      go_wp2_with fail
      refine (m_digits HM1 5).mono ?_
      rintro r w2 ⟨rfl, hw⟩
      obtain rfl : w1 = w2 := hw.symm
      clear hw
      go_wp2_with fail
      refine (m_show HM1 5).mono ?_
      rintro r w2 ⟨rfl, hw⟩
      obtain rfl : w1 = w2 := hw.symm
      clear hw
      go_wp2_with fail
      refine (m_equal HM1 5 5).mono ?_
      rintro r w2 ⟨rfl, hw⟩
      obtain rfl : w1 = w2 := hw.symm
      clear hw
      go_wp2
      go_roundw
      case rel => exact ⟨k + 1, by omega, by go_num, HB1⟩
      case measure => simp [intOf]; omega
    · obtain rfl : k = 2 := by omega
      have HBw : Hid (Below w.heap.size w wr) := HB2.out.trans (HBr.out.mono HB2.out.size)
      clear H1 H2 HX HY HB2 HBr
      go_wp2_with fail
      refine (p_find ⟨#[43]⟩ wr).mono ?_
      rintro r w1 ⟨z, b, rfl, hF, hb⟩
      obtain ⟨rfl, rfl⟩ := hF.uniq fnd_plus
      have HBe : Hid (Below w.heap.size w w1) := HBw.out.trans (hb.mono HBw.out.size)
      clear hF hb
      go_wp2
      go_ret
      exact ⟨rfl, HBe.out⟩
end Go.Proofs.YtkjnigbnbfjdhaaGreatDoor
