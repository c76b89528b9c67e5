/-
  serial.Encode of a word that is not there, in a new heap; SerialNobody, walked.
-/
import Derived.Test.YtkjnigbnbfjdhaaGreatDoorPmB
import Derived.Test.YtkjnigbnbfjdhaaGreatDoorPnA
namespace Go.Proofs.YtkjnigbnbfjdhaaGreatDoor
open Go.RowKit
set_option linter.unusedVariables false

theorem f_kept {y : Int} {w : World} {h : Nat} (k : Fh y w h) : Calls Tryz.prog 164 #[.pointer (some ⟨h, 0, none⟩), .int .i64 1125899906842624] w fun r w' => r = .returned (.tuple #[.int .i64 0, .bool false]) ∧ Dr w w' := by
  have HCt : Hid (∀ q, Calls Tryz.prog 177 #[.pointer (some ⟨h, 0, none⟩)] (w.drewN q) fun r w' => r = .returned (.int .i64 0) ∧ ∃ m, w' = (w.drewN q).drewN m) := fun q => h_count (w := w.drewN q) k (by decide) (by decide)
  have HWd : Hid (∀ wq, Calls Tryz.prog 176 #[.int .i64 (-1)] wq fun r w' => r = .returned (.int .i64 0) ∧ w' = wq) := fun wq => by
    go_enter Tryz.func176, Tryz.ntmps176
    go_wp2
    go_ret
    exact ⟨rfl, rfl⟩
  have c8 : w.cell? ⟨h, 8, none⟩ = some (.int .i64 0) := (hget k).2.2.2.2.2.2.2.2.1
  have a1 : bits .and .i64 1125899906842624 1 = 0 := by decide
  clear k
  go_enter Tryz.func164, Tryz.ntmps164
  go_wp2_with fail
  go_quiet (first
    | (go_at_call 177; exact Calls.quiet_of (HCt.out _))
    | (go_at_call 176; exact Calls.quiet_of_same (HWd.out _)))
  go_wp2
  go_ret2
  exact ⟨rfl, _, rfl⟩
theorem f_kind {y : Int} {w : World} {h : Nat} (k : Fh y w h) (hy : (y == 0) = false) : Calls Tryz.prog 39 #[.pointer (some ⟨h, 0, none⟩), .int .i64 1125899906842624] w fun r w' => r = .returned (.int .i64 0) ∧ Dr w w' := by
  have HM : Hid (Calls Tryz.prog 95 #[.pointer (some ⟨h, 0, none⟩)] w fun r w' => r = .returned (.bool false) ∧ w' = w) := h_missing k hy
  have HK : Hid (Calls Tryz.prog 164 #[.pointer (some ⟨h, 0, none⟩), .int .i64 1125899906842624] w fun r w' => r = .returned (.tuple #[.int .i64 0, .bool false]) ∧ Dr w w') := f_kept k
  have HF : Hid (Calls Tryz.prog 110 #[.pointer (some ⟨h, 0, none⟩), .int .i64 1125899906842624] w fun r w' => r = .returned (.pointer none) ∧ Dr w w') := by
    clear k hy
    show Calls Tryz.prog 110 #[.pointer (some ⟨h, 0, none⟩), .int .i64 1125899906842624] w fun r w' => r = .returned (.pointer none) ∧ Dr w w'
    go_enter Tryz.func110, Tryz.ntmps110
    go_wp2_with fail
    refine HM.out.mono ?_
    rintro r w1 ⟨rfl, hw⟩
    obtain rfl : w = w1 := hw.symm
    clear hw HM
    go_wp2_with fail
    refine HK.out.mono ?_
    rintro r w1 ⟨rfl, q1⟩
    go_wp2
    go_ret
    exact ⟨rfl, q1⟩
  clear k hy HM HK
  go_enter Tryz.func39, Tryz.ntmps39
  go_wp2_with fail
  refine HF.out.mono ?_
  rintro r w1 ⟨rfl, q1⟩
  go_wp2
  go_ret
  exact ⟨rfl, q1⟩
theorem f_plain (w : World) : Calls Tryz.prog 117 #[.int .i64 1125899906842624] w fun r w' => r = .returned (.bool false) ∧ w' = w := by
  have a1 : bits .and .i64 1125899906842624 1 = 0 := by decide
  go_enter Tryz.func117, Tryz.ntmps117
  go_wp2
  go_ret
  exact ⟨rfl, rfl⟩
theorem f_there {y : Int} {w : World} {h : Nat} (k : Fh y w h) (hy : (y == 0) = false) : Calls Tryz.prog 44 #[.pointer (some ⟨h, 0, none⟩), .int .i64 1125899906842624] w fun r w' => r = .returned (.bool false) ∧ Dr w w' := by
  have HP : Hid (Calls Tryz.prog 117 #[.int .i64 1125899906842624] w fun r w' => r = .returned (.bool false) ∧ w' = w) := f_plain w
  have HK : Hid (Calls Tryz.prog 39 #[.pointer (some ⟨h, 0, none⟩), .int .i64 1125899906842624] w fun r w' => r = .returned (.int .i64 0) ∧ Dr w w') := f_kind k hy
  clear k hy
  go_enter Tryz.func44, Tryz.ntmps44
  go_wp2_with fail
  refine HP.out.mono ?_
  rintro r w1 ⟨rfl, hw⟩
  obtain rfl : w = w1 := hw.symm
  clear hw HP
  go_wp2_with fail
  refine HK.out.mono ?_
  rintro r w1 ⟨rfl, q1⟩
  go_wp2
  go_ret
  exact ⟨rfl, q1⟩
theorem f_encode {y : Int} {w : World} {h : Nat} (k : Fh y w h) (hy : (y == 0) = false) : Calls Tryz.prog 16 #[.pointer (some ⟨h, 0, none⟩), .int .i64 1125899906842624] w fun r w' => r = .returned (.tuple #[.slice none 0 0, .int .i64 141]) ∧ Part (fun q => q = h) w w' := by
  have HM : Hid (Calls Tryz.prog 25 #[.pointer (some ⟨h, 0, none⟩)] w fun r w' => r = .returned (.bool false) ∧ Hid (Fh y w' h ∧ Part (fun q => q = h) w w')) := p_missing k hy
  have HT : Hid (∀ wq, Fh y wq h → Calls Tryz.prog 44 #[.pointer (some ⟨h, 0, none⟩), .int .i64 1125899906842624] wq fun r w' => r = .returned (.bool false) ∧ Dr wq w') := fun wq kq => f_there kq hy
  clear k hy
  go_enter Tryz.func16, Tryz.ntmps16
  go_wp2_with fail
  refine HM.out.mono ?_
  rintro r w1 ⟨rfl, HF⟩
  go_wp2_with fail
  refine (HT.out _ HF.out.1).mono ?_
  rintro r w2 ⟨rfl, q2⟩
  go_wp2
  go_ret2
  exact ⟨rfl, HF.out.2.trans (Part.ofBelow (F := fun _ => False) q2.below) (fun _ _ h => h.elim)⟩

set_option maxRecDepth 100000 in
set_option maxHeartbeats 4000000 in
theorem snobody_walk (a : Option Addr) (n c : Nat) (i : Int) (w : World) : Calls Tryz.prog 5 #[.slice a n c, .int .i64 i] w fun r w' => r = .returned (.bool true) ∧ Below w.heap.size w w' := by
  obtain ⟨o1, ho1⟩ : ∃ o, Obj.cells #[.slice none 0 0, .int .i64 0, .int .i64 0, .slice none 0 0, .int .i64 0, .int .i64 0, .slice none 0 0, .slice none 0 0, .int .i64 0, .int .i64 0, .int .i64 0, .bool false] 37 = o := ⟨_, rfl⟩
  obtain ⟨o2, ho2⟩ : ∃ o, Obj.cells #[.pointer none, .pointer (some ⟨w.heap.size, 0, none⟩)] 29 = o := ⟨_, rfl⟩
  have b1 : Below w.heap.size w (w.alloc o1) := (Below.refl _ w).alloc (Nat.le_refl _) o1
  have b2 : Below w.heap.size w ((w.alloc o1).alloc o2) := b1.alloc b1.size o2
  have s1 : (w.alloc o1).heap.size = w.heap.size + 1 := by simp
  have hz : Hd ((w.alloc o1).alloc o2) w.heap.size (.slice none 0 0) 0 0 (.slice none 0 0) 0 0 (.slice none 0 0) (.slice none 0 0) 0 0 0 false := by
    show ((w.alloc o1).alloc o2).heap[w.heap.size]? = _
    rw [Below.heap_alloc (w.alloc o1) o2 w.heap.size (by omega), ← ho1]
    exact heap_alloc_at _ _ _ rfl
  have hl : ((w.alloc o1).alloc o2).heap[w.heap.size + 1]? = some (.cells #[.pointer none, .pointer (some ⟨w.heap.size, 0, none⟩)] 29 (0, 0)) := by rw [← ho2]; exact heap_alloc_at _ _ _ (by omega)
  have H1 : Hid (∀ wq, Below ((w.alloc o1).alloc o2).heap.size ((w.alloc o1).alloc o2) wq → Ms (.pointer none) wq) := fun wq _ => h_missing_nil _
  have H2 : Hid (∀ wq, Below ((w.alloc o1).alloc o2).heap.size ((w.alloc o1).alloc o2) wq → Ms (.pointer (some ⟨w.heap.size, 0, none⟩)) wq) := fun wq hq => h_missing_zero (w := wq) ((hq.block _ (Array.getElem?_eq_some_iff.1 hz).1).trans hz)
  have x0 : ((w.alloc o1).alloc o2).cell? ⟨w.heap.size + 1, 0, none⟩ = some (.pointer none) := by rw [cells_at hl 0]; rfl
  have x1 : ((w.alloc o1).alloc o2).cell? ⟨w.heap.size + 1, 1, none⟩ = some (.pointer (some ⟨w.heap.size, 0, none⟩)) := by rw [cells_at hl 1]; rfl
  clear hz hl
  go_enter Tryz.func5, Tryz.ntmps5
  go_wp2
  try rw [ho1]
  try rw [ho2]
  generalize hW : (w.alloc o1).alloc o2 = W at *
  go_loopw [18] (fun s18 wr => ∃ k : Nat, k ≤ 2 ∧ s18 = .int .i64 (k : Int) ∧ Hid (Below W.heap.size W wr)) (fun k _ => 2 - (intOf k).toNat)
  case atStart => exact ⟨0, by decide, rfl, Below.refl _ _⟩
  case round =>
    obtain ⟨k, hk, rfl, HBr⟩ := hrel
    by_cases hlt : k < 2
    · obtain ⟨ao, hp, HMq⟩ : ∃ ao, wr.cell? ⟨w.heap.size + 1, k, none⟩ = some (.pointer ao) ∧ Hid (∀ wq, Below wr.heap.size wr wq → Ms (.pointer ao) wq) := by
        have key : ∀ q v, W.cell? ⟨w.heap.size + 1, q, none⟩ = some v → wr.cell? ⟨w.heap.size + 1, q, none⟩ = some v := fun q v hq => by
          rw [HBr.out.cell (p := ⟨w.heap.size + 1, q, none⟩) (World.block_lt_of_cell? W _ hq)]; exact hq
        match k, hlt with
        | 0, _ => exact ⟨_, key 0 _ x0, fun wq hq => H1.out wq (HBr.out.trans (hq.mono HBr.out.size))⟩
        | 1, _ => exact ⟨_, key 1 _ x1, fun wq hq => H2.out wq (HBr.out.trans (hq.mono HBr.out.size))⟩
      have HM : Hid (Ms (.pointer ao) wr) := HMq.out wr (Below.refl _ _)
      have HSm : Hid (∀ wq, Below wr.heap.size wr wq → Calls Tryz.prog 19 #[.pointer ao, .int .i64 5, .pointer ao, .int .i64 5] wq fun r w' => r = .returned (.bool false) ∧ w' = wq) := fun wq hq => m_same (HMq.out wq hq) 5 5
      have hlt' : (k : Int) < 2 := by omega
      have hk0 : (0 : Int) ≤ (k : Int) := by omega
      clear x0 x1 H1 H2 hW
      go_wp2_with fail
      refine (m_encode HM 5).mono ?_
      rintro r w1 ⟨rfl, hw⟩
      obtain rfl : wr = w1 := hw.symm
      clear hw
      go_wp2_with fail
      refine (m_decode HM a n c).mono ?_
      rintro r w1 ⟨rfl, hw⟩
      obtain rfl : wr = w1 := hw.symm
      clear hw
      go_wp2_with fail
      refine (m_reach HMq).mono ?_
      rintro r w1 ⟨rfl, hb1⟩
      have HB1 : Hid (Below W.heap.size W w1) := HBr.out.trans (hb1.mono HBr.out.size)
      have HB2 : Hid (Below wr.heap.size wr w1) := hb1
      clear hb1
      go_wp2_with fail
      refine (HSm.out _ HB2.out).mono ?_
      rintro r w2 ⟨rfl, hw⟩
      obtain rfl : w1 = w2 := hw.symm
      clear hw
      go_wp2
      go_roundw
      case rel => exact ⟨k + 1, by omega, by go_num, HB1⟩
      case measure => simp [intOf]; omega
    · obtain rfl : k = 2 := by omega
      have HR : Hid (Calls Tryz.prog 20 #[] wr fun r w' => r = .returned (.pointer (some ⟨wr.heap.size, 0, none⟩)) ∧ Hid (Fh 5000 w' wr.heap.size ∧ Below wr.heap.size wr w')) := p_room16 wr
      have HBw : Hid (Below w.heap.size w wr) := b2.trans (HBr.out.mono b2.size)
      have hsz := HBw.out.size
      clear x0 x1 H1 H2 hW b1 b2
      go_wp2_with fail
      refine HR.out.mono ?_
      rintro r w1 ⟨rfl, HF⟩
      go_wp2_with fail
      refine (f_encode HF.out.1 rfl).mono ?_
      rintro r w2 ⟨rfl, hp2⟩
      go_wp2
      go_ret
      have b3 : Below w.heap.size w w1 := HBw.out.trans (HF.out.2.mono hsz)
      exact ⟨rfl, b3.trans (hp2.below (fun q hq => by have hq : q = wr.heap.size := hq; omega) b3.size)⟩
end Go.Proofs.YtkjnigbnbfjdhaaGreatDoor
