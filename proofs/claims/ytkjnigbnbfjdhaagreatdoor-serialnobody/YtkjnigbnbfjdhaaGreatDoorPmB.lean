/-
  serial.Reach of a small number, in a heap that no call made.
-/
import Derived.Test.YtkjnigbnbfjdhaaGreatDoorPmA
import Derived.Maps.OwnSet
import Derived.Maps.OwnOps
namespace Go.Proofs.YtkjnigbnbfjdhaaGreatDoor
open Go.RowKit
set_option linter.unusedVariables false

theorem lawKW : Go.Maps.Keyed Tryz.prog 35 := Go.Maps.int_keyed Tryz.underlying35
theorem zeroI (w : World) : (zeroValue 3).run Tryz.prog w = .ok (.int .i64 0) w := by kernel_rfl
/-- How an element of the map reads. -/
def rdI : Value → Option (DataW Unit × List MemPlace)
  | .int .i64 z => if z = 0 then some (.lit (.int .i64 0), []) else none
  | _ => none
theorem rdI_inv {v : Value} {ps : List MemPlace} (h : rdI v = some (.lit (.int .i64 0), ps)) : v = .int .i64 0 := by
  unfold rdI at h
  split at h
  · split at h
    · next e => rw [e]
    · cases h
  · cases h
theorem look_empty {w : World} {M : Nat} (h : w.ownsMap Tryz.prog 35 rdI M 0 (.map [])) : (Instr.lookup 100 (.map (some M)) (.int .i64 5) true).run Tryz.prog w = .ok (.tuple #[.int .i64 0, .bool false]) w := by
  obtain ⟨v, ps, hr, hv⟩ := h.look_ok lawKW Tryz.underlying100 (zeroI w) (show rdI (.int .i64 0) = some (.lit (.int .i64 0), []) by simp [rdI]) (Go.Maps.keyOf_int_mk Tryz.underlying35 (WalkArith.wf_i64 (n := (5 : Int)) (by omega)))
  have e1 : Go.Maps.has (DataW.map [] : DataW Unit) (.int .i64 5) = false := rfl
  have e2 : (DataW.map [] : DataW Unit).atKey (.int .i64 5) (.lit (.int .i64 0)) = .lit (.int .i64 0) := rfl
  rw [e2] at hv
  rw [e1, rdI_inv hv] at hr
  exact hr
set_option maxHeartbeats 2000000 in
theorem m_meet {p : Value} {w : World} (HM : Hid (∀ wq, Below w.heap.size w wq → Ms p wq)) : Calls Tryz.prog 45 #[p, .int .i64 5, .int .i64 9223372036854775807] w fun r w' => r = .returned (.map (some w.heap.size)) ∧ w'.ownsMap Tryz.prog 35 rdI w.heap.size 0 (.map []) ∧ Below w.heap.size w w' := by
  have hmm := @run_makeMap Tryz.prog
  obtain ⟨o1, ho1⟩ : ∃ o, Obj.map #[] 0 = o := ⟨_, rfl⟩
  obtain ⟨o2, ho2⟩ : ∃ o, Obj.cells #[.int .i64 5] 35 = o := ⟨_, rfl⟩
  have b1 : Below w.heap.size w (w.alloc o1) := (Below.refl _ w).alloc (Nat.le_refl _) o1
  have b2 : Below w.heap.size w ((w.alloc o1).alloc o2) := b1.alloc b1.size o2
  have hm0 : (w.alloc o1).ownsMap Tryz.prog 35 rdI w.heap.size 0 (.map []) := by rw [← ho1]; exact World.ownsMap_made _ _ _ _
  have hm2 : ((w.alloc o1).alloc o2).ownsMap Tryz.prog 35 rdI w.heap.size 0 (.map []) := by
    have hl := hm0.lt
    obtain ⟨es, clock, hb, rest⟩ := hm0
    exact ⟨es, clock, by rw [Below.heap_alloc _ _ _ hl]; exact hb, rest⟩
  have hc : ((w.alloc o1).alloc o2).cell? ⟨w.heap.size + 1, 0, none⟩ = some (.int .i64 5) := by
    have : ((w.alloc o1).alloc o2).heap[w.heap.size + 1]? = some (.cells #[.int .i64 5] 35 (0, 0)) := by rw [← ho2]; exact heap_alloc_at _ _ _ (by simp)
    rw [cells_at this 0]; rfl
  have HK : Hid (Calls Tryz.prog 39 #[p, .int .i64 5] ((w.alloc o1).alloc o2) fun r w' => r = .returned (.int .i64 0) ∧ w' = (w.alloc o1).alloc o2) := m_kind (HM.out _ b2) 5
  have hlk := look_empty hm2
  have hln : ∀ ty, (Builtin.len_ #[100] ty #[.map (some w.heap.size)]).run Tryz.prog ((w.alloc o1).alloc o2) = .ok (.int .i64 0) ((w.alloc o1).alloc o2) := fun ty => hm2.len Tryz.underlying100 ty
  have HE : Hid (((w.alloc o1).alloc o2).ownsMap Tryz.prog 35 rdI w.heap.size 0 (.map []) ∧ Below w.heap.size w ((w.alloc o1).alloc o2)) := ⟨hm2, b2⟩
  clear HM hm0 hm2 b1 b2
  have HO1 : Hid (Obj.map #[] 0 = o1) := ho1
  have HO2 : Hid (Obj.cells #[.int .i64 5] 35 = o2) := ho2
  clear ho1 ho2
  go_enter Tryz.func45, Tryz.ntmps45
  go_wp2
  rw [HO1.out, HO2.out]
  clear HO1 HO2 hmm
  generalize (w.alloc o1).alloc o2 = W at *
  go_loopw [8] (fun s8 wr => wr = W ∧ (s8 = .slice (some ⟨w.heap.size + 1, 0, none⟩) 1 1 ∨ s8 = .slice none 0 0)) (fun s _ => (match s with | .slice _ n _ => n | _ => 0))
  case atStart => exact ⟨rfl, .inl rfl⟩
  case round =>
    obtain ⟨rfl, hs⟩ := hrel
    rcases hs with rfl | rfl
    · go_wp2
      go_loopw [9, 28] (fun s9 s28 wi => wi = wr ∧ s9 = .slice none 0 0 ∧ (s28 = .int .i64 0 ∨ s28 = .int .i64 1)) (fun _ s _ => 1 - (intOf s).toNat)
      case atStart => exact ⟨rfl, rfl, .inl rfl⟩
      case round =>
        obtain ⟨rfl, rfl, hs⟩ := hrel
        rcases hs with rfl | rfl
        · go_wp2_with fail
          refine HK.out.mono ?_
          rintro r w1 ⟨rfl, hw⟩
          obtain rfl := hw.symm
          clear hw
          go_wp2
          go_roundw
          case rel => simp
          case measure => simp [intOf]
        · go_wp2
          go_roundw
          case rel => simp
          case measure => simp
    · go_wp2
      go_ret
      exact ⟨rfl, HE.out⟩
theorem m_reach {p : Value} {w : World} (HM : Hid (∀ wq, Below w.heap.size w wq → Ms p wq)) : Calls Tryz.prog 18 #[p, .int .i64 5] w fun r w' => r = .returned (.int .i64 0) ∧ Below w.heap.size w w' := by
  have HC : Hid (Calls Tryz.prog 45 #[p, .int .i64 5, .int .i64 9223372036854775807] w fun r w' => r = .returned (.map (some w.heap.size)) ∧ Hid (w'.ownsMap Tryz.prog 35 rdI w.heap.size 0 (.map []) ∧ Below w.heap.size w w')) := m_meet HM
  clear HM
  go_enter Tryz.func18, Tryz.ntmps18
  go_wp2_with fail
  refine HC.out.mono ?_
  rintro r w1 ⟨rfl, HE⟩
  have hln : ∀ ty, (Builtin.len_ #[100] ty #[.map (some w.heap.size)]).run Tryz.prog w1 = .ok (.int .i64 0) w1 := fun ty => HE.out.1.len Tryz.underlying100 ty
  go_wp2
  go_ret
  exact ⟨rfl, HE.out.2⟩
end Go.Proofs.YtkjnigbnbfjdhaaGreatDoor
