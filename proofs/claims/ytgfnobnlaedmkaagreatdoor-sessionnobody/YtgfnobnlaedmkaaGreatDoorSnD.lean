/-
  SessionNobody: the law's walk. No condition. Printed by tools/mksnd.py.
-/
import Derived.Test.YtgfnobnlaedmkaaGreatDoorSnC
namespace Go.Proofs.YtgfnobnlaedmkaaGreatDoor
open Go.RowKit
set_option linter.unusedVariables false

set_option maxRecDepth 100000 in
set_option maxHeartbeats 8000000 in
theorem snobody_walk (id : Int) (nm : ByteArray) (w : World) :
    Calls Tryz.prog 3 #[.int .i64 id, .string nm] w fun e w' => e = .returned (.bool true) ∧ Below w.heap.size w w' := by
  obtain ⟨W, hW⟩ : ∃ W, W = (w.alloc (.cells #[.pointer none] 25)).alloc (.cells #[.pointer none, .pointer (some ⟨w.heap.size, 0, none⟩)] 22) := ⟨_, rfl⟩
  have hbW : Below w.heap.size w W := by rw [hW]; exact al2 w _ _
  have hst : W.heap[w.heap.size]? = some (.cells #[.pointer none] 25 (0, 0)) := by rw [hW, Below.heap_alloc _ _ _ (by simp)]; exact heap_new _ _ _ rfl
  have hrw : W.heap[w.heap.size + 1]? = some (.cells #[.pointer none, .pointer (some ⟨w.heap.size, 0, none⟩)] 22 (0, 0)) := by rw [hW]; exact heap_new _ _ _ (by simp)
  have HC : Hid (∀ wq, Below W.heap.size W wq → wq.cell? ⟨w.heap.size + 1, 0, none⟩ = some (.pointer none) ∧ wq.cell? ⟨w.heap.size + 1, 1, none⟩ = some (.pointer (some ⟨w.heap.size, 0, none⟩)) ∧ MissS wq none ∧ MissS wq (some ⟨w.heap.size, 0, none⟩)) := fun wq hq => by
    have e := (hq.block _ (Array.getElem?_eq_some_iff.1 hst).1).trans hst
    have e' := (hq.block _ (Array.getElem?_eq_some_iff.1 hrw).1).trans hrw
    exact ⟨cell_of e' 0, cell_of e' 1, .inl rfl, .inr ⟨_, rfl, cell_of e 0⟩⟩
  have HB : Hid (∀ wa wb, Below W.heap.size W wa → Below wa.heap.size wa wb → Below W.heap.size W wb) := fun wa wb h1 h2 => h1.trans (h2.mono h1.size)
  have HA : Hid (∀ wa o, Below W.heap.size W wa → Below W.heap.size W (wa.alloc o)) := fun wa o h1 => h1.alloc h1.size _
  have HZ : Hid (∀ wa, Below W.heap.size W wa → Below w.heap.size w wa) := fun wa h => hbW.trans (h.mono hbW.size)
  clear hst hrw hbW
  go_enter Tryz.func3, Tryz.ntmps3
  go_wp2
  rw [← hW]
  clear hW
  go_loopw [28] (fun i wr => ∃ k : Nat, k ≤ 2 ∧ i = .int .i64 (k : Int) ∧ Below W.heap.size W wr) (fun i _ => 2 - (intOf i).toNat)
  case atStart => exact ⟨0, Nat.zero_le _, rfl, Below.refl _ _⟩
  case round =>
    obtain ⟨k, hk, rfl, k0⟩ := hrel
    obtain ⟨c0, c1, n0, n1⟩ := HC.out wr k0
    by_cases hk0 : k = 0
    · subst hk0
      have m0 := n0
      clear n0 n1 HC c1
      go_wp2_with (first
        | (go_at_call 9; refine (j_roots m5).mono ?_; rintro e w6 ⟨rfl, b6⟩; have k6 := HB.out _ w6 k5a b6)
        | (go_at_call 8; refine (j_cached m4 nm).mono ?_; rintro e w5 ⟨rfl, b5⟩; have k5 := HB.out w4 w5 k4 b5; have k5a := HA.out w5 (.cells #[.string ⟨#[]⟩, .int .i64 0, .int .i64 0, .int .i64 0, .string ⟨#[]⟩] 40) k5; have m5 := (m4.below b5).below (al1 w5 (.cells #[.string ⟨#[]⟩, .int .i64 0, .int .i64 0, .int .i64 0, .string ⟨#[]⟩] 40)))
        | (go_at_call 7; refine (j_drop m3 id).mono ?_; rintro e w4 ⟨rfl, b4⟩; have k4 := HB.out w3 w4 k3 b4; have m4 := m3.below b4)
        | (go_at_call 6; refine (j_list m2).mono ?_; rintro e w3 ⟨rfl, b3⟩; have k3 := HB.out w2 w3 k2 b3; have m3 := m2.below b3)
        | (go_at_call 5; refine (j_next m1).mono ?_; rintro e w2 ⟨rfl, b2⟩; have k2 := HB.out w1 w2 k1 b2; have m2 := m1.below b2)
        | (go_at_call 4; refine (j_unpack m0 id).mono ?_; rintro e w1 ⟨rfl, b1⟩; have k1 := HB.out wr w1 k0 b1; have m1 := m0.below b1))
      have hin := heap_new w6 (.cells #[.int .i64 2, .int .i64 2, .int .i64 2, .int .i64 2, .int .i64 2, .int .i64 2] 28) _ rfl
      have HI : Hid (∀ m, m < 6 → (w6.alloc (.cells #[.int .i64 2, .int .i64 2, .int .i64 2, .int .i64 2, .int .i64 2, .int .i64 2] 28)).cell? ⟨w6.heap.size, m, none⟩ = some (.int .i64 2)) := fun m hm => by
        rw [cell_of hin]
        have h6 : m = 0 ∨ m = 1 ∨ m = 2 ∨ m = 3 ∨ m = 4 ∨ m = 5 := by omega
        rcases h6 with rfl | rfl | rfl | rfl | rfl | rfl <;> rfl
      have k7 : Hid (Below W.heap.size W (w6.alloc (.cells #[.int .i64 2, .int .i64 2, .int .i64 2, .int .i64 2, .int .i64 2, .int .i64 2] 28))) := HA.out _ _ k6
      clear hin b1 b2 b3 b4 b5 b6 m0 m1 m2 m3 m4 m5 k0 k1 k2 k3 k4 k5 k5a k6
      generalize w6.alloc (.cells #[.int .i64 2, .int .i64 2, .int .i64 2, .int .i64 2, .int .i64 2, .int .i64 2] 28) = w7 at *
      go_loopw [74] (fun j wq => ∃ m : Nat, m ≤ 6 ∧ j = .int .i64 (m : Int) ∧ wq = w7) (fun j _ => 6 - (intOf j).toNat)
      case atStart => exact ⟨0, Nat.zero_le _, rfl, rfl⟩
      case round =>
        obtain ⟨m, hm, rfl, rfl⟩ := hrel
        by_cases hm6 : m < 6
        · have li : (m : Int) < 6 := by omega
          have l0 : (0 : Int) ≤ (m : Int) := by omega
          have hc := HI.out m hm6
          clear HI
          go_wp2
          go_roundw
          case rel => exact ⟨m + 1, by omega, by go_num, trivial⟩
          case measure => simp [intOf]; omega
        · obtain rfl : m = 6 := by omega
          clear HI
          go_wp2
          go_roundw
          case rel => exact ⟨1, by omega, by first | rfl | go_num, k7.out⟩
          case measure => simp [intOf]
    by_cases hk1 : k = 1
    · subst hk1
      have m0 := n1
      clear n0 n1 HC c0 hk0
      go_wp2_with (first
        | (go_at_call 9; refine (j_roots m5).mono ?_; rintro e w6 ⟨rfl, b6⟩; have k6 := HB.out _ w6 k5a b6)
        | (go_at_call 8; refine (j_cached m4 nm).mono ?_; rintro e w5 ⟨rfl, b5⟩; have k5 := HB.out w4 w5 k4 b5; have k5a := HA.out w5 (.cells #[.string ⟨#[]⟩, .int .i64 0, .int .i64 0, .int .i64 0, .string ⟨#[]⟩] 40) k5; have m5 := (m4.below b5).below (al1 w5 (.cells #[.string ⟨#[]⟩, .int .i64 0, .int .i64 0, .int .i64 0, .string ⟨#[]⟩] 40)))
        | (go_at_call 7; refine (j_drop m3 id).mono ?_; rintro e w4 ⟨rfl, b4⟩; have k4 := HB.out w3 w4 k3 b4; have m4 := m3.below b4)
        | (go_at_call 6; refine (j_list m2).mono ?_; rintro e w3 ⟨rfl, b3⟩; have k3 := HB.out w2 w3 k2 b3; have m3 := m2.below b3)
        | (go_at_call 5; refine (j_next m1).mono ?_; rintro e w2 ⟨rfl, b2⟩; have k2 := HB.out w1 w2 k1 b2; have m2 := m1.below b2)
        | (go_at_call 4; refine (j_unpack m0 id).mono ?_; rintro e w1 ⟨rfl, b1⟩; have k1 := HB.out wr w1 k0 b1; have m1 := m0.below b1))
      have hin := heap_new w6 (.cells #[.int .i64 2, .int .i64 2, .int .i64 2, .int .i64 2, .int .i64 2, .int .i64 2] 28) _ rfl
      have HI : Hid (∀ m, m < 6 → (w6.alloc (.cells #[.int .i64 2, .int .i64 2, .int .i64 2, .int .i64 2, .int .i64 2, .int .i64 2] 28)).cell? ⟨w6.heap.size, m, none⟩ = some (.int .i64 2)) := fun m hm => by
        rw [cell_of hin]
        have h6 : m = 0 ∨ m = 1 ∨ m = 2 ∨ m = 3 ∨ m = 4 ∨ m = 5 := by omega
        rcases h6 with rfl | rfl | rfl | rfl | rfl | rfl <;> rfl
      have k7 : Hid (Below W.heap.size W (w6.alloc (.cells #[.int .i64 2, .int .i64 2, .int .i64 2, .int .i64 2, .int .i64 2, .int .i64 2] 28))) := HA.out _ _ k6
      clear hin b1 b2 b3 b4 b5 b6 m0 m1 m2 m3 m4 m5 k0 k1 k2 k3 k4 k5 k5a k6
      generalize w6.alloc (.cells #[.int .i64 2, .int .i64 2, .int .i64 2, .int .i64 2, .int .i64 2, .int .i64 2] 28) = w7 at *
      go_loopw [74] (fun j wq => ∃ m : Nat, m ≤ 6 ∧ j = .int .i64 (m : Int) ∧ wq = w7) (fun j _ => 6 - (intOf j).toNat)
      case atStart => exact ⟨0, Nat.zero_le _, rfl, rfl⟩
      case round =>
        obtain ⟨m, hm, rfl, rfl⟩ := hrel
        by_cases hm6 : m < 6
        · have li : (m : Int) < 6 := by omega
          have l0 : (0 : Int) ≤ (m : Int) := by omega
          have hc := HI.out m hm6
          clear HI
          go_wp2
          go_roundw
          case rel => exact ⟨m + 1, by omega, by go_num, trivial⟩
          case measure => simp [intOf]; omega
        · obtain rfl : m = 6 := by omega
          clear HI
          go_wp2
          go_roundw
          case rel => exact ⟨2, by omega, by first | rfl | go_num, k7.out⟩
          case measure => simp [intOf]
    obtain rfl : k = 2 := by omega
    clear c0 c1 n0 n1 HC hk0 hk1
    go_wp2_with (go_at_call 10; refine (new3 wr).mono ?_; rintro e w2 ⟨X, a, c, rfl, hx, b2⟩; have k2 := HB.out wr w2 k0 b2)
    go_ret
    exact ⟨rfl, HZ.out _ k2⟩
end Go.Proofs.YtgfnobnlaedmkaaGreatDoor
