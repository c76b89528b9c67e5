/-
  prims.Find and Name, against the table.
-/
import Derived.Test.YtkjnigbnbfjdhaaGreatDoorPtB
namespace Go.Proofs.YtkjnigbnbfjdhaaGreatDoor
open Go.RowKit
set_option linter.unusedVariables false

theorem str_ne {a b : ByteArray} (h : a ≠ b) : (a.toList == b.toList) = false := by
  rw [ByteArray.toList_eq, ByteArray.toList_eq]
  simp only [beq_eq_false_iff_ne, ne_eq]
  intro e
  apply h
  cases a
  cases b
  exact congrArg ByteArray.mk (Array.toList_inj.1 e)
/-- The name at a number. -/
def pnm (k : Nat) : ByteArray := pnames.getD k ⟨#[]⟩
theorem ix_at (w : World) : ∀ k : Nat, k < 47 → ∃ x1 x2, (Instr.index 60 (.agg ptab) (.int .i64 (k : Int))).run Tryz.prog w = .ok (.agg #[.string (pnm k), .string x1, .func x2 #[] #[]]) w
  | 0, _ => ⟨⟨#[78, 42]⟩, (.func 53), by kernel_rfl⟩
  | 1, _ => ⟨⟨#[78, 78, 42]⟩, (.func 54), by kernel_rfl⟩
  | 2, _ => ⟨⟨#[78, 42]⟩, (.func 55), by kernel_rfl⟩
  | 3, _ => ⟨⟨#[78, 78]⟩, (.func 56), by kernel_rfl⟩
  | 4, _ => ⟨⟨#[78, 78]⟩, (.func 57), by kernel_rfl⟩
  | 5, _ => ⟨⟨#[78, 78]⟩, (.func 58), by kernel_rfl⟩
  | 6, _ => ⟨⟨#[78, 78]⟩, (.func 59), by kernel_rfl⟩
  | 7, _ => ⟨⟨#[78, 78]⟩, (.func 60), by kernel_rfl⟩
  | 8, _ => ⟨⟨#[88, 88]⟩, (.func 61), by kernel_rfl⟩
  | 9, _ => ⟨⟨#[88, 88]⟩, (.func 62), by kernel_rfl⟩
  | 10, _ => ⟨⟨#[88, 88]⟩, (.func 63), by kernel_rfl⟩
  | 11, _ => ⟨⟨#[80]⟩, (.func 64), by kernel_rfl⟩
  | 12, _ => ⟨⟨#[80]⟩, (.func 65), by kernel_rfl⟩
  | 13, _ => ⟨⟨#[80, 88]⟩, (.func 66), by kernel_rfl⟩
  | 14, _ => ⟨⟨#[80, 88]⟩, (.func 67), by kernel_rfl⟩
  | 15, _ => ⟨⟨#[88]⟩, (.func 68), by kernel_rfl⟩
  | 16, _ => ⟨⟨#[88]⟩, (.func 69), by kernel_rfl⟩
  | 17, _ => ⟨⟨#[88]⟩, (.func 70), by kernel_rfl⟩
  | 18, _ => ⟨⟨#[88]⟩, (.func 71), by kernel_rfl⟩
  | 19, _ => ⟨⟨#[88]⟩, (.func 72), by kernel_rfl⟩
  | 20, _ => ⟨⟨#[88]⟩, (.func 73), by kernel_rfl⟩
  | 21, _ => ⟨⟨#[88]⟩, (.func 74), by kernel_rfl⟩
  | 22, _ => ⟨⟨#[88]⟩, (.func 75), by kernel_rfl⟩
  | 23, _ => ⟨⟨#[88]⟩, (.func 76), by kernel_rfl⟩
  | 24, _ => ⟨⟨#[88]⟩, (.func 77), by kernel_rfl⟩
  | 25, _ => ⟨⟨#[88, 42]⟩, (.func 78), by kernel_rfl⟩
  | 26, _ => ⟨⟨#[88, 42]⟩, (.func 79), by kernel_rfl⟩
  | 27, _ => ⟨⟨#[76]⟩, (.func 80), by kernel_rfl⟩
  | 28, _ => ⟨⟨#[76]⟩, (.func 81), by kernel_rfl⟩
  | 29, _ => ⟨⟨#[76, 42]⟩, (.func 82), by kernel_rfl⟩
  | 30, _ => ⟨⟨#[86, 78]⟩, (.func 83), by kernel_rfl⟩
  | 31, _ => ⟨⟨#[86, 78, 88]⟩, (.func 84), by kernel_rfl⟩
  | 32, _ => ⟨⟨#[86]⟩, (.func 85), by kernel_rfl⟩
  | 33, _ => ⟨⟨#[78, 88]⟩, (.func 86), by kernel_rfl⟩
  | 34, _ => ⟨⟨#[83, 42]⟩, (.func 87), by kernel_rfl⟩
  | 35, _ => ⟨⟨#[83]⟩, (.func 88), by kernel_rfl⟩
  | 36, _ => ⟨⟨#[83]⟩, (.func 89), by kernel_rfl⟩
  | 37, _ => ⟨⟨#[89]⟩, (.func 90), by kernel_rfl⟩
  | 38, _ => ⟨⟨#[78]⟩, (.func 91), by kernel_rfl⟩
  | 39, _ => ⟨⟨#[83]⟩, (.func 92), by kernel_rfl⟩
  | 40, _ => ⟨⟨#[83, 88, 42]⟩, (.func 93), by kernel_rfl⟩
  | 41, _ => ⟨⟨#[88, 42]⟩, (.func 94), by kernel_rfl⟩
  | 42, _ => ⟨⟨#[88, 42]⟩, (.func 94), by kernel_rfl⟩
  | 43, _ => ⟨⟨#[88, 42]⟩, (.func 94), by kernel_rfl⟩
  | 44, _ => ⟨⟨#[88, 42]⟩, (.func 94), by kernel_rfl⟩
  | 45, _ => ⟨⟨#[88, 42]⟩, (.func 94), by kernel_rfl⟩
  | 46, _ => ⟨⟨#[88, 42]⟩, (.func 94), by kernel_rfl⟩
  | k + 47, h => absurd h (by omega)
/-- The first number of a name. -/
def Fnd (s : ByteArray) (z : Int) (b : Bool) : Prop := (b = true ∧ ∃ k : Nat, k < 47 ∧ z = (k : Int) ∧ pnm k = s ∧ ∀ j, j < k → pnm j ≠ s) ∨ (b = false ∧ z = 0 ∧ ∀ j, j < 47 → pnm j ≠ s)
theorem Fnd.uniq {s : ByteArray} {z z' : Int} {b b' : Bool} (h : Fnd s z b) (h' : Fnd s z' b') : z = z' ∧ b = b' := by
  rcases h with ⟨rfl, k, hk, rfl, e, hn⟩ | ⟨rfl, rfl, hn⟩ <;> rcases h' with ⟨rfl, k', hk', rfl, e', hn'⟩ | ⟨rfl, rfl, hn'⟩
  · have : k = k' := by
      rcases Nat.lt_trichotomy k k' with h | h | h
      · exact absurd e (hn' k h)
      · exact h
      · exact absurd e' (hn k' h)
    exact ⟨by rw [this], rfl⟩
  · exact absurd e (hn' k hk)
  · exact absurd e' (hn k' hk')
  · exact ⟨rfl, rfl⟩
set_option maxRecDepth 100000 in
set_option maxHeartbeats 4000000 in
theorem p_find (s : ByteArray) (w : World) : Calls Tryz.prog 6 #[.string s] w fun r w' => ∃ z b, r = .returned (.tuple #[.int .i64 z, .bool b]) ∧ Fnd s z b ∧ Below w.heap.size w w' := by
  have HT : Hid (Calls Tryz.prog 21 #[] w fun r w' => r = .returned (.agg ptab) ∧ Below w.heap.size w w') := p_table w
  go_enter Tryz.func6, Tryz.ntmps6
  go_wp2_with fail
  refine HT.out.mono ?_
  rintro r w1 ⟨rfl, hb1⟩
  clear HT
  go_wp2
  go_loopw [7] (fun s7 wr => ∃ k : Nat, k ≤ 47 ∧ s7 = .int .i64 (k : Int) ∧ Hid ((∀ j, j < k → pnm j ≠ s) ∧ Below w.heap.size w wr)) (fun k _ => 47 - (intOf k).toNat)
  case atStart => exact ⟨0, by decide, rfl, fun j hj => absurd hj (by omega), hb1⟩
  case round =>
    obtain ⟨k, hk, rfl, HE⟩ := hrel
    by_cases hlt : k < 47
    · obtain ⟨x1, x2, hix⟩ := ix_at wr k hlt
      have l1 : (k : Int) < 47 := by omega
      have l2 : (0 : Int) ≤ (k : Int) := by omega
      obtain ⟨N, hN⟩ : ∃ N, pnm k = N := ⟨_, rfl⟩
      rw [hN] at hix
      have hst : (store ⟨wr.heap.size, 2, none⟩ (.func x2 #[] #[])).run Tryz.prog (wr.alloc (Obj.cells #[.string N, .string x1, .nilFunc] 59)) = .ok () (wr.alloc (Obj.cells #[.string N, .string x1, .func x2 #[] #[]] 59)) := by
        rw [run_store Tryz.prog _ _ _ _ rfl]
        simp [go_sem]
      have bq : ∀ o, Below w.heap.size w (wr.alloc o) := fun o => HE.out.2.alloc HE.out.2.size o
      by_cases he : N = s
      · subst he
        have HF : Hid (Fnd N (k : Int) true) := .inl ⟨rfl, k, hlt, rfl, hN, HE.out.1⟩
        have HB : Hid (∀ o, Below w.heap.size w (wr.alloc o)) := bq
        clear bq hN
        go_wp2
        go_ret2
        exact ⟨_, _, rfl, HF.out, HB.out _⟩
      · have HF : Hid (∀ j, j < k + 1 → pnm j ≠ s) := fun j hj => by
          by_cases h : j < k
          · exact HE.out.1 j h
          · obtain rfl : j = k := by omega
            rw [hN]; exact he
        have HB : Hid (∀ o, Below w.heap.size w (wr.alloc o)) := bq
        have hne : (N.toList == s.toList) = false := str_ne he
        clear bq hN
        go_wp2
        go_roundw
        case rel => exact ⟨k + 1, by omega, by go_num, HF.out, HB.out _⟩
        case measure => simp [intOf]; omega
    · obtain rfl : k = 47 := by omega
      go_wp2
      go_ret2
      exact ⟨0, false, rfl, .inr ⟨rfl, rfl, HE.out.1⟩, HE.out.2⟩
end Go.Proofs.YtkjnigbnbfjdhaaGreatDoor
