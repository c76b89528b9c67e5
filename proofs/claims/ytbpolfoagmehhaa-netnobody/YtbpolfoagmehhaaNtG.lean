/-
  Nets that no call made: what their methods answer; NetNobody's walk.
-/
import Derived.Test.YtbpolfoagmehhaaNtE
namespace Go.Proofs.Ytbpolfoagmehhaa
open Go.RowKit
set_option linter.unusedVariables false
set_option maxRecDepth 100000
set_option maxHeartbeats 4000000

/-- A net that no call made: none, or the zero one. -/
def Nob (w : World) (v : Value) : Prop := v = .pointer none ∨ ∃ b, v = .pointer (some ⟨b, 0, none⟩) ∧ w.cell? ⟨b, 1, none⟩ = some (.bool false)
theorem b_missing {w : World} {v : Value} (h : Nob w v) : Calls Try.prog 22 #[v] w fun e w' => e = .returned (.bool true) ∧ w' = w := by
  rcases h with rfl | ⟨b, rfl, h⟩
  · go_enter Try.func22, Try.ntmps22
    go_wp2
    go_ret
    exact ⟨rfl, rfl⟩
  · go_enter Try.func22, Try.ntmps22
    go_wp2
    go_ret
    exact ⟨rfl, rfl⟩
theorem b_refuse {w : World} {v : Value} (h : Nob w v) (i : Value) : Calls Try.prog 25 #[v, i] w fun e w' => e = .returned (.int .i64 2) ∧ w' = w := by
  have hm := b_missing h
  clear h
  go_enter Try.func25, Try.ntmps25
  go_wp2_with (go_at_call 22; refine hm.mono ?_; rintro e w2 ⟨rfl, hw⟩; rw [hw]; clear hw)
  go_ret
  exact ⟨rfl, rfl⟩
theorem b_send {w : World} {v : Value} (h : Nob w v) (u : Value) : Calls Try.prog 8 #[v, u] w fun e w' => e = .returned (.int .i64 2) ∧ w' = w := by
  have hm := b_missing h
  clear h
  go_enter Try.func8, Try.ntmps8
  go_wp2_with (go_at_call 22; refine hm.mono ?_; rintro e w2 ⟨rfl, hw⟩; rw [hw]; clear hw)
  go_ret
  exact ⟨rfl, rfl⟩
theorem b_drop {w : World} {v : Value} (h : Nob w v) (i : Value) : Calls Try.prog 12 #[v, i] w fun e w' => e = .returned (.int .i64 2) ∧ w' = w := by
  have hm := b_refuse h i
  clear h
  go_enter Try.func12, Try.ntmps12
  go_wp2_with (go_at_call 25; refine hm.mono ?_; rintro e w2 ⟨rfl, hw⟩; rw [hw]; clear hw)
  go_ret
  exact ⟨rfl, rfl⟩
theorem b_twice {w : World} {v : Value} (h : Nob w v) (i : Value) : Calls Try.prog 14 #[v, i] w fun e w' => e = .returned (.int .i64 2) ∧ w' = w := by
  have hm := b_refuse h i
  clear h
  go_enter Try.func14, Try.ntmps14
  go_wp2_with (go_at_call 25; refine hm.mono ?_; rintro e w2 ⟨rfl, hw⟩; rw [hw]; clear hw)
  go_ret
  exact ⟨rfl, rfl⟩
theorem b_look {w : World} {v : Value} (h : Nob w v) (i : Value) : Calls Try.prog 18 #[v, i] w fun e w' => e = .returned (.tuple #[.slice none 0 0, .int .i64 2]) ∧ w' = w := by
  have hm := b_refuse h i
  clear h
  go_enter Try.func18, Try.ntmps18
  go_wp2_with (go_at_call 25; refine hm.mono ?_; rintro e w2 ⟨rfl, hw⟩; rw [hw]; clear hw)
  go_ret2
  exact ⟨rfl, rfl⟩
theorem b_take {w : World} {v : Value} (h : Nob w v) (i : Value) : Calls Try.prog 16 #[v, i] w fun e w' => e = .returned (.tuple #[.slice none 0 0, .int .i64 2]) ∧ w' = w := by
  have hm := b_look h i
  clear h
  go_enter Try.func16, Try.ntmps16
  go_wp2_with (go_at_call 18; refine hm.mono ?_; rintro e w2 ⟨rfl, hw⟩; rw [hw]; clear hw)
  go_ret2
  exact ⟨rfl, rfl⟩
theorem b_list {w : World} {v : Value} (h : Nob w v) : Calls Try.prog 21 #[v] w fun e w' => e = .returned (.slice none 0 0) ∧ w' = w := by
  have hm := b_missing h
  clear h
  go_enter Try.func21, Try.ntmps21
  go_wp2_with (go_at_call 22; refine hm.mono ?_; rintro e w2 ⟨rfl, hw⟩; rw [hw]; clear hw)
  go_ret
  exact ⟨rfl, rfl⟩

theorem net_nobody (i : Int) (w : World) : Calls Try.prog 4 #[.int .i64 i] w fun e w' => e = .returned (.bool true) ∧ Below w.heap.size w w' := by
  obtain ⟨w1, hw1⟩ : ∃ w1, w1 = (w.alloc (.cells #[.slice none 0 0, .bool false] 45)).alloc (.cells #[.pointer none, .pointer (some ⟨w.heap.size, 0, none⟩)] 23) := ⟨_, rfl⟩
  have hB1 : Below w.heap.size w w1 := by rw [hw1]; exact ((Below.refl _ w).alloc (Nat.le_refl _) _).alloc (by simp) _
  have hz1 : w1.heap[w.heap.size]? = some (.cells #[.slice none 0 0, .bool false] 45 (0, 0)) := by rw [hw1, Below.heap_alloc _ _ _ (by simp)]; exact heap_alloc_at w _ _ rfl
  have hg1 : w1.heap[w.heap.size + 1]? = some (.cells #[.pointer none, .pointer (some ⟨w.heap.size, 0, none⟩)] 23 (0, 0)) := by
    rw [hw1]; exact heap_alloc_at _ _ _ (by simp)
  have c0 : w1.cell? ⟨w.heap.size + 1, 0, none⟩ = some (.pointer none) := by rw [cells_at hg1 0]; rfl
  have c1 : w1.cell? ⟨w.heap.size + 1, 1, none⟩ = some (.pointer (some ⟨w.heap.size, 0, none⟩)) := by rw [cells_at hg1 1]; rfl
  have n0 : Hid (Nob w1 (.pointer none)) := .inl rfl
  have n1 : Hid (Nob w1 (.pointer (some ⟨w.heap.size, 0, none⟩))) := .inr ⟨_, rfl, by rw [cells_at hz1 1]; rfl⟩
  have HB1 : Hid (Below w.heap.size w w1) := hB1
  clear hB1 hz1 hg1
  go_enter Try.func4, Try.ntmps4
  go_wp2
  rw [← hw1]
  clear hw1
  go_loopw [14] (fun s wr => ∃ k : Nat, k ≤ 2 ∧ s = .int .i64 (k : Int) ∧ wr = w1) (fun k _ => 2 - (intOf k).toNat)
  case atStart => exact ⟨0, by omega, rfl, rfl⟩
  case round =>
    obtain ⟨k, hk, rfl, rfl⟩ := hrel
    rcases (by omega : k = 0 ∨ k = 1 ∨ k = 2) with rfl | rfl | rfl
    · have h1 := b_take n0.out (.int .i64 i)
      have h2 := b_look n0.out (.int .i64 i)
      have h3 := b_send n0.out (.slice none 0 0)
      have h4 := b_drop n0.out (.int .i64 i)
      have h5 := b_twice n0.out (.int .i64 i)
      have h6 := b_list n0.out
      clear n0 n1 c1
      go_wp2_with (first
        | (go_at_call 16; refine h1.mono ?_; rintro e w2 ⟨rfl, hw⟩; rw [hw]; clear hw)
        | (go_at_call 18; refine h2.mono ?_; rintro e w2 ⟨rfl, hw⟩; rw [hw]; clear hw)
        | (go_at_call 8; refine h3.mono ?_; rintro e w2 ⟨rfl, hw⟩; rw [hw]; clear hw)
        | (go_at_call 12; refine h4.mono ?_; rintro e w2 ⟨rfl, hw⟩; rw [hw]; clear hw)
        | (go_at_call 14; refine h5.mono ?_; rintro e w2 ⟨rfl, hw⟩; rw [hw]; clear hw)
        | (go_at_call 21; refine h6.mono ?_; rintro e w2 ⟨rfl, hw⟩; rw [hw]; clear hw))
      go_roundw
      case rel => exact ⟨1, by omega, by go_num, by trivial⟩
      case measure => simp [intOf]
    · have h1 := b_take n1.out (.int .i64 i)
      have h2 := b_look n1.out (.int .i64 i)
      have h3 := b_send n1.out (.slice none 0 0)
      have h4 := b_drop n1.out (.int .i64 i)
      have h5 := b_twice n1.out (.int .i64 i)
      have h6 := b_list n1.out
      clear n0 n1 c0
      go_wp2_with (first
        | (go_at_call 16; refine h1.mono ?_; rintro e w2 ⟨rfl, hw⟩; rw [hw]; clear hw)
        | (go_at_call 18; refine h2.mono ?_; rintro e w2 ⟨rfl, hw⟩; rw [hw]; clear hw)
        | (go_at_call 8; refine h3.mono ?_; rintro e w2 ⟨rfl, hw⟩; rw [hw]; clear hw)
        | (go_at_call 12; refine h4.mono ?_; rintro e w2 ⟨rfl, hw⟩; rw [hw]; clear hw)
        | (go_at_call 14; refine h5.mono ?_; rintro e w2 ⟨rfl, hw⟩; rw [hw]; clear hw)
        | (go_at_call 21; refine h6.mono ?_; rintro e w2 ⟨rfl, hw⟩; rw [hw]; clear hw))
      go_roundw
      case rel => exact ⟨2, by omega, by go_num, by trivial⟩
      case measure => simp [intOf]
    · clear n0 n1 c0 c1
      rename World => wa
      have hN := n_new wa wa.heap.size (Nat.le_refl _)
      have HS : Hid (∀ w3 : World, Nt w3 wa.heap.size true wa.heap.size (.slice none 0 0) [] → w3 = wa.alloc (.cells #[.slice none 0 0, .bool true] 45) → Calls Try.prog 8 #[.pointer (some ⟨wa.heap.size, 0, none⟩), .slice (some ⟨w3.heap.size, 0, none⟩) 1 1] (w3.alloc (.cells #[.int .u8 1] 5)) fun e w' => e = .returned (.int .i64 0) ∧ Hid (∃ v' m, Nt w' wa.heap.size true wa.heap.size v' [(m, lst (fun _ => 1) 1)] ∧ Below wa.heap.size wa w')) := fun w3 hn hw => by
        have hb3 : Below wa.heap.size wa w3 := by rw [hw]; exact (Below.refl _ wa).alloc (Nat.le_refl _) _
        have hb4 : Below w3.heap.size w3 (w3.alloc (.cells #[.int .u8 1] 5)) := (Below.refl _ w3).alloc (Nat.le_refl _) _
        refine (n_send (hn.below hb4) (by simp) (some ⟨w3.heap.size, 0, none⟩) 1 1 (fun _ => 1) (.inr ⟨_, rfl, fun j hj => ?_⟩) (by omega)).mono ?_
        · obtain rfl : j = 0 := by omega
          rw [Addr.add_lit, cells_at (heap_alloc_at w3 (.cells #[.int .u8 1] 5) _ rfl)]; rfl
        · rintro e w5 ⟨rfl, v', m, hn5, hw5, _⟩
          refine ⟨rfl, v', m, hn5, (hb3.alloc hb3.size _).trans (hw5.part.below (B := wa.heap.size) (fun k hk => ?_) (by have := hb3.size; simp; omega))⟩
          rcases hk with hk | hk
          · omega
          · cases hk
      rw [show (((2 : Nat) : Int)) = 2 from rfl]
      go_wp2_with (first
        | (go_at_call 6; refine hN.mono ?_; rintro e w3 ⟨rfl, hn, hw⟩; have hS := HS.out w3 hn hw; clear hw hn)
        | (go_at_call 8; refine hS.mono ?_; rintro e w5 ⟨rfl, H5⟩; obtain ⟨v', m, hn5, hb5⟩ := H5.out; have hL := n_list hn5; have HB5 : Hid (Below w.heap.size w w5) := HB1.out.trans (hb5.mono HB1.out.size); clear hn5 hb5 H5)
        | (go_at_call 21; refine hL.mono ?_; rintro e w6 ⟨u, ys, rfl, hq, hy, hb6⟩; obtain ⟨au, cu, hu, _⟩ := row_slice hq.row; have hyl : ys.length = 1 := (by simpa using congrArg List.length hy); rw [hyl] at hu; clear hq hy hyl; subst hu))
      go_ret
      exact ⟨rfl, HB5.out.trans (hb6.mono HB5.out.size)⟩
end Go.Proofs.Ytbpolfoagmehhaa
