/-
  Contracts of wire.number and of the document's own Uint, over bytes that stand anywhere: both answer Wm.num of the bytes, and change nothing.
-/
import Derived.Test.YtnaobkpncfbnaaaGreatDoorProg
import Derived.Test.YtnaobkpncfbnaaaGreatDoorGa
import Derived.WalkKit
import Derived.WalkLawsBesides
import Derived.WalkSpells
namespace Go.Proofs.YtnaobkpncfbnaaaGreatDoor
open Go.RowKit
set_option linter.unusedVariables false

theorem ret3 {a b c a' b' c' : Int} (h1 : a = a') (h2 : b = b') (h3 : c = c') : Ending.returned (.tuple #[.int .i64 a, .int .i64 b, .int .i64 c]) = .returned (.tuple #[.int .i64 a', .int .i64 b', .int .i64 c']) := by rw [h1, h2, h3]
theorem ret3p {a b c : Int} {p : Int × Int × Int} (h : p = (a, b, c)) : Ending.returned (.tuple #[.int .i64 a, .int .i64 b, .int .i64 c]) = .returned (.tuple #[.int .i64 p.1, .int .i64 p.2.1, .int .i64 p.2.2]) := by rw [h]

set_option maxHeartbeats 400000 in
theorem number_none (a : Option Addr) (c : Nat) (f : Nat → Int) (w : World) :
    Calls Tryz.prog 96 #[.slice a 0 c] w fun e w' => e = .returned (.tuple #[.int .i64 (Wm.num f 0).1, .int .i64 (Wm.num f 0).2.1, .int .i64 (Wm.num f 0).2.2]) ∧ w' = w := by
  go_enter Tryz.func96, Tryz.ntmps96
  go_wp2
  refine wp_loop_rounds 1 ?_
  rw [rounds_succ]
  go_wp2
  go_ret3
  exact ⟨ret3p (Wm.num_zero f), rfl⟩

set_option maxHeartbeats 1000000 in
theorem wnumber_at (b off n c : Nat) (f : Nat → Int) (w : World) (hbig : n ≤ 140737488355328) (hby : ∀ i, 0 ≤ f i ∧ f i ≤ 255) (hc : Hid (∀ i, i < n → w.cell? ⟨b, off + i, none⟩ = some (.int .u8 (f i)))) :
    Calls Tryz.prog 96 #[.slice (some ⟨b, off, none⟩) n c] w fun e w' => e = .returned (.tuple #[.int .i64 (Wm.num f n).1, .int .i64 (Wm.num f n).2.1, .int .i64 (Wm.num f n).2.2]) ∧ w' = w := by
  go_enter Tryz.func96, Tryz.ntmps96
  go_wp2
  go_loop [5, 7] (fun x i => ∃ k : Nat, k ≤ n ∧ k ≤ 9 ∧ i = .int .i64 k ∧ x = .int .i64 (Wm.accum f k) ∧ Hid (Wm.num f n = Wm.numAt f n (9 - k) k)) (fun _ i => 9 - (intOf i).toNat)
  case atStart => exact ⟨0, Nat.zero_le _, by omega, rfl, rfl, rfl⟩
  case round =>
    obtain ⟨k, hk, hk9, rfl, rfl, hnum⟩ := hrel
    have hcell : k < n → w.cell? ⟨b, off + k, none⟩ = some (.int .u8 (f k)) := fun h => hc.out k h
    have hb1 := (hby k).1
    have hb2 := (hby k).2
    clear hby
    generalize hx : f k = x at *
    have HX : Hid (f k = x) := hx
    clear hx
    by_cases hlt : k < 9
    · by_cases hkn : k < n
      · have hne : ((k : Int) == (n : Int)) = false := by simp; omega
        have hcell := hcell hkn
        have HS : Hid _ := Wm.or_step f x k hlt HX.out hb1 hb2
        by_cases h128 : 128 ≤ x
        · go_wp2
          go_round
          case rel => exact ⟨k + 1, by omega, by omega, by go_num, by rw [HS.out], hnum.out.trans (Wm.num_more f n k hlt hkn (by rw [HX.out]; exact h128))⟩
          case measure => simp [intOf]; omega
        · by_cases h0 : (x == 0) = true
          · have h0' : Hid (x = 0) := (by simpa using h0 : x = 0)
            by_cases hk0 : 0 < k
            · go_wp2
              go_ret3
              exact ⟨ret3p (hnum.out.trans (Wm.num_form f n k hlt hkn (HX.out.trans h0'.out) hk0)), rfl⟩
            · go_wp2
              go_ret3
              exact ⟨(ret3 HS.out rfl rfl).trans (ret3p (hnum.out.trans (Wm.num_last f n k hlt hkn (by rw [HX.out]; omega) (by omega)))), rfl⟩
          · have h0 : (x == 0) = false := by simpa using h0
            have h0' : Hid (x ≠ 0) := (by simpa using h0 : x ≠ 0)
            go_wp2
            go_ret3
            exact ⟨(ret3 HS.out rfl rfl).trans (ret3p (hnum.out.trans (Wm.num_last f n k hlt hkn (by rw [HX.out]; omega) (fun h => h0'.out (HX.out.symm.trans h.1))))), rfl⟩
      · have hne : ((k : Int) == (n : Int)) = true := by simp; omega
        go_wp2
        go_ret3
        exact ⟨ret3p (hnum.out.trans (Wm.num_short f n k hlt (by omega))), rfl⟩
    · go_wp2
      go_ret3
      exact ⟨ret3p (hnum.out.trans (Wm.numAt_end f n k (by omega))), rfl⟩

end Go.Proofs.YtnaobkpncfbnaaaGreatDoor
