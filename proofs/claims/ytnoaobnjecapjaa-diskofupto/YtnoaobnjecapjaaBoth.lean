/-
  A disk and the document's side by side (Both); the contract of Fresh.
-/
import Derived.Test.YtnoaobnjecapjaaRkNew
import Derived.Test.YtnoaobnjecapjaaDkOps
namespace Go.Proofs.Ytnoaobnjecapjaa
open Go.RowKit
set_option linter.unusedVariables false

/-- A disk and the document's that have the same, of blocks from base on, none in common. -/
def Both (w : World) (D X base n : Nat) (dur : Nat → Int) (m : Nat) (tf : Nat → Nat) (ld : Nat → Int) : Prop :=
  ∃ F G : Nat → Prop, Dk w D F n dur m tf ld ∧ Rk w X G n dur m tf ld ∧ (∀ k, F k → ¬ G k) ∧ (∀ k, F k → base ≤ k) ∧ (∀ k, G k → base ≤ k)
theorem Both.below {w w' : World} {D X base n : Nat} {dur : Nat → Int} {m : Nat} {tf : Nat → Nat} {ld : Nat → Int} (h : Both w D X base n dur m tf ld) (hb : Below w.heap.size w w') : Both w' D X base n dur m tf ld := by
  obtain ⟨F, G, h1, h2, h3⟩ := h
  exact ⟨F, G, h1.below hb, h2.below hb, h3⟩

set_option maxRecDepth 100000 in
set_option maxHeartbeats 1000000 in
theorem dkNew_no (z : Int) (hz : z < 1 ∨ 4096 < z) (w : World) :
    Calls Try.prog 11 #[.int .i64 z] w fun e w' => e = .returned (.tuple #[.pointer none, .int .i64 1]) ∧ Below w.heap.size w w' := by
  by_cases h0 : z < 1
  · have h1 : ¬ 1 ≤ z := by omega
    clear hz
    go_enter Try.func11, Try.ntmps11
    go_wp2
    go_ret2
    exact ⟨rfl, Below.refl _ _⟩
  · have h1 : 1 ≤ z := by omega
    have h2 : ¬ z ≤ 4096 := by omega
    clear hz
    go_enter Try.func11, Try.ntmps11
    go_wp2
    go_ret2
    exact ⟨rfl, Below.refl _ _⟩
set_option maxRecDepth 100000 in
set_option maxHeartbeats 1000000 in
theorem rkNew_no (z : Int) (hz : z < 1 ∨ 4096 < z) (w : World) :
    Calls Try.prog 12 #[.int .i64 z] w fun e w' => e = .returned (.tuple #[.pointer none, .int .i64 1]) ∧ Below w.heap.size w w' := by
  by_cases h0 : z < 1
  · clear hz
    go_enter Try.func12, Try.ntmps12
    go_wp2
    go_ret2
    exact ⟨rfl, Below.refl _ _⟩
  · have h2 : 4096 < z := by omega
    clear hz
    go_enter Try.func12, Try.ntmps12
    go_wp2
    go_ret2
    exact ⟨rfl, Below.refl _ _⟩
set_option maxRecDepth 100000 in
set_option maxHeartbeats 1000000 in
theorem fresh_ok (n : Nat) (h1 : 1 ≤ n) (h2 : n ≤ 4096) (w : World) :
    Calls Try.prog 5 #[.int .i64 (n : Int)] w fun e w' => ∃ D X, e = .returned (.tuple #[.pointer (some ⟨D, 0, none⟩), .pointer (some ⟨X, 0, none⟩), .bool true]) ∧ Both w' D X w.heap.size n (fun _ => 0) 0 (fun _ => 0) (fun _ => 0) ∧ Below w.heap.size w w' := by
  go_enter Try.func5, Try.ntmps5
  go_wp2_with fail
  refine (dkNew n h1 h2 w).mono ?_
  rintro e w1 ⟨D, rfl, hd, hb1⟩
  have HD : Hid (Dk w1 D (fun k => w.heap.size ≤ k ∧ k < w1.heap.size) n (fun _ => 0) 0 (fun _ => 0) (fun _ => 0)) := hd
  clear hd
  go_wp2_with fail
  refine (rkNew n h1 h2 w1).mono ?_
  rintro e w2 ⟨X, rfl, hx, hb2⟩
  have HBo : Hid (Both w2 D X w.heap.size n (fun _ => 0) 0 (fun _ => 0) (fun _ => 0) ∧ Below w.heap.size w w2) := by
    have s1 := hb1.size
    exact ⟨⟨_, _, HD.out.below hb2, hx, fun k a b => by omega, fun k a => a.1, fun k a => by omega⟩, hb1.trans (hb2.mono s1)⟩
  clear hx HD hb1 hb2
  go_wp2
  go_ret3
  exact ⟨D, X, rfl, HBo.out⟩
set_option maxRecDepth 100000 in
set_option maxHeartbeats 1000000 in
theorem fresh_no (z : Int) (hz : z < 1 ∨ 4096 < z) (w : World) :
    Calls Try.prog 5 #[.int .i64 z] w fun e w' => e = .returned (.tuple #[.pointer none, .pointer none, .bool true]) ∧ Below w.heap.size w w' := by
  go_enter Try.func5, Try.ntmps5
  go_wp2_with fail
  refine (dkNew_no z hz w).mono ?_
  rintro e w1 ⟨rfl, hb1⟩
  go_wp2_with fail
  refine (rkNew_no z hz w1).mono ?_
  rintro e w2 ⟨rfl, hb2⟩
  have hb : Below w.heap.size w w2 := hb1.trans (hb2.mono hb1.size)
  clear hb1 hb2
  go_wp2
  go_ret3
  exact ⟨rfl, hb⟩
end Go.Proofs.Ytnoaobnjecapjaa
