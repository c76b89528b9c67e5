/-
  Contracts of page.Encode and of the document's own Encode: a page's sector, or the error. Condition: the table is laid.
-/
import Derived.Test.YtnaobkpncfbnaaaGreatDoorGa
namespace Go.Proofs.YtnaobkpncfbnaaaGreatDoor
open Go.RowKit
set_option linter.unusedVariables false

def hdP : Nat → Int := fn [80, 0, 0, 0]
theorem hdP_by : ∀ i, 0 ≤ hdP i ∧ hdP i ≤ 255 := fn_by (by intro x hx; simp at hx; rcases hx with rfl | rfl <;> decide)
/-- The sector of a page. -/
def pg (s : Nat) (f : Nat → Int) : Nat → Int := sec hdP s 112 f
def EncOk (z : Int) (n : Nat) : Prop := 0 ≤ z ∧ z ≤ 4611686018427387904 ∧ n = 112
instance (z : Int) (n : Nat) : Decidable (EncOk z n) := by unfold EncOk; exact inferInstance
def encE (z : Int) (n : Nat) : Int := if EncOk z n then 0 else 1
def encF (z : Int) (f : Nat → Int) : Nat → Int := if z = 0 ∧ Nil f 112 then fun _ => 0 else pg z.toNat f
def encPL (z : Int) (n : Nat) (f : Nat → Int) : List Int := if EncOk z n then lst (encF z f) 128 else []

set_option maxHeartbeats 400000 in
theorem wEnc_err1 (a0 : Option Addr) (n c : Nat) (z : Int) (w : World) (h : z < 0) :
    Calls Tryz.prog 75 #[.int .i64 z, .slice a0 n c] w fun e w' => e = .returned (.tuple #[.slice none 0 0, .int .i64 1]) ∧ w' = w := by
  go_enter Tryz.func75, Tryz.ntmps75
  go_wp2
  go_ret2
  exact ⟨rfl, rfl⟩
set_option maxHeartbeats 400000 in
theorem wEnc_err2 (a0 : Option Addr) (n c : Nat) (z : Int) (w : World) (h : 4611686018427387904 < z) :
    Calls Tryz.prog 75 #[.int .i64 z, .slice a0 n c] w fun e w' => e = .returned (.tuple #[.slice none 0 0, .int .i64 1]) ∧ w' = w := by
  have h' : ¬ z < 0 := by omega
  go_enter Tryz.func75, Tryz.ntmps75
  go_wp2
  go_ret2
  exact ⟨rfl, rfl⟩
set_option maxHeartbeats 400000 in
theorem wEnc_err3 (a0 : Option Addr) (n c : Nat) (z : Int) (w : World) (h1 : 0 ≤ z) (h2 : z ≤ 4611686018427387904) (hn : n ≠ 112) :
    Calls Tryz.prog 75 #[.int .i64 z, .slice a0 n c] w fun e w' => e = .returned (.tuple #[.slice none 0 0, .int .i64 1]) ∧ w' = w := by
  have h' : ¬ z < 0 := by omega
  have h2' : ¬ 4611686018427387904 < z := by omega
  have h3 : ((n : Int) == 112) = false := by simp; omega
  go_enter Tryz.func75, Tryz.ntmps75
  go_wp2
  go_ret2
  exact ⟨rfl, rfl⟩
set_option maxHeartbeats 400000 in
theorem xEnc_err1 (a0 : Option Addr) (n c : Nat) (z : Int) (w : World) (h : z < 0) :
    Calls Tryz.prog 58 #[.int .i64 z, .slice a0 n c] w fun e w' => e = .returned (.tuple #[.slice none 0 0, .int .i64 1]) ∧ w' = w := by
  go_enter Tryz.func58, Tryz.ntmps58
  go_wp2
  go_ret2
  exact ⟨rfl, rfl⟩
set_option maxHeartbeats 400000 in
theorem xEnc_err2 (a0 : Option Addr) (n c : Nat) (z : Int) (w : World) (h : 4611686018427387904 < z) :
    Calls Tryz.prog 58 #[.int .i64 z, .slice a0 n c] w fun e w' => e = .returned (.tuple #[.slice none 0 0, .int .i64 1]) ∧ w' = w := by
  have h' : ¬ z < 0 := by omega
  go_enter Tryz.func58, Tryz.ntmps58
  go_wp2
  go_ret2
  exact ⟨rfl, rfl⟩
set_option maxHeartbeats 400000 in
theorem xEnc_err3 (a0 : Option Addr) (n c : Nat) (z : Int) (w : World) (h1 : 0 ≤ z) (h2 : z ≤ 4611686018427387904) (hn : n ≠ 112) :
    Calls Tryz.prog 58 #[.int .i64 z, .slice a0 n c] w fun e w' => e = .returned (.tuple #[.slice none 0 0, .int .i64 1]) ∧ w' = w := by
  have h' : ¬ z < 0 := by omega
  have h2' : ¬ 4611686018427387904 < z := by omega
  have h3 : ((n : Int) == 112) = false := by simp; omega
  go_enter Tryz.func58, Tryz.ntmps58
  go_wp2
  go_ret2
  exact ⟨rfl, rfl⟩

set_option maxHeartbeats 400000 in
theorem wEnc_zero (b off c : Nat) (f : Nat → Int) (w : World) (hc : Hid (∀ i, i < 112 → w.cell? ⟨b, off + i, none⟩ = some (.int .u8 (f i)))) (hz : Nil f 112) :
    Calls Tryz.prog 75 #[.int .i64 0, .slice (some ⟨b, off, none⟩) 112 c] w fun e w' => ∃ v', e = .returned (.tuple #[v', .int .i64 0]) ∧ Own w' w.heap.size v' (lst (fun _ => 0) 128) ∧ Below w.heap.size w w' := by
  have HD : Hid (decide (Nil f 112) = true) := decide_eq_true hz
  go_enter Tryz.func75, Tryz.ntmps75
  go_wp2_with fail
  refine (blank_at b off 112 c f w (by omega) hc).mono ?_
  rintro e w1 ⟨rfl, hw⟩
  obtain rfl : w = w1 := hw.symm
  rw [HD.out]
  clear hw
  go_wp2_with (at_make; refine wpList_mk rfl _ _ rfl 128 _ _ rfl rfl rfl rfl (by omega) w.heap.size (Nat.le_refl _) ?_)
  intro w2 ho hb
  go_wp2
  go_ret2
  exact ⟨_, rfl, ho, hb⟩
set_option maxHeartbeats 400000 in
theorem xEnc_zero (b off c : Nat) (f : Nat → Int) (w : World) (hc : Hid (∀ i, i < 112 → w.cell? ⟨b, off + i, none⟩ = some (.int .u8 (f i)))) (hz : Nil f 112) :
    Calls Tryz.prog 58 #[.int .i64 0, .slice (some ⟨b, off, none⟩) 112 c] w fun e w' => ∃ v', e = .returned (.tuple #[v', .int .i64 0]) ∧ Own w' w.heap.size v' (lst (fun _ => 0) 128) ∧ Below w.heap.size w w' := by
  have HD : Hid (decide (Nil f 112) = true) := decide_eq_true hz
  go_enter Tryz.func58, Tryz.ntmps58
  go_wp2_with fail
  refine (noughts_at b off 112 c f w (by omega) hc).mono ?_
  rintro e w1 ⟨rfl, hw⟩
  obtain rfl : w = w1 := hw.symm
  rw [HD.out]
  clear hw
  go_wp2_with (at_make; refine wpList_mk rfl _ _ rfl 128 _ _ rfl rfl rfl rfl (by omega) w.heap.size (Nat.le_refl _) ?_)
  intro w2 ho hb
  go_wp2
  go_ret2
  exact ⟨_, rfl, ho, hb⟩

theorem hx4 : ∀ x ∈ [(80 : Int), 0, 0, 0], 0 ≤ x ∧ x ≤ 255 := by intro x hx; simp at hx; rcases hx with rfl | rfl <;> decide
set_option maxRecDepth 100000 in
set_option maxHeartbeats 1000000 in
theorem wEnc_seal (b off c s : Nat) (f : Nat → Int) (w : World) (hc : Hid (∀ i, i < 112 → w.cell? ⟨b, off + i, none⟩ = some (.int .u8 (f i)))) (hby : ∀ i, 0 ≤ f i ∧ f i ≤ 255) (hs : s ≤ 4611686018427387904) (hs0 : 0 < s ∨ ¬ Nil f 112) (ht : Tab w) :
    Calls Tryz.prog 75 #[.int .i64 (s : Int), .slice (some ⟨b, off, none⟩) 112 c] w fun e w' => ∃ v', e = .returned (.tuple #[v', .int .i64 0]) ∧ Own w' w.heap.size v' (lst (pg s f) 128) ∧ Below w.heap.size w w' := by
  have h1 : ¬ (s : Int) < 0 := by omega
  have h2 : ¬ (4611686018427387904 : Int) < (s : Int) := by omega
  have HF : Hid (From w (some ⟨b, off, none⟩) 112 f) := .inr ⟨_, rfl, fun i hi => by rw [Addr.add_lit]; exact hc.out i hi⟩
  have HB : Hid (∀ i, 0 ≤ f i ∧ f i ≤ 255) := hby
  have HT : Hid (Tab w) := ht
  clear hby ht
  by_cases h0 : 0 < s
  · have h0' : ((s : Int) == 0) = false := by simp; omega
    go_enter Tryz.func75, Tryz.ntmps75
    go_wp2_with fail
    refine (seal_ok 80 0 0 0 (some ⟨b, off, none⟩) 112 c s f w (by omega) (by omega) HF.out HB.out hx4 HT.out).mono ?_
    rintro e w1 ⟨v, rfl, ho, hb⟩
    go_wp2
    go_ret2
    exact ⟨v, rfl, ho, hb⟩
  · have hN : Hid (decide (Nil f 112) = false) := decide_eq_false (hs0.resolve_left h0)
    obtain rfl : s = 0 := by omega
    go_enter Tryz.func75, Tryz.ntmps75
    go_wp2_with fail
    refine (blank_at b off 112 c f w (by omega) hc).mono ?_
    rintro e w1 ⟨rfl, hw⟩
    obtain rfl : w = w1 := hw.symm
    rw [hN.out]
    clear hw
    go_wp2_with fail
    refine (seal_ok 80 0 0 0 (some ⟨b, off, none⟩) 112 c 0 f w (by omega) (by omega) HF.out HB.out hx4 HT.out).mono ?_
    rintro e w1 ⟨v, rfl, ho, hb⟩
    go_wp2
    go_ret2
    exact ⟨v, rfl, ho, hb⟩

theorem wEncode (a0 : Option Addr) (n c : Nat) (z : Int) (f : Nat → Int) (w : World) (hf : From w a0 n f) (hby : ∀ i, 0 ≤ f i ∧ f i ≤ 255) (ht : Tab w) :
    Calls Tryz.prog 75 #[.int .i64 z, .slice a0 n c] w fun e w' => ∃ v', e = .returned (.tuple #[v', .int .i64 (encE z n)]) ∧ Own w' w.heap.size v' (encPL z n f) ∧ Below w.heap.size w w' := by
  unfold encE encPL
  by_cases h : EncOk z n
  · rw [if_pos h, if_pos h]
    obtain ⟨h1, h2, rfl⟩ := h
    obtain ⟨b, off, rfl, hc⟩ := hf.lay.resolve_left (by omega)
    obtain ⟨s, rfl⟩ := Int.eq_ofNat_of_zero_le h1
    unfold encF
    by_cases h3 : (s : Int) = 0 ∧ Nil f 112
    · rw [if_pos h3]
      obtain ⟨h4, h5⟩ := h3
      rw [h4]
      exact wEnc_zero b off c f w hc h5
    · rw [if_neg h3, Int.toNat_natCast]
      refine wEnc_seal b off c s f w hc hby (by omega) ?_ ht
      by_cases h4 : 0 < s
      · exact .inl h4
      · exact .inr fun h5 => h3 ⟨by omega, h5⟩
  · rw [if_neg h, if_neg h]
    have key : Calls Tryz.prog 75 #[.int .i64 z, .slice a0 n c] w fun e w' => e = .returned (.tuple #[.slice none 0 0, .int .i64 1]) ∧ w' = w := by
      by_cases h1 : z < 0
      · exact wEnc_err1 a0 n c z w h1
      · by_cases h2 : 4611686018427387904 < z
        · exact wEnc_err2 a0 n c z w h2
        · exact wEnc_err3 a0 n c z w (by omega) (by omega) (fun h3 => h ⟨by omega, by omega, h3⟩)
    exact key.mono fun e w' ⟨h1, h2⟩ => ⟨_, h1, World.ownsRow_nil _ _ _ _, by rw [h2]; exact Below.refl _ _⟩
end Go.Proofs.YtnaobkpncfbnaaaGreatDoor
