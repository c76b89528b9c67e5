/-
  Contract of the document's own Decode: the page of a sector, or the error.
-/
import Derived.Test.YtnaobkpncfbnaaaGreatDoorPgMath
namespace Go.Proofs.YtnaobkpncfbnaaaGreatDoor
open Go.RowKit
set_option linter.unusedVariables false

set_option maxHeartbeats 400000 in
theorem xDec_len (a0 : Option Addr) (n c : Nat) (w : World) (h : n ≠ 128) :
    Calls Tryz.prog 27 #[.slice a0 n c] w fun e w' => e = .returned (.tuple #[.int .i64 0, .slice none 0 0, .int .i64 5]) ∧ w' = w := by
  have h' : ((n : Int) == 128) = false := by simp; omega
  go_enter Tryz.func27, Tryz.ntmps27
  go_wp2
  go_ret3
  exact ⟨rfl, rfl⟩
set_option maxHeartbeats 1000000 in
theorem xDec_nil (b off c : Nat) (f : Nat → Int) (w : World) (hc : Hid (∀ i, i < 128 → w.cell? ⟨b, off + i, none⟩ = some (.int .u8 (f i)))) (hz : Nil f 128) :
    Calls Tryz.prog 27 #[.slice (some ⟨b, off, none⟩) 128 c] w fun e w' => ∃ v', e = .returned (.tuple #[.int .i64 0, v', .int .i64 0]) ∧ Own w' w.heap.size v' (lst (fun _ => 0) 112) ∧ Below w.heap.size w w' := by
  have HD : Hid (decide (Nil f 128) = true) := decide_eq_true hz
  obtain ⟨MC, hMC⟩ : ∃ MC, madeCells #[.int .u8 0] 112 = MC := ⟨_, rfl⟩
  have hmk : ∀ w : World, (Instr.makeSlice 36 (.int .i64 112) (.int .i64 112)).run Tryz.prog w = .ok (.slice (some ⟨w.heap.size, 0, none⟩) 112 112) (w.alloc (.cells MC 5)) := fun w => by
    rw [← hMC]
    exact run_make_row' (P := Tryz.prog) 36 5 (.int .u8 0) 1 Tryz.underlying36 info5 rfl .i64 .i64 112 (by omega) (by omega) w
  have HO : Hid (∀ w : World, Own (w.alloc (.cells MC 5)) w.heap.size (.slice (some ⟨w.heap.size, 0, none⟩) 112 112) (lst (fun _ => 0) 112)) := fun w => hMC ▸ made_own w 112 (by omega)
  clear hMC
  go_enter Tryz.func27, Tryz.ntmps27
  go_wp2_with fail
  refine (noughts_at b off 128 c f w (by omega) hc).mono ?_
  rintro e w1 ⟨rfl, hw⟩
  obtain rfl : w = w1 := hw.symm
  rw [HD.out]
  clear hw
  go_wp2_with fail
  go_region
  go_wp2
  go_ret3
  exact ⟨_, rfl, HO.out _, ((blw_drewN 1 (Below.refl _ w)).alloc (by simp) _)⟩

/-- The four bytes of the sum, as the text spells them. -/
theorem four_spell (Z : Nat) (hZ : Z < 4294967296) : leAt Z 0 = (Z : Int) % 256 ∧ leAt Z 1 = (Z : Int) / 256 % 256 ∧ leAt Z 2 = (Z : Int) / 65536 % 256 ∧ leAt Z 3 = (Z : Int) / 16777216 := by
  refine ⟨by simp [leAt], by simp [leAt], by simp [leAt], by unfold leAt; simp; omega⟩
theorem sealed_iff {f : Nat → Int} (hby : ∀ i, 0 ≤ f i ∧ f i ≤ 255) : rd (sh f 124) 4 = sumS f ↔ (f 124 = leAt (sumS f) 0 ∧ f 125 = leAt (sumS f) 1 ∧ f 126 = leAt (sumS f) 2 ∧ f 127 = leAt (sumS f) 3) := by
  have hl := sum_lt4 hby
  have e : rd (leAt (sumS f)) 4 = sumS f := by rw [rd_leAt, Nat.mod_eq_of_lt hl]
  constructor
  · intro h
    have := rd_inj (sh_by hby 124) (leAt_by (sumS f)) 4 (h.trans e.symm)
    exact ⟨this 0 (by omega), this 1 (by omega), this 2 (by omega), this 3 (by omega)⟩
  · rintro ⟨h0, h1, h2, h3⟩
    rw [rd_ext (f := sh f 124) (g := leAt (sumS f)) 4 (fun i hi => ?_), e]
    have hk : i = 0 ∨ i = 1 ∨ i = 2 ∨ i = 3 := by omega
    rcases hk with h | h | h | h <;> subst h
    · exact h0
    · exact h1
    · exact h2
    · exact h3

set_option maxRecDepth 100000 in
set_option maxHeartbeats 1000000 in
theorem xDec_sum (b off c : Nat) (f : Nat → Int) (w : World) (hcap : 128 ≤ c) (hby : ∀ i, 0 ≤ f i ∧ f i ≤ 255) (hc : Hid (∀ i, i < 128 → w.cell? ⟨b, off + i, none⟩ = some (.int .u8 (f i)))) (hz : ¬ Nil f 128) (hs : rd (sh f 124) 4 ≠ sumS f) :
    Calls Tryz.prog 27 #[.slice (some ⟨b, off, none⟩) 128 c] w fun e w' => e = .returned (.tuple #[.int .i64 0, .slice none 0 0, .int .i64 13]) ∧ w' = w := by
  have HD : Hid (decide (Nil f 128) = false) := decide_eq_false hz
  have HB : Hid (∀ i, 0 ≤ f i ∧ f i ≤ 255) := hby
  have hl := sum_lt4 hby
  have h4 : (256 : Nat) ^ 4 = 4294967296 := by decide
  rw [h4] at hl
  have hsp := four_spell (sumS f) hl
  have hni : ¬ (f 124 = (sumS f : Int) % 256 ∧ f 125 = (sumS f : Int) / 256 % 256 ∧ f 126 = (sumS f : Int) / 65536 % 256 ∧ f 127 = (sumS f : Int) / 16777216) := by
    rw [← hsp.1, ← hsp.2.1, ← hsp.2.2.1, ← hsp.2.2.2]
    exact fun h => hs ((sealed_iff hby).2 h)
  have HE : Hid (Crc.sum (lstN f 124) = sumS f) := rfl
  have HL : Hid (Lay w (some ⟨b, off, none⟩) 124 f) := .inr ⟨b, off, rfl, fun i hi => hc.out i (by omega)⟩
  have c0 := hc.out 124 (by omega)
  have c1 := hc.out 125 (by omega)
  have c2 := hc.out 126 (by omega)
  have c3 := hc.out 127 (by omega)
  have hc1 : (124 : Int) ≤ (c : Int) := by omega
  clear hz hs hby hsp h4
  generalize sumS f = Z at *
  generalize f 124 = x0 at *
  generalize f 125 = x1 at *
  generalize f 126 = x2 at *
  generalize f 127 = x3 at *
  have HNI : Hid (¬ (x0 = (Z : Int) % 256 ∧ x1 = (Z : Int) / 256 % 256 ∧ x2 = (Z : Int) / 65536 % 256 ∧ x3 = (Z : Int) / 16777216)) := hni
  clear hni
  go_enter Tryz.func27, Tryz.ntmps27
  go_wp2_with fail
  refine (noughts_at b off 128 c f w (by omega) hc).mono ?_
  rintro e w1 ⟨rfl, hw⟩
  obtain rfl : w = w1 := hw.symm
  rw [HD.out]
  clear hw
  go_wp2_with fail
  refine (xSum (some ⟨b, off, none⟩) 124 c f (by omega) HB.out HL.out).mono ?_
  rintro e w1 ⟨rfl, hw⟩
  obtain rfl : w = w1 := hw.symm
  rw [HE.out]
  clear hw
  by_cases e0 : x0 = (Z : Int) % 256
  · subst e0
    by_cases e1 : x1 = (Z : Int) / 256 % 256
    · subst e1
      by_cases e2 : x2 = (Z : Int) / 65536 % 256
      · subst e2
        have e3 : ¬ x3 = (Z : Int) / 16777216 := fun e3 => HNI.out ⟨rfl, rfl, rfl, e3⟩
        go_wp2
        go_ret3
        exact ⟨rfl, rfl⟩
      · go_wp2
        go_ret3
        exact ⟨rfl, rfl⟩
    · go_wp2
      go_ret3
      exact ⟨rfl, rfl⟩
  · go_wp2
    go_ret3
    exact ⟨rfl, rfl⟩
end Go.Proofs.YtnaobkpncfbnaaaGreatDoor
