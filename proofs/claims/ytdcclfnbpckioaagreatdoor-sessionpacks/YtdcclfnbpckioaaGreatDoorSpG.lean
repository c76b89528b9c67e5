/-
  Pack on both sides, whatever the number and the bytes; Count on both sides.
-/
import Derived.Test.YtdcclfnbpckioaaGreatDoorSpF
namespace Go.Proofs.YtdcclfnbpckioaaGreatDoor
open Go.RowKit Go.Shelf
set_option linter.unusedVariables false
set_option maxRecDepth 100000
set_option maxHeartbeats 2000000

/-- What Pack tells: the changes, and the error. -/
def pkL (id : Int) (f : Nat → Int) (n : Nat) : List (List UInt8 × List Int) := if 1 ≤ id ∧ id ≤ 9999 ∧ n ≤ 56000 then pk id.toNat f n (pkN n) else []
def pkE (id : Int) (n : Nat) : Int := if 1 ≤ id ∧ id ≤ 9999 then (if n ≤ 56000 then 0 else 4) else 1
theorem j_packA (id : Int) (ao : Option Addr) (n c : Nat) (f : Nat → Int) (w : World) (hn : n ≤ 140737488355328) (hf : From w ao n f) (hc : n ≤ c) (hg : ∀ x, ao = some x → ∃ k, x = ⟨k, 0, none⟩) (ht : Lib.TabIs Tryz.prog w "internal/strconv.uint64pow10" .u64 Lib.pow10Tab) :
    Calls Tryz.prog 5 #[.int .i64 id, .slice ao n c] w fun e w' => ∃ v zs, e = .returned (.tuple #[v, .int .i64 (pkE id n)]) ∧ Rlc w' w.heap.size v zs ∧ zs.map (fun z => (z.ky, z.xs)) = pkL id f n ∧ Below w.heap.size w w' := by
  have HI := j_is id w
  have HB : Hid (Below w.heap.size w w) := Below.refl _ _
  by_cases h1 : 1 ≤ id ∧ id ≤ 9999
  · by_cases h2 : n ≤ 56000
    · obtain ⟨m, rfl⟩ := Int.eq_ofNat_of_zero_le (show 0 ≤ id by omega)
      refine (j_pack m (by omega) (by omega) ao n c f w h2 hf hc hg ht).mono ?_
      rintro e w' ⟨v, zs, rfl, q1, q2, q3⟩
      refine ⟨v, zs, ?_, q1, ?_, q3⟩
      · rw [pkE, if_pos h1, if_pos h2]
      · rw [pkL, if_pos ⟨h1.1, h1.2, h2⟩, q2]
        rfl
    · have hE : Hid (pkE id n = 4 ∧ pkL id f n = []) := ⟨by rw [pkE, if_pos h1, if_neg h2], by rw [pkL, if_neg (fun h => h2 h.2.2)]⟩
      have hd : (decide (1 ≤ id) && decide (id ≤ 9999)) = true := by simpa using h1
      rw [hd] at HI
      have hn' : decide ((56000 : Int) < (n : Int)) = true := by simp; omega
      clear hf hc hg ht h1 hd
      go_enter Tryz.func5, Tryz.ntmps5
      go_wp2_with (go_at_call 17; refine HI.mono ?_; rintro e w1 ⟨rfl, hz⟩; rw [hz]; clear hz)
      go_ret2
      exact ⟨.slice none 0 0, [], by rw [hE.out.1]; rfl, Rlc.nil _ _, by rw [hE.out.2]; rfl, HB.out⟩
  · have hE : Hid (pkE id n = 1 ∧ pkL id f n = []) := ⟨by rw [pkE, if_neg h1], by rw [pkL, if_neg (fun h => h1 ⟨h.1, h.2.1⟩)]⟩
    have hd : (decide (1 ≤ id) && decide (id ≤ 9999)) = false := by simpa using h1
    rw [hd] at HI
    clear hf hc hg ht h1 hd
    go_enter Tryz.func5, Tryz.ntmps5
    go_wp2_with (go_at_call 17; refine HI.mono ?_; rintro e w1 ⟨rfl, hz⟩; rw [hz]; clear hz)
    go_ret2
    exact ⟨.slice none 0 0, [], by rw [hE.out.1]; rfl, Rlc.nil _ _, by rw [hE.out.2]; rfl, HB.out⟩
theorem z_packA (id : Int) (ao : Option Addr) (n c : Nat) (f : Nat → Int) (w : World) (hn : n ≤ 140737488355328) (hf : From w ao n f) (h0 : ao = none → c = 0) (hc : n ≤ c) :
    Calls Tryz.prog 6 #[.int .i64 id, .slice ao n c] w fun e w' => ∃ v zs, e = .returned (.tuple #[v, .int .i64 (pkE id n)]) ∧ Rlc w' w.heap.size v zs ∧ zs.map (fun z => (z.ky, z.xs)) = pkL id f n ∧ Below w.heap.size w w' := by
  have HI := z_is id w
  have HB : Hid (Below w.heap.size w w) := Below.refl _ _
  by_cases h1 : 1 ≤ id ∧ id ≤ 9999
  · by_cases h2 : n ≤ 56000
    · obtain ⟨m, rfl⟩ := Int.eq_ofNat_of_zero_le (show 0 ≤ id by omega)
      refine (z_pack m (by omega) (by omega) ao n c f w h2 hf h0 hc).mono ?_
      rintro e w' ⟨v, zs, rfl, q1, q2, q3⟩
      refine ⟨v, zs, ?_, q1, ?_, q3⟩
      · rw [pkE, if_pos h1, if_pos h2]
      · rw [pkL, if_pos ⟨h1.1, h1.2, h2⟩, q2]
        rfl
    · have hE : Hid (pkE id n = 4 ∧ pkL id f n = []) := ⟨by rw [pkE, if_pos h1, if_neg h2], by rw [pkL, if_neg (fun h => h2 h.2.2)]⟩
      have hd : (decide (1 ≤ id) && decide (id ≤ 9999)) = true := by simpa using h1
      rw [hd] at HI
      obtain ⟨M, hM⟩ : ∃ M : Nat, max 1 (((n : Int) + 1399) / 1400) = (M : Int) := ⟨((n : Int) + 1399).toNat / 1400, by omega⟩
      have hM3 : decide ((40 : Int) < (M : Int)) = true := by simp; omega
      clear hf hc h1 hd h0 h2
      go_enter Tryz.func6, Tryz.ntmps6
      go_wp2_with (go_at_call 22; refine HI.mono ?_; rintro e w1 ⟨rfl, hz⟩; rw [hz]; clear hz)
      go_ret2
      exact ⟨.slice none 0 0, [], by rw [hE.out.1]; rfl, Rlc.nil _ _, by rw [hE.out.2]; rfl, HB.out⟩
  · have hE : Hid (pkE id n = 1 ∧ pkL id f n = []) := ⟨by rw [pkE, if_neg h1], by rw [pkL, if_neg (fun h => h1 ⟨h.1, h.2.1⟩)]⟩
    have hd : (decide (1 ≤ id) && decide (id ≤ 9999)) = false := by simpa using h1
    rw [hd] at HI
    clear hf hc h0 h1 hd
    go_enter Tryz.func6, Tryz.ntmps6
    go_wp2_with (go_at_call 22; refine HI.mono ?_; rintro e w1 ⟨rfl, hz⟩; rw [hz]; clear hz)
    go_ret2
    exact ⟨.slice none 0 0, [], by rw [hE.out.1]; rfl, Rlc.nil _ _, by rw [hE.out.2]; rfl, HB.out⟩
end Go.Proofs.YtdcclfnbpckioaaGreatDoor
