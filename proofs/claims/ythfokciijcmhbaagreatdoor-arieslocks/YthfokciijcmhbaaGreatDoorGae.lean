/-
  Contracts of a disk's calls that only look, over Dk: Read, Image, Pending.
-/
import Derived.Test.YthfokciijcmhbaaGreatDoorGad
import Derived.Deep.DeepCutAuto
namespace Go.Proofs.YthfokciijcmhbaaGreatDoor
open Go.RowKit
set_option linter.unusedVariables false

/-- The n rows at g are slices of 128 bytes: the i-th those at (b i, o i), f i's. -/
structure Rws (w : World) (g n : Nat) (b o c : Nat → Nat) (f : Nat → Nat → Int) : Prop where
  cell : ∀ i, i < n → w.cell? ⟨g, i, none⟩ = some (.slice (some ⟨b i, o i, none⟩) 128 (c i))
  free : ∀ i, i < n → w.frozen? ⟨g, i, none⟩ = false
  from_ : ∀ i, i < n → From w (some ⟨b i, o i, none⟩) 128 (f i)
theorem Rws.part {w w' : World} {F : Nat → Prop} {g n : Nat} {b o c : Nat → Nat} {f : Nat → Nat → Int} (h : Rws w g n b o c f) (hp : Part F w w') (hg : ¬ F g) (hl : g < w.heap.size) (hb : ∀ i, i < n → ¬ F (b i)) : Rws w' g n b o c f :=
  ⟨fun i hi => hp.cell hg (h.cell i hi), fun i hi => by rw [World.frozen?_of_block (w := w) (hp.block g hl hg)]; exact h.free i hi, fun i hi => hp.from (h.from_ i hi) (hb i hi)⟩

/-- What a read of sector i tells. -/
def seen (dur : Nat → Int) (m : Nat) (tf : Nat → Nat) (ld : Nat → Int) (i : Nat) : Nat → Int := if lastAt tf m i = 0 then sh dur (i * 128) else sh ld ((lastAt tf m i - 1).toNat * 128)
theorem lastAt_bd (tf : Nat → Nat) (i : Nat) : ∀ m, 0 ≤ lastAt tf m i ∧ lastAt tf m i ≤ m
  | 0 => by simp [lastAt]
  | m + 1 => by
    have := lastAt_bd tf i m
    rw [lastAt]
    split <;> omega

set_option maxRecDepth 100000 in
set_option maxHeartbeats 1000000 in
theorem dkRead (D i n m : Nat) (F : Nat → Prop) (dur : Nat → Int) (tf : Nat → Nat) (ld : Nat → Int) (w : World) (h : Dk w D F n dur m tf ld) (hi : i < n) (hm : m ≤ 549755813887) :
    Calls Tryz.prog 136 #[.pointer (some ⟨D, 0, none⟩), .int .i64 (i : Int)] w fun e w' => ∃ v', e = .returned (.tuple #[v', .int .i64 0]) ∧ Own w' w.heap.size v' (lst (seen dur m tf ld i) 128) ∧ Below w.heap.size w w' := by
  obtain ⟨S, Bd, Bl, cD, cL, vT, vL, h⟩ := h
  obtain ⟨d0, s0, s1, s2, s3, _⟩ := heads h.hD h.hS
  have kl := OwnI.cellF h.ol i hi
  have hbd := lastAt_bd tf i m
  have hi' : (i : Int) < (n : Int) := by omega
  have hi2 : (0 : Int) ≤ (i : Int) := by omega
  by_cases h0 : lastAt tf m i = 0
  · have HZ : Hid (From w (some ⟨Bd, i * 128, none⟩) 128 (sh dur (i * 128))) := .inr ⟨_, rfl, fun j hj => by
      rw [Addr.add_lit]
      exact h.ob.cellF (i * 128 + j) (by omega)⟩
    have HS : Hid (seen dur m tf ld i = sh dur (i * 128)) := if_pos h0
    have hC : (i + 1) * 128 ≤ cD ∧ cD ≤ 9223372036854775807 := by
      obtain ⟨a1, a2, _⟩ := h.ob
      omega
    rw [h0] at kl
    clear h
    go_enter Tryz.func136, Tryz.ntmps136
    go_wp2_with fail
    refine (dMissing D S w d0).mono ?_
    rintro e w1 ⟨rfl, hw⟩
    obtain rfl : w = w1 := hw.symm
    clear hw
    go_wp2_with fail
    refine (dHas S n i (some ⟨Bl, 0, none⟩) cL hi w s1).mono ?_
    rintro e w1 ⟨rfl, hw⟩
    obtain rfl : w = w1 := hw.symm
    clear hw
    go_wp2_with fail
    refine (cut_at Bd (n * 128) cD i hC.1 hC.2 w).mono ?_
    rintro e w1 ⟨rfl, hw⟩
    obtain rfl : w = w1 := hw.symm
    clear hw
    go_wp2_with fail
    refine (clone (some ⟨Bd, i * 128, none⟩) 128 128 (sh dur (i * 128)) w (by omega) HZ.out).mono ?_
    rintro e w1 ⟨v, rfl, ho, hb⟩
    go_wp2
    go_ret2
    exact ⟨v, rfl, by rw [HS.out]; exact ho, hb⟩
  · obtain ⟨p, hp⟩ := Int.eq_ofNat_of_zero_le (show 0 ≤ lastAt tf m i - 1 by omega)
    have hpm : p < m := by omega
    have e1 : lastAt tf m i = (p : Int) + 1 := by omega
    obtain ⟨gL, cV, rfl, _, hcV1, hcV2⟩ := row_some h.oo (by rw [lst_length]; omega)
    rw [lst_length] at s3 hcV1
    have ho3 := h.oo
    rw [lst_length] at ho3
    have HZ : Hid (From w (some ⟨gL, p * 128, none⟩) 128 (sh ld (p * 128))) := .inr ⟨_, rfl, fun j hj => by
      rw [Addr.add_lit]
      exact Own.cellF ho3 (p * 128 + j) (by omega)⟩
    have HS : Hid (seen dur m tf ld i = sh ld (p * 128)) := by
      refine (if_neg h0).trans ?_
      rw [hp, Int.toNat_natCast]
    have hC : (p + 1) * 128 ≤ cV ∧ cV ≤ 9223372036854775807 := ⟨by omega, hcV2⟩
    rw [e1] at kl
    have q1 : (0 : Int) < (p : Int) + 1 := by omega
    have q2 : p ≤ 549755813887 := by omega
    clear h ho3 h0 hp hbd e1
    go_enter Tryz.func136, Tryz.ntmps136
    go_wp2_with fail
    refine (dMissing D S w d0).mono ?_
    rintro e w1 ⟨rfl, hw⟩
    obtain rfl : w = w1 := hw.symm
    clear hw
    go_wp2_with fail
    refine (dHas S n i (some ⟨Bl, 0, none⟩) cL hi w s1).mono ?_
    rintro e w1 ⟨rfl, hw⟩
    obtain rfl : w = w1 := hw.symm
    clear hw
    go_wp2_with fail
    refine (cut_at gL (m * 128) cV p hC.1 hC.2 w).mono ?_
    rintro e w1 ⟨rfl, hw⟩
    obtain rfl : w = w1 := hw.symm
    clear hw
    go_wp2_with fail
    refine (clone (some ⟨gL, p * 128, none⟩) 128 128 (sh ld (p * 128)) w (by omega) HZ.out).mono ?_
    rintro e w1 ⟨v, rfl, ho, hb⟩
    go_wp2
    go_ret2
    exact ⟨v, rfl, by rw [HS.out]; exact ho, hb⟩

theorem infoB : (Tryz.prog.info? 47).map (fun i => (i.zero, i.size, i.bytes)) = some (some (.slice none 0 0), 1, 24) := by kernel_rfl

end Go.Proofs.YthfokciijcmhbaaGreatDoor
