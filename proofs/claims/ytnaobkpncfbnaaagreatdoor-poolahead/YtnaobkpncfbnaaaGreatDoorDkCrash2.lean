/-
  Contracts of a disk's chosen, Flush and Crash over Dk.
-/
import Derived.Test.YtnaobkpncfbnaaaGreatDoorDkCrash
namespace Go.Proofs.YtnaobkpncfbnaaaGreatDoor
open Go.RowKit
set_option linter.unusedVariables false

/-- The slice's n numbers are f's. -/
def FromI (w : World) (a0 : Option Addr) (n : Nat) (f : Nat → Int) : Prop := ∀ i, i < n → ∃ b off, a0 = some ⟨b, off, none⟩ ∧ w.cell? ⟨b, off + i, none⟩ = some (.int .i64 (f i))
/-- The first k numbers name places of m, none twice. -/
def Good (kf : Nat → Int) (m k : Nat) : Prop := ∀ j, j < k → 0 ≤ kf j ∧ kf j < m ∧ ∀ i, i < j → kf i ≠ kf j
/-- Whether one of the first k numbers is p. -/
def named (kf : Nat → Int) : Nat → Nat → Bool
  | 0, _ => false
  | k + 1, p => if (p : Int) = kf k then true else named kf k p
theorem named_iff {kf : Nat → Int} {p : Nat} : ∀ {k : Nat}, named kf k p = true ↔ ∃ j, j < k ∧ kf j = p
  | 0 => by simp [named]
  | k + 1 => by
    rw [named]
    by_cases e : (p : Int) = kf k
    · rw [if_pos e]
      exact ⟨fun _ => ⟨k, by omega, e.symm⟩, fun _ => rfl⟩
    · rw [if_neg e, named_iff]
      constructor
      · rintro ⟨j, h1, h2⟩; exact ⟨j, by omega, h2⟩
      · rintro ⟨j, h1, h2⟩
        refine ⟨j, ?_, h2⟩
        by_cases e2 : j = k
        · subst e2; exact absurd h2.symm e
        · omega

theorem info4 : (Tryz.prog.info? 4).map (fun i => (i.zero, i.size, i.bytes)) = some (some (.bool false), 1, 1) := by kernel_rfl
/-- The m truth values at g. -/
def Bls (w : World) (g m : Nat) (st : Nat → Bool) : Prop := ∀ p, p < m → w.cell? ⟨g, p, none⟩ = some (.bool (st p)) ∧ w.frozen? ⟨g, p, none⟩ = false

theorem setl_by {dur : Nat → Int} {tf : Nat → Nat} {ld : Nat → Int} {st : Nat → Bool} (h1 : ∀ i, 0 ≤ dur i ∧ dur i ≤ 255) (h2 : ∀ i, 0 ≤ ld i ∧ ld i ≤ 255) : ∀ (k i : Nat), 0 ≤ setl dur tf ld st k i ∧ setl dur tf ld st k i ≤ 255
  | 0, i => h1 i
  | k + 1, i => by
    rw [setl]
    split
    · exact ov_byC (setl_by h1 h2 k) (sh_by h2 _) i
    · exact setl_by h1 h2 k i

set_option maxRecDepth 100000 in
set_option maxHeartbeats 1000000 in
theorem dkFlush (D n m : Nat) (F : Nat → Prop) (dur : Nat → Int) (tf : Nat → Nat) (ld : Nat → Int) (w : World) (h : Dk w D F n dur m tf ld) (hm : m ≤ 549755813887) :
    Calls Tryz.prog 52 #[.pointer (some ⟨D, 0, none⟩)] w fun e w' => e = .returned (.int .i64 0) ∧ Dk w' D F n (setl dur tf ld (fun _ => true) m) 0 tf ld ∧ Part F w w' := by
  obtain ⟨S, Bd, Bl, cD, cL, vT, vL, h⟩ := h
  obtain ⟨d0, s0, s1, s2, s3, _⟩ := heads h.hD h.hS
  obtain ⟨aT, cT, rfl⟩ := ownI_any h.ot
  have H : Hid (DkAt w D S Bd Bl cD cL (.slice aT m cT) vL F n dur m tf ld) := h
  have HE : Hid (∀ wr wf : World, Part (fun k => k = Bd) w wr → Part (fun k => k = S ∨ k = Bl) wr wf → Part F w wf) := fun wr wf q1 q2 =>
    (q1.mono (fun i _ e => by rw [e]; exact H.out.FBd)).trans q2 (fun i _ e => e.elim (fun e => by rw [e]; exact H.out.FS) (fun e => by rw [e]; exact H.out.FBl))
  have H1 : Hid (DkAt w D S Bd Bl cD cL (.slice aT m cT) vL F n (setl dur tf ld (fun _ => true) 0) m tf ld) := h
  clear h s0 s1 s3
  go_enter Tryz.func52, Tryz.ntmps52
  go_wp2_with fail
  refine (dMissing D S w d0).mono ?_
  rintro e w1 ⟨rfl, hw⟩
  obtain rfl : w = w1 := hw.symm
  clear hw
  go_wp2
  go_loopw [15] (fun i wr => ∃ k : Nat, k ≤ m ∧ i = .int .i64 (k : Int) ∧ DkAt wr D S Bd Bl cD cL (.slice aT m cT) vL F n (setl dur tf ld (fun _ => true) k) m tf ld ∧ Part (fun k => k = Bd) w wr) (fun i _ => m - (intOf i).toNat)
  case atStart => exact ⟨0, Nat.zero_le _, rfl, H1.out, Part.refl _ _⟩
  case round =>
    obtain ⟨k, hkm, rfl, hd, hp⟩ := hrel
    obtain ⟨e0, f0, f1, f2, f3, _⟩ := heads hd.hD hd.hS
    by_cases hlt : k < m
    · have hlt' : (k : Int) < (m : Int) := by omega
      have hk0 : (0 : Int) ≤ (k : Int) := by omega
      have HD : Hid (DkAt wr D S Bd Bl cD cL (.slice aT m cT) vL F n (setl dur tf ld (fun _ => true) k) m tf ld) := hd
      clear hd f0 f1 f2 f3
      go_wp2_with fail
      refine (dkSettle k wr HD.out hlt hm).mono ?_
      rintro e w2 ⟨rfl, z1, z2⟩
      have HZ : Hid (DkAt w2 D S Bd Bl cD cL (.slice aT m cT) vL F n (setl dur tf ld (fun _ => true) (k + 1)) m tf ld) := z1
      have hp2 := hp.trans z2 (fun _ _ e => e)
      clear z1 z2
      go_wp2
      go_roundw
      case rel => exact ⟨k + 1, by omega, by go_num, HZ.out, hp2⟩
      case measure => simp [intOf]; omega
    · obtain rfl : k = m := by omega
      have HD : Hid (DkAt wr D S Bd Bl cD cL (.slice aT k cT) vL F n (setl dur tf ld (fun _ => true) k) k tf ld) := hd
      clear hd f0 f1 f2 f3
      go_wp2_with fail
      refine (dkForget wr HD.out hm).mono ?_
      rintro e w2 ⟨rfl, z1, z2⟩
      have HZ : Hid (DkAt w2 D S Bd Bl cD cL (.slice none 0 0) (.slice none 0 0) F n (setl dur tf ld (fun _ => true) k) 0 tf ld) := z1
      have hp2 := HE.out wr w2 hp z2
      clear z1 z2
      go_wp2
      go_ret
      exact ⟨rfl, ⟨S, Bd, Bl, cD, cL, _, _, HZ.out⟩, hp2⟩
end Go.Proofs.YtnaobkpncfbnaaaGreatDoor
