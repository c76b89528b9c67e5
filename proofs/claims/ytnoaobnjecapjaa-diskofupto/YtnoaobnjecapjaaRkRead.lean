/-
  Contract of the document's Read over Rk.
-/
import Derived.Test.YtnoaobnjecapjaaRkCrash
namespace Go.Proofs.Ytnoaobnjecapjaa
open Go.RowKit
set_option linter.unusedVariables false

theorem lastAt_from {tf : Nat → Nat} {i t : Nat} : ∀ {m : Nat}, t < m → tf t = i → (∀ j, t < j → j < m → tf j ≠ i) → lastAt tf m i = (t : Int) + 1
  | 0, h, _, _ => by omega
  | m + 1, h, h1, h2 => by
    rw [lastAt]
    by_cases e : t = m
    · subst e
      rw [if_pos h1]; omega
    · rw [if_neg (h2 m (by omega) (by omega))]
      exact lastAt_from (by omega) h1 (fun j a b => h2 j a (by omega))
/-- What Read looks at. -/
theorem RkAt.looks {w : World} {X gB cB : Nat} {aP : Option Addr} {cP : Nat} {rb rc pb pc : Nat → Nat} {F : Nat → Prop} {n : Nat} {dur : Nat → Int} {m : Nat} {tf : Nat → Nat} {ld : Nat → Int} (h : RkAt w X gB cB (.slice aP m cP) rb rc pb pc F n dur m tf ld) :
    w.cell? ⟨X, 0, none⟩ = some (.slice (some ⟨gB, 0, none⟩) n cB) ∧ w.cell? ⟨X, 1, none⟩ = some (.slice aP m cP) ∧ (∀ i, i < n → w.cell? ⟨gB, i, none⟩ = some (.slice (some ⟨rb i, 0, none⟩) 128 (rc i)) ∧ From w (some ⟨rb i, 0, none⟩) 128 (sh dur (i * 128))) ∧
    ∀ j, j < m → ∃ gP, aP = some ⟨gP, 0, none⟩ ∧ w.cell? ⟨gP, j * 2, none⟩ = some (.int .i64 (tf j : Int)) ∧ w.cell? ⟨gP, j * 2 + 1, none⟩ = some (.slice (some ⟨pb j, 0, none⟩) 128 (pc j)) ∧ From w (some ⟨pb j, 0, none⟩) 128 (sh ld (j * 128)) := by
  obtain ⟨a1, a2, _, _, a5⟩ := (RkK.start (fun _ => true) h).sees
  refine ⟨a1, a2, fun i hi => ⟨h.rows.cell i hi, h.rows.from_ i hi⟩, fun j hj => ?_⟩
  obtain ⟨gP, e, p1, p2, p3, _⟩ := a5 j hj
  exact ⟨gP, e, p1, p2, p3⟩

set_option maxRecDepth 100000 in
set_option maxHeartbeats 2000000 in
theorem rkRead (X i n m : Nat) (F : Nat → Prop) (dur : Nat → Int) (tf : Nat → Nat) (ld : Nat → Int) (w : World) (h : Rk w X F n dur m tf ld) (hi : i < n) (hm : m ≤ 549755813887) :
    Calls Try.prog 18 #[.pointer (some ⟨X, 0, none⟩), .int .i64 (i : Int)] w fun e w' => ∃ v', e = .returned (.tuple #[v', .int .i64 0]) ∧ Own w' w.heap.size v' (lst (seen dur m tf ld i) 128) ∧ Below w.heap.size w w' := by
  obtain ⟨gB, cB, vP, rb, rc, pb, pc, h⟩ := h
  obtain ⟨aP, cP, rfl⟩ : ∃ aP cP, vP = .slice aP m cP := by
    rcases h.oP.2 with ⟨rfl, h0⟩ | ⟨g, cap, cur, rfl, _⟩
    · rw [h0]; exact ⟨none, 0, rfl⟩
    · exact ⟨_, cap, rfl⟩
  have HL : Hid (∀ wq, Below w.heap.size w wq → RkAt wq X gB cB (.slice aP m cP) rb rc pb pc F n dur m tf ld) := fun wq hq => h.part (Part.ofBelow (F := fun _ => False) hq) (fun _ _ h => h)
  obtain ⟨k0, k1, k2, _⟩ := h.looks
  have hn2 := h.n2
  clear h
  have g1 : ¬ (i : Int) < 0 := by omega
  have g2 : ¬ (n : Int) ≤ (i : Int) := by omega
  obtain ⟨q1, q2⟩ := k2 i hi
  have HFq : Hid (From w (some ⟨rb i, 0, none⟩) 128 (sh dur (i * 128))) := q2
  clear k2 q2
  have hi0 : (0 : Int) ≤ (i : Int) := by omega
  have hin : (i : Int) < (n : Int) := by omega
  go_enter Try.func18, Try.ntmps18
  go_wp2
  go_loopw [6] (fun u wr => ∃ z : Int, u = .int .i64 z ∧ -1 ≤ z ∧ z < m ∧ wr = w ∧ Hid (∀ j : Nat, z < j → j < m → tf j ≠ i)) (fun u _ => (intOf u + 1).toNat)
  case atStart => exact ⟨(m : Int) - 1, rfl, by omega, by omega, rfl, fun j h1 h2 => by omega⟩
  case round =>
    obtain ⟨z, rfl, hz1, hz2, rfl, hno⟩ := hrel
    by_cases hz : z = -1
    · subst hz
      have HS : Hid (seen dur m tf ld i = sh dur (i * 128)) := if_pos (lastAt_none (fun j hj => hno.out j (by omega) hj))
      clear hno
      go_wp2_with fail
      refine (copiedR (some ⟨rb i, 0, none⟩) 128 (rc i) (sh dur (i * 128)) wr (by omega) HFq.out (fun h => by cases h)).mono ?_
      rintro e w1 ⟨v, rfl, ho, hb⟩
      go_wp2
      go_ret2
      exact ⟨v, rfl, by rw [HS.out]; exact ho, hb⟩
    · obtain ⟨t, ht⟩ := Int.eq_ofNat_of_zero_le (show 0 ≤ z by omega)
      subst ht
      have htm : t < m := by omega
      have ht0 : (0 : Int) ≤ (t : Int) := by omega
      obtain ⟨_, _, _, hall⟩ := (HL.out wr (Below.refl _ _)).looks
      obtain ⟨gP, rfl, p1, p2, p3⟩ := hall t htm
      have HP3 : Hid (From wr (some ⟨pb t, 0, none⟩) 128 (sh ld (t * 128))) := p3
      clear hall p3
      by_cases e : tf t = i
      · have ei : (tf t : Int) = (i : Int) := by omega
        have HS : Hid (seen dur m tf ld i = sh ld (t * 128)) := by
          have h9 := lastAt_from htm e (fun j h1 h2 => hno.out j (by omega) h2)
          refine (if_neg (by omega)).trans ?_
          rw [h9, show (t : Int) + 1 - 1 = (t : Int) by omega, Int.toNat_natCast]
        rw [ei] at p1
        clear hno e ei
        go_wp2_with fail
        refine (copiedR (some ⟨pb t, 0, none⟩) 128 (pc t) (sh ld (t * 128)) wr (by omega) HP3.out (fun h => by cases h)).mono ?_
        rintro e w1 ⟨v, rfl, ho, hb⟩
        go_wp2
        go_ret2
        exact ⟨v, rfl, by rw [HS.out]; exact ho, hb⟩
      · have HN : Hid (∀ j : Nat, (t : Int) - 1 < j → j < m → tf j ≠ i) := fun j h1 h2 => by
          by_cases e2 : j = t
          · subst e2; exact e
          · exact hno.out j (by omega) h2
        have ei : ¬ (tf t : Int) = (i : Int) := by omega
        clear hno
        go_wp2
        go_roundw
        case rel => exact ⟨(t : Int) - 1, by go_num, by omega, by omega, trivial, HN⟩
        case measure => simp [intOf]
end Go.Proofs.Ytnoaobnjecapjaa
