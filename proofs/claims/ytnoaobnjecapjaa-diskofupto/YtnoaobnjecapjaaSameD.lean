/-
  Contract of SameDisks: a disk beside the document's that has the same.
-/
import Derived.Test.YtnoaobnjecapjaaSameS
import Derived.Test.YtnoaobnjecapjaaDkSame
import Derived.Deep.RegionHeld
namespace Go.Proofs.Ytnoaobnjecapjaa
open Go.RowKit
set_option linter.unusedVariables false

set_option maxRecDepth 100000 in
set_option maxHeartbeats 4000000 in
theorem sameDisks (D X n m : Nat) (F G : Nat → Prop) (dur : Nat → Int) (tf : Nat → Nat) (ld : Nat → Int) (w : World) (hd : Dk w D F n dur m tf ld) (hx : Rk w X G n dur m tf ld) (hm : m ≤ 549755813887) :
    Calls Try.prog 7 #[.pointer (some ⟨D, 0, none⟩), .pointer (some ⟨X, 0, none⟩)] w fun e w' => e = .returned (.bool true) ∧ Below w.heap.size w w' := by
  have HD : Hid (∀ wq, Below w.heap.size w wq → Dk wq D F n dur m tf ld) := fun wq hq => hd.below hq
  have HX : Hid (∀ wq, Below w.heap.size w wq → Rk wq X G n dur m tf ld) := fun wq hq => hx.below hq
  obtain ⟨gB, cB, vP, rb, rc, pb, pc, hx⟩ := hx
  obtain ⟨aP, cP, rfl⟩ : ∃ aP cP, vP = .slice aP m cP := by
    rcases hx.oP.2 with ⟨rfl, h0⟩ | ⟨g, cap, cur, rfl, _⟩
    · rw [h0]; exact ⟨none, 0, rfl⟩
    · exact ⟨_, cap, rfl⟩
  have HS : Hid (∀ wq, Below w.heap.size w wq → (wq.cell? ⟨X, 0, none⟩ = some (.slice (some ⟨gB, 0, none⟩) n cB) ∧ wq.cell? ⟨X, 1, none⟩ = some (.slice aP m cP)) ∧ SntP wq aP m tf pb pc ld) := fun wq hq => by
    have h9 := (hx.part (Part.ofBelow (F := fun _ => False) hq) (fun _ _ h => h)).looks
    exact ⟨⟨h9.1, h9.2.1⟩, h9.2.2.2⟩
  have hn2 := hx.n2
  clear hx
  have hb0 : Below w.heap.size w w.drew := ⟨rfl, rfl, rfl, Nat.le_refl _, fun _ _ => rfl⟩
  have HC1 : Hid (∀ wq, Below w.heap.size w wq → Calls Try.prog 26 #[.pointer (some ⟨D, 0, none⟩)] wq fun e w' => e = .returned (.int .i64 (n : Int)) ∧ w' = wq) := fun wq hq => by
    obtain ⟨S, Bd, Bl, cD, cL, vT, vL, h9⟩ := HD.out wq hq
    obtain ⟨d0, s0, s1, s2, s3, _⟩ := heads h9.hD h9.hS
    exact dSectors D S n cL _ wq d0 s1
  have HC2 : Hid (∀ wq, Below w.heap.size w wq → Calls Try.prog 28 #[.pointer (some ⟨D, 0, none⟩)] wq fun e w' => ∃ g b, e = .returned (.slice (some ⟨g, 0, none⟩) n n) ∧ Hid (Rws w' g n (fun _ => b) (fun i => i * 128) (fun _ => 128) (fun i => sh dur (i * 128)) ∧ g < w'.heap.size) ∧ Below w.heap.size w w') := fun wq hq => by
    refine (dkImage D n m _ _ tf ld wq (HD.out wq hq)).mono ?_
    rintro e w' ⟨g, b, rfl, h1, _, h2, _, _, h3⟩
    exact ⟨g, b, rfl, ⟨h1, h2⟩, hq.trans (h3.mono hq.size)⟩
  have HC3 : Hid (∀ wq g b, Below w.heap.size w wq → Hid (Rws wq g n (fun _ => b) (fun i => i * 128) (fun _ => 128) (fun i => sh dur (i * 128)) ∧ g < wq.heap.size) → Calls Try.prog 29 #[.pointer (some ⟨X, 0, none⟩)] wq fun e w' => ∃ g3 c3, e = .returned (.slice (some ⟨g3, 0, none⟩) n c3) ∧ Hid (Calls Try.prog 27 #[.slice (some ⟨g, 0, none⟩) n n, .slice (some ⟨g3, 0, none⟩) n c3] w' fun e w'' => e = .returned (.bool true) ∧ w'' = w') ∧ Below w.heap.size w w') := fun wq g b hq hR => by
    refine (rkImage X n m _ _ tf ld wq (HX.out wq hq)).mono ?_
    rintro e w' ⟨g3, c3, qb, qc, rfl, h1, _, h2, _, h3⟩
    exact ⟨g3, c3, rfl, sameImg g g3 n n c3 _ _ _ _ _ _ _ _ w' (by omega) (hR.out.1.part (Part.ofBelow (F := fun _ => False) h3) (fun h => h) hR.out.2 (fun _ _ h => h)) h1 (fun i hi => rfl), hq.trans (h3.mono hq.size)⟩
  have HC5 : Hid (∀ wq, Below w.heap.size w wq → Calls Try.prog 31 #[.pointer (some ⟨D, 0, none⟩)] wq fun e w' => ∃ g, e = .returned (.slice (some ⟨g, 0, none⟩) m m) ∧ Hid (Calls Try.prog 30 #[.slice (some ⟨g, 0, none⟩) m m, .slice aP m cP] w' fun e w'' => e = .returned (.bool true) ∧ Below w.heap.size w w'') ∧ Below w.heap.size w w') := fun wq hq => by
    refine (dkPending D n m _ _ tf ld wq (HD.out wq hq) hm).mono ?_
    rintro e w' ⟨g, b, rfl, h1, _, _, _, _, h3⟩
    have hb : Below w.heap.size w w' := hq.trans (h3.mono hq.size)
    refine ⟨g, rfl, (sameSents g m b m cP aP tf pb pc ld w' hm h1 (HS.out w' hb).2).mono ?_, hb⟩
    rintro e w'' ⟨rfl, h4⟩
    exact ⟨rfl, hb.trans (h4.mono hb.size)⟩
  clear hd HD HX
  go_enter Try.func7, Try.ntmps7
  go_wp2_with fail
  go_region_held (fun wq => wq.cell? ⟨X, 0, none⟩ = some (.slice (some ⟨gB, 0, none⟩) n cB) ∧ wq.cell? ⟨X, 1, none⟩ = some (.slice aP m cP))
    (first | exact (HS.out _ (by assumption)).1 | go_keep)
    (first
      | (go_at_call 26; refine (HC1.out _ hb0).mono ?_; rintro e' w1 ⟨rfl, hw⟩; subst hw)
      | (go_at_call 28; refine (HC2.out _ hb0).mono ?_; rintro e' w2 ⟨g2, b2, rfl, R2, k2⟩)
      | (go_at_call 29; refine (HC3.out _ g2 b2 k2 R2).mono ?_; rintro e' w3 ⟨g3, c3, rfl, R3, k3⟩)
      | (go_at_call 27; refine R3.out.mono ?_; rintro e' w4 ⟨rfl, hw⟩; obtain rfl : w3 = w4 := hw.symm; clear hw)
      | (go_at_call 31; refine (HC5.out _ k3).mono ?_; rintro e' w5 ⟨g5, rfl, R5, k5⟩)
      | (go_at_call 30; refine R5.out.mono ?_; rintro e' w6 ⟨rfl, k6⟩))
  all_goals
    go_wp2
    go_ret
    exact ⟨rfl, k6⟩
end Go.Proofs.Ytnoaobnjecapjaa
