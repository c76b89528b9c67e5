/-
  Contract of SameSent: two lists of writes that are the same.
  Contracts of slices.EqualFunc over rows of bytes, and of SameImage, where the rows are the same.
  Contract of SameDisks: a disk beside the document's that has the same.
-/
import Derived.Test.YtmjoklppibfdmaaDoorGj
import Derived.Test.YtmjoklppibfdmaaDoorDkSees
import Derived.Deep.RegionHeld
namespace Go.Proofs.YtmjoklppibfdmaaDoor
open Go.RowKit
set_option linter.unusedVariables false

set_option maxRecDepth 100000 in
set_option maxHeartbeats 1000000 in
theorem sentEq (i b1 o1 c1 b2 o2 c2 : Nat) (f : Nat → Int) (w : World) (h1 : From w (some ⟨b1, o1, none⟩) 128 f) (h2 : From w (some ⟨b2, o2, none⟩) 128 f) :
    Calls Tryd.prog 93 #[.agg #[.int .i64 (i : Int), .slice (some ⟨b1, o1, none⟩) 128 c1], .agg #[.int .i64 (i : Int), .slice (some ⟨b2, o2, none⟩) 128 c2]] w fun e w' => e = .returned (.bool true) ∧ Below w.heap.size w w' := by
  have H1 : Hid (∀ wq, Below w.heap.size w wq → From wq (some ⟨b1, o1, none⟩) 128 f ∧ From wq (some ⟨b2, o2, none⟩) 128 f) := fun wq hq => ⟨h1.below hq (Nat.le_refl _), h2.below hq (Nat.le_refl _)⟩
  have HB : Hid (∀ p q : Obj, Below w.heap.size w ((w.alloc p).alloc q)) := fun p q => ((Below.refl _ w).alloc (Nat.le_refl _) p).alloc (by simp) q
  clear h1 h2
  go_enter Tryd.func93, Tryd.ntmps93
  go_wp2_with fail
  refine (equal_yes (some ⟨b1, o1, none⟩) (some ⟨b2, o2, none⟩) 128 c1 128 c2 f f _ (H1.out _ (HB.out _ _)).1 (H1.out _ (HB.out _ _)).2 (show Hid (lst f 128 = lst f 128) from rfl)).mono ?_
  rintro e w2 ⟨rfl, hw⟩
  subst hw
  go_wp2
  go_ret
  exact ⟨rfl, HB.out _ _⟩

/-- The writes of a list of the document's. -/
def SntP (w : World) (aP : Option Addr) (m : Nat) (tf pb pc : Nat → Nat) (ld : Nat → Int) : Prop := ∀ j, j < m → ∃ gP, aP = some ⟨gP, 0, none⟩ ∧ w.cell? ⟨gP, j * 2, none⟩ = some (.int .i64 (tf j : Int)) ∧ w.cell? ⟨gP, j * 2 + 1, none⟩ = some (.slice (some ⟨pb j, 0, none⟩) 128 (pc j)) ∧ From w (some ⟨pb j, 0, none⟩) 128 (sh ld (j * 128))

set_option maxRecDepth 100000 in
set_option maxHeartbeats 1000000 in
theorem equalSents (gA m b cA cP : Nat) (aP : Option Addr) (tf pb pc : Nat → Nat) (ld : Nat → Int) (w : World) (hm : m ≤ 549755813887) (h1 : Snts w gA m b tf ld) (h2 : SntP w aP m tf pb pc ld) :
    Calls Tryd.prog 92 #[.slice (some ⟨gA, 0, none⟩) m cA, .slice aP m cP, .func (.func 93) #[] #[]] w fun e w' => e = .returned (.bool true) ∧ Below w.heap.size w w' := by
  have H1 : Hid (∀ wq, Below w.heap.size w wq → ∀ j, j < m → ∃ gP, aP = some ⟨gP, 0, none⟩ ∧ wq.cell? ⟨gA, j * 2, none⟩ = some (.int .i64 (tf j : Int)) ∧ wq.cell? ⟨gA, j * 2 + 1, none⟩ = some (.slice (some ⟨b, j * 128, none⟩) 128 128) ∧ wq.cell? ⟨gP, j * 2, none⟩ = some (.int .i64 (tf j : Int)) ∧ wq.cell? ⟨gP, j * 2 + 1, none⟩ = some (.slice (some ⟨pb j, 0, none⟩) 128 (pc j)) ∧
      From wq (some ⟨b, j * 128, none⟩) 128 (sh ld (j * 128)) ∧ From wq (some ⟨pb j, 0, none⟩) 128 (sh ld (j * 128)) ∧ gP < wq.heap.size) := fun wq hq j hj => by
    obtain ⟨gP, e, q1, q2, q3⟩ := h2 j hj
    have key : ∀ p v, w.cell? p = some v → wq.cell? p = some v := fun p v hp => by
      rw [hq.cell (p := p) (World.block_lt_of_cell? w _ hp)]; exact hp
    exact ⟨gP, e, key _ _ (h1.sec j hj), key _ _ (h1.row j hj), key _ _ q1, key _ _ q2, (h1.from_ j hj).below hq (Nat.le_refl _), q3.below hq (Nat.le_refl _), World.block_lt_of_cell? wq _ (key _ _ q1)⟩
  clear h1 h2
  go_enter Tryd.func92, Tryd.ntmps92
  go_wp2
  go_loopw [17] (fun i wr => ∃ k : Nat, k ≤ m ∧ i = .int .i64 (k : Int) ∧ Below w.heap.size w wr) (fun i _ => m - (intOf i).toNat)
  case atStart => exact ⟨0, Nat.zero_le _, rfl, Below.refl _ _⟩
  case round =>
    obtain ⟨k, hk, rfl, hb⟩ := hrel
    have hs := hb.size
    by_cases hlt : k < m
    · have hlt' : (k : Int) < (m : Int) := by omega
      have hk0 : (0 : Int) ≤ (k : Int) := by omega
      obtain ⟨gP, rfl, p1, p2, p3, p4, p5, p6, p7⟩ := H1.out wr hb k hlt
      have HB : Hid (∀ p q : Obj, Below wr.heap.size wr ((wr.alloc p).alloc q)) := fun p q => ((Below.refl _ wr).alloc (Nat.le_refl _) p).alloc (by simp) q
      have HF : Hid (∀ wq, Below wr.heap.size wr wq → From wq (some ⟨b, k * 128, none⟩) 128 (sh ld (k * 128)) ∧ From wq (some ⟨pb k, 0, none⟩) 128 (sh ld (k * 128))) := fun wq hq => ⟨p5.below hq (Nat.le_refl _), p6.below hq (Nat.le_refl _)⟩
      have al3 : ∀ o, (wr.alloc o).cell? ⟨gP, k * 2, none⟩ = some (.int .i64 (tf k : Int)) := fun o => (World.cell?_alloc_past (w := wr) o gP (k * 2) p7).trans p3
      have al4 : ∀ o, (wr.alloc o).cell? ⟨gP, k * 2 + 1, none⟩ = some (.slice (some ⟨pb k, 0, none⟩) 128 (pc k)) := fun o => (World.cell?_alloc_past (w := wr) o gP (k * 2 + 1) p7).trans p4
      clear p5 p6
      go_wp2_with fail
      refine (sentEq (tf k) b (k * 128) 128 (pb k) 0 (pc k) (sh ld (k * 128)) _ (HF.out _ (HB.out _ _)).1 (HF.out _ (HB.out _ _)).2).mono ?_
      rintro e w2 ⟨rfl, hb2⟩
      have hb3 : Below w.heap.size w w2 := hb.trans (((HB.out _ _).trans (hb2.mono (HB.out _ _).size)).mono hs)
      clear hb2
      go_wp2
      go_roundw
      case rel => exact ⟨k + 1, by omega, by go_num, hb3⟩
      case measure => simp [intOf]; omega
    · obtain rfl : k = m := by omega
      go_wp2
      go_ret
      exact ⟨rfl, hb⟩
set_option maxRecDepth 100000 in
set_option maxHeartbeats 1000000 in
theorem sameSents (gA m b cA cP : Nat) (aP : Option Addr) (tf pb pc : Nat → Nat) (ld : Nat → Int) (w : World) (hm : m ≤ 549755813887) (h1 : Snts w gA m b tf ld) (h2 : SntP w aP m tf pb pc ld) :
    Calls Tryd.prog 71 #[.slice (some ⟨gA, 0, none⟩) m cA, .slice aP m cP] w fun e w' => e = .returned (.bool true) ∧ Below w.heap.size w w' := by
  go_enter Tryd.func71, Tryd.ntmps71
  go_wp2_with fail
  refine (equalSents gA m b cA cP aP tf pb pc ld w hm h1 h2).mono ?_
  rintro e w2 ⟨rfl, hb⟩
  go_wp2
  go_ret
  exact ⟨rfl, hb⟩
end Go.Proofs.YtmjoklppibfdmaaDoor

namespace Go.Proofs.YtmjoklppibfdmaaDoor
open Go.RowKit
set_option linter.unusedVariables false

set_option maxRecDepth 100000 in
set_option maxHeartbeats 1000000 in
theorem equalRows (gA gB n cA cB : Nat) (b1 o1 c1 b2 o2 c2 : Nat → Nat) (f1 f2 : Nat → Nat → Int) (w : World) (hn : n ≤ 1000000) (h1 : Rws w gA n b1 o1 c1 f1) (h2 : Rws w gB n b2 o2 c2 f2) (he : ∀ i, i < n → lst (f1 i) 128 = lst (f2 i) 128) :
    Calls Tryd.prog 19 #[.slice (some ⟨gA, 0, none⟩) n cA, .slice (some ⟨gB, 0, none⟩) n cB, .func (.func 21) #[] #[]] w fun e w' => e = .returned (.bool true) ∧ w' = w := by
  have H1 : Hid (Rws w gA n b1 o1 c1 f1) := h1
  have H2 : Hid (Rws w gB n b2 o2 c2 f2) := h2
  have HE : Hid (∀ i, i < n → lst (f1 i) 128 = lst (f2 i) 128) := he
  clear h1 h2 he
  go_enter Tryd.func19, Tryd.ntmps19
  go_wp2
  go_loopw [17] (fun i wr => ∃ k : Nat, k ≤ n ∧ i = .int .i64 (k : Int) ∧ wr = w) (fun i _ => n - (intOf i).toNat)
  case atStart => exact ⟨0, Nat.zero_le _, rfl, rfl⟩
  case round =>
    obtain ⟨k, hk, rfl, rfl⟩ := hrel
    by_cases hlt : k < n
    · have hlt' : (k : Int) < (n : Int) := by omega
      have hk0 : (0 : Int) ≤ (k : Int) := by omega
      have p1 := H1.out.cell k hlt
      have p2 := H2.out.cell k hlt
      go_wp2_with fail
      refine (equal_yes (some ⟨b1 k, o1 k, none⟩) (some ⟨b2 k, o2 k, none⟩) 128 (c1 k) 128 (c2 k) (f1 k) (f2 k) wr (H1.out.from_ k hlt) (H2.out.from_ k hlt) (HE.out k hlt)).mono ?_
      rintro e w2 ⟨rfl, hw⟩
      obtain rfl : wr = w2 := hw.symm
      clear hw
      go_wp2
      go_roundw
      case rel => exact ⟨k + 1, by omega, by go_num, by trivial⟩
      case measure => simp [intOf]; omega
    · obtain rfl : k = n := by omega
      go_wp2
      go_ret
      exact ⟨rfl, rfl⟩
set_option maxRecDepth 100000 in
set_option maxHeartbeats 1000000 in
theorem sameImg (gA gB n cA cB : Nat) (b1 o1 c1 b2 o2 c2 : Nat → Nat) (f1 f2 : Nat → Nat → Int) (w : World) (hn : n ≤ 1000000) (h1 : Rws w gA n b1 o1 c1 f1) (h2 : Rws w gB n b2 o2 c2 f2) (he : ∀ i, i < n → lst (f1 i) 128 = lst (f2 i) 128) :
    Calls Tryd.prog 69 #[.slice (some ⟨gA, 0, none⟩) n cA, .slice (some ⟨gB, 0, none⟩) n cB] w fun e w' => e = .returned (.bool true) ∧ w' = w := by
  go_enter Tryd.func69, Tryd.ntmps69
  go_wp2_with fail
  refine (equalRows gA gB n cA cB b1 o1 c1 b2 o2 c2 f1 f2 w hn h1 h2 he).mono ?_
  rintro e w2 ⟨rfl, hw⟩
  obtain rfl : w = w2 := hw.symm
  clear hw
  go_wp2
  go_ret
  exact ⟨rfl, rfl⟩
end Go.Proofs.YtmjoklppibfdmaaDoor

namespace Go.Proofs.YtmjoklppibfdmaaDoor
open Go.RowKit
set_option linter.unusedVariables false

set_option maxRecDepth 100000 in
set_option maxHeartbeats 4000000 in
theorem sameDisks (D X n m : Nat) (F G : Nat → Prop) (dur : Nat → Int) (tf : Nat → Nat) (ld : Nat → Int) (w : World) (hd : Dk w D F n dur m tf ld) (hx : Rk w X G n dur m tf ld) (hm : m ≤ 549755813887) :
    Calls Tryd.prog 33 #[.pointer (some ⟨D, 0, none⟩), .pointer (some ⟨X, 0, none⟩)] w fun e w' => e = .returned (.bool true) ∧ Below w.heap.size w w' := by
  have HD : Hid (∀ wq, Below w.heap.size w wq → Dk wq D F n dur m tf ld) := fun wq hq => hd.below hq
  have HX : Hid (∀ wq, Below w.heap.size w wq → Rk wq X G n dur m tf ld) := fun wq hq => hx.below hq
  obtain ⟨gB, cB, vP, rb, rc, pb, pc, hx⟩ := hx
  obtain ⟨aP, cP, rfl⟩ : ∃ aP cP, vP = .slice aP m cP := by
    rcases hx.oP.2 with ⟨rfl, h0⟩ | ⟨g, cap, cur, rfl, _⟩
    · rw [h0]; exact ⟨none, 0, rfl⟩
    · exact ⟨_, cap, rfl⟩
  have HS : Hid (∀ wq, Below w.heap.size w wq → (wq.cell? ⟨X, 0, none⟩ = some (.slice (some ⟨gB, 0, none⟩) n cB) ∧ wq.cell? ⟨X, 1, none⟩ = some (.slice aP m cP)) ∧ SntP wq aP m tf pb pc ld) := fun wq hq => by
    have h9 := (hx.part (Part.ofBelow (F := fun _ => False) hq) (fun _ _ h => h)).looks
    exact ⟨⟨h9.1, h9.2.1⟩, h9.2.2.2⟩
  have hn2 := hx.n2
  clear hx
  have hb0 : Below w.heap.size w w.drew := ⟨rfl, rfl, rfl, Nat.le_refl _, fun _ _ => rfl⟩
  have HC1 : Hid (∀ wq, Below w.heap.size w wq → Calls Tryd.prog 43 #[.pointer (some ⟨D, 0, none⟩)] wq fun e w' => e = .returned (.int .i64 (n : Int)) ∧ w' = wq) := fun wq hq => by
    obtain ⟨S, Bd, Bl, cD, cL, vT, vL, h9⟩ := HD.out wq hq
    obtain ⟨d0, s0, s1, s2, s3, _⟩ := heads h9.hD h9.hS
    exact dSectors D S n cL _ wq d0 s1
  have HC2 : Hid (∀ wq, Below w.heap.size w wq → Calls Tryd.prog 22 #[.pointer (some ⟨D, 0, none⟩)] wq fun e w' => ∃ g b, e = .returned (.slice (some ⟨g, 0, none⟩) n n) ∧ Hid (Rws w' g n (fun _ => b) (fun i => i * 128) (fun _ => 128) (fun i => sh dur (i * 128)) ∧ g < w'.heap.size) ∧ Below w.heap.size w w') := fun wq hq => by
    refine (dkImage D n m _ _ tf ld wq (HD.out wq hq)).mono ?_
    rintro e w' ⟨g, b, rfl, h1, _, h2, _, _, h3⟩
    exact ⟨g, b, rfl, ⟨h1, h2⟩, hq.trans (h3.mono hq.size)⟩
  have HC3 : Hid (∀ wq g b, Below w.heap.size w wq → Hid (Rws wq g n (fun _ => b) (fun i => i * 128) (fun _ => 128) (fun i => sh dur (i * 128)) ∧ g < wq.heap.size) → Calls Tryd.prog 70 #[.pointer (some ⟨X, 0, none⟩)] wq fun e w' => ∃ g3 c3, e = .returned (.slice (some ⟨g3, 0, none⟩) n c3) ∧ Hid (Calls Tryd.prog 69 #[.slice (some ⟨g, 0, none⟩) n n, .slice (some ⟨g3, 0, none⟩) n c3] w' fun e w'' => e = .returned (.bool true) ∧ w'' = w') ∧ Below w.heap.size w w') := fun wq g b hq hR => by
    refine (rkImage X n m _ _ tf ld wq (HX.out wq hq)).mono ?_
    rintro e w' ⟨g3, c3, qb, qc, rfl, h1, _, h2, _, h3⟩
    exact ⟨g3, c3, rfl, sameImg g g3 n n c3 _ _ _ _ _ _ _ _ w' (by omega) (hR.out.1.part (Part.ofBelow (F := fun _ => False) h3) (fun h => h) hR.out.2 (fun _ _ h => h)) h1 (fun i hi => rfl), hq.trans (h3.mono hq.size)⟩
  have HC5 : Hid (∀ wq, Below w.heap.size w wq → Calls Tryd.prog 72 #[.pointer (some ⟨D, 0, none⟩)] wq fun e w' => ∃ g, e = .returned (.slice (some ⟨g, 0, none⟩) m m) ∧ Hid (Calls Tryd.prog 71 #[.slice (some ⟨g, 0, none⟩) m m, .slice aP m cP] w' fun e w'' => e = .returned (.bool true) ∧ Below w.heap.size w w'') ∧ Below w.heap.size w w') := fun wq hq => by
    refine (dkPending D n m _ _ tf ld wq (HD.out wq hq) hm).mono ?_
    rintro e w' ⟨g, b, rfl, h1, _, _, _, _, h3⟩
    have hb : Below w.heap.size w w' := hq.trans (h3.mono hq.size)
    refine ⟨g, rfl, (sameSents g m b m cP aP tf pb pc ld w' hm h1 (HS.out w' hb).2).mono ?_, hb⟩
    rintro e w'' ⟨rfl, h4⟩
    exact ⟨rfl, hb.trans (h4.mono hb.size)⟩
  clear hd HD HX
  go_enter Tryd.func33, Tryd.ntmps33
  go_wp2_with fail
  go_region_held (fun wq => wq.cell? ⟨X, 0, none⟩ = some (.slice (some ⟨gB, 0, none⟩) n cB) ∧ wq.cell? ⟨X, 1, none⟩ = some (.slice aP m cP))
    (first | exact (HS.out _ (by assumption)).1 | go_keep)
    (first
      | (go_at_call 43; refine (HC1.out _ hb0).mono ?_; rintro e' w1 ⟨rfl, hw⟩; subst hw)
      | (go_at_call 22; refine (HC2.out _ hb0).mono ?_; rintro e' w2 ⟨g2, b2, rfl, R2, k2⟩)
      | (go_at_call 70; refine (HC3.out _ g2 b2 k2 R2).mono ?_; rintro e' w3 ⟨g3, c3, rfl, R3, k3⟩)
      | (go_at_call 69; refine R3.out.mono ?_; rintro e' w4 ⟨rfl, hw⟩; obtain rfl : w3 = w4 := hw.symm; clear hw)
      | (go_at_call 72; refine (HC5.out _ k3).mono ?_; rintro e' w5 ⟨g5, rfl, R5, k5⟩)
      | (go_at_call 71; refine R5.out.mono ?_; rintro e' w6 ⟨rfl, k6⟩))
  all_goals
    go_wp2
    go_ret
    exact ⟨rfl, k6⟩
end Go.Proofs.YtmjoklppibfdmaaDoor
