/-
  Contract of SameSent: two lists of writes that are the same.
-/
import Derived.Test.YtnoaobnjecapjaaRkImage
namespace Go.Proofs.Ytnoaobnjecapjaa
open Go.RowKit
set_option linter.unusedVariables false

set_option maxRecDepth 100000 in
set_option maxHeartbeats 1000000 in
theorem sentEq (i b1 o1 c1 b2 o2 c2 : Nat) (f : Nat → Int) (w : World) (h1 : From w (some ⟨b1, o1, none⟩) 128 f) (h2 : From w (some ⟨b2, o2, none⟩) 128 f) :
    Calls Try.prog 46 #[.agg #[.int .i64 (i : Int), .slice (some ⟨b1, o1, none⟩) 128 c1], .agg #[.int .i64 (i : Int), .slice (some ⟨b2, o2, none⟩) 128 c2]] w fun e w' => e = .returned (.bool true) ∧ Below w.heap.size w w' := by
  have H1 : Hid (∀ wq, Below w.heap.size w wq → From wq (some ⟨b1, o1, none⟩) 128 f ∧ From wq (some ⟨b2, o2, none⟩) 128 f) := fun wq hq => ⟨h1.below hq (Nat.le_refl _), h2.below hq (Nat.le_refl _)⟩
  have HB : Hid (∀ p q : Obj, Below w.heap.size w ((w.alloc p).alloc q)) := fun p q => ((Below.refl _ w).alloc (Nat.le_refl _) p).alloc (by simp) q
  clear h1 h2
  go_enter Try.func46, Try.ntmps46
  go_wp2_with fail
  refine (equal_yes (some ⟨b1, o1, none⟩) (some ⟨b2, o2, none⟩) 128 c1 128 c2 f f _ (H1.out _ (HB.out _ _)).1 (H1.out _ (HB.out _ _)).2 (show Hid (lst f 128 = lst f 128) from rfl)).mono ?_
  rintro e w2 ⟨rfl, hw⟩
  subst hw
  go_wp2
  go_ret
  exact ⟨rfl, HB.out _ _⟩

/-- The writes of a list of the document's. -/
def SntP (w : World) (aP : Option Addr) (m : Nat) (tf pb pc : Nat → Nat) (ld : Nat → Int) : Prop := ∀ j, j < m → ∃ gP, aP = some ⟨gP, 0, none⟩ ∧ w.cell? ⟨gP, j * 2, none⟩ = some (.int .i64 (tf j : Int)) ∧ w.cell? ⟨gP, j * 2 + 1, none⟩ = some (.slice (some ⟨pb j, 0, none⟩) 128 (pc j)) ∧ From w (some ⟨pb j, 0, none⟩) 128 (sh ld (j * 128))

set_option maxRecDepth 100000 in
set_option maxHeartbeats 1000000 in
theorem equalSents (gA m b cA cP : Nat) (aP : Option Addr) (tf pb pc : Nat → Nat) (ld : Nat → Int) (w : World) (hm : m ≤ 549755813887) (h1 : Snts w gA m b tf ld) (h2 : SntP w aP m tf pb pc ld) :
    Calls Try.prog 45 #[.slice (some ⟨gA, 0, none⟩) m cA, .slice aP m cP, .func (.func 46) #[] #[]] w fun e w' => e = .returned (.bool true) ∧ Below w.heap.size w w' := by
  have H1 : Hid (∀ wq, Below w.heap.size w wq → ∀ j, j < m → ∃ gP, aP = some ⟨gP, 0, none⟩ ∧ wq.cell? ⟨gA, j * 2, none⟩ = some (.int .i64 (tf j : Int)) ∧ wq.cell? ⟨gA, j * 2 + 1, none⟩ = some (.slice (some ⟨b, j * 128, none⟩) 128 128) ∧ wq.cell? ⟨gP, j * 2, none⟩ = some (.int .i64 (tf j : Int)) ∧ wq.cell? ⟨gP, j * 2 + 1, none⟩ = some (.slice (some ⟨pb j, 0, none⟩) 128 (pc j)) ∧
      From wq (some ⟨b, j * 128, none⟩) 128 (sh ld (j * 128)) ∧ From wq (some ⟨pb j, 0, none⟩) 128 (sh ld (j * 128)) ∧ gP < wq.heap.size) := fun wq hq j hj => by
    obtain ⟨gP, e, q1, q2, q3⟩ := h2 j hj
    have key : ∀ p v, w.cell? p = some v → wq.cell? p = some v := fun p v hp => by
      rw [hq.cell (p := p) (World.block_lt_of_cell? w _ hp)]; exact hp
    exact ⟨gP, e, key _ _ (h1.sec j hj), key _ _ (h1.row j hj), key _ _ q1, key _ _ q2, (h1.from_ j hj).below hq (Nat.le_refl _), q3.below hq (Nat.le_refl _), World.block_lt_of_cell? wq _ (key _ _ q1)⟩
  clear h1 h2
  go_enter Try.func45, Try.ntmps45
  go_wp2
  go_loopw [17] (fun i wr => ∃ k : Nat, k ≤ m ∧ i = .int .i64 (k : Int) ∧ Below w.heap.size w wr) (fun i _ => m - (intOf i).toNat)
  case atStart => exact ⟨0, Nat.zero_le _, rfl, Below.refl _ _⟩
  case round =>
    obtain ⟨k, hk, rfl, hb⟩ := hrel
    have hs := hb.size
    by_cases hlt : k < m
    · have hlt' : (k : Int) < (m : Int) := by omega
      have hk0 : (0 : Int) ≤ (k : Int) := by omega
      obtain ⟨gP, rfl, p1, p2, p3, p4, p5, p6, p7⟩ := H1.out wr hb k hlt
      have HB : Hid (∀ p q : Obj, Below wr.heap.size wr ((wr.alloc p).alloc q)) := fun p q => ((Below.refl _ wr).alloc (Nat.le_refl _) p).alloc (by simp) q
      have HF : Hid (∀ wq, Below wr.heap.size wr wq → From wq (some ⟨b, k * 128, none⟩) 128 (sh ld (k * 128)) ∧ From wq (some ⟨pb k, 0, none⟩) 128 (sh ld (k * 128))) := fun wq hq => ⟨p5.below hq (Nat.le_refl _), p6.below hq (Nat.le_refl _)⟩
      have al3 : ∀ o, (wr.alloc o).cell? ⟨gP, k * 2, none⟩ = some (.int .i64 (tf k : Int)) := fun o => (World.cell?_alloc_past (w := wr) o gP (k * 2) p7).trans p3
      have al4 : ∀ o, (wr.alloc o).cell? ⟨gP, k * 2 + 1, none⟩ = some (.slice (some ⟨pb k, 0, none⟩) 128 (pc k)) := fun o => (World.cell?_alloc_past (w := wr) o gP (k * 2 + 1) p7).trans p4
      clear p5 p6
      go_wp2_with fail
      refine (sentEq (tf k) b (k * 128) 128 (pb k) 0 (pc k) (sh ld (k * 128)) _ (HF.out _ (HB.out _ _)).1 (HF.out _ (HB.out _ _)).2).mono ?_
      rintro e w2 ⟨rfl, hb2⟩
      have hb3 : Below w.heap.size w w2 := hb.trans (((HB.out _ _).trans (hb2.mono (HB.out _ _).size)).mono hs)
      clear hb2
      go_wp2
      go_roundw
      case rel => exact ⟨k + 1, by omega, by go_num, hb3⟩
      case measure => simp [intOf]; omega
    · obtain rfl : k = m := by omega
      go_wp2
      go_ret
      exact ⟨rfl, hb⟩
set_option maxRecDepth 100000 in
set_option maxHeartbeats 1000000 in
theorem sameSents (gA m b cA cP : Nat) (aP : Option Addr) (tf pb pc : Nat → Nat) (ld : Nat → Int) (w : World) (hm : m ≤ 549755813887) (h1 : Snts w gA m b tf ld) (h2 : SntP w aP m tf pb pc ld) :
    Calls Try.prog 30 #[.slice (some ⟨gA, 0, none⟩) m cA, .slice aP m cP] w fun e w' => e = .returned (.bool true) ∧ Below w.heap.size w w' := by
  go_enter Try.func30, Try.ntmps30
  go_wp2_with fail
  refine (equalSents gA m b cA cP aP tf pb pc ld w hm h1 h2).mono ?_
  rintro e w2 ⟨rfl, hb⟩
  go_wp2
  go_ret
  exact ⟨rfl, hb⟩
end Go.Proofs.Ytnoaobnjecapjaa
