/-
  Contracts of datum's Can, Depth, Size.
-/
import Derived.Test.YtfobiknbjijphaaDtG
namespace Go.Proofs.Ytfobiknbjijphaa
open Go.RowKit
set_option linter.unusedVariables false

/-- A datum that may be. -/
def Dt.may (d : Dt) : Prop := d.good ∧ d.dep ≤ 64
theorem hid {p : Prop} (h : p) : Hid p := h
theorem DAt.shape {w : World} {d : Dt} {v : Value} (h : DAt w d v) : ∃ a n c b n2 c2, v = .agg #[.int .i64 d.kd, .string d.tx, .slice a n c, .slice b n2 c2] := by
  cases h with
  | mk k t l m a b c c2 X Y hl hm ra rb sz => exact ⟨a, _, c, b, _, c2, rfl⟩
/-- Measured in a box of one's own. -/
theorem dt_boxed {d : Dt} {a b : Option Addr} {n c n2 c2 : Nat} {w : World} (h : DAt w d (.agg #[.int .i64 d.kd, .string d.tx, .slice a n c, .slice b n2 c2])) (hs : d.siz ≤ 1048576) :
    Calls Try.prog 15 #[.agg #[.int .i64 d.kd, .string d.tx, .slice a n c, .slice b n2 c2], .int .i64 64] (w.alloc (.cells #[.int .i64 d.kd, .string d.tx, .slice a n c, .slice b n2 c2] 24)) fun r w' => Hid (Msr d 64 r) ∧ Hid (Below w.heap.size w w') := by
  have hb : Below w.heap.size w (w.alloc (.cells #[.int .i64 d.kd, .string d.tx, .slice a n c, .slice b n2 c2] 24)) := (Below.refl _ w).alloc (Nat.le_refl _) _
  refine (dt_measure (d.siz + 1) d _ 64 _ (Nat.lt_succ_self _) (h.under hb) hs (Nat.le_refl _)).mono ?_
  rintro r w1 ⟨h1, h2⟩
  exact ⟨h1, hb.trans (h2.out.mono (by rw [World.size_alloc]; omega))⟩
theorem dt_can {d : Dt} {v : Value} {w : World} (h : DAt w d v) (hs : d.siz ≤ 1048576) : Calls Try.prog 6 #[v] w fun e w' => Ans e d.may ∧ Hid (Below w.heap.size w w') := by
  obtain ⟨a, n, c, b, n2, c2, rfl⟩ := h.shape
  have HM := hid (dt_boxed h hs)
  clear h hs
  go_enter Try.func6, Try.ntmps6
  go_wp2_with fail
  refine HM.out.mono ?_
  rintro r w1 ⟨hM, hb⟩
  have HB : Hid (∀ o, Below w.heap.size w (w1.alloc o)) := fun o => hb.out.alloc hb.out.size _
  rcases hM.out with ⟨hg, hd, rfl⟩ | ⟨hn, rfl⟩
  · have hq : Hid (d.may) := ⟨hg, hd⟩
    clear hg hd
    go_wp2
    go_ret
    exact ⟨Ans.yes hq.out, HB.out _⟩
  · have hq : Hid (¬ d.may) := hn
    clear hn
    go_wp2
    go_ret
    exact ⟨Ans.no hq.out, HB.out _⟩
theorem dt_depth {d : Dt} {v : Value} {w : World} (h : DAt w d v) (hs : d.siz ≤ 1048576) : Calls Try.prog 8 #[v] w fun e w' => (∃ k : Int, e = .returned (.int .i64 k) ∧ (d.may → k = d.dep) ∧ (¬ d.may → k = 0)) ∧ Hid (Below w.heap.size w w') := by
  obtain ⟨a, n, c, b, n2, c2, rfl⟩ := h.shape
  have HM := hid (dt_boxed h hs)
  clear h hs
  go_enter Try.func8, Try.ntmps8
  go_wp2_with fail
  refine HM.out.mono ?_
  rintro r w1 ⟨hM, hb⟩
  have HB : Hid (∀ o, Below w.heap.size w (w1.alloc o)) := fun o => hb.out.alloc hb.out.size _
  rcases hM.out with ⟨hg, hd, rfl⟩ | ⟨hn, rfl⟩
  · have hq : Hid (d.may) := ⟨hg, hd⟩
    clear hg hd
    go_wp2
    go_ret
    exact ⟨⟨_, rfl, fun _ => rfl, fun h => absurd hq.out h⟩, HB.out _⟩
  · have hq : Hid (¬ d.may) := hn
    clear hn
    go_wp2
    go_ret
    exact ⟨⟨_, rfl, fun h => absurd h hq.out, fun _ => rfl⟩, HB.out _⟩
theorem dt_size {d : Dt} {v : Value} {w : World} (h : DAt w d v) (hs : d.siz ≤ 1048576) : Calls Try.prog 10 #[v] w fun e w' => (∃ k : Int, e = .returned (.int .i64 k) ∧ (d.may → k = d.siz) ∧ (¬ d.may → k = 0)) ∧ Hid (Below w.heap.size w w') := by
  obtain ⟨a, n, c, b, n2, c2, rfl⟩ := h.shape
  have HM := hid (dt_boxed h hs)
  clear h hs
  go_enter Try.func10, Try.ntmps10
  go_wp2_with fail
  refine HM.out.mono ?_
  rintro r w1 ⟨hM, hb⟩
  have HB : Hid (∀ o, Below w.heap.size w (w1.alloc o)) := fun o => hb.out.alloc hb.out.size _
  rcases hM.out with ⟨hg, hd, rfl⟩ | ⟨hn, rfl⟩
  · have hq : Hid (d.may) := ⟨hg, hd⟩
    clear hg hd
    go_wp2
    go_ret
    exact ⟨⟨_, rfl, fun _ => rfl, fun h => absurd hq.out h⟩, HB.out _⟩
  · have hq : Hid (¬ d.may) := hn
    clear hn
    go_wp2
    go_ret
    exact ⟨⟨_, rfl, fun h => absurd h hq.out, fun _ => rfl⟩, HB.out _⟩
end Go.Proofs.Ytfobiknbjijphaa
