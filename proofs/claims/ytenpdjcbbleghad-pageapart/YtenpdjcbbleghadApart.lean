/-
  Contracts of page.parted, page.Apart, and of the document's own at and Apart: where two loads part first, and last. Condition: at most 2^47 bytes each.
-/
import Derived.Test.YtenpdjcbbleghadSl
import Derived.Deep.QuietTactic
import Derived.BigQuiet
namespace Go.Proofs.Ytenpdjcbbleghad
open Go.RowKit
set_option linter.unusedVariables false

/-- Two loads part at a place. -/
def Pt (f : Nat → Int) (n : Nat) (g : Nat → Int) (m i : Nat) : Prop := n ≤ i ∨ m ≤ i ∨ f i ≠ g i

theorem From.drew {w : World} {ao : Option Addr} {n : Nat} {f : Nat → Int} (h : From w ao n f) (q : Nat) : From (w.drewN q) ao n f := h.below (B := w.heap.size) (blw_drewN q (Below.refl _ w)) (Nat.le_refl _)

set_option maxHeartbeats 400000 in
theorem parted_a (a0 b0 : Option Addr) (n c m d i : Nat) (w : World) (h : n ≤ i) (hi : i ≤ 140737488355328) :
    Calls Try.prog 11 #[.slice a0 n c, .slice b0 m d, .int .i64 (i : Int)] w fun e w' => e = .returned (.bool true) ∧ ∃ q, w' = w.drewN q := by
  have h' : (n : Int) ≤ (i : Int) := by omega
  go_enter Try.func11, Try.ntmps11
  go_wp2
  go_quiet (fail)
  go_wp2
  go_ret
  exact ⟨rfl, _, rfl⟩
set_option maxHeartbeats 400000 in
theorem parted_b (a0 b0 : Option Addr) (n c m d i : Nat) (w : World) (h0 : i < n) (h : m ≤ i) (hi : i ≤ 140737488355328) :
    Calls Try.prog 11 #[.slice a0 n c, .slice b0 m d, .int .i64 (i : Int)] w fun e w' => e = .returned (.bool true) ∧ ∃ q, w' = w.drewN q := by
  have hd1 : decide (n ≤ i) = false := by simp; omega
  have hd2 : decide (m ≤ i) = true := by simpa using h
  go_enter Try.func11, Try.ntmps11
  go_wp2
  go_quiet (fail)
  go_wp2
  go_ret
  exact ⟨rfl, _, rfl⟩
set_option maxHeartbeats 400000 in
theorem parted_at (b off b' off' : Nat) (n c m d i : Nat) (w : World) (x y : Int) (h0 : i < n) (h : i < m) (hi : i ≤ 140737488355328) (r : Bool) (hr : Hid ((x != y) = r)) (hx : w.cell? ⟨b, off + i, none⟩ = some (.int .u8 x)) (hy : w.cell? ⟨b', off' + i, none⟩ = some (.int .u8 y)) :
    Calls Try.prog 11 #[.slice (some ⟨b, off, none⟩) n c, .slice (some ⟨b', off', none⟩) m d, .int .i64 (i : Int)] w fun e w' => e = .returned (.bool r) ∧ ∃ q, w' = w.drewN q := by
  have h1' : (i : Int) < (n : Int) := by omega
  have h2' : (i : Int) < (m : Int) := by omega
  go_enter Try.func11, Try.ntmps11
  go_wp2
  go_quiet (fail)
  go_wp2
  go_ret
  have e1 : decide (n ≤ i) = false := by simp; omega
  have e2 : decide (m ≤ i) = false := by simp; omega
  refine ⟨congrArg (fun b => Ending.returned (.bool b)) ?_, _, rfl⟩
  rw [e1, e2, ← hr.out]
  rfl

theorem parted_yes (a0 b0 : Option Addr) (n c m d i : Nat) (f g : Nat → Int) (w : World) (hf : From w a0 n f) (hg : From w b0 m g) (hi : i ≤ 140737488355328) (h : Pt f n g m i) :
    Calls Try.prog 11 #[.slice a0 n c, .slice b0 m d, .int .i64 (i : Int)] w fun e w' => e = .returned (.bool true) ∧ ∃ q, w' = w.drewN q := by
  by_cases h1 : n ≤ i
  · exact parted_a a0 b0 n c m d i w h1 hi
  · by_cases h2 : m ≤ i
    · exact parted_b a0 b0 n c m d i w (by omega) h2 hi
    · obtain ⟨b, off, rfl, hc⟩ := hf.lay.resolve_left (by omega)
      obtain ⟨b', off', rfl, hc'⟩ := hg.lay.resolve_left (by omega)
      exact parted_at b off b' off' n c m d i w (f i) (g i) (by omega) (by omega) hi true (by
        have : f i ≠ g i := by rcases h with h | h | h; omega; omega; exact h
        show _ = _
        simpa using this) (hc i (by omega)) (hc' i (by omega))
theorem parted_no (a0 b0 : Option Addr) (n c m d i : Nat) (f g : Nat → Int) (w : World) (hf : From w a0 n f) (hg : From w b0 m g) (hi : i ≤ 140737488355328) (h : ¬ Pt f n g m i) :
    Calls Try.prog 11 #[.slice a0 n c, .slice b0 m d, .int .i64 (i : Int)] w fun e w' => e = .returned (.bool false) ∧ ∃ q, w' = w.drewN q := by
  have h1 : i < n := by by_cases k : n ≤ i; exact absurd (.inl k) h; omega
  have h2 : i < m := by by_cases k : m ≤ i; exact absurd (.inr (.inl k)) h; omega
  have h3 : f i = g i := by by_cases k : f i = g i; exact k; exact absurd (.inr (.inr k)) h
  obtain ⟨b, off, rfl, hc⟩ := hf.lay.resolve_left (by omega)
  obtain ⟨b', off', rfl, hc'⟩ := hg.lay.resolve_left (by omega)
  exact parted_at b off b' off' n c m d i w (f i) (g i) h1 h2 hi false (by
    show _ = _
    simpa using h3) (hc i h1) (hc' i h2)

/-- From k to l: the first and the last place where they part. -/
structure Ends (f : Nat → Int) (n : Nat) (g : Nat → Int) (m k l : Nat) : Prop where
  at1 : Pt f n g m k
  no1 : ∀ j, j < k → ¬ Pt f n g m j
  at2 : Pt f n g m l
  no2 : ∀ j, l < j → j < max n m → ¬ Pt f n g m j
  le : k ≤ l
  lt : l < max n m
theorem Ends.one {f g : Nat → Int} {n m k l k' l' : Nat} (h : Ends f n g m k l) (h' : Ends f n g m k' l') : k = k' ∧ l = l' := by
  constructor
  · by_cases e : k < k'
    · exact absurd h.at1 (h'.no1 k e)
    · by_cases e2 : k' < k
      · exact absurd h'.at1 (h.no1 k' e2)
      · omega
  · by_cases e : l < l'
    · exact absurd h'.at2 (h.no2 l' e h'.lt)
    · by_cases e2 : l' < l
      · exact absurd h.at2 (h'.no2 l e2 h.lt)
      · omega
theorem part_ex {f g : Nat → Int} {n m : Nat} (h : lst f n ≠ lst g m) : ∃ q, q < max n m ∧ Pt f n g m q := by
  apply Classical.byContradiction
  intro hn
  have hn : ∀ q, q < max n m → ¬ Pt f n g m q := fun q h1 h2 => hn ⟨q, h1, h2⟩
  have e : n = m := by
    by_cases h1 : n < m
    · exact absurd (.inl (Nat.le_refl n)) (hn n (by omega))
    · by_cases h2 : m < n
      · exact absurd (.inr (.inl (Nat.le_refl m))) (hn m (by omega))
      · omega
  subst e
  apply h
  apply List.ext_getElem?
  intro i
  by_cases hi : i < n
  · rw [lst_get f n i hi, lst_get g n i hi]
    have := hn i (by omega)
    by_cases k : f i = g i
    · rw [k]
    · exact absurd (.inr (.inr k)) this
  · rw [List.getElem?_eq_none (by rw [lst_length]; omega), List.getElem?_eq_none (by rw [lst_length]; omega)]
theorem part_none {f g : Nat → Int} {n m : Nat} (h : lst f n = lst g m) : ∀ q, q < max n m → ¬ Pt f n g m q := by
  have e : n = m := by have := congrArg List.length h; simpa [lst_length] using this
  subst e
  intro q hq hp
  have hq : q < n := by omega
  have := congrArg (fun l : List Int => l[q]?) h
  simp only [lst_get f n q hq, lst_get g n q hq, Option.some.injEq] at this
  rcases hp with h | h | h
  · omega
  · omega
  · exact h this
end Go.Proofs.Ytenpdjcbbleghad
