/-
  StmSerial's invariants, without memory: what is published is as if done in one row.
-/
import Derived.Test.YtdackomidfofgaaStAc
namespace Go.Proofs.Ytdackomidfofgaa
open Go.RowKit Go.Maps
set_option linter.unusedVariables false

/-- The bytes of what a transaction wrote. -/
def Byt (w : World) (L : List Eb) (m : Bf) : Prop := (∀ k, fnd Eb.ky L k = none → m k = none) ∧ ∀ k x, fnd Eb.ky L k = some x → ∃ xs, m k = some xs ∧ Own w 0 x.vl xs
theorem Byt.start (w : World) : Byt w [] (fun _ => none) := ⟨fun _ _ => rfl, fun k x h => by cases h⟩
theorem Byt.put {w : World} {L : List Eb} {m : Bf} (h : Byt w L m) {x : Eb} {xs : List Int} (ho : Own w 0 x.vl xs) : Byt w (putT Eb.ky L x) (m.put x.ky xs) := by
  refine ⟨fun k hk => ?_, fun k y hy => ?_⟩
  · rw [fnd_put] at hk
    split at hk
    · cases hk
    · rename_i hne
      exact (if_neg hne).trans (h.1 k hk)
  · rw [fnd_put] at hy
    split at hy
    · rename_i he
      cases hy
      exact ⟨xs, if_pos he, ho⟩
    · rename_i hne
      obtain ⟨ys, e, h5⟩ := h.2 k y hy
      exact ⟨ys, (if_neg hne).trans e, h5⟩
theorem Byt.kept {w w' : World} {L : List Eb} {m : Bf} (h : Byt w L m) (hk : ∀ v xs, Own w 0 v xs → Own w' 0 v xs) : Byt w' L m := ⟨h.1, fun k x hx => by
  obtain ⟨xs, e, ho⟩ := h.2 k x hx
  exact ⟨xs, e, hk _ _ ho⟩⟩
/-- The bytes of a space's slots; their versions. -/
def Syt (w : World) (S : Sm) (m : Bf) : Prop := (∀ k, fnd Es.ky S.slots k = none → m k = none) ∧ ∀ k x, fnd Es.ky S.slots k = some x → ∃ xs, m k = some xs ∧ Own w 0 (.slice x.1.2.2.1 x.1.2.2.2.1 x.1.2.2.2.2) xs ∧ 0 ≤ x.1.2.1 ∧ x.1.2.1 ≤ S.clock
theorem Syt.kept {w w' : World} {S : Sm} {m : Bf} (h : Syt w S m) (hk : ∀ v xs, Own w 0 v xs → Own w' 0 v xs) : Syt w' S m := ⟨h.1, fun k x hx => by
  obtain ⟨xs, e, ho, h1⟩ := h.2 k x hx
  exact ⟨xs, e, hk _ _ ho, h1⟩⟩
/-- The writes laid over. -/
def over (m wm : Bf) : Bf := fun k => (wm k).or (m k)
theorem Byt.none {w : World} {L : List Eb} {m : Bf} (h : Byt w L m) {k : List UInt8} (hk : ¬ ∃ x ∈ L, Eb.ky x = k) : m k = Option.none := h.1 k (by
  cases e : fnd Eb.ky L k with
  | none => rfl
  | some x => exact absurd ⟨x, (fnd_some e).2, (fnd_some e).1⟩ hk)
theorem clk_ge (S : Sm) (T : Tm) : S.clock ≤ clk S T := by
  unfold clk
  split <;> omega
theorem clk_new {S : Sm} {T : Tm} {x : Eb} (h : x ∈ T.writes) : clk S T = S.clock + 1 := by
  unfold clk
  rw [if_neg]
  intro e
  rw [e] at h
  cases h
theorem Syt.publish {w : World} {S : Sm} {T : Tm} {m wm : Bf} {SL : List Es} {L : List El} (h : Syt w S m) (hc : 0 ≤ S.clock) (hA : Apart Eb.ky T.writes) (hW : Byt w T.writes wm) (hP : Pub S.slots (clk S T) T.writes SL) : Syt w { S with clock := clk S T, slots := SL, locks := L } (over m wm) := by
  refine ⟨fun k hk => ?_, fun k x hx => ?_⟩
  · have hk : fnd Es.ky SL k = Option.none := hk
    by_cases hw : ∃ x ∈ T.writes, Eb.ky x = k
    · obtain ⟨x, _, _, y, hy, _⟩ := (hP.1 k).1 hw
      rw [hy] at hk
      cases hk
    · have h1 := (hP.1 k).2 hw
      show (wm k).or (m k) = _
      rw [hW.none hw, h.1 k (by rw [← h1]; exact hk)]
      rfl
  · have hx : fnd Es.ky SL k = some x := hx
    by_cases hw : ∃ z ∈ T.writes, Eb.ky z = k
    · obtain ⟨z, hz, ez, y, hy, ey⟩ := (hP.1 k).1 hw
      rw [hy] at hx
      cases hx
      have hf : fnd Eb.ky T.writes k = some z := by rw [← ez]; exact hA.fnd hz
      obtain ⟨xs, e1, ho⟩ := hW.2 k z hf
      refine ⟨xs, ?_, ?_, ?_, ?_⟩
      · show (wm k).or (m k) = _
        rw [e1]
        rfl
      · rw [ey]
        exact ho
      · rw [ey]
        have := clk_ge S T
        show 0 ≤ clk S T
        omega
      · rw [ey]
        exact Int.le_refl _
    · have h1 := (hP.1 k).2 hw
      obtain ⟨xs, e1, ho, h2, h3⟩ := h.2 k x (by rw [← h1]; exact hx)
      refine ⟨xs, ?_, ho, h2, Int.le_trans h3 (clk_ge S T)⟩
      show (wm k).or (m k) = _
      rw [hW.none hw]
      exact e1
/-- A transaction beside the row: what the slots had when it began they have still, where no newer version is; what it read is that. -/
structure Tin (S : Sm) (U : Tm) (m rm bg : Bf) : Prop where
  time : U.time ≤ S.clock
  same : ∀ k, (slt S k).1 ≤ U.time → (m k).getD [] = (bg k).getD []
  read : ∀ k xs, rm k = some xs → (bg k).getD [] = xs ∧ ∃ y ∈ U.reads, Eu.ky y = k
theorem Tin.publish {w : World} {S : Sm} {T U : Tm} {m wm rm bg : Bf} {SL : List Es} {L : List El} (h : Tin S U m rm bg) (hW : Byt w T.writes wm) (hP : Pub S.slots (clk S T) T.writes SL) : Tin { S with clock := clk S T, slots := SL, locks := L } U (over m wm) rm bg := by
  refine ⟨Int.le_trans h.time (clk_ge S T), fun k hk => ?_, h.read⟩
  by_cases hw : ∃ z ∈ T.writes, Eb.ky z = k
  · obtain ⟨z, hz, _, y, hy, ey⟩ := (hP.1 k).1 hw
    have h1 : (slt { S with clock := clk S T, slots := SL, locks := L } k).1 = clk S T := by
      unfold slt
      show (match fnd Es.ky SL k with | Option.none => (0, Option.none, 0, 0) | some x => x.1.2).1 = _
      rw [hy]
      show y.1.2.1 = _
      rw [ey]
    rw [h1, clk_new hz] at hk
    have := h.time
    omega
  · have h1 := (hP.1 k).2 hw
    have h2 : slt { S with clock := clk S T, slots := SL, locks := L } k = slt S k := by
      unfold slt
      show (match fnd Es.ky SL k with | Option.none => (0, Option.none, 0, 0) | some x => x.1.2) = _
      rw [h1]
      rfl
    rw [h2] at hk
    show ((wm k).or (m k)).getD [] = _
    rw [hW.none hw]
    exact h.same k hk
/-- What it has read is what the row has now, if nothing that it read is stale. -/
theorem Tin.reads {S : Sm} {U : Tm} {m rm bg : Bf} (h : Tin S U m rm bg) (hs : stl S U = false) {k : List UInt8} {xs : List Int} (hr : rm k = some xs) : (m k).getD [] = xs := by
  obtain ⟨h1, y, hy, e⟩ := h.read k xs hr
  have h2 := (List.any_eq_false.1 hs) y hy
  have h3 : sty S U k = false := by rw [← e]; simpa using h2
  have h4 := (Bool.or_eq_false_iff.1 h3).2
  rw [← h1]
  refine h.same k ?_
  have := of_decide_eq_false h4
  omega
end Go.Proofs.Ytdackomidfofgaa
