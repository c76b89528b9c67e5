/-
  The bytes of a row of slots by their names are those of the map that the row was told from.
-/
import Derived.Test.YtdackomidfofgaaStAa
namespace Go.Proofs.Ytdackomidfofgaa
open Go.RowKit Go.Maps
set_option linter.unusedVariables false

section
variable {α : Type} {ky : α → List UInt8}
/-- No name stands twice. -/
def Apart (ky : α → List UInt8) (A : List α) : Prop := A.Pairwise (fun x y => ky x ≠ ky y)
theorem Apart.one {A : List α} (h : Apart ky A) {x y : α} (hx : x ∈ A) (hy : y ∈ A) (e : ky x = ky y) : x = y := by
  induction A with
  | nil => cases hx
  | cons z r ih =>
    obtain ⟨h1, h2⟩ := List.pairwise_cons.1 h
    rcases List.mem_cons.1 hx with ex | hx'
    · rcases List.mem_cons.1 hy with ey | hy'
      · rw [ex, ey]
      · exact absurd (by rw [← ex]; exact e) (h1 y hy')
    · rcases List.mem_cons.1 hy with ey | hy'
      · exact absurd (by rw [← ey]; exact e.symm) (h1 x hx')
      · exact ih h2 hx' hy'
theorem Apart.perm {A B : List α} (h : Apart ky A) (p : B.Perm A) : Apart ky B := (p.pairwise_iff (fun h => h.symm)).2 h
theorem Apart.fnd {A : List α} (h : Apart ky A) {x : α} (hx : x ∈ A) : Go.Proofs.Ytdackomidfofgaa.fnd ky A (ky x) = some x := by
  cases e : Go.Proofs.Ytdackomidfofgaa.fnd ky A (ky x) with
  | none => exact absurd rfl (fnd_none e x hx)
  | some y =>
    obtain ⟨h1, h2⟩ := fnd_some e
    rw [h.one hx h2 h1.symm]
theorem fnd_perm {A B : List α} (h : Apart ky A) (p : B.Perm A) (k : List UInt8) : fnd ky B k = fnd ky A k := by
  cases e : fnd ky B k with
  | none =>
    cases e2 : fnd ky A k with
    | none => rfl
    | some y =>
      obtain ⟨h1, h2⟩ := fnd_some e2
      exact absurd h1 (fnd_none e y (p.mem_iff.2 h2))
  | some x =>
    obtain ⟨h1, h2⟩ := fnd_some e
    rw [← h1, h.fnd (p.mem_iff.1 h2)]
end
theorem fold_put : ∀ (zs : List Zs) (m : Bf) (k : List UInt8), Apart Zs.ky zs → zs.foldl (fun m z => Bf.put m z.ky z.xs) m k = ((fnd Zs.ky zs k).map Zs.xs).or (m k)
  | [], m, k, _ => rfl
  | z :: r, m, k, h => by
    obtain ⟨h1, h2⟩ := List.pairwise_cons.1 h
    rw [List.foldl_cons, fold_put r _ k h2]
    by_cases e : z.ky = k
    · have hr : fnd Zs.ky r k = none := by
        cases e2 : fnd Zs.ky r k with
        | none => rfl
        | some y =>
          obtain ⟨h3, h4⟩ := fnd_some e2
          exact absurd (e.trans h3.symm) (h1 y h4)
      have hz : fnd Zs.ky (z :: r) k = some z := by unfold fnd; rw [List.find?_cons]; simp [e]
      rw [hr, hz]
      show Bf.put m z.ky z.xs k = _
      unfold Bf.put
      rw [if_pos e]
      rfl
    · have hz : fnd Zs.ky (z :: r) k = fnd Zs.ky r k := by
        unfold fnd
        rw [List.find?_cons, show (z.ky == k) = false by simpa using e]
      rw [hz]
      unfold Bf.put
      rw [if_neg e]
theorem mzf_at {α : Type} {ky : α → List UInt8} {A ys : List α} {vr : α → Int} {bs : α → List Int} {zs : List Zs} (hA : Apart ky A) (hp : ys.Perm A) (hz : zs.map (fun z => (z.ky, z.ver, z.xs)) = ys.map (fun x => (ky x, vr x, bs x))) (k : List UInt8) : mzf zs k = (fnd ky A k).map bs := by
  have hy := hA.perm hp
  have hzy : Apart Zs.ky zs ∧ (fnd Zs.ky zs k).map Zs.xs = (fnd ky ys k).map bs := by
    clear hp hA
    induction zs generalizing ys with
    | nil =>
      cases ys with
      | nil => exact ⟨List.Pairwise.nil, rfl⟩
      | cons y r => cases hz
    | cons z r ih =>
      cases ys with
      | nil => cases hz
      | cons y q =>
        rw [List.map_cons, List.map_cons] at hz
        injection hz with h1 h2
        obtain ⟨h3, h4⟩ := List.pairwise_cons.1 hy
        obtain ⟨i1, i2⟩ := ih h2 h4
        have e1 : z.ky = ky y := congrArg (fun p => p.1) h1
        have e2 : z.xs = bs y := congrArg (fun p => p.2.2) h1
        refine ⟨List.pairwise_cons.2 ⟨fun u hu e => ?_, i1⟩, ?_⟩
        · have h5 : (u.ky, u.ver, u.xs) ∈ q.map (fun x => (ky x, vr x, bs x)) := by rw [← h2]; exact List.mem_map.2 ⟨u, hu, rfl⟩
          obtain ⟨x, hx, ex⟩ := List.mem_map.1 h5
          have e3 : ky x = u.ky := congrArg (fun p => p.1) ex
          exact h3 x hx (by rw [← e1, e, e3])
        · unfold fnd at *
          rw [List.find?_cons, List.find?_cons, e1]
          by_cases e : ky y = k
          · simp [e, e2]
          · have : (ky y == k) = false := by simpa using e
            rw [this]
            exact i2
  unfold mzf
  rw [fold_put zs _ k hzy.1, hzy.2, fnd_perm hA hp]
  cases (fnd ky A k).map bs <;> rfl
end Go.Proofs.Ytdackomidfofgaa
