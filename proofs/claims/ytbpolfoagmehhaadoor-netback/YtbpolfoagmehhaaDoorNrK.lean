/-
  The reply of a message: what the document's reader tells. Made by tools/mkrep.py.
-/
import Derived.Test.YtbpolfoagmehhaaDoorNrJ
import Derived.Test.YtbpolfoagmehhaaDoorNqK
namespace Go.Proofs.YtbpolfoagmehhaaDoor
open Go.RowKit
set_option linter.unusedVariables false

/-- What the document's reader tells of a reply's load, whether it stands there or not. -/
def rK (F : Nat → Int) (N : Nat) : Int := dK F N
def rS (F : Nat → Int) (N : Nat) : Int := dS F N
def rW (F : Nat → Int) (N : Nat) : Int := (Wm.num (sh F (dP2 F N)) (N - dP2 F N)).1
def rP3 (F : Nat → Int) (N : Nat) : Nat := dP2 F N + (Wm.num (sh F (dP2 F N)) (N - dP2 F N)).2.1.toNat
def rI (F : Nat → Int) (N : Nat) : ByteArray := (txt F N (rP3 F N) 8).1
def rP4 (F : Nat → Int) (N : Nat) : Nat := (txt F N (rP3 F N) 8).2.2
def rT (F : Nat → Int) (N : Nat) : ByteArray := (txt F N (rP4 F N) 1000).1
theorem rdAll_rep {F : Nat → Int} {N : Nat} {st se wy : Nat} {id t : ByteArray} {p : Nat} (h : rdAll F N repK 1 = some ([.num st, .num se, .num wy, .txt id, .txt t], p)) : rK F N = (st : Int) ∧ rS F N = (se : Int) ∧ rW F N = (wy : Int) ∧ rI F N = id ∧ rT F N = t := by
  simp only [repK, rdAll, Option.bind_eq_some_iff, Option.map_eq_some_iff] at h
  obtain ⟨x1, h1, y1, ⟨x2, h2, y2, ⟨x5, h2b, y5, ⟨x3, h3, y3, ⟨x4, h4, y4, h5, h6⟩, h7⟩, h8⟩, h8b⟩, h9⟩ := h
  have g1 := step_num h1
  subst g1
  have g2 := step_num h2
  subst g2
  have g5 := step_num h2b
  subst g5
  have g3 := step_txt h3
  subst g3
  have g4 := step_txt h4
  subst g4
  simp only [Prod.mk.injEq] at h6 h7 h8 h8b h9
  have b1 := (Wm.num_bd (sh F 1) (N - 1)).1
  have b2 := (Wm.num_bd (sh F (dP1 F N)) (N - dP1 F N)).1
  have b3 := (Wm.num_bd (sh F (dP2 F N)) (N - dP2 F N)).1
  injection h5 with h5
  rw [← h5] at h6
  rw [← h6] at h7
  rw [← h7] at h8
  rw [← h8] at h8b
  rw [← h8b] at h9
  have e := h9.1
  simp only [List.cons.injEq, It.num.injEq, It.txt.injEq, and_true] at e
  obtain ⟨e1, e2, e5, e3, e4⟩ := e
  refine ⟨?_, ?_, ?_, e3, e4⟩
  · rw [← e1]; exact (Int.toNat_of_nonneg b1).symm
  · rw [← e2]; exact (Int.toNat_of_nonneg b2).symm
  · rw [← e5]; exact (Int.toNat_of_nonneg b3).symm
theorem prs_rep {f : Nat → Int} (hby : ∀ i, 0 ≤ f i ∧ f i ≤ 255) {n : Nat} {is : List It} (h : prs 2 repK f n = some is) (P : List Int) (hP : (unf f n).2.1 = P) : ∃ st se wy, is = [.num st, .num se, .num wy, .txt (rI (fn P) P.length), .txt (rT (fn P) P.length)] ∧ rK (fn P) P.length = (st : Int) ∧ rS (fn P) P.length = (se : Int) ∧ rW (fn P) P.length = (wy : Int) := by
  obtain ⟨hfit, h1, h2, h3⟩ := prs_sound hby repK_le h
  obtain ⟨st, se, wy, id, t, rfl, e1, e2, e5, e3, e4⟩ := rep_form hfit
  have hl : P = load 2 [.num st, .num se, .num wy, .txt id, .txt t] := by rw [← hP, h3]
  have hr := load_rd (mk := 2) repK_le hfit
  rw [← hl] at hr
  obtain ⟨g1, g2, g5, g3, g4⟩ := rdAll_rep hr
  exact ⟨st, se, wy, by rw [g3, g4], g1, g2, g5⟩
/-- What is told where the document's reader finds no request that may be, or one of another message. -/
theorem resR_bad {f : Nat → Int} (hby : ∀ i, 0 ≤ f i ∧ f i ≤ 255) {n : Nat} (P : List Int) (hP : (unf f n).2.1 = P) (hb : mayR (rI (fn P) P.length) (rK (fn P) P.length) (rS (fn P) P.length) (rW (fn P) P.length) (rT (fn P) P.length) = false ∨ lst f n ≠ msg 2 (repIs (rI (fn P) P.length) (rK (fn P) P.length) (rS (fn P) P.length) (rW (fn P) P.length) (rT (fn P) P.length))) : resR f n = (⟨#[]⟩, 0, 0, 0, ⟨#[]⟩, 5) := by
  cases hp : prs 2 repK f n with
  | none => exact resR_none hp
  | some is =>
    obtain ⟨st, se, wy, rfl, g1, g2, g3⟩ := prs_rep hby hp P hP
    rw [resR_some hp]
    rw [g1, g2, g3] at hb
    rcases hb with hb | hb
    · rw [hb]; rfl
    · exfalso
      apply hb
      rw [(prs_sound hby repK_le hp).2.1]
      rfl
theorem resR_good {f : Nat → Int} {n : Nat} {id t : ByteArray} {st se wy : Int} (hm : mayR id st se wy t = true) (h : lst f n = msg 2 (repIs id st se wy t)) : resR f n = (id, st, se, wy, t, 0) := by
  have hp := prs_back (f := f) (n := n) (by omega) repK_le (mayR_fits hm) (rep_len hm) h
  have e1 : ((st.toNat : Nat) : Int) = st := by simp [mayR] at hm; omega
  have e3 : ((wy.toNat : Nat) : Int) = wy := by simp [mayR] at hm; omega
  have e2 : ((se.toNat : Nat) : Int) = se := by simp [mayR] at hm; omega
  rw [resR_some hp, e1, e2, e3, if_pos hm]
theorem resR_out {f : Nat → Int} {n : Nat} (h : ¬ ((unf f n).1 = 0 ∧ (unf f n).2.2 = [] ∧ (unf f n).2.1 ≠ [] ∧ fn (unf f n).2.1 0 = 2)) : resR f n = (⟨#[]⟩, 0, 0, 0, ⟨#[]⟩, 5) := resR_none (by unfold prs; rw [if_neg h])
end Go.Proofs.YtbpolfoagmehhaaDoor
