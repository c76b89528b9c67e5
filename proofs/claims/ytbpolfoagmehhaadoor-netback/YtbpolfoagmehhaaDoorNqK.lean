/-
  The request of a message: the document's ReadAsk.
-/
import Derived.Test.YtbpolfoagmehhaaDoorNqJ
namespace Go.Proofs.YtbpolfoagmehhaaDoor
open Go.RowKit
set_option linter.unusedVariables false

/-- What the document's reader tells of a message's load, whether it stands there or not. -/
def dP1 (F : Nat → Int) (N : Nat) : Nat := 1 + (Wm.num (sh F 1) (N - 1)).2.1.toNat
def dK (F : Nat → Int) (N : Nat) : Int := (Wm.num (sh F 1) (N - 1)).1
def dS (F : Nat → Int) (N : Nat) : Int := (Wm.num (sh F (dP1 F N)) (N - dP1 F N)).1
def dP2 (F : Nat → Int) (N : Nat) : Nat := dP1 F N + (Wm.num (sh F (dP1 F N)) (N - dP1 F N)).2.1.toNat
def dI (F : Nat → Int) (N : Nat) : ByteArray := (txt F N (dP2 F N) 8).1
def dP3 (F : Nat → Int) (N : Nat) : Nat := (txt F N (dP2 F N) 8).2.2
def dT (F : Nat → Int) (N : Nat) : ByteArray := (txt F N (dP3 F N) 1200).1
theorem step_num {f : Nat → Int} {n p : Nat} {x : It × Nat} (h : step f n p none = some x) : x = (.num (Wm.num (sh f p) (n - p)).1.toNat, p + (Wm.num (sh f p) (n - p)).2.1.toNat) := by
  unfold step at h
  simp only at h
  split at h
  · injection h with h; exact h.symm
  · cases h
theorem step_txt {f : Nat → Int} {n p m : Nat} {x : It × Nat} (h : step f n p (some m) = some x) : x = (.txt (txt f n p m).1, (txt f n p m).2.2) := by
  unfold step at h
  simp only at h
  split at h
  · injection h with h; exact h.symm
  · cases h
theorem rdAll_ask {F : Nat → Int} {N : Nat} {k se : Nat} {id t : ByteArray} {p : Nat} (h : rdAll F N askK 1 = some ([.num k, .num se, .txt id, .txt t], p)) : dK F N = (k : Int) ∧ dS F N = (se : Int) ∧ dI F N = id ∧ dT F N = t := by
  simp only [askK, rdAll, Option.bind_eq_some_iff, Option.map_eq_some_iff] at h
  obtain ⟨x1, h1, y1, ⟨x2, h2, y2, ⟨x3, h3, y3, ⟨x4, h4, y4, h5, h6⟩, h7⟩, h8⟩, h9⟩ := h
  have g1 := step_num h1
  subst g1
  have g2 := step_num h2
  subst g2
  have g3 := step_txt h3
  subst g3
  have g4 := step_txt h4
  subst g4
  simp only [Prod.mk.injEq] at h6 h7 h8 h9
  have b1 := (Wm.num_bd (sh F 1) (N - 1)).1
  have b2 := (Wm.num_bd (sh F (dP1 F N)) (N - dP1 F N)).1
  injection h5 with h5
  rw [← h5] at h6
  rw [← h6] at h7
  rw [← h7] at h8
  rw [← h8] at h9
  have e := h9.1
  simp only [List.cons.injEq, It.num.injEq, It.txt.injEq, and_true] at e
  obtain ⟨e1, e2, e3, e4⟩ := e
  refine ⟨?_, ?_, e3, e4⟩
  · rw [← e1]; exact (Int.toNat_of_nonneg b1).symm
  · rw [← e2]; exact (Int.toNat_of_nonneg b2).symm
theorem prs_ask {f : Nat → Int} (hby : ∀ i, 0 ≤ f i ∧ f i ≤ 255) {n : Nat} {is : List It} (h : prs 1 askK f n = some is) (P : List Int) (hP : (unf f n).2.1 = P) : ∃ k se, is = [.num k, .num se, .txt (dI (fn P) P.length), .txt (dT (fn P) P.length)] ∧ dK (fn P) P.length = (k : Int) ∧ dS (fn P) P.length = (se : Int) := by
  obtain ⟨hfit, h1, h2, h3⟩ := prs_sound hby askK_le h
  obtain ⟨k, se, id, t, rfl, e1, e2, e3, e4⟩ := ask_form hfit
  have hl : P = load 1 [.num k, .num se, .txt id, .txt t] := by rw [← hP, h3]
  have hr := load_rd (mk := 1) askK_le hfit
  rw [← hl] at hr
  obtain ⟨g1, g2, g3, g4⟩ := rdAll_ask hr
  exact ⟨k, se, by rw [g3, g4], g1, g2⟩
/-- What is told where the document's reader finds no request that may be, or one of another message. -/
theorem resA_bad {f : Nat → Int} (hby : ∀ i, 0 ≤ f i ∧ f i ≤ 255) {n : Nat} (P : List Int) (hP : (unf f n).2.1 = P) (hb : mayB (dI (fn P) P.length) (dK (fn P) P.length) (dS (fn P) P.length) (dT (fn P) P.length) = false ∨ lst f n ≠ msg 1 (askIs (dI (fn P) P.length) (dK (fn P) P.length) (dS (fn P) P.length) (dT (fn P) P.length))) : resA f n = (⟨#[]⟩, 0, 0, ⟨#[]⟩, 5) := by
  cases hp : prs 1 askK f n with
  | none => exact resA_none hp
  | some is =>
    obtain ⟨k, se, rfl, g1, g2⟩ := prs_ask hby hp P hP
    rw [resA_some hp]
    rw [g1, g2] at hb
    rcases hb with hb | hb
    · rw [hb]; rfl
    · exfalso
      apply hb
      rw [(prs_sound hby askK_le hp).2.1]
      rfl
theorem resA_good {f : Nat → Int} {n : Nat} {id t : ByteArray} {k se : Int} (hm : mayB id k se t = true) (h : lst f n = msg 1 (askIs id k se t)) : resA f n = (id, k, se, t, 0) := by
  have hp := prs_back (f := f) (n := n) (by omega) askK_le (mayB_fits hm) (ask_len hm) h
  have e1 : ((k.toNat : Nat) : Int) = k := by simp [mayB] at hm; omega
  have e2 : ((se.toNat : Nat) : Int) = se := by simp [mayB] at hm; omega
  rw [resA_some hp, e1, e2, if_pos hm]
theorem resA_out {f : Nat → Int} {n : Nat} (h : ¬ ((unf f n).1 = 0 ∧ (unf f n).2.2 = [] ∧ (unf f n).2.1 ≠ [] ∧ fn (unf f n).2.1 0 = 1)) : resA f n = (⟨#[]⟩, 0, 0, ⟨#[]⟩, 5) := resA_none (by unfold prs; rw [if_neg h])
end Go.Proofs.YtbpolfoagmehhaaDoor
