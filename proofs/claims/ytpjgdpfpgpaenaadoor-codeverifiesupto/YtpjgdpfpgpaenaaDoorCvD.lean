/-
  Code in memory: rows of instructions, constants and names; the program's Verify.
-/
import Derived.Test.YtpjgdpfpgpaenaaDoorCvB
namespace Go.Proofs.YtpjgdpfpgpaenaaDoor
open Go.RowKit
set_option linter.unusedVariables false
set_option linter.unusedSimpArgs false

/-- A row of instructions. -/
def RI (w : World) (a : Option Addr) (n : Nat) (I : Nat → Nat → Int) : Prop := 0 < n → ∃ g o, a = some ⟨g, o, none⟩ ∧ ∀ j, j < n → ∀ i, i < 3 → w.cell? ⟨g, o + j * 3 + i, none⟩ = some (.int .i64 (I j i))
theorem RI.below {w w' : World} {a : Option Addr} {n : Nat} {I : Nat → Nat → Int} (h : RI w a n I) (hb : Below w.heap.size w w') : RI w' a n I := fun hn => by
  obtain ⟨g, o, h1, h2⟩ := h hn
  exact ⟨g, o, h1, fun j hj i hi => (hb.cell (World.block_lt_of_cell? w _ (h2 j hj i hi))).trans (h2 j hj i hi)⟩
/-- A row of names. -/
def RN (w : World) (a : Option Addr) (n : Nat) (S : Nat → ByteArray) : Prop := 0 < n → ∃ g o, a = some ⟨g, o, none⟩ ∧ ∀ j, j < n → w.cell? ⟨g, o + j, none⟩ = some (.string (S j))
theorem RN.below {w w' : World} {a : Option Addr} {n : Nat} {S : Nat → ByteArray} (h : RN w a n S) (hb : Below w.heap.size w w') : RN w' a n S := fun hn => by
  obtain ⟨g, o, h1, h2⟩ := h hn
  exact ⟨g, o, h1, fun j hj => (hb.cell (World.block_lt_of_cell? w _ (h2 j hj))).trans (h2 j hj)⟩
/-- Code: what its rows tell. -/
structure Cd where
  ni : Nat
  I : Nat → Nat → Int
  D : List Dt
  ns : Nat
  S : Nat → ByteArray
/-- Code in memory. -/
def CAt (w : World) (c : Cd) (v : Value) : Prop :=
  ∃ ai ci ad cd an cn X, v = .agg #[.slice ai c.ni ci, .slice ad c.D.length cd, .slice an c.ns cn] ∧ (c.ni ≤ ci ∧ ci ≤ 9223372036854775807) ∧ (c.D.length ≤ cd ∧ cd ≤ 9223372036854775807) ∧ (c.ns ≤ cn ∧ cn ≤ 9223372036854775807) ∧
    RI w ai c.ni c.I ∧ RowAt w ad c.D.length X ∧ (∀ j (h : j < c.D.length), DAt w c.D[j] (vx X j)) ∧ RN w an c.ns c.S
theorem CAt.below {w w' : World} {c : Cd} {v : Value} (h : CAt w c v) (hb : Below w.heap.size w w') : CAt w' c v := by
  obtain ⟨ai, ci, ad, cd, an, cn, X, h0, h1, h2, h3, h4, h5, h6, h7⟩ := h
  exact ⟨ai, ci, ad, cd, an, cn, X, h0, h1, h2, h3, h4.below hb, h5.below hb, fun j hj => (h6 j hj).under hb, h7.below hb⟩
/-- Code that may be run. -/
def Cd.ok (c : Cd) : Prop := 1 ≤ c.ni ∧ c.ni ≤ 20000 ∧ endP (c.I (c.ni - 1) 0) ∧ (∀ j, j < c.ni → opP c.ni c.D.length c.ns (c.I j 0) (c.I j 1) (c.I j 2)) ∧ (∀ d ∈ c.D, d.may) ∧ ∀ j, j < c.ns → nameP (c.S j)
/-- Its sizes are such that all may be measured. -/
def Cd.fit (c : Cd) : Prop := sizL c.D ≤ 1048576 ∧ wtL c.D ≤ 1048576 ∧ c.D.length ≤ 1048576 ∧ c.ns ≤ 1048576 ∧ ∀ j, j < c.ns → (c.S j).size ≤ 1048576
/-- A symbol of a name. -/
theorem sym_may (s : ByteArray) : (Dt.node 4 s [] []).may ↔ nameP s := by
  unfold Dt.may
  constructor
  · rintro ⟨⟨h, _, _⟩, _⟩
    rcases h with ⟨h, _⟩ | ⟨h, _⟩ | ⟨_, _, _, _, h⟩
    · exact absurd h (by decide)
    · exact absurd h (by decide)
    · rcases h with ⟨h, _⟩ | ⟨h, _⟩ | h | ⟨_, h⟩
      · exact absurd h (by decide)
      · exact absurd h (by decide)
      · exact absurd h (by decide)
      · exact h
  · intro h
    exact ⟨⟨.inr (.inr ⟨by decide, by decide, rfl, rfl, .inr (.inr (.inr ⟨rfl, h⟩))⟩), trivial, trivial⟩, by show (if sqB 4 = true then 1 + max (depL []) (depL []) else 0) ≤ 64; rw [if_neg (by decide)]; exact Nat.zero_le _⟩
theorem c_isName (s : ByteArray) (hs : s.size ≤ 140737488355328) (w : World) : Calls Tryd.prog 22 #[.string s] w fun e w' => Ans e (nameP s) ∧ Hid (Below w.heap.size w w') := by
  have HD : Hid (∀ V, Calls Tryd.prog 21 #[.agg #[.int .i64 4, .string s, .slice none 0 0, .slice none 0 0]] V fun e w' => Ans e (nameP s) ∧ Hid (Below V.heap.size V w')) := hid fun V => by
    refine (dt_can (d := Dt.node 4 s [] []) (.mk 4 s [] [] none none 0 0 (fun _ _ => .nilIface) (fun _ _ => .nilIface) (fun j h => absurd h (Nat.not_lt_zero _)) (fun j h => absurd h (Nat.not_lt_zero _)) (fun h => absurd h (by decide)) (fun h => absurd h (by decide)) ⟨Nat.le_refl _, by decide, Nat.le_refl _, by decide, hs⟩) (by show 1 + (0 + 0) ≤ 1048576; decide)).mono ?_
    rintro e w' ⟨⟨q, rfl, hq⟩, h2⟩
    exact ⟨⟨q, rfl, hq.trans (sym_may s)⟩, h2⟩
  go_enter Tryd.func22, Tryd.ntmps22
  go_wp2_with fail
  refine (HD.out _).mono ?_
  rintro e w1 ⟨⟨q, rfl, hq⟩, hb⟩
  go_wp2
  go_ret
  exact ⟨⟨q, rfl, hq⟩, hb⟩
/-- What Verify answers. -/
def Vfy (e : Ending) (p : Prop) : Prop := (p ∧ e = .returned (.int .i64 0)) ∨ (¬ p ∧ e = .returned (.int .i64 130))
end Go.Proofs.YtpjgdpfpgpaenaaDoor
