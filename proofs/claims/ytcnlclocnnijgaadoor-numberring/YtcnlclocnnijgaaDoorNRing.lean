/-
  NumberRing, walked. Conditions: texts of at most 2^48 bytes; the library's table of powers of ten is as it starts.
-/
import Derived.Test.YtcnlclocnnijgaaDoorNRAdd
namespace Go.Proofs.YtcnlclocnnijgaaDoor
open Go.RowKit
set_option linter.unusedVariables false

theorem IsNum.uniq {s : ByteArray} {x y : Int} (h : IsNum s x) (k : IsNum s y) : x = y := txt_inj (h.1.symm.trans k.1)

set_option maxRecDepth 100000 in
set_option maxHeartbeats 2000000 in
theorem ring_walk (a b c : ByteArray) (w : World) (hsb : b.size ≤ 281474976710656) (hsc : c.size ≤ 281474976710656) (ht : Tb w) :
    Calls Tryd.prog 8 #[.string a, .string b, .string c] w fun e w' => e = .returned (.bool true) ∧ Below w.heap.size w w' := by
  obtain ⟨S, E, H1, H1r, Q1⟩ := add_any b c hsb hsc
  obtain ⟨X, F, H2, Q2⟩ := mul_any a S
  obtain ⟨P, G, H3, Q3⟩ := mul_any a b
  obtain ⟨Q, K, H4, Q4⟩ := mul_any a c
  have HT : Hid (∀ wq, Below w.heap.size w wq → Tb wq) := fun wq hq => ht.below hq
  have q1 : (S.toList == S.toList) = true := by simp
  have q3 : (E == E) = true := by simp
  have q4 : (X.toList == X.toList) = true := by simp
  clear ht hsb hsc
  by_cases e1 : E = 0
  · by_cases e2 : F = 0
    · by_cases e3 : G = 0
      · by_cases e4 : K = 0
        · have HA : Hid (∀ wq, Tb wq → Calls Tryd.prog 15 #[.string P, .string Q] wq fun e w' => e = .returned (.tuple #[.string X, .int .i64 0]) ∧ Below wq.heap.size wq w') := fun wq hq => by
            obtain ⟨y, z, hb, hc, hS⟩ := Q1.out e1
            obtain ⟨x, s, ha, hS', hX⟩ := Q2.out e2
            obtain ⟨x', y', ha', hb', hP⟩ := Q3.out e3
            obtain ⟨x'', z', ha'', hc', hQ⟩ := Q4.out e4
            obtain rfl := hS.uniq hS'
            obtain rfl := ha.uniq ha'
            obtain rfl := ha.uniq ha''
            obtain rfl := hb.uniq hb'
            obtain rfl := hc.uniq hc'
            have := nAdd_ok hP hQ wq hq
            have e5 : x * y + x * z = x * (y + z) := (Int.mul_add x y z).symm
            rw [e5] at this
            have e6 : resT (x * (y + z)) = X := by unfold resT; rw [if_pos hX.2]; exact hX.1.symm
            have e7 : resE (x * (y + z)) = 0 := by unfold resE; rw [if_pos hX.2]
            rw [e6, e7] at this
            exact this
          clear Q1 Q2 Q3 Q4
          subst e1 e2 e3 e4
          go_enter Tryd.func8, Tryd.ntmps8
          go_wp2_with fail
          refine (H1.out w (HT.out w (Below.refl _ _))).mono ?_
          rintro e w1 ⟨rfl, B1⟩
          go_wp2_with fail
          refine (H2.out w1 (HT.out w1 B1)).mono ?_
          rintro e w2 ⟨rfl, b2⟩
          have B2 := B1.trans (b2.mono B1.size)
          go_wp2_with fail
          refine (H3.out w2 (HT.out w2 B2)).mono ?_
          rintro e w3 ⟨rfl, b3⟩
          have B3 := B2.trans (b3.mono B2.size)
          go_wp2_with fail
          refine (H4.out w3 (HT.out w3 B3)).mono ?_
          rintro e w4 ⟨rfl, b4⟩
          have B4 := B3.trans (b4.mono B3.size)
          go_wp2_with fail
          refine (H1r.out w4).mono ?_
          rintro e w5 ⟨rfl, b5⟩
          have B5 := B4.trans (b5.mono B4.size)
          clear B1 b2 b3 b4 b5 B2 B3 B4 H1 H2 H3 H4 H1r
          go_wp2_with fail
          refine (HA.out w5 (HT.out w5 B5)).mono ?_
          rintro e w6 ⟨rfl, b6⟩
          have B6 := B5.trans (b6.mono B5.size)
          clear b6 B5
          go_wp2
          go_ret
          exact ⟨rfl, B6⟩
        · subst e1 e2 e3
          have n4 : (K == 0) = false := by rw [beq_eq_false_iff_ne]; exact e4
          clear Q1 Q2 Q3 Q4 e4
          go_enter Tryd.func8, Tryd.ntmps8
          go_wp2_with fail
          refine (H1.out w (HT.out w (Below.refl _ _))).mono ?_
          rintro e w1 ⟨rfl, B1⟩
          go_wp2_with fail
          refine (H2.out w1 (HT.out w1 B1)).mono ?_
          rintro e w2 ⟨rfl, b2⟩
          have B2 := B1.trans (b2.mono B1.size)
          go_wp2_with fail
          refine (H3.out w2 (HT.out w2 B2)).mono ?_
          rintro e w3 ⟨rfl, b3⟩
          have B3 := B2.trans (b3.mono B2.size)
          go_wp2_with fail
          refine (H4.out w3 (HT.out w3 B3)).mono ?_
          rintro e w4 ⟨rfl, b4⟩
          have B4 := B3.trans (b4.mono B3.size)
          go_wp2_with fail
          refine (H1r.out w4).mono ?_
          rintro e w5 ⟨rfl, b5⟩
          have B5 := B4.trans (b5.mono B4.size)
          clear B1 b2 b3 b4 b5 B2 B3 B4 H1 H2 H3 H4 H1r
          go_wp2
          all_goals
            go_ret
            exact ⟨rfl, B5⟩
      · subst e1 e2
        have n3 : (G == 0) = false := by rw [beq_eq_false_iff_ne]; exact e3
        clear Q1 Q2 Q3 Q4 e3
        go_enter Tryd.func8, Tryd.ntmps8
        go_wp2_with fail
        refine (H1.out w (HT.out w (Below.refl _ _))).mono ?_
        rintro e w1 ⟨rfl, B1⟩
        go_wp2_with fail
        refine (H2.out w1 (HT.out w1 B1)).mono ?_
        rintro e w2 ⟨rfl, b2⟩
        have B2 := B1.trans (b2.mono B1.size)
        go_wp2_with fail
        refine (H3.out w2 (HT.out w2 B2)).mono ?_
        rintro e w3 ⟨rfl, b3⟩
        have B3 := B2.trans (b3.mono B2.size)
        go_wp2_with fail
        refine (H4.out w3 (HT.out w3 B3)).mono ?_
        rintro e w4 ⟨rfl, b4⟩
        have B4 := B3.trans (b4.mono B3.size)
        go_wp2_with fail
        refine (H1r.out w4).mono ?_
        rintro e w5 ⟨rfl, b5⟩
        have B5 := B4.trans (b5.mono B4.size)
        clear B1 b2 b3 b4 b5 B2 B3 B4 H1 H2 H3 H4 H1r
        go_wp2
        all_goals
          go_ret
          exact ⟨rfl, B5⟩
    · subst e1
      have n2 : (F == 0) = false := by rw [beq_eq_false_iff_ne]; exact e2
      clear Q1 Q2 Q3 Q4 e2
      go_enter Tryd.func8, Tryd.ntmps8
      go_wp2_with fail
      refine (H1.out w (HT.out w (Below.refl _ _))).mono ?_
      rintro e w1 ⟨rfl, B1⟩
      go_wp2_with fail
      refine (H2.out w1 (HT.out w1 B1)).mono ?_
      rintro e w2 ⟨rfl, b2⟩
      have B2 := B1.trans (b2.mono B1.size)
      go_wp2_with fail
      refine (H3.out w2 (HT.out w2 B2)).mono ?_
      rintro e w3 ⟨rfl, b3⟩
      have B3 := B2.trans (b3.mono B2.size)
      go_wp2_with fail
      refine (H4.out w3 (HT.out w3 B3)).mono ?_
      rintro e w4 ⟨rfl, b4⟩
      have B4 := B3.trans (b4.mono B3.size)
      go_wp2_with fail
      refine (H1r.out w4).mono ?_
      rintro e w5 ⟨rfl, b5⟩
      have B5 := B4.trans (b5.mono B4.size)
      clear B1 b2 b3 b4 b5 B2 B3 B4 H1 H2 H3 H4 H1r
      go_wp2
      all_goals
        go_ret
        exact ⟨rfl, B5⟩
  · have n1 : (E == 0) = false := by rw [beq_eq_false_iff_ne]; exact e1
    clear Q1 Q2 Q3 Q4 e1
    go_enter Tryd.func8, Tryd.ntmps8
    go_wp2_with fail
    refine (H1.out w (HT.out w (Below.refl _ _))).mono ?_
    rintro e w1 ⟨rfl, B1⟩
    go_wp2_with fail
    refine (H2.out w1 (HT.out w1 B1)).mono ?_
    rintro e w2 ⟨rfl, b2⟩
    have B2 := B1.trans (b2.mono B1.size)
    go_wp2_with fail
    refine (H3.out w2 (HT.out w2 B2)).mono ?_
    rintro e w3 ⟨rfl, b3⟩
    have B3 := B2.trans (b3.mono B2.size)
    go_wp2_with fail
    refine (H4.out w3 (HT.out w3 B3)).mono ?_
    rintro e w4 ⟨rfl, b4⟩
    have B4 := B3.trans (b4.mono B3.size)
    go_wp2_with fail
    refine (H1r.out w4).mono ?_
    rintro e w5 ⟨rfl, b5⟩
    have B5 := B4.trans (b5.mono B4.size)
    clear B1 b2 b3 b4 b5 B2 B3 B4 H1 H2 H3 H4 H1r
    go_wp2
    all_goals
      go_ret
      exact ⟨rfl, B5⟩
end Go.Proofs.YtcnlclocnnijgaaDoor
