/-
  The document's reader: ends, piece, number.
-/
import Derived.Test.YtfobiknbjijphaaDoorGam
import Derived.Test.YtfobiknbjijphaaDoorGan
namespace Go.Proofs.YtfobiknbjijphaaDoor
open Go.RowKit
set_option linter.unusedVariables false
set_option linter.unusedSimpArgs false

set_option maxHeartbeats 4000000 in
theorem z_ends {b : Nat} {s : ByteArray} {p : Nat} {w : World} (h : Zr b s p w) (i : Nat) (hi : i ≤ s.size) : Calls Tryd.prog 72 #[.pointer (some ⟨b, 0, none⟩), .int .i64 (i : Int)] w fun e w' => e = .returned (.bool (enB (rst s i))) ∧ w' = w := by
  obtain ⟨y0, -, -, -, -, -, -⟩ := h.cells
  have lM : (s.size : Int) ≤ 1099511627776 := by have := h.1.2; omega
  have l0 : (0 : Int) ≤ (i : Int) := by omega
  clear h
  by_cases hlt : i < s.size
  · have l1 : (i : Int) < (s.size : Int) := by omega
    obtain ⟨c, hc⟩ : ∃ c, s[i]'hlt = c := ⟨_, rfl⟩
    have hcons : rst s i = c :: rst s (i + 1) := by rw [rst_cons hlt, hc]
    have HB := hid (fun V => z_blank c V)
    have q40 : ((c.toNat : Int) == 40) = decide (c = 40) := @u8b c 40 (by decide)
    have q41 : ((c.toNat : Int) == 41) = decide (c = 41) := @u8b c 41 (by decide)
    have q34 : ((c.toNat : Int) == 34) = decide (c = 34) := @u8b c 34 (by decide)
    have q39 : ((c.toNat : Int) == 39) = decide (c = 39) := @u8b c 39 (by decide)
    have q59 : ((c.toNat : Int) == 59) = decide (c = 59) := @u8b c 59 (by decide)
    have q35 : ((c.toNat : Int) == 35) = decide (c = 35) := @u8b c 35 (by decide)
    rcases Bool.eq_false_or_eq_true (blB c) with hbl | hbl
    · rw [hbl] at HB
      have HE : Hid (enB (rst s i) = true) := hid (by rw [hcons]; simp [enB, dlB, hbl])
      clear hcons hbl q40 q41 q34 q39 q59 q35
      go_enter Tryd.func72, Tryd.ntmps72
      go_wp2_with fail
      refine (HB.out _).mono ?_
      rintro e w2 ⟨rfl, hw⟩
      obtain rfl : w = w2 := hw.symm
      clear hw HB
      go_wp2
      go_ret
      exact ⟨by first | (rw [HE.out]; done) | (rw [HE.out]; rfl), rfl⟩
    · rw [hbl] at HB
      by_cases hd : c = 40 ∨ c = 41 ∨ c = 34 ∨ c = 39 ∨ c = 59
      · have HE : Hid (enB (rst s i) = true) := hid (by
          rw [hcons]
          rcases hd with rfl | rfl | rfl | rfl | rfl <;> simp [enB, dlB])
        clear hcons hbl
        by_cases h40 : c = 40 <;> by_cases h41 : c = 41 <;> by_cases h34 : c = 34 <;> by_cases h39 : c = 39 <;> by_cases h59 : c = 59
        all_goals
          first
          | (exfalso; rcases hd with h | h | h | h | h <;> contradiction)
          | (try rw [decide_eq_true h40] at q40
             try rw [decide_eq_false h40] at q40
             try rw [decide_eq_true h41] at q41
             try rw [decide_eq_false h41] at q41
             try rw [decide_eq_true h34] at q34
             try rw [decide_eq_false h34] at q34
             try rw [decide_eq_true h39] at q39
             try rw [decide_eq_false h39] at q39
             try rw [decide_eq_true h59] at q59
             try rw [decide_eq_false h59] at q59
             clear h40 h41 h34 h39 h59 hd q35
             go_enter Tryd.func72, Tryd.ntmps72
             go_wp2_with fail
             refine (HB.out _).mono ?_
             rintro e w2 ⟨rfl, hw⟩
             obtain rfl : w = w2 := hw.symm
             clear hw HB
             go_wp2
             go_ret
             exact ⟨by first | (rw [HE.out]; done) | (rw [HE.out]; rfl), rfl⟩)
      · have h40 : c ≠ 40 := fun e => hd (.inl e)
        have h41 : c ≠ 41 := fun e => hd (.inr (.inl e))
        have h34 : c ≠ 34 := fun e => hd (.inr (.inr (.inl e)))
        have h39 : c ≠ 39 := fun e => hd (.inr (.inr (.inr (.inl e))))
        have h59 : c ≠ 59 := fun e => hd (.inr (.inr (.inr (.inr e))))
        have hdl : dlB c = false := by simp [dlB, h40, h41, h34, h39, h59, hbl]
        rw [decide_eq_false h40] at q40
        rw [decide_eq_false h41] at q41
        rw [decide_eq_false h34] at q34
        rw [decide_eq_false h39] at q39
        rw [decide_eq_false h59] at q59
        clear h40 h41 h34 h39 h59 hd hbl
        by_cases h35 : c = 35
        · rw [decide_eq_true h35] at q35
          by_cases hn : i + 1 < s.size
          · have n1 : (i : Int) + 1 < (s.size : Int) := by omega
            obtain ⟨x, hx⟩ : ∃ x, s[i + 1]'hn = x := ⟨_, rfl⟩
            have HE : Hid (enB (rst s i) = ((x.toNat : Int) == 40)) := hid (by
              have : ((x.toNat : Int) == 40) = decide (x = 40) := @u8b x 40 (by decide)
              rw [this, hcons, rst_cons hn, hx]
              show (dlB c || (c == 35 && (some x == some 40))) = decide (x = 40)
              rw [hdl, h35, Bool.eq_iff_iff]
              simp)
            clear hcons h35 hdl
            go_enter Tryd.func72, Tryd.ntmps72
            go_wp2_with fail
            refine (HB.out _).mono ?_
            rintro e w2 ⟨rfl, hw⟩
            obtain rfl : w = w2 := hw.symm
            clear hw HB
            go_wp2
            go_ret
            exact ⟨by first | (rw [HE.out]; done) | (rw [HE.out]; rfl), rfl⟩
          · have n1 : ¬ (i : Int) + 1 < (s.size : Int) := by omega
            have HE : Hid (enB (rst s i) = false) := hid (by
              rw [hcons, rst_nil (by omega)]
              simp [enB, hdl])
            clear hcons h35 hdl hn
            go_enter Tryd.func72, Tryd.ntmps72
            go_wp2_with fail
            refine (HB.out _).mono ?_
            rintro e w2 ⟨rfl, hw⟩
            obtain rfl : w = w2 := hw.symm
            clear hw HB
            go_wp2
            go_ret
            exact ⟨by first | (rw [HE.out]; done) | (rw [HE.out]; rfl), rfl⟩
        · rw [decide_eq_false h35] at q35
          have HE : Hid (enB (rst s i) = false) := hid (by
            rw [hcons]
            simp [enB, hdl, h35])
          clear hcons h35 hdl
          go_enter Tryd.func72, Tryd.ntmps72
          go_wp2_with fail
          refine (HB.out _).mono ?_
          rintro e w2 ⟨rfl, hw⟩
          obtain rfl : w = w2 := hw.symm
          clear hw HB
          go_wp2
          go_ret
          exact ⟨by first | (rw [HE.out]; done) | (rw [HE.out]; rfl), rfl⟩
  · have l1 : ¬ (i : Int) < (s.size : Int) := by omega
    have l2 : (s.size : Int) ≤ (i : Int) := by omega
    have HE : Hid (enB (rst s i) = true) := hid (by rw [rst_nil (by omega)]; rfl)
    clear hlt hi
    go_enter Tryd.func72, Tryd.ntmps72
    go_wp2
    go_ret
    exact ⟨by first | (rw [HE.out]; done) | (rw [HE.out]; rfl), rfl⟩
set_option maxHeartbeats 4000000 in
theorem z_piece {b : Nat} {s : ByteArray} {p : Nat} {w : World} (h : Zr b s p w) : Calls Tryd.prog 53 #[.pointer (some ⟨b, 0, none⟩)] w fun e w' => e = .returned (.string (s.extract p (p + pcL (rst s p)))) ∧ Hid (Below w.heap.size w w') := by
  obtain ⟨y0, y1, -, -, -, -, -⟩ := h.cells
  have lM : (s.size : Int) ≤ 1099511627776 := by have := h.1.2; omega
  have HM := hid h.1.1
  have l0 : (0 : Int) ≤ (p : Int) := by omega
  have HE := hid (fun i hi => z_ends h i hi)
  obtain ⟨N, hN⟩ : ∃ N, p + pcL (rst s p) = N := ⟨_, rfl⟩
  have HP : Hid (∀ z, p ≤ z → z ≤ s.size → (∀ j, p ≤ j → j < z → enB (rst s j) = false) → enB (rst s z) = true → N = z) := fun z h1 h2 h3 h4 => by
    have := pcL_step (s := s) (p := p) (n := z - p) (by omega) (fun j hj => h3 (p + j) (by omega) (by omega)) (by rw [show p + (z - p) = z by omega]; exact h4)
    omega
  have HB : Hid (∀ n, Below w.heap.size w (w.drewN n)) := hid fun n => blw_drewN n (Below.refl _ _)
  rw [hN]
  clear h hN
  go_enter Tryd.func53, Tryd.ntmps53
  go_wp2
  go_loopw [3] (fun i wr => ∃ k : Nat, i = .int .i64 (k : Int) ∧ Hid (p ≤ k ∧ k ≤ s.size ∧ ∀ j, p ≤ j → j < k → enB (rst s j) = false) ∧ wr = w) (fun i _ => s.size - (intOf i).toNat)
  case atStart => exact ⟨p, rfl, ⟨Nat.le_refl _, HM.out, fun j h1 h2 => by omega⟩, rfl⟩
  case round =>
    obtain ⟨k, rfl, HJ, hw⟩ := hrel
    obtain rfl : w = wr := hw.symm
    clear hw
    have HC := hid (HE.out k HJ.out.2.1)
    have hee : enB (rst s k) = true ∨ enB (rst s k) = false := by cases enB (rst s k) <;> simp
    rcases hee with he | he
    · rw [he] at HC
      have HN : Hid (N = k) := hid (HP.out k HJ.out.1 HJ.out.2.1 HJ.out.2.2 he)
      have l1 : (p : Int) ≤ (k : Int) := by have := HJ.out.1; omega
      have l2 : (k : Int) ≤ (s.size : Int) := by have := HJ.out.2.1; omega
      clear he HJ
      go_wp2_with fail
      refine HC.out.mono ?_
      rintro e w2 ⟨rfl, hw⟩
      obtain rfl : w = w2 := hw.symm
      clear hw HC
      go_wp2
      go_quiet (fail)
      go_wp2
      go_ret
      exact ⟨by first | (rw [HN.out]; done) | (rw [HN.out]; rfl), HB.out _⟩
    · rw [he] at HC
      have hks : k < s.size := by
        rcases Nat.lt_or_ge k s.size with h | h
        · exact h
        · have : k = s.size := by have := HJ.out.2.1; omega
          subst this
          rw [enB_size] at he; cases he
      have HK : Hid (p ≤ k + 1 ∧ k + 1 ≤ s.size ∧ ∀ j, p ≤ j → j < k + 1 → enB (rst s j) = false) := hid ⟨by have := HJ.out.1; omega, hks, fun j h1 h2 => by
        by_cases e : j = k
        · subst e; exact he
        · exact HJ.out.2.2 j h1 (by omega)⟩
      have l1 : (k : Int) < (s.size : Int) := by omega
      clear he HJ
      go_wp2_with fail
      refine HC.out.mono ?_
      rintro e w2 ⟨rfl, hw⟩
      obtain rfl : w = w2 := hw.symm
      clear hw HC
      go_wp2
      go_roundw
      case rel => exact ⟨k + 1, by go_num, HK, trivial⟩
      case measure => simp [intOf]; omega
end Go.Proofs.YtfobiknbjijphaaDoor
