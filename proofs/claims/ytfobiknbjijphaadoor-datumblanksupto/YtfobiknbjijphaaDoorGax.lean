/-
  The document's reader: ends, piece, number.
  The document's reader: a piece's number.
-/
import Derived.Test.YtfobiknbjijphaaDoorGaw
import Derived.Test.YtfobiknbjijphaaDoorGap
namespace Go.Proofs.YtfobiknbjijphaaDoor
open Go.RowKit
set_option linter.unusedVariables false
set_option linter.unusedSimpArgs false

set_option maxHeartbeats 4000000 in
theorem z_ends {b : Nat} {s : ByteArray} {p : Nat} {w : World} (h : Zr b s p w) (i : Nat) (hi : i ≤ s.size) : Calls Tryd.prog 72 #[.pointer (some ⟨b, 0, none⟩), .int .i64 (i : Int)] w fun e w' => e = .returned (.bool (enB (rst s i))) ∧ w' = w := by
  obtain ⟨y0, -, -, -, -, -, -⟩ := h.cells
  have lM : (s.size : Int) ≤ 1099511627776 := by have := h.1.2; omega
  have l0 : (0 : Int) ≤ (i : Int) := by omega
  clear h
  by_cases hlt : i < s.size
  · have l1 : (i : Int) < (s.size : Int) := by omega
    obtain ⟨c, hc⟩ : ∃ c, s[i]'hlt = c := ⟨_, rfl⟩
    have hcons : rst s i = c :: rst s (i + 1) := by rw [rst_cons hlt, hc]
    have HB := hid (fun V => z_blank c V)
    have q40 : ((c.toNat : Int) == 40) = decide (c = 40) := @u8b c 40 (by decide)
    have q41 : ((c.toNat : Int) == 41) = decide (c = 41) := @u8b c 41 (by decide)
    have q34 : ((c.toNat : Int) == 34) = decide (c = 34) := @u8b c 34 (by decide)
    have q39 : ((c.toNat : Int) == 39) = decide (c = 39) := @u8b c 39 (by decide)
    have q59 : ((c.toNat : Int) == 59) = decide (c = 59) := @u8b c 59 (by decide)
    have q35 : ((c.toNat : Int) == 35) = decide (c = 35) := @u8b c 35 (by decide)
    rcases Bool.eq_false_or_eq_true (blB c) with hbl | hbl
    · rw [hbl] at HB
      have HE : Hid (enB (rst s i) = true) := hid (by rw [hcons]; simp [enB, dlB, hbl])
      clear hcons hbl q40 q41 q34 q39 q59 q35
      go_enter Tryd.func72, Tryd.ntmps72
      go_wp2_with fail
      refine (HB.out _).mono ?_
      rintro e w2 ⟨rfl, hw⟩
      obtain rfl : w = w2 := hw.symm
      clear hw HB
      go_wp2
      go_ret
      exact ⟨by first | (rw [HE.out]; done) | (rw [HE.out]; rfl), rfl⟩
    · rw [hbl] at HB
      by_cases hd : c = 40 ∨ c = 41 ∨ c = 34 ∨ c = 39 ∨ c = 59
      · have HE : Hid (enB (rst s i) = true) := hid (by
          rw [hcons]
          rcases hd with rfl | rfl | rfl | rfl | rfl <;> simp [enB, dlB])
        clear hcons hbl
        by_cases h40 : c = 40 <;> by_cases h41 : c = 41 <;> by_cases h34 : c = 34 <;> by_cases h39 : c = 39 <;> by_cases h59 : c = 59
        all_goals
          first
          | (exfalso; rcases hd with h | h | h | h | h <;> contradiction)
          | (try rw [decide_eq_true h40] at q40
             try rw [decide_eq_false h40] at q40
             try rw [decide_eq_true h41] at q41
             try rw [decide_eq_false h41] at q41
             try rw [decide_eq_true h34] at q34
             try rw [decide_eq_false h34] at q34
             try rw [decide_eq_true h39] at q39
             try rw [decide_eq_false h39] at q39
             try rw [decide_eq_true h59] at q59
             try rw [decide_eq_false h59] at q59
             clear h40 h41 h34 h39 h59 hd q35
             go_enter Tryd.func72, Tryd.ntmps72
             go_wp2_with fail
             refine (HB.out _).mono ?_
             rintro e w2 ⟨rfl, hw⟩
             obtain rfl : w = w2 := hw.symm
             clear hw HB
             go_wp2
             go_ret
             exact ⟨by first | (rw [HE.out]; done) | (rw [HE.out]; rfl), rfl⟩)
      · have h40 : c ≠ 40 := fun e => hd (.inl e)
        have h41 : c ≠ 41 := fun e => hd (.inr (.inl e))
        have h34 : c ≠ 34 := fun e => hd (.inr (.inr (.inl e)))
        have h39 : c ≠ 39 := fun e => hd (.inr (.inr (.inr (.inl e))))
        have h59 : c ≠ 59 := fun e => hd (.inr (.inr (.inr (.inr e))))
        have hdl : dlB c = false := by simp [dlB, h40, h41, h34, h39, h59, hbl]
        rw [decide_eq_false h40] at q40
        rw [decide_eq_false h41] at q41
        rw [decide_eq_false h34] at q34
        rw [decide_eq_false h39] at q39
        rw [decide_eq_false h59] at q59
        clear h40 h41 h34 h39 h59 hd hbl
        by_cases h35 : c = 35
        · rw [decide_eq_true h35] at q35
          by_cases hn : i + 1 < s.size
          · have n1 : (i : Int) + 1 < (s.size : Int) := by omega
            obtain ⟨x, hx⟩ : ∃ x, s[i + 1]'hn = x := ⟨_, rfl⟩
            have HE : Hid (enB (rst s i) = ((x.toNat : Int) == 40)) := hid (by
              have : ((x.toNat : Int) == 40) = decide (x = 40) := @u8b x 40 (by decide)
              rw [this, hcons, rst_cons hn, hx]
              show (dlB c || (c == 35 && (some x == some 40))) = decide (x = 40)
              rw [hdl, h35, Bool.eq_iff_iff]
              simp)
            clear hcons h35 hdl
            go_enter Tryd.func72, Tryd.ntmps72
            go_wp2_with fail
            refine (HB.out _).mono ?_
            rintro e w2 ⟨rfl, hw⟩
            obtain rfl : w = w2 := hw.symm
            clear hw HB
            go_wp2
            go_ret
            exact ⟨by first | (rw [HE.out]; done) | (rw [HE.out]; rfl), rfl⟩
          · have n1 : ¬ (i : Int) + 1 < (s.size : Int) := by omega
            have HE : Hid (enB (rst s i) = false) := hid (by
              rw [hcons, rst_nil (by omega)]
              simp [enB, hdl])
            clear hcons h35 hdl hn
            go_enter Tryd.func72, Tryd.ntmps72
            go_wp2_with fail
            refine (HB.out _).mono ?_
            rintro e w2 ⟨rfl, hw⟩
            obtain rfl : w = w2 := hw.symm
            clear hw HB
            go_wp2
            go_ret
            exact ⟨by first | (rw [HE.out]; done) | (rw [HE.out]; rfl), rfl⟩
        · rw [decide_eq_false h35] at q35
          have HE : Hid (enB (rst s i) = false) := hid (by
            rw [hcons]
            simp [enB, hdl, h35])
          clear hcons h35 hdl
          go_enter Tryd.func72, Tryd.ntmps72
          go_wp2_with fail
          refine (HB.out _).mono ?_
          rintro e w2 ⟨rfl, hw⟩
          obtain rfl : w = w2 := hw.symm
          clear hw HB
          go_wp2
          go_ret
          exact ⟨by first | (rw [HE.out]; done) | (rw [HE.out]; rfl), rfl⟩
  · have l1 : ¬ (i : Int) < (s.size : Int) := by omega
    have l2 : (s.size : Int) ≤ (i : Int) := by omega
    have HE : Hid (enB (rst s i) = true) := hid (by rw [rst_nil (by omega)]; rfl)
    clear hlt hi
    go_enter Tryd.func72, Tryd.ntmps72
    go_wp2
    go_ret
    exact ⟨by first | (rw [HE.out]; done) | (rw [HE.out]; rfl), rfl⟩
set_option maxHeartbeats 4000000 in
theorem z_piece {b : Nat} {s : ByteArray} {p : Nat} {w : World} (h : Zr b s p w) : Calls Tryd.prog 53 #[.pointer (some ⟨b, 0, none⟩)] w fun e w' => e = .returned (.string (s.extract p (p + pcL (rst s p)))) ∧ Hid (Below w.heap.size w w') := by
  obtain ⟨y0, y1, -, -, -, -, -⟩ := h.cells
  have lM : (s.size : Int) ≤ 1099511627776 := by have := h.1.2; omega
  have HM := hid h.1.1
  have l0 : (0 : Int) ≤ (p : Int) := by omega
  have HE := hid (fun i hi => z_ends h i hi)
  obtain ⟨N, hN⟩ : ∃ N, p + pcL (rst s p) = N := ⟨_, rfl⟩
  have HP : Hid (∀ z, p ≤ z → z ≤ s.size → (∀ j, p ≤ j → j < z → enB (rst s j) = false) → enB (rst s z) = true → N = z) := fun z h1 h2 h3 h4 => by
    have := pcL_step (s := s) (p := p) (n := z - p) (by omega) (fun j hj => h3 (p + j) (by omega) (by omega)) (by rw [show p + (z - p) = z by omega]; exact h4)
    omega
  have HB : Hid (∀ n, Below w.heap.size w (w.drewN n)) := hid fun n => blw_drewN n (Below.refl _ _)
  rw [hN]
  clear h hN
  go_enter Tryd.func53, Tryd.ntmps53
  go_wp2
  go_loopw [3] (fun i wr => ∃ k : Nat, i = .int .i64 (k : Int) ∧ Hid (p ≤ k ∧ k ≤ s.size ∧ ∀ j, p ≤ j → j < k → enB (rst s j) = false) ∧ wr = w) (fun i _ => s.size - (intOf i).toNat)
  case atStart => exact ⟨p, rfl, ⟨Nat.le_refl _, HM.out, fun j h1 h2 => by omega⟩, rfl⟩
  case round =>
    obtain ⟨k, rfl, HJ, hw⟩ := hrel
    obtain rfl : w = wr := hw.symm
    clear hw
    have HC := hid (HE.out k HJ.out.2.1)
    have hee : enB (rst s k) = true ∨ enB (rst s k) = false := by cases enB (rst s k) <;> simp
    rcases hee with he | he
    · rw [he] at HC
      have HN : Hid (N = k) := hid (HP.out k HJ.out.1 HJ.out.2.1 HJ.out.2.2 he)
      have l1 : (p : Int) ≤ (k : Int) := by have := HJ.out.1; omega
      have l2 : (k : Int) ≤ (s.size : Int) := by have := HJ.out.2.1; omega
      clear he HJ
      go_wp2_with fail
      refine HC.out.mono ?_
      rintro e w2 ⟨rfl, hw⟩
      obtain rfl : w = w2 := hw.symm
      clear hw HC
      go_wp2
      go_quiet (fail)
      go_wp2
      go_ret
      exact ⟨by first | (rw [HN.out]; done) | (rw [HN.out]; rfl), HB.out _⟩
    · rw [he] at HC
      have hks : k < s.size := by
        rcases Nat.lt_or_ge k s.size with h | h
        · exact h
        · have : k = s.size := by have := HJ.out.2.1; omega
          subst this
          rw [enB_size] at he; cases he
      have HK : Hid (p ≤ k + 1 ∧ k + 1 ≤ s.size ∧ ∀ j, p ≤ j → j < k + 1 → enB (rst s j) = false) := hid ⟨by have := HJ.out.1; omega, hks, fun j h1 h2 => by
        by_cases e : j = k
        · subst e; exact he
        · exact HJ.out.2.2 j h1 (by omega)⟩
      have l1 : (k : Int) < (s.size : Int) := by omega
      clear he HJ
      go_wp2_with fail
      refine HC.out.mono ?_
      rintro e w2 ⟨rfl, hw⟩
      obtain rfl : w = w2 := hw.symm
      clear hw HC
      go_wp2
      go_roundw
      case rel => exact ⟨k + 1, by go_num, HK, trivial⟩
      case measure => simp [intOf]; omega
end Go.Proofs.YtfobiknbjijphaaDoor

namespace Go.Proofs.YtfobiknbjijphaaDoor
open Go.RowKit
set_option linter.unusedVariables false
set_option linter.unusedSimpArgs false

/-- What number answers. -/
def NuO (l : List UInt8) (e : Ending) : Prop :=
  (¬ numP l ∧ e = .returned (.tuple #[.string ⟨#[]⟩, .int .i64 0])) ∨ (numP l ∧ ¬ (stp (dgT l)).length ≤ 200 ∧ e = .returned (.tuple #[.string ⟨#[]⟩, .int .i64 1])) ∨ (numP l ∧ (stp (dgT l)).length ≤ 200 ∧ e = .returned (.tuple #[.string (ba (cnL l)), .int .i64 2]))
theorem stp_zero (r : List UInt8) : stp (48 :: r) = stp r := by simp [stp, List.dropWhile]
theorem stp_ne {c : UInt8} {r : List UInt8} (h : c ≠ 48) : stp (c :: r) = c :: r := by
  have h2 : (c == 48) = false := by simpa using h
  simp [stp, List.dropWhile, h2]
def strOf : Value → Nat
  | .string t => t.size
  | _ => 0
theorem data_ba {T : ByteArray} {l : List UInt8} (h : T.data.toList = l) : T = ba l := by
  rw [← h, ba_data]
/-- Where the stripping of noughts ends. -/
theorem strip_end {T : ByteArray} {l : List UInt8} (h : stp T.data.toList = stp (dgT l)) (h0 : 0 < T.size) (h1 : T.size = 1 ∨ T[0] ≠ 48) :
    (stp (dgT l) = [] ∧ T = ⟨#[48]⟩) ∨ (stp (dgT l) ≠ [] ∧ T.data.toList = stp (dgT l) ∧ (T.toList == [48]) = false) := by
  have hc : T.data.toList = T[0] :: T.data.toList.tail := by
    have hl : 0 < T.data.toList.length := by rw [dlen]; exact h0
    cases hd : T.data.toList with
    | nil => rw [hd] at hl; simp at hl
    | cons x r =>
      have : T[0] = x := by
        show T.data[0] = x
        rw [← Array.getElem_toList]
        simp [hd]
      rw [this]; rfl
  by_cases h48 : T[0] = 48
  · have hs : T.size = 1 := by rcases h1 with h | h; exact h; exact absurd h48 h
    have hr : T.data.toList.tail = [] := by
      apply List.eq_nil_of_length_eq_zero
      rw [List.length_tail, dlen]; omega
    rw [hr, h48] at hc
    refine .inl ⟨by rw [← h, hc]; rfl, ?_⟩
    have := data_ba hc
    rw [this]; rfl
  · have hst : stp T.data.toList = T.data.toList := by
      rw [hc, stp_ne h48]
    refine .inr ⟨?_, by rw [← hst]; exact h, ?_⟩
    · rw [← h, hst, hc]; simp
    · rw [list_eq, hc]
      simp [h48]
set_option maxHeartbeats 8000000 in
theorem z_number (s : ByteArray) (w : World) (h0 : 0 < s.size) (hs : s.size ≤ 1099511627776) : Calls Tryd.prog 54 #[.string s] w fun e w' => NuO s.data.toList e ∧ w' = w := by
  obtain ⟨l, hl⟩ : ∃ l, s.data.toList = l := ⟨_, rfl⟩
  obtain ⟨c, hc⟩ : ∃ c, s[0]'h0 = c := ⟨_, rfl⟩
  have hcl : l = c :: (rst s 1) := by
    rw [← hl, ← hc]
    exact rst_cons h0
  have HD : Hid (∀ (c : UInt8) V, Calls Tryd.prog 57 #[.int .u8 (c.toNat : Int)] V fun e w' => e = .returned (.bool (dgB c)) ∧ w' = V) := hid fun c V => z_digit c V
  rw [hl]
  have l0 : (0 : Int) < (s.size : Int) := by omega
  have lM : (s.size : Int) ≤ 1099511627776 := by omega
  have lM1 : (1 : Int) ≤ (s.size : Int) := by omega
  have q45 : ((c.toNat : Int) == 45) = decide (c = 45) := @u8b c 45 (by decide)
  have q43 : ((c.toNat : Int) == 43) = decide (c = 43) := @u8b c 43 (by decide)
  have hway : ∃ (E : ByteArray) (ng : Bool), Hid (E.data.toList = dgT l ∧ ng = decide (l.head? = some 45) ∧ E.size ≤ 1099511627776) ∧ ((ng = true ∧ c = 45 ∧ s.extract 1 s.size = E) ∨ (ng = false ∧ c = 43 ∧ s.extract 1 s.size = E) ∨ (ng = false ∧ c ≠ 45 ∧ c ≠ 43 ∧ s = E)) := by
    have hE1 : (s.extract 1 s.size).data.toList = rst s 1 := ext_all s 1
    by_cases h45 : c = 45
    · exact ⟨_, true, hid ⟨by rw [hE1, hcl, h45]; rfl, by rw [hcl, h45]; rfl, by simp; omega⟩, .inl ⟨rfl, h45, rfl⟩⟩
    · by_cases h43 : c = 43
      · exact ⟨_, false, hid ⟨by rw [hE1, hcl, h43]; rfl, by rw [hcl, h43]; rfl, by simp; omega⟩, .inr (.inl ⟨rfl, h43, rfl⟩)⟩
      · refine ⟨s, false, hid ⟨?_, ?_, hs⟩, .inr (.inr ⟨rfl, h45, h43, rfl⟩)⟩
        · rw [hl, hcl]
          have hsg : sgnB c = false := by
            unfold sgnB
            have e1 : ¬ c.toNat = 43 := fun e => h43 (UInt8.toNat_inj.1 e)
            have e2 : ¬ c.toNat = 45 := fun e => h45 (UInt8.toNat_inj.1 e)
            simp [e1, e2]
          simp [dgT, hsg]
        · rw [hcl]; simp [h45]
  obtain ⟨E, ng, HE, hw⟩ := hway
  have HN : Hid (E.size = 0 → ¬ numP l) := hid fun h hn => hn.1 (by
    rw [← HE.out.1]
    apply List.eq_nil_of_length_eq_zero
    rw [dlen]; exact h)
  clear hcl hl hs
  rcases hw with ⟨hng, hc1, hE⟩ | ⟨hng, hc1, hE⟩ | ⟨hng, hc1, hc2, hE⟩
  · subst hng
    rw [decide_eq_true hc1] at q45
    clear hc1 q43
    by_cases hE0 : 0 < E.size
    · have he := notEmpty_of E hE0
      have HEs : Hid (0 < E.size) := hE0
      go_enter Tryd.func54, Tryd.ntmps54
      go_wp2_with fail
      go_loopw [5] (fun i wr => ∃ k : Nat, i = .int .i64 (k : Int) ∧ k ≤ E.size ∧ Hid (∀ j (h : j < E.size), j < k → dgB E[j] = true) ∧ wr = w) (fun i _ => E.size - (intOf i).toNat)
      case atStart => exact ⟨0, rfl, Nat.zero_le _, fun j h1 h2 => absurd h2 (Nat.not_lt_zero _), rfl⟩
      case round =>
        obtain ⟨k, rfl, hk, HK, hw⟩ := hrel
        obtain rfl : w = wr := hw.symm
        clear hw
        by_cases hlt : k < E.size
        · have m0 : (0 : Int) ≤ (k : Int) := by omega
          have m1 : (k : Int) < (E.size : Int) := by omega
          have mE : (E.size : Int) ≤ 1099511627776 := by have := HE.out.2.2; omega
          obtain ⟨x, hx⟩ : ∃ x, E[k]'hlt = x := ⟨_, rfl⟩
          have HC := hid (fun V => HD.out x V)
          rcases Bool.eq_false_or_eq_true (dgB x) with hg | hg
          · rw [hg] at HC
            have HK2 : Hid (∀ j (h : j < E.size), j < k + 1 → dgB E[j] = true) := hid fun j h1 h2 => by
              by_cases e : j = k
              · subst e; rw [hx]; exact hg
              · exact HK.out j h1 (by omega)
            clear HK hg
            go_wp2_with fail
            refine (HC.out _).mono ?_
            rintro e w2 ⟨rfl, hw⟩
            obtain rfl : w = w2 := hw.symm
            clear hw HC
            go_wp2
            go_roundw
            case rel => exact ⟨k + 1, by go_num, by omega, HK2, trivial⟩
            case measure => simp [intOf]; omega
          · rw [hg] at HC
            have HF : Hid (¬ numP l) := hid fun hn => by
              have := hn.2 x (by
                rw [← HE.out.1, ← hx]
                have : E[k] = E.data.toList[k]'(by rw [dlen]; exact hlt) := rfl
                rw [this]
                exact List.getElem_mem _)
              rw [hg] at this; cases this
            clear HK hg
            go_wp2_with fail
            refine (HC.out _).mono ?_
            rintro e w2 ⟨rfl, hw⟩
            obtain rfl : w = w2 := hw.symm
            clear hw HC
            go_wp2
            go_ret2
            exact ⟨.inl ⟨HF.out, rfl⟩, rfl⟩
        · have HP : Hid (numP l) := hid ⟨fun e => by
            have := congrArg List.length HE.out.1
            rw [e, dlen] at this
            have h2 := HEs.out
            have h3 : E.size = 0 := this
            omega, fun x hx => by
            rw [← HE.out.1] at hx
            obtain ⟨j, hj, rfl⟩ := List.getElem_of_mem hx
            rw [dlen] at hj
            exact HK.out j hj (by omega)⟩
          have m1 : ¬ (k : Int) < (E.size : Int) := by omega
          clear hlt HK
          go_wp2_with fail
          go_loopw [0] (fun v wr => ∃ T, v = .string T ∧ Hid (0 < T.size ∧ T.size ≤ 1099511627776 ∧ stp T.data.toList = stp (dgT l)) ∧ wr = w) (fun v _ => strOf v)
          case atStart => exact ⟨E, rfl, ⟨HEs.out, HE.out.2.2, by rw [HE.out.1]⟩, rfl⟩
          case round =>
            obtain ⟨T, rfl, HT, hw⟩ := hrel
            obtain rfl : w = wr := hw.symm
            clear hw he hE0 hE
            have t0 := HT.out.1
            have t1 : (0 : Int) < (T.size : Int) := by omega
            have t2 : (1 : Int) ≤ (T.size : Int) := by omega
            have t3 : (T.size : Int) ≤ 1099511627776 := by have := HT.out.2.1; omega
            obtain ⟨x, hx⟩ : ∃ x, T[0]'t0 = x := ⟨_, rfl⟩
            have hTc : T.data.toList = x :: rst T 1 := by rw [← hx]; exact rst_cons t0
            have q48 : ((x.toNat : Int) == 48) = decide (x = 48) := @u8b x 48 (by decide)
            by_cases hcont : 1 < T.size ∧ x = 48
            · have u1 : (1 : Int) < (T.size : Int) := by omega
              have u2 : 1 < T.size := hcont.1
              rw [decide_eq_true hcont.2] at q48
              have HT2 : Hid (0 < (T.extract 1 T.size).size ∧ (T.extract 1 T.size).size ≤ 1099511627776 ∧ stp (T.extract 1 T.size).data.toList = stp (dgT l)) := hid ⟨by simp; omega, by simp; have := HT.out.2.1; omega, by rw [ext_all, ← HT.out.2.2, hTc, hcont.2, stp_zero]⟩
              clear HT hTc hcont
              go_wp2
              go_roundw
              case rel => exact ⟨_, rfl, HT2, trivial⟩
              case measure => simp [strOf]; omega
            · have HEnd := hid (strip_end HT.out.2.2 t0 (by
                by_cases h1 : T.size = 1
                · exact .inl h1
                · exact .inr (by rw [hx]; exact fun e => hcont ⟨by omega, e⟩)))
              have HX : Hid ((1 < T.size → x ≠ 48)) := hid fun h1 e => hcont ⟨h1, e⟩
              clear hTc hcont
              rcases HEnd.out with ⟨g1, g2⟩ | ⟨g1, g2, g3⟩
              · subst g2
                have HR : Hid (cnL l = [48] ∧ (stp (dgT l)).length ≤ 200) := hid ⟨by unfold cnL; rw [if_pos g1], by rw [g1]; exact Nat.zero_le _⟩
                clear HT HEnd g1 t1 t2 t3 q48 HX
                go_wp2
                go_ret2
                exact ⟨.inr (.inr ⟨HP.out, HR.out.2, by rw [HR.out.1]; rfl⟩), rfl⟩
              · have hTl : T.size = (stp (dgT l)).length := by rw [← dlen, g2]
                have g4 : (T.toList != [48]) = true := by rw [bne, g3]; rfl
                have HTb : Hid (T = ba (stp (dgT l))) := hid (data_ba g2)
                have HR : Hid (cnL l = if l.head? = some 45 then 45 :: stp (dgT l) else stp (dgT l)) := hid (by unfold cnL; rw [if_neg g1])
                have HTl := hid hTl
                have hZ1 : (⟨#[45]⟩ : ByteArray).size = 1 := rfl
                by_cases h200 : 200 < T.size
                · have u3 : (200 : Int) < (T.size : Int) := by omega
                  have HF : Hid (¬ (stp (dgT l)).length ≤ 200) := hid (by omega)
                  by_cases h1 : 1 < T.size
                  · have u1 : (1 : Int) < (T.size : Int) := by omega
                    rw [decide_eq_false (HX.out h1)] at q48
                    clear HT HEnd g1 g2 hTl
                    go_wp2
                    go_ret2
                    exact ⟨.inr (.inl ⟨HP.out, HF.out, rfl⟩), rfl⟩
                  · omega
                · have u3 : ¬ (200 : Int) < (T.size : Int) := by omega
                  have HF : Hid ((stp (dgT l)).length ≤ 200) := hid (by omega)
                  by_cases h1 : 1 < T.size
                  · have u1 : (1 : Int) < (T.size : Int) := by omega
                    rw [decide_eq_false (HX.out h1)] at q48
                    clear HT HEnd g1 g2 hTl
                    go_wp2_with fail
                    all_goals first | (exfalso; clear HD HE HN HP HF HR HTb HX HTl HK; omega) | (exfalso; clear HD HE HN HP HF HR HTb HX HTl; omega) | skip
                    go_ret2
                    exact ⟨.inr (.inr ⟨HP.out, HF.out, by rw [HR.out, if_pos (of_decide_eq_true HE.out.2.1.symm), HTb.out]; exact congrArg (fun z => Ending.returned (.tuple #[.string z, .int .i64 2])) (ByteArray.ext (by simp [ba]))⟩), rfl⟩
                  · have u1 : ¬ (1 : Int) < (T.size : Int) := by omega
                    clear HT HEnd g1 g2 hTl q48
                    go_wp2_with fail
                    all_goals first | (exfalso; clear HD HE HN HP HF HR HTb HX HTl HK; omega) | (exfalso; clear HD HE HN HP HF HR HTb HX HTl; omega) | skip
                    go_ret2
                    exact ⟨.inr (.inr ⟨HP.out, HF.out, by rw [HR.out, if_pos (of_decide_eq_true HE.out.2.1.symm), HTb.out]; exact congrArg (fun z => Ending.returned (.tuple #[.string z, .int .i64 2])) (ByteArray.ext (by simp [ba]))⟩), rfl⟩
    · have he := isEmpty_of E hE0
      have HF : Hid (¬ numP l) := hid (HN.out (by omega))
      go_enter Tryd.func54, Tryd.ntmps54
      go_wp2_with fail
      go_ret2
      exact ⟨.inl ⟨HF.out, rfl⟩, rfl⟩
  · subst hng
    rw [decide_eq_true hc1] at q43
    have h45 : c ≠ 45 := by rw [hc1]; decide
    rw [decide_eq_false h45] at q45
    clear hc1 h45
    by_cases hE0 : 0 < E.size
    · have he := notEmpty_of E hE0
      have HEs : Hid (0 < E.size) := hE0
      go_enter Tryd.func54, Tryd.ntmps54
      go_wp2_with fail
      go_loopw [5] (fun i wr => ∃ k : Nat, i = .int .i64 (k : Int) ∧ k ≤ E.size ∧ Hid (∀ j (h : j < E.size), j < k → dgB E[j] = true) ∧ wr = w) (fun i _ => E.size - (intOf i).toNat)
      case atStart => exact ⟨0, rfl, Nat.zero_le _, fun j h1 h2 => absurd h2 (Nat.not_lt_zero _), rfl⟩
      case round =>
        obtain ⟨k, rfl, hk, HK, hw⟩ := hrel
        obtain rfl : w = wr := hw.symm
        clear hw
        by_cases hlt : k < E.size
        · have m0 : (0 : Int) ≤ (k : Int) := by omega
          have m1 : (k : Int) < (E.size : Int) := by omega
          have mE : (E.size : Int) ≤ 1099511627776 := by have := HE.out.2.2; omega
          obtain ⟨x, hx⟩ : ∃ x, E[k]'hlt = x := ⟨_, rfl⟩
          have HC := hid (fun V => HD.out x V)
          rcases Bool.eq_false_or_eq_true (dgB x) with hg | hg
          · rw [hg] at HC
            have HK2 : Hid (∀ j (h : j < E.size), j < k + 1 → dgB E[j] = true) := hid fun j h1 h2 => by
              by_cases e : j = k
              · subst e; rw [hx]; exact hg
              · exact HK.out j h1 (by omega)
            clear HK hg
            go_wp2_with fail
            refine (HC.out _).mono ?_
            rintro e w2 ⟨rfl, hw⟩
            obtain rfl : w = w2 := hw.symm
            clear hw HC
            go_wp2
            go_roundw
            case rel => exact ⟨k + 1, by go_num, by omega, HK2, trivial⟩
            case measure => simp [intOf]; omega
          · rw [hg] at HC
            have HF : Hid (¬ numP l) := hid fun hn => by
              have := hn.2 x (by
                rw [← HE.out.1, ← hx]
                have : E[k] = E.data.toList[k]'(by rw [dlen]; exact hlt) := rfl
                rw [this]
                exact List.getElem_mem _)
              rw [hg] at this; cases this
            clear HK hg
            go_wp2_with fail
            refine (HC.out _).mono ?_
            rintro e w2 ⟨rfl, hw⟩
            obtain rfl : w = w2 := hw.symm
            clear hw HC
            go_wp2
            go_ret2
            exact ⟨.inl ⟨HF.out, rfl⟩, rfl⟩
        · have HP : Hid (numP l) := hid ⟨fun e => by
            have := congrArg List.length HE.out.1
            rw [e, dlen] at this
            have h2 := HEs.out
            have h3 : E.size = 0 := this
            omega, fun x hx => by
            rw [← HE.out.1] at hx
            obtain ⟨j, hj, rfl⟩ := List.getElem_of_mem hx
            rw [dlen] at hj
            exact HK.out j hj (by omega)⟩
          have m1 : ¬ (k : Int) < (E.size : Int) := by omega
          clear hlt HK
          go_wp2_with fail
          go_loopw [0] (fun v wr => ∃ T, v = .string T ∧ Hid (0 < T.size ∧ T.size ≤ 1099511627776 ∧ stp T.data.toList = stp (dgT l)) ∧ wr = w) (fun v _ => strOf v)
          case atStart => exact ⟨E, rfl, ⟨HEs.out, HE.out.2.2, by rw [HE.out.1]⟩, rfl⟩
          case round =>
            obtain ⟨T, rfl, HT, hw⟩ := hrel
            obtain rfl : w = wr := hw.symm
            clear hw he hE0 hE
            have t0 := HT.out.1
            have t1 : (0 : Int) < (T.size : Int) := by omega
            have t2 : (1 : Int) ≤ (T.size : Int) := by omega
            have t3 : (T.size : Int) ≤ 1099511627776 := by have := HT.out.2.1; omega
            obtain ⟨x, hx⟩ : ∃ x, T[0]'t0 = x := ⟨_, rfl⟩
            have hTc : T.data.toList = x :: rst T 1 := by rw [← hx]; exact rst_cons t0
            have q48 : ((x.toNat : Int) == 48) = decide (x = 48) := @u8b x 48 (by decide)
            by_cases hcont : 1 < T.size ∧ x = 48
            · have u1 : (1 : Int) < (T.size : Int) := by omega
              have u2 : 1 < T.size := hcont.1
              rw [decide_eq_true hcont.2] at q48
              have HT2 : Hid (0 < (T.extract 1 T.size).size ∧ (T.extract 1 T.size).size ≤ 1099511627776 ∧ stp (T.extract 1 T.size).data.toList = stp (dgT l)) := hid ⟨by simp; omega, by simp; have := HT.out.2.1; omega, by rw [ext_all, ← HT.out.2.2, hTc, hcont.2, stp_zero]⟩
              clear HT hTc hcont
              go_wp2
              go_roundw
              case rel => exact ⟨_, rfl, HT2, trivial⟩
              case measure => simp [strOf]; omega
            · have HEnd := hid (strip_end HT.out.2.2 t0 (by
                by_cases h1 : T.size = 1
                · exact .inl h1
                · exact .inr (by rw [hx]; exact fun e => hcont ⟨by omega, e⟩)))
              have HX : Hid ((1 < T.size → x ≠ 48)) := hid fun h1 e => hcont ⟨h1, e⟩
              clear hTc hcont
              rcases HEnd.out with ⟨g1, g2⟩ | ⟨g1, g2, g3⟩
              · subst g2
                have HR : Hid (cnL l = [48] ∧ (stp (dgT l)).length ≤ 200) := hid ⟨by unfold cnL; rw [if_pos g1], by rw [g1]; exact Nat.zero_le _⟩
                clear HT HEnd g1 t1 t2 t3 q48 HX
                go_wp2
                go_ret2
                exact ⟨.inr (.inr ⟨HP.out, HR.out.2, by rw [HR.out.1]; rfl⟩), rfl⟩
              · have hTl : T.size = (stp (dgT l)).length := by rw [← dlen, g2]
                have g4 : (T.toList != [48]) = true := by rw [bne, g3]; rfl
                have HTb : Hid (T = ba (stp (dgT l))) := hid (data_ba g2)
                have HR : Hid (cnL l = if l.head? = some 45 then 45 :: stp (dgT l) else stp (dgT l)) := hid (by unfold cnL; rw [if_neg g1])
                have HTl := hid hTl
                by_cases h200 : 200 < T.size
                · have u3 : (200 : Int) < (T.size : Int) := by omega
                  have HF : Hid (¬ (stp (dgT l)).length ≤ 200) := hid (by omega)
                  by_cases h1 : 1 < T.size
                  · have u1 : (1 : Int) < (T.size : Int) := by omega
                    rw [decide_eq_false (HX.out h1)] at q48
                    clear HT HEnd g1 g2 hTl
                    go_wp2
                    go_ret2
                    exact ⟨.inr (.inl ⟨HP.out, HF.out, rfl⟩), rfl⟩
                  · omega
                · have u3 : ¬ (200 : Int) < (T.size : Int) := by omega
                  have HF : Hid ((stp (dgT l)).length ≤ 200) := hid (by omega)
                  by_cases h1 : 1 < T.size
                  · have u1 : (1 : Int) < (T.size : Int) := by omega
                    rw [decide_eq_false (HX.out h1)] at q48
                    clear HT HEnd g1 g2 hTl
                    go_wp2
                    go_ret2
                    exact ⟨.inr (.inr ⟨HP.out, HF.out, by rw [HR.out, if_neg (of_decide_eq_false HE.out.2.1.symm), ← HTb.out]; rfl⟩), rfl⟩
                  · have u1 : ¬ (1 : Int) < (T.size : Int) := by omega
                    clear HT HEnd g1 g2 hTl q48
                    go_wp2
                    go_ret2
                    exact ⟨.inr (.inr ⟨HP.out, HF.out, by rw [HR.out, if_neg (of_decide_eq_false HE.out.2.1.symm), ← HTb.out]; rfl⟩), rfl⟩
    · have he := isEmpty_of E hE0
      have HF : Hid (¬ numP l) := hid (HN.out (by omega))
      go_enter Tryd.func54, Tryd.ntmps54
      go_wp2_with fail
      go_ret2
      exact ⟨.inl ⟨HF.out, rfl⟩, rfl⟩
  · subst hng
    rw [decide_eq_false hc2] at q43
    rw [decide_eq_false hc1] at q45
    subst hE
    have hE : True := trivial
    clear hc1 hc2
    by_cases hE0 : 0 < s.size
    · have he := notEmpty_of s hE0
      have HEs : Hid (0 < s.size) := hE0
      go_enter Tryd.func54, Tryd.ntmps54
      go_wp2_with fail
      go_loopw [5] (fun i wr => ∃ k : Nat, i = .int .i64 (k : Int) ∧ k ≤ s.size ∧ Hid (∀ j (h : j < s.size), j < k → dgB s[j] = true) ∧ wr = w) (fun i _ => s.size - (intOf i).toNat)
      case atStart => exact ⟨0, rfl, Nat.zero_le _, fun j h1 h2 => absurd h2 (Nat.not_lt_zero _), rfl⟩
      case round =>
        obtain ⟨k, rfl, hk, HK, hw⟩ := hrel
        obtain rfl : w = wr := hw.symm
        clear hw
        by_cases hlt : k < s.size
        · have m0 : (0 : Int) ≤ (k : Int) := by omega
          have m1 : (k : Int) < (s.size : Int) := by omega
          have mE : (s.size : Int) ≤ 1099511627776 := by have := HE.out.2.2; omega
          obtain ⟨x, hx⟩ : ∃ x, s[k]'hlt = x := ⟨_, rfl⟩
          have HC := hid (fun V => HD.out x V)
          rcases Bool.eq_false_or_eq_true (dgB x) with hg | hg
          · rw [hg] at HC
            have HK2 : Hid (∀ j (h : j < s.size), j < k + 1 → dgB s[j] = true) := hid fun j h1 h2 => by
              by_cases e : j = k
              · subst e; rw [hx]; exact hg
              · exact HK.out j h1 (by omega)
            clear HK hg
            go_wp2_with fail
            refine (HC.out _).mono ?_
            rintro e w2 ⟨rfl, hw⟩
            obtain rfl : w = w2 := hw.symm
            clear hw HC
            go_wp2
            go_roundw
            case rel => exact ⟨k + 1, by go_num, by omega, HK2, trivial⟩
            case measure => simp [intOf]; omega
          · rw [hg] at HC
            have HF : Hid (¬ numP l) := hid fun hn => by
              have := hn.2 x (by
                rw [← HE.out.1, ← hx]
                have : s[k] = s.data.toList[k]'(by rw [dlen]; exact hlt) := rfl
                rw [this]
                exact List.getElem_mem _)
              rw [hg] at this; cases this
            clear HK hg
            go_wp2_with fail
            refine (HC.out _).mono ?_
            rintro e w2 ⟨rfl, hw⟩
            obtain rfl : w = w2 := hw.symm
            clear hw HC
            go_wp2
            go_ret2
            exact ⟨.inl ⟨HF.out, rfl⟩, rfl⟩
        · have HP : Hid (numP l) := hid ⟨fun e => by
            have := congrArg List.length HE.out.1
            rw [e, dlen] at this
            have h2 := HEs.out
            have h3 : s.size = 0 := this
            omega, fun x hx => by
            rw [← HE.out.1] at hx
            obtain ⟨j, hj, rfl⟩ := List.getElem_of_mem hx
            rw [dlen] at hj
            exact HK.out j hj (by omega)⟩
          have m1 : ¬ (k : Int) < (s.size : Int) := by omega
          clear hlt HK
          go_wp2_with fail
          go_loopw [0] (fun v wr => ∃ T, v = .string T ∧ Hid (0 < T.size ∧ T.size ≤ 1099511627776 ∧ stp T.data.toList = stp (dgT l)) ∧ wr = w) (fun v _ => strOf v)
          case atStart => exact ⟨s, rfl, ⟨HEs.out, HE.out.2.2, by rw [HE.out.1]⟩, rfl⟩
          case round =>
            obtain ⟨T, rfl, HT, hw⟩ := hrel
            obtain rfl : w = wr := hw.symm
            clear hw he hE0 hE
            have t0 := HT.out.1
            have t1 : (0 : Int) < (T.size : Int) := by omega
            have t2 : (1 : Int) ≤ (T.size : Int) := by omega
            have t3 : (T.size : Int) ≤ 1099511627776 := by have := HT.out.2.1; omega
            obtain ⟨x, hx⟩ : ∃ x, T[0]'t0 = x := ⟨_, rfl⟩
            have hTc : T.data.toList = x :: rst T 1 := by rw [← hx]; exact rst_cons t0
            have q48 : ((x.toNat : Int) == 48) = decide (x = 48) := @u8b x 48 (by decide)
            by_cases hcont : 1 < T.size ∧ x = 48
            · have u1 : (1 : Int) < (T.size : Int) := by omega
              have u2 : 1 < T.size := hcont.1
              rw [decide_eq_true hcont.2] at q48
              have HT2 : Hid (0 < (T.extract 1 T.size).size ∧ (T.extract 1 T.size).size ≤ 1099511627776 ∧ stp (T.extract 1 T.size).data.toList = stp (dgT l)) := hid ⟨by simp; omega, by simp; have := HT.out.2.1; omega, by rw [ext_all, ← HT.out.2.2, hTc, hcont.2, stp_zero]⟩
              clear HT hTc hcont
              go_wp2
              go_roundw
              case rel => exact ⟨_, rfl, HT2, trivial⟩
              case measure => simp [strOf]; omega
            · have HEnd := hid (strip_end HT.out.2.2 t0 (by
                by_cases h1 : T.size = 1
                · exact .inl h1
                · exact .inr (by rw [hx]; exact fun e => hcont ⟨by omega, e⟩)))
              have HX : Hid ((1 < T.size → x ≠ 48)) := hid fun h1 e => hcont ⟨h1, e⟩
              clear hTc hcont
              rcases HEnd.out with ⟨g1, g2⟩ | ⟨g1, g2, g3⟩
              · subst g2
                have HR : Hid (cnL l = [48] ∧ (stp (dgT l)).length ≤ 200) := hid ⟨by unfold cnL; rw [if_pos g1], by rw [g1]; exact Nat.zero_le _⟩
                clear HT HEnd g1 t1 t2 t3 q48 HX
                go_wp2
                go_ret2
                exact ⟨.inr (.inr ⟨HP.out, HR.out.2, by rw [HR.out.1]; rfl⟩), rfl⟩
              · have hTl : T.size = (stp (dgT l)).length := by rw [← dlen, g2]
                have g4 : (T.toList != [48]) = true := by rw [bne, g3]; rfl
                have HTb : Hid (T = ba (stp (dgT l))) := hid (data_ba g2)
                have HR : Hid (cnL l = if l.head? = some 45 then 45 :: stp (dgT l) else stp (dgT l)) := hid (by unfold cnL; rw [if_neg g1])
                have HTl := hid hTl
                by_cases h200 : 200 < T.size
                · have u3 : (200 : Int) < (T.size : Int) := by omega
                  have HF : Hid (¬ (stp (dgT l)).length ≤ 200) := hid (by omega)
                  by_cases h1 : 1 < T.size
                  · have u1 : (1 : Int) < (T.size : Int) := by omega
                    rw [decide_eq_false (HX.out h1)] at q48
                    clear HT HEnd g1 g2 hTl
                    go_wp2
                    go_ret2
                    exact ⟨.inr (.inl ⟨HP.out, HF.out, rfl⟩), rfl⟩
                  · omega
                · have u3 : ¬ (200 : Int) < (T.size : Int) := by omega
                  have HF : Hid ((stp (dgT l)).length ≤ 200) := hid (by omega)
                  by_cases h1 : 1 < T.size
                  · have u1 : (1 : Int) < (T.size : Int) := by omega
                    rw [decide_eq_false (HX.out h1)] at q48
                    clear HT HEnd g1 g2 hTl
                    go_wp2
                    go_ret2
                    exact ⟨.inr (.inr ⟨HP.out, HF.out, by rw [HR.out, if_neg (of_decide_eq_false HE.out.2.1.symm), ← HTb.out]; rfl⟩), rfl⟩
                  · have u1 : ¬ (1 : Int) < (T.size : Int) := by omega
                    clear HT HEnd g1 g2 hTl q48
                    go_wp2
                    go_ret2
                    exact ⟨.inr (.inr ⟨HP.out, HF.out, by rw [HR.out, if_neg (of_decide_eq_false HE.out.2.1.symm), ← HTb.out]; rfl⟩), rfl⟩
    · have he := isEmpty_of s hE0
      have HF : Hid (¬ numP l) := hid (HN.out (by omega))
      go_enter Tryd.func54, Tryd.ntmps54
      go_wp2_with fail
      go_ret2
      exact ⟨.inl ⟨HF.out, rfl⟩, rfl⟩
end Go.Proofs.YtfobiknbjijphaaDoor
