/-
  Contract of the document's Small. Condition: the text is a number.
-/
import Derived.Test.YtnekefchbienoaaDoorNCmp
namespace Go.Proofs.YtnekefchbienoaaDoor
open Go.RowKit
set_option linter.unusedVariables false

theorem isNum_list {l : List UInt8} {v : Int} (h : l = Lib.itoa v) (hn : l.length ≤ 200) : IsNum ⟨l.toArray⟩ v := by
  refine ⟨by rw [h]; rfl, ?_⟩
  have h2 := congrArg List.length h
  unfold Lib.itoa at h2
  split at h2
  · simp only [List.length_cons, Lib.decDigits_length] at h2; omega
  · rw [Lib.decDigits_length, show v.toNat = v.natAbs by omega] at h2; omega
def lowL : List UInt8 := [57, 50, 50, 51, 51, 55, 50, 48, 51, 54, 56, 53, 52, 55, 55, 53, 56, 48, 56]
def highL : List UInt8 := [57, 50, 50, 51, 51, 55, 50, 48, 51, 54, 56, 53, 52, 55, 55, 53, 56, 48, 55]
theorem low_dec : Lib.decDigits 9223372036854775808 = lowL := by
  have h := dec_form 19 lowL rfl (by decide) (by unfold isDg; decide) (by decide)
  rw [show dval lowL = 9223372036854775808 by decide] at h
  exact h.symm
theorem high_dec : Lib.decDigits 9223372036854775807 = highL := by
  have h := dec_form 19 highL rfl (by decide) (by unfold isDg; decide) (by decide)
  rw [show dval highL = 9223372036854775807 by decide] at h
  exact h.symm
theorem low_num : IsNum ⟨(45 :: lowL).toArray⟩ (-9223372036854775808) := isNum_list (by
  unfold Lib.itoa
  rw [if_pos (by decide), show (-9223372036854775808 : Int).natAbs = 9223372036854775808 by decide, low_dec]) (by decide)
theorem high_num : IsNum ⟨highL.toArray⟩ 9223372036854775807 := isNum_list (by
  unfold Lib.itoa
  rw [if_neg (by decide), show (9223372036854775807 : Int).toNat = 9223372036854775807 by decide, high_dec]) (by decide)

theorem pre_step {u k : Nat} : u / 10 ^ k = u / 10 ^ (k + 1) * 10 + dd u k := by
  unfold dd
  rw [div_pow_succ]
  omega

set_option maxRecDepth 100000 in
set_option maxHeartbeats 1000000 in
theorem rSmall_in {s : ByteArray} {v : Int} (h : IsNum s v) (h1 : -9223372036854775808 ≤ v) (h2 : v ≤ 9223372036854775807) (w : World) :
    Calls Tryd.prog 21 #[.string s] w fun e w' => e = .returned (.tuple #[.int .i64 v, .bool true]) ∧ Below w.heap.size w w' := by
  have HS : Hid (IsNum s v) := h
  have hd := h.dgs
  have HL : Hid (cmpI v (-9223372036854775808) = 0 ∨ cmpI v (-9223372036854775808) = 1) := by
    show _ ∨ _
    by_cases e : v = -9223372036854775808
    · exact .inl (cmpI_eq e)
    · exact .inr (cmpI_gt (by omega))
  have HH : Hid (cmpI v 9223372036854775807 = 0 ∨ cmpI v 9223372036854775807 = -1) := by
    show _ ∨ _
    by_cases e : v = 9223372036854775807
    · exact .inl (cmpI_eq e)
    · exact .inr (cmpI_lt (by omega))
  have e1 : ¬ cmpI v (-9223372036854775808) < 0 := by rcases HL.out with e | e <;> rw [e] <;> decide
  have e2 : ¬ 0 < cmpI v 9223372036854775807 := by rcases HH.out with e | e <;> rw [e] <;> decide
  generalize hp : (if v < 0 then 1 else 0) = p at *
  generalize hu : v.natAbs = u at *
  generalize hN : Lib.nDigits u = N at *
  have HN : Hid (u < 10 ^ N) := by rw [← hN]; exact Lib.lt_pow_nDigits u
  have hpos := Lib.nDigits_pos u
  have hd1 := hd.size
  have hd2 := hd.p1
  have hd3 := hd.le
  have h0 : 0 < s.size := by omega
  have hsz : s.size ≤ 201 := by omega
  have hub : u ≤ 9223372036854775808 := by omega
  have HP : Hid (v = if p = 1 then -(u : Int) else (u : Int)) := by
    show _ = _
    by_cases e : v < 0
    · rw [if_pos e] at hp; rw [if_pos hp.symm]; omega
    · rw [if_neg e] at hp; rw [if_neg (by omega)]; omega
  have HQ : Hid (p = 0 → u ≤ 9223372036854775807) := fun e => by
    by_cases e2 : v < 0
    · rw [if_pos e2] at hp; omega
    · omega
  have H : Hid (Dgs s p u N) := hd
  generalize hc1 : cmpI v (-9223372036854775808) = c1 at *
  generalize hc2 : cmpI v 9223372036854775807 = c2 at *
  have HC1 : Hid (cmpI v (-9223372036854775808) = c1) := hc1
  have HC2 : Hid (cmpI v 9223372036854775807 = c2) := hc2
  clear hd hp hu hN hd1 hc1 hc2 HL HH h1 h2 h
  go_enter Tryd.func21, Tryd.ntmps21
  go_wp2_with fail
  refine (rCan_yes HS.out w).mono ?_
  rintro e w1 ⟨rfl, hw⟩
  obtain rfl : w = w1 := hw.symm
  clear hw
  go_wp2_with fail
  refine (rCompare HS.out low_num w).mono ?_
  rintro e w1 ⟨rfl, b1⟩
  rw [HC1.out]
  go_wp2_with fail
  refine (rCompare HS.out high_num w1).mono ?_
  rintro e w2 ⟨rfl, b2⟩
  rw [HC2.out]
  have HB : Hid (Below w.heap.size w w2) := b1.trans (b2.mono b1.size)
  clear b1 b2
  have hf : ((s[0].toNat : Int) == 45) = (p == 1) := by
    by_cases e : p = 1
    · rw [H.out.neg h0 e, e]; rfl
    · have := H.out.by_ 0 h0 (by omega)
      rw [show (p == 1) = false by simpa using e]
      rw [beq_eq_false_iff_ne]
      omega
  go_wp2
  go_loopw [8, 9] (fun x i wr => ∃ (k q : Nat), k ≤ s.size ∧ i = .int .i64 (k : Int) ∧ x = .int .i64 (-(q : Int)) ∧ Hid (q = u / 10 ^ (N - (k - p))) ∧ wr = w2) (fun _ i _ => s.size - (intOf i).toNat)
  case atStart =>
    refine ⟨0, 0, Nat.zero_le _, rfl, rfl, ?_, rfl⟩
    show 0 = _
    rw [Nat.zero_sub, Nat.sub_zero, Nat.div_eq_of_lt HN.out]
  case round =>
    obtain ⟨k, q, hk, rfl, rfl, hq, hw⟩ := hrel
    obtain rfl : w2 = wr := hw.symm
    clear hw
    have hqu : q ≤ 9223372036854775808 := by
      rw [hq.out]
      exact Nat.le_trans (Nat.div_le_self _ _) hub
    by_cases hlt : k < s.size
    · have hlt' : (k : Int) < (s.size : Int) := by omega
      have hk0 : (0 : Int) ≤ (k : Int) := by omega
      by_cases hpk : p ≤ k
      · have hby := H.out.by_ k hlt hpk
        have hs1 := H.out.size
        have hdl := dd_lt u (s.size - 1 - k)
        obtain ⟨d, hd⟩ : ∃ d, dd u (s.size - 1 - k) = d := ⟨_, rfl⟩
        rw [hd] at hby hdl
        have hq2 : q * 10 + d = u / 10 ^ (N - (k + 1 - p)) := by
          rw [hq.out, ← hd, show N - (k - p) = (s.size - 1 - k) + 1 by omega, show N - (k + 1 - p) = s.size - 1 - k by omega]
          exact pre_step.symm
        have HQ2 : Hid (q * 10 + d = u / 10 ^ (N - (k + 1 - p))) := hq2
        have hq3 : q * 10 + d ≤ 9223372036854775808 := by
          rw [hq2]
          exact Nat.le_trans (Nat.div_le_self _ _) hub
        have d1 : ((s[k].toNat : Int) == 45) = false := by rw [beq_eq_false_iff_ne]; omega
        have hx : IntKind.u8.wrap ((s[k].toNat : Int) - 48) = (d : Int) := by rw [IntKind.wrap_u8']; omega
        have hx2 : IntKind.i64.wrap (d : Int) = (d : Int) := by rw [IntKind.wrap_i64]; omega
        have hx3 : wrap64 (-(q : Int) * 10) = -(q : Int) * 10 := by unfold wrap64; omega
        have hx4 : wrap64 (-(q : Int) * 10 - (d : Int)) = -((q * 10 + d : Nat) : Int) := by unfold wrap64; omega
        clear hby hs1 hq2 hd hq
        go_wp2
        go_roundw
        case rel => exact ⟨k + 1, q * 10 + d, by omega, by go_num, by first | rfl | simp only [hx4] | go_num, HQ2, by first | trivial | rfl⟩
        case measure => simp [intOf]; omega
      · have hp1 : p = 1 := by omega
        have hk1 : k = 0 := by omega
        subst hk1
        have d1 : ((s[0].toNat : Int) == 45) = true := by rw [H.out.neg h0 hp1]; rfl
        have HQ2 : Hid (q = u / 10 ^ (N - (0 + 1 - p))) := by
          rw [show N - (0 + 1 - p) = N - (0 - p) by omega]; exact hq
        clear hq hp1 hpk
        go_wp2
        go_roundw
        case rel => exact ⟨0 + 1, q, by omega, by first | rfl | go_num, by first | rfl | go_num, HQ2, by first | trivial | rfl⟩
        case measure => simp [intOf]; omega
    · obtain rfl : k = s.size := by omega
      have hqq : q = u := by
        have := H.out.size
        rw [hq.out, show N - (s.size - p) = 0 by omega]
        simp
      obtain rfl : q = u := hqq
      clear hq
      by_cases e : p = 1
      · have hf1 : ((s[0].toNat : Int) == 45) = true := by rw [hf, e]; rfl
        have HV : Hid (v = -(q : Int)) := by rw [HP.out, if_pos e]; rfl
        clear e hf
        go_wp2
        go_ret2
        exact ⟨by rw [HV.out]; rfl, HB.out⟩
      · have hf1 : ((s[0].toNat : Int) == 45) = false := by rw [hf]; simpa using e
        have HV : Hid (v = (q : Int)) := by rw [HP.out, if_neg e]; rfl
        have hq5 : q ≤ 9223372036854775807 := HQ.out (by omega)
        clear e hf
        go_wp2
        go_ret2
        exact ⟨by rw [HV.out]; rfl, HB.out⟩

set_option maxRecDepth 100000 in
set_option maxHeartbeats 1000000 in
theorem rSmall_out {s : ByteArray} {v : Int} (h : IsNum s v) (h1 : v < -9223372036854775808 ∨ 9223372036854775807 < v) (w : World) :
    Calls Tryd.prog 21 #[.string s] w fun e w' => e = .returned (.tuple #[.int .i64 0, .bool false]) ∧ Below w.heap.size w w' := by
  have HS : Hid (IsNum s v) := h
  clear h
  rcases h1 with h1 | h1
  · have HC1 : Hid (cmpI v (-9223372036854775808) = -1) := cmpI_lt h1
    have HC2 : Hid (cmpI v 9223372036854775807 = -1) := cmpI_lt (by omega)
    clear h1
    go_enter Tryd.func21, Tryd.ntmps21
    go_wp2_with fail
    refine (rCan_yes HS.out w).mono ?_
    rintro e w1 ⟨rfl, hw⟩
    obtain rfl : w = w1 := hw.symm
    clear hw
    go_wp2_with fail
    refine (rCompare HS.out low_num w).mono ?_
    rintro e w1 ⟨rfl, b1⟩
    rw [HC1.out]
    go_wp2_with fail
    refine (rCompare HS.out high_num w1).mono ?_
    rintro e w2 ⟨rfl, b2⟩
    rw [HC2.out]
    have HB : Hid (Below w.heap.size w w2) := b1.trans (b2.mono b1.size)
    clear b1 b2
    go_wp2
    go_ret2
    exact ⟨rfl, HB.out⟩
  · have HC1 : Hid (cmpI v (-9223372036854775808) = 1) := cmpI_gt (by omega)
    have HC2 : Hid (cmpI v 9223372036854775807 = 1) := cmpI_gt h1
    clear h1
    go_enter Tryd.func21, Tryd.ntmps21
    go_wp2_with fail
    refine (rCan_yes HS.out w).mono ?_
    rintro e w1 ⟨rfl, hw⟩
    obtain rfl : w = w1 := hw.symm
    clear hw
    go_wp2_with fail
    refine (rCompare HS.out low_num w).mono ?_
    rintro e w1 ⟨rfl, b1⟩
    rw [HC1.out]
    go_wp2_with fail
    refine (rCompare HS.out high_num w1).mono ?_
    rintro e w2 ⟨rfl, b2⟩
    rw [HC2.out]
    have HB : Hid (Below w.heap.size w w2) := b1.trans (b2.mono b1.size)
    clear b1 b2
    go_wp2
    go_ret2
    exact ⟨rfl, HB.out⟩
set_option maxRecDepth 100000 in
theorem rSmall_no {s : ByteArray} (h : ¬ ∃ v, IsNum s v) (hs : s.size ≤ 281474976710656) (w : World) :
    Calls Tryd.prog 21 #[.string s] w fun e w' => e = .returned (.tuple #[.int .i64 0, .bool false]) ∧ Below w.heap.size w w' := by
  have HS : Hid (¬ ∃ v, IsNum s v) := h
  clear h
  go_enter Tryd.func21, Tryd.ntmps21
  go_wp2_with fail
  refine (rCan_no HS.out w hs).mono ?_
  rintro e w1 ⟨rfl, hw⟩
  obtain rfl : w = w1 := hw.symm
  clear hw
  go_wp2
  go_ret2
  exact ⟨rfl, Below.refl _ _⟩
end Go.Proofs.YtnekefchbienoaaDoor
