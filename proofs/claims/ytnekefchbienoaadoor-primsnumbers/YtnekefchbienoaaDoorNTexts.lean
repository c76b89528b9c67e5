/-
  The document's Of at every int; the program's Of and Small; NumberTexts, walked. Conditions: the text has at most 2^48 bytes; the library's table of powers of ten and its variable ErrRange are as they start.
-/
import Derived.Test.YtnekefchbienoaaDoorNOfN
import Derived.Test.YtnekefchbienoaaDoorNAtoi
import Derived.Lib.AppendIntMem
import Derived.Lib.AtoiErrMem
import Derived.Lib.LaidTab
namespace Go.Proofs.YtnekefchbienoaaDoor
open Go.RowKit
set_option linter.unusedVariables false

set_option maxRecDepth 100000 in
set_option maxHeartbeats 1000000 in
theorem rOfN (n : Int) (h1 : -9223372036854775808 ≤ n) (h2 : n ≤ 9223372036854775807) (w : World) :
    Calls Tryd.prog 25 #[.int .i64 n] w fun e w' => e = .returned (.string (txt n)) ∧ Below w.heap.size w w' := by
  by_cases h0 : n < 0
  · by_cases hm : n = -9223372036854775808
    · subst hm
      have HE : Hid (txt (-9223372036854775808) = ⟨(45 :: lowL).toArray⟩) := low_num.1.symm
      go_enter Tryd.func25, Tryd.ntmps25
      go_wp2
      go_ret
      exact ⟨by rw [HE.out]; rfl, Below.refl _ _⟩
    · have g1 : (n == -9223372036854775808) = false := by rw [beq_eq_false_iff_ne]; exact hm
      obtain ⟨k, hk⟩ : ∃ k : Nat, -n = (k : Int) := ⟨n.natAbs, by omega⟩
      have hk2 : k ≤ 9223372036854775807 := by omega
      have HC : Hid (∀ w : World, Calls Tryd.prog 25 #[.int .i64 (k : Int)] w fun e w' => e = .returned (.string (txt k)) ∧ Below w.heap.size w w') := fun w => rOfN_pos k hk2 w
      have hs : (txt (k : Int)).size ≤ 20 := by
        rw [← bytes_len, txt_data]
        unfold Lib.itoa
        rw [if_neg (by omega), Lib.decDigits_length]
        exact Lib.nDigits_le20 _ (by omega)
      have HE : Hid ((⟨#[45]⟩ : ByteArray) ++ txt (k : Int) = txt n) := by
        show _ = _
        apply ByteArray.ext
        apply Array.toList_inj.1
        rw [txt_data]
        have e : ((⟨#[45]⟩ : ByteArray) ++ txt (k : Int)).data.toList = 45 :: (txt (k : Int)).data.toList := by simp
        rw [e, txt_data]
        unfold Lib.itoa
        rw [if_neg (by omega), if_pos h0]
        congr 2
        omega
      have hw : wrap64 (-n) = (k : Int) := by unfold wrap64; omega
      generalize txt (k : Int) = T at *
      have hs2 : ¬ 9223372036854775807 < 1 + T.size := by omega
      clear hm
      go_enter Tryd.func25, Tryd.ntmps25
      go_wp2_with fail
      refine (HC.out w).mono ?_
      rintro e w1 ⟨rfl, b1⟩
      go_wp2
      go_ret
      exact ⟨by rw [← HE.out]; rfl, b1⟩
  · obtain ⟨k, rfl⟩ := Int.eq_ofNat_of_zero_le (show 0 ≤ n by omega)
    exact rOfN_pos k (by omega) w

/-- The library's variables as they start. -/
structure Std (w : World) : Prop where
  tab : Lib.TabIs Tryd.prog w "internal/strconv.uint64pow10" .u64 Lib.pow10Tab
  err : ∃ te pe, w.cell? ⟨1, 0, none⟩ = some (.iface te pe)
theorem gPow : Tryd.prog.globalNamed "internal/strconv.uint64pow10" = some 2 := by kernel_rfl
theorem tab_below {w w' : World} {B : Nat} (h : Lib.TabIs Tryd.prog w "internal/strconv.uint64pow10" .u64 Lib.pow10Tab) (hb : Below B w w') (hB : w.heap.size ≤ B) : Lib.TabIs Tryd.prog w' "internal/strconv.uint64pow10" .u64 Lib.pow10Tab := by
  have hlt : 2 < w.heap.size := Lib.lt_of_cell (h.cell gPow 0 (by decide))
  unfold Lib.TabIs World.var? at *
  rw [gPow] at *
  simp only [Option.bind_some] at *
  rw [hb.block _ (Nat.lt_of_lt_of_le hlt hB)]
  exact h
theorem Std.below {w w' : World} {B : Nat} (h : Std w) (hb : Below B w w') (hB : w.heap.size ≤ B) : Std w' := by
  obtain ⟨te, pe, he⟩ := h.err
  exact ⟨tab_below h.tab hb hB, te, pe, by rw [hb.cell (p := ⟨1, 0, none⟩) (Nat.lt_of_lt_of_le (Lib.lt_of_cell he) hB)]; exact he⟩

set_option maxRecDepth 100000 in
theorem nOf (n : Int) (h1 : -9223372036854775808 ≤ n) (h2 : n ≤ 9223372036854775807) (w : World) (ht : Lib.TabIs Tryd.prog w "internal/strconv.uint64pow10" .u64 Lib.pow10Tab) :
    Calls Tryd.prog 19 #[.int .i64 n] w fun e w' => e = .returned (.string (txt n)) ∧ Below w.heap.size w w' := by
  have HC := Tryd.strconv_Itoa n h1 h2 w ht
  go_enter Tryd.func19, Tryd.ntmps19
  go_wp2_with fail
  refine HC.mono ?_
  rintro e w1 ⟨rfl, k, os, rfl⟩
  have hb := Lib.below_grow w.heap.size w (Nat.le_refl _) k os
  go_wp2
  go_ret
  exact ⟨rfl, hb⟩

set_option maxRecDepth 100000 in
theorem nSmall_in {s : ByteArray} {v : Int} (h : IsNum s v) (h1 : -9223372036854775808 ≤ v) (h2 : v ≤ 9223372036854775807) (w : World) :
    Calls Tryd.prog 14 #[.string s] w fun e w' => e = .returned (.tuple #[.int .i64 v, .bool true]) ∧ Below w.heap.size w w' := by
  have ha := atoi_txt v
  rw [if_pos ⟨h1, h2⟩, ← h.1] at ha
  have HC : Hid (∀ w : World, Calls Tryd.prog 30 #[.string s] w fun e w' => e = .returned (.tuple #[.int .i64 v, .nilIface]) ∧ Below w.heap.size w w') := fun w => by
    refine (Tryd.strconv_Atoi_ok s (by have := h.dgs.size; have := h.dgs.le; have := h.dgs.p1; omega) v ha w).mono ?_
    rintro e w' ⟨rfl, rfl | ⟨t, rfl⟩⟩
    · exact ⟨rfl, Below.refl _ _⟩
    · exact ⟨rfl, Lib.bytesWorld_below w 5 t⟩
  have HS : Hid (IsNum s v) := h
  clear h ha
  go_enter Tryd.func14, Tryd.ntmps14
  go_wp2_with fail
  refine (nCan_yes HS.out w).mono ?_
  rintro e w1 ⟨rfl, hw⟩
  obtain rfl : w = w1 := hw.symm
  clear hw
  go_wp2_with fail
  refine (HC.out w).mono ?_
  rintro e w1 ⟨rfl, hb⟩
  go_wp2
  go_ret2
  exact ⟨rfl, hb⟩
set_option maxRecDepth 100000 in
theorem nSmall_out {s : ByteArray} {v : Int} (h : IsNum s v) (h1 : v < -9223372036854775808 ∨ 9223372036854775807 < v) (w : World) (hs : Std w) :
    Calls Tryd.prog 14 #[.string s] w fun e w' => e = .returned (.tuple #[.int .i64 0, .bool false]) ∧ Below w.heap.size w w' := by
  have ha := atoi_txt v
  rw [if_neg (by omega), ← h.1] at ha
  obtain ⟨te, pe, he⟩ := hs.err
  obtain ⟨sat, hsat⟩ : ∃ x, Lib.atoiSat s.data.toList = x := ⟨_, rfl⟩
  have HC := Tryd.strconv_Atoi_range s (by have := h.dgs.size; have := h.dgs.le; have := h.dgs.p1; omega) ha (.iface te pe) w he (.inr ⟨te, pe, rfl⟩)
  rw [hsat] at HC
  have HS : Hid (IsNum s v) := h
  clear h ha hs hsat he
  go_enter Tryd.func14, Tryd.ntmps14
  go_wp2_with fail
  refine (nCan_yes HS.out w).mono ?_
  rintro e w1 ⟨rfl, hw⟩
  obtain rfl : w = w1 := hw.symm
  clear hw
  go_wp2_with fail
  refine HC.mono ?_
  rintro e w1 ⟨N, rfl, _, _, hb⟩
  go_wp2
  go_ret2
  exact ⟨rfl, hb⟩
set_option maxRecDepth 100000 in
theorem nSmall_no {s : ByteArray} (h : ¬ ∃ v, IsNum s v) (w : World) :
    Calls Tryd.prog 14 #[.string s] w fun e w' => e = .returned (.tuple #[.int .i64 0, .bool false]) ∧ Below w.heap.size w w' := by
  have HS : Hid (¬ ∃ v, IsNum s v) := h
  clear h
  go_enter Tryd.func14, Tryd.ntmps14
  go_wp2_with fail
  refine (nCan_false HS.out w).mono ?_
  rintro e w1 ⟨rfl, hw⟩
  obtain rfl : w = w1 := hw.symm
  clear hw
  go_wp2
  go_ret2
  exact ⟨rfl, Below.refl _ _⟩
end Go.Proofs.YtnekefchbienoaaDoor
