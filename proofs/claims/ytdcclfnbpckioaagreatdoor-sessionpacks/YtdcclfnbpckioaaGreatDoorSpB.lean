/-
  Numbers in so many digits, with noughts ahead: session's digits and pieceKey, and the document's.
-/
import Derived.Test.YtdcclfnbpckioaaGreatDoorSpA
import Derived.Lib.AppendIntMem
namespace Go.Proofs.YtdcclfnbpckioaaGreatDoor
open Go.RowKit
set_option linter.unusedVariables false

/-- A number's last k digits. -/
def dgs (n k : Nat) : List UInt8 := (List.range k).map fun t => Lib.dg n (k - 1 - t)
theorem dgs_pad (n k : Nat) (h : Lib.nDigits n ≤ k) : List.replicate (k - Lib.nDigits n) 48 ++ Lib.decDigits n = dgs n k := by
  obtain ⟨a, rfl⟩ : ∃ a, k = a + Lib.nDigits n := ⟨k - Lib.nDigits n, by omega⟩
  unfold dgs
  rw [List.range_add, List.map_append, Nat.add_sub_cancel, Lib.decDigits_eq, List.map_map]
  congr 1
  · refine List.ext_getElem (by simp) fun i h1 h2 => ?_
    simp only [List.getElem_replicate, List.getElem_map, List.getElem_range]
    have hi : i < a := by simpa using h1
    have hz : n / 10 ^ (a + Lib.nDigits n - 1 - i) = 0 := by
      refine Nat.div_eq_of_lt (Nat.lt_of_lt_of_le (Lib.lt_pow_nDigits n) (Nat.pow_le_pow_right (by decide) (by omega)))
    simp [Lib.dg, hz]
  · refine List.map_congr_left fun t ht => ?_
    have := List.mem_range.1 ht
    show _ = Lib.dg n (a + Lib.nDigits n - 1 - (a + t))
    congr 1
    omega
theorem nd4 (n : Nat) (h : n < 10000) : Lib.nDigits n ≤ 4 := by
  by_cases h1 : n < 10
  · rw [Lib.nDigits_small h1]; omega
  by_cases h2 : n < 100
  · rw [Lib.nDigits_unique 1 n (by omega) (by omega)]; omega
  by_cases h3 : n < 1000
  · rw [Lib.nDigits_unique 2 n (by omega) (by omega)]; omega
  · rw [Lib.nDigits_unique 3 n (by omega) (by omega)]; omega
theorem nd2 (n : Nat) (h : n < 100) : Lib.nDigits n ≤ 2 := by
  by_cases h1 : n < 10
  · rw [Lib.nDigits_small h1]; omega
  · rw [Lib.nDigits_unique 1 n (by omega) (by omega)]; omega
theorem str_app (a b : List UInt8) : (⟨a.toArray⟩ : ByteArray) ++ (⟨b.toArray⟩ : ByteArray) = ⟨(a ++ b).toArray⟩ := by
  apply ByteArray.ext
  simp
set_option maxRecDepth 100000 in
set_option maxHeartbeats 2000000 in
theorem j_digits (n k : Nat) (hn : n ≤ 9999) (hk : k = 4 ∨ k = 2) (hd : Lib.nDigits n ≤ k) (w : World) (ht : Lib.TabIs Tryz.prog w "internal/strconv.uint64pow10" .u64 Lib.pow10Tab) :
    Calls Tryz.prog 37 #[.int .i64 (n : Int), .int .i64 (k : Int)] w fun e w' => e = .returned (.string ⟨(dgs n k).toArray⟩) ∧ Below w.heap.size w w' := by
  have hp := Lib.nDigits_pos n
  have hI : Lib.itoa (n : Int) = Lib.decDigits n := by unfold Lib.itoa; rw [if_neg (by omega)]; congr 1
  have HC : Hid (Calls Tryz.prog 48 #[.int .i64 (n : Int)] w fun e w' => e = .returned (.string ⟨(Lib.decDigits n).toArray⟩) ∧ Below w.heap.size w w') := by
    have := Tryz.strconv_Itoa (n : Int) (by omega) (by omega) w ht
    rw [hI] at this
    refine this.mono ?_
    rintro e w' ⟨rfl, j, os, rfl⟩
    exact ⟨rfl, Lib.below_grow w.heap.size w (Nat.le_refl _) j os⟩
  have hsz : (⟨(Lib.decDigits n).toArray⟩ : ByteArray).size = Lib.nDigits n := by
    show (Lib.decDigits n).toArray.size = _
    rw [List.size_toArray, Lib.decDigits_length]
  have hpad := dgs_pad n k hd
  have hap := str_app (List.replicate (k - Lib.nDigits n) 48) (Lib.decDigits n)
  rw [hpad] at hap
  have HR : Hid (∀ w1, Calls Tryz.prog 49 #[.string ⟨#[48]⟩, .int .i64 ((k - Lib.nDigits n : Nat) : Int)] w1 fun e w' => e = .returned (.string ⟨(List.replicate (k - Lib.nDigits n) 48).toArray⟩) ∧ w' = w1) := fun w1 => repeat0 _ (by omega) w1
  have hZ : (⟨(List.replicate (k - Lib.nDigits n) 48).toArray⟩ : ByteArray).size = k - Lib.nDigits n := by
    show (List.replicate (k - Lib.nDigits n) 48).toArray.size = _
    simp
  generalize (⟨(Lib.decDigits n).toArray⟩ : ByteArray) = S at *
  generalize (⟨(List.replicate (k - Lib.nDigits n) 48).toArray⟩ : ByteArray) = Z at *
  have hmx : max (wrap64 ((k : Int) - (S.size : Int))) 0 = ((k - Lib.nDigits n : Nat) : Int) := by rw [Wm.w64 _ (by omega)]; omega
  have hzs : Hid (Z.size ≤ 10 ∧ S.size ≤ 10) := ⟨by omega, by omega⟩
  generalize Lib.nDigits n = nd at *
  generalize k - nd = c at *
  clear hpad hI ht hsz hd hp hZ
  go_enter Tryz.func37, Tryz.ntmps37
  go_wp2_with (first | (go_at_call 49; (try rw [hmx]); refine (HR.out _).mono ?_; rintro e w3 ⟨rfl, rfl⟩) | (go_at_call 48; refine HC.out.mono ?_; rintro e w2 ⟨rfl, hb⟩))
  · rename_i h
    exfalso
    have h10 := hzs.out
    clear HC HR hmx hap hb hzs hk hn
    omega
  rename_i h
  clear h
  go_ret
  refine ⟨?_, ?_⟩
  · simp
  · exact hb
theorem tab_below {w w' : World} (h : Lib.TabIs Tryz.prog w "internal/strconv.uint64pow10" .u64 Lib.pow10Tab) (hb : Below w.heap.size w w') : Lib.TabIs Tryz.prog w' "internal/strconv.uint64pow10" .u64 Lib.pow10Tab := by
  have gPow : Tryz.prog.globalNamed "internal/strconv.uint64pow10" = some 1 := by kernel_rfl
  have hlt : 1 < w.heap.size := World.block_lt_of_cell? w _ (h.cell gPow 0 (by decide))
  unfold Lib.TabIs World.var? at *
  rw [gPow] at *
  simp only [Option.bind_some] at *
  rw [hb.block _ hlt]
  exact h
/-- The key of a session's piece. -/
def keyL (id i : Nat) : List UInt8 := 115 :: (dgs id 4 ++ dgs i 2)
theorem dgs_len (n k : Nat) : (dgs n k).length = k := by simp [dgs]
set_option maxRecDepth 100000 in
set_option maxHeartbeats 2000000 in
theorem j_key (id i : Nat) (hid : id ≤ 9999) (hi : i < 100) (w : World) (ht : Lib.TabIs Tryz.prog w "internal/strconv.uint64pow10" .u64 Lib.pow10Tab) :
    Calls Tryz.prog 20 #[.int .i64 (id : Int), .int .i64 (i : Int)] w fun e w' => e = .returned (.string ⟨(keyL id i).toArray⟩) ∧ Below w.heap.size w w' := by
  have H1 : Hid (Calls Tryz.prog 37 #[.int .i64 (id : Int), .int .i64 4] w fun e w' => e = .returned (.string ⟨(dgs id 4).toArray⟩) ∧ Below w.heap.size w w') := j_digits id 4 hid (.inl rfl) (nd4 id (by omega)) w ht
  have H2 : Hid (∀ w1, Below w.heap.size w w1 → Calls Tryz.prog 37 #[.int .i64 (i : Int), .int .i64 2] w1 fun e w' => e = .returned (.string ⟨(dgs i 2).toArray⟩) ∧ Below w.heap.size w w') := fun w1 h1 => by
    refine (j_digits i 2 (by omega) (.inr rfl) (nd2 i hi) w1 (tab_below ht h1)).mono ?_
    rintro e w' ⟨rfl, hb⟩
    exact ⟨rfl, h1.trans (hb.mono h1.size)⟩
  have a1 : (⟨#[115]⟩ : ByteArray) ++ (⟨(dgs id 4).toArray⟩ : ByteArray) = ⟨(115 :: dgs id 4).toArray⟩ := str_app [115] (dgs id 4)
  have a2 : (⟨(115 :: dgs id 4).toArray⟩ : ByteArray) ++ (⟨(dgs i 2).toArray⟩ : ByteArray) = ⟨(keyL id i).toArray⟩ := str_app (115 :: dgs id 4) (dgs i 2)
  have z0 : (⟨#[115]⟩ : ByteArray).size = 1 := rfl
  have z1 : (⟨(dgs id 4).toArray⟩ : ByteArray).size = 4 := by show (dgs id 4).toArray.size = 4; rw [List.size_toArray, dgs_len]
  have z2 : (⟨(dgs i 2).toArray⟩ : ByteArray).size = 2 := by show (dgs i 2).toArray.size = 2; rw [List.size_toArray, dgs_len]
  have z3 : (⟨(115 :: dgs id 4).toArray⟩ : ByteArray).size = 5 := by show (115 :: dgs id 4).toArray.size = 5; rw [List.size_toArray, List.length_cons, dgs_len]
  generalize (⟨(keyL id i).toArray⟩ : ByteArray) = R at *
  generalize (⟨(dgs id 4).toArray⟩ : ByteArray) = A at *
  generalize (⟨(dgs i 2).toArray⟩ : ByteArray) = B at *
  generalize (⟨(115 :: dgs id 4).toArray⟩ : ByteArray) = C at *
  clear ht hid hi
  go_enter Tryz.func20, Tryz.ntmps20
  go_wp2_with (first | (go_at_call 37; refine (H2.out w2 b2).mono ?_; rintro e w3 ⟨rfl, b3⟩) | (go_at_call 37; refine H1.out.mono ?_; rintro e w2 ⟨rfl, b2⟩))
  go_ret
  refine ⟨?_, ?_⟩
  · simp
  · exact b3
theorem dgs_succ (n t : Nat) : dgs n (t + 1) = Lib.dg n t :: dgs n t := by
  unfold dgs
  rw [List.range_succ_eq_map, List.map_cons, List.map_map]
  congr 1
  refine List.map_congr_left fun i hi => ?_
  have := List.mem_range.1 hi
  show Lib.dg n (t + 1 - 1 - (i + 1)) = _
  congr 1
  omega
theorem one_str (z : Nat) (h : z ≤ 255) : strF (fun _ => (z : Int)) 1 = ⟨[UInt8.ofNat z].toArray⟩ := by
  unfold strF strOfNums lst
  simp
set_option maxRecDepth 100000 in
set_option maxHeartbeats 2000000 in
theorem z_digits (n k : Nat) (hn : n ≤ 9999) (hk : k ≤ 4) (w : World) :
    Calls Tryz.prog 39 #[.int .i64 (n : Int), .int .i64 (k : Int)] w fun e w' => e = .returned (.string ⟨(dgs n k).toArray⟩) ∧ Below w.heap.size w w' := by
  go_enter Tryz.func39, Tryz.ntmps39
  go_wp2
  go_loopw [0, 5, 7] (fun m s i wr => ∃ t : Nat, t ≤ k ∧ m = .int .i64 ((n / 10 ^ t : Nat) : Int) ∧ s = .string ⟨(dgs n t).toArray⟩ ∧ i = .int .i64 (t : Int) ∧ Below w.heap.size w wr) (fun _ _ i _ => k - (intOf i).toNat)
  case atStart => exact ⟨0, Nat.zero_le _, by simp, rfl, rfl, Below.refl _ _⟩
  case round =>
    obtain ⟨t, htk, rfl, rfl, rfl, hb⟩ := hrel
    by_cases hlt : t < k
    · have li : (t : Int) < (k : Int) := by omega
      obtain ⟨m, hm⟩ : ∃ m, m = n / 10 ^ t := ⟨_, rfl⟩
      have hmn : m ≤ 9999 := by rw [hm]; exact Nat.le_trans (Nat.div_le_self _ _) hn
      have hdg : Lib.dg n t = UInt8.ofNat (48 + m % 10) := by rw [hm]; rfl
      have hnx : n / 10 ^ (t + 1) = m / 10 := by rw [hm, Nat.pow_succ, Nat.div_div_eq_div_mul]
      have hS := dgs_succ n t
      obtain ⟨q, hq⟩ : ∃ q, q = 48 + m % 10 := ⟨_, rfl⟩
      have hq57 : q ≤ 57 := by omega
      have hq255 : q ≤ 255 := by omega
      have ht1 : t + 1 ≤ k := by omega
      have hap := str_app [UInt8.ofNat q] (dgs n t)
      rw [List.singleton_append, hq, ← hdg, ← hS, hdg, ← hq] at hap
      have hz : Hid ((⟨(dgs n t).toArray⟩ : ByteArray).size = t ∧ (⟨[UInt8.ofNat q].toArray⟩ : ByteArray).size = 1 ∧ t ≤ 4) := ⟨by show (dgs n t).toArray.size = t; rw [List.size_toArray, dgs_len], rfl, by omega⟩
      have hqi : (48 + (m : Int) % 10) = (q : Int) := by omega
      have hfr : From (wr.alloc (.cells #[.int .u8 (48 + (m : Int) % 10)] 5)) (some ⟨wr.heap.size, 0, none⟩) 1 (fun _ => (q : Int)) := .inr ⟨_, rfl, fun i hi => by
        obtain rfl : i = 0 := by omega
        rw [Addr.add_lit, World.cell?_alloc_at _ _ _ _ rfl, hqi]
        rfl⟩
      have hcv := (conv_from 1 hfr).trans (congrArg (fun s => Result.ok (Value.string s) (wr.alloc (.cells #[.int .u8 (48 + (m : Int) % 10)] 5))) (one_str q hq255))
      have HX : Hid (((n / 10 ^ (t + 1) : Nat) : Int) = (m : Int) / 10) := show ((n / 10 ^ (t + 1) : Nat) : Int) = (m : Int) / 10 by rw [hnx]; omega
      have HW : Hid (wrap64 ((m : Int) / 10) = (m : Int) / 10) := Wm.w64 _ (by omega)
      rw [← hm]
      generalize (⟨(dgs n t).toArray⟩ : ByteArray) = S at *
      generalize (⟨[UInt8.ofNat q].toArray⟩ : ByteArray) = C at *
      have HAP : Hid (C ++ S = ⟨(dgs n (t + 1)).toArray⟩) := hap
      clear hm hq hdg hnx hS hfr hap hmn hq57 hn hq255 hqi
      go_wp2
      · rename_i h
        exfalso
        have h10 := hz.out
        clear HAP hcv hb hz HX HW
        omega
      rename_i h
      clear h
      go_roundw
      case rel => exact ⟨t + 1, ht1, by rw [HX.out, HW.out], by rw [← HAP.out], by go_num, hb.alloc hb.size _⟩
      case measure => simp [intOf]; omega
    · obtain rfl : t = k := by omega
      go_wp2
      go_ret
      refine ⟨?_, ?_⟩
      · simp
      · exact hb
set_option maxRecDepth 100000 in
set_option maxHeartbeats 2000000 in
theorem z_key (id i : Nat) (hid : id ≤ 9999) (hi : i < 100) (w : World) :
    Calls Tryz.prog 23 #[.int .i64 (id : Int), .int .i64 (i : Int)] w fun e w' => e = .returned (.string ⟨(keyL id i).toArray⟩) ∧ Below w.heap.size w w' := by
  have H1 : Hid (Calls Tryz.prog 39 #[.int .i64 (id : Int), .int .i64 4] w fun e w' => e = .returned (.string ⟨(dgs id 4).toArray⟩) ∧ Below w.heap.size w w') := z_digits id 4 hid (by omega) w
  have H2 : Hid (∀ w1, Below w.heap.size w w1 → Calls Tryz.prog 39 #[.int .i64 (i : Int), .int .i64 2] w1 fun e w' => e = .returned (.string ⟨(dgs i 2).toArray⟩) ∧ Below w.heap.size w w') := fun w1 h1 => by
    refine (z_digits i 2 (by omega) (by omega) w1).mono ?_
    rintro e w' ⟨rfl, hb⟩
    exact ⟨rfl, h1.trans (hb.mono h1.size)⟩
  have a1 : (⟨#[115]⟩ : ByteArray) ++ (⟨(dgs id 4).toArray⟩ : ByteArray) = ⟨(115 :: dgs id 4).toArray⟩ := str_app [115] (dgs id 4)
  have a2 : (⟨(115 :: dgs id 4).toArray⟩ : ByteArray) ++ (⟨(dgs i 2).toArray⟩ : ByteArray) = ⟨(keyL id i).toArray⟩ := str_app (115 :: dgs id 4) (dgs i 2)
  have z0 : (⟨#[115]⟩ : ByteArray).size = 1 := rfl
  have z1 : (⟨(dgs id 4).toArray⟩ : ByteArray).size = 4 := by show (dgs id 4).toArray.size = 4; rw [List.size_toArray, dgs_len]
  have z2 : (⟨(dgs i 2).toArray⟩ : ByteArray).size = 2 := by show (dgs i 2).toArray.size = 2; rw [List.size_toArray, dgs_len]
  have z3 : (⟨(115 :: dgs id 4).toArray⟩ : ByteArray).size = 5 := by show (115 :: dgs id 4).toArray.size = 5; rw [List.size_toArray, List.length_cons, dgs_len]
  generalize (⟨(keyL id i).toArray⟩ : ByteArray) = R at *
  generalize (⟨(dgs id 4).toArray⟩ : ByteArray) = A at *
  generalize (⟨(dgs i 2).toArray⟩ : ByteArray) = B at *
  generalize (⟨(115 :: dgs id 4).toArray⟩ : ByteArray) = C at *
  clear hid hi
  go_enter Tryz.func23, Tryz.ntmps23
  go_wp2_with (first | (go_at_call 39; refine (H2.out w2 b2).mono ?_; rintro e w3 ⟨rfl, b3⟩) | (go_at_call 39; refine H1.out.mono ?_; rintro e w2 ⟨rfl, b2⟩))
  go_ret
  refine ⟨?_, ?_⟩
  · simp
  · exact b3
end Go.Proofs.YtdcclfnbpckioaaGreatDoor
