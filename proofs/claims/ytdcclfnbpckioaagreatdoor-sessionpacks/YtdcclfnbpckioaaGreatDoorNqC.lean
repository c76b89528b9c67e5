/-
  Which texts are a request's name: the program's way, and the document's.
-/
import Derived.Test.YtdcclfnbpckioaaGreatDoorNqB
import Derived.Lib.ConvBytes
namespace Go.Proofs.YtdcclfnbpckioaaGreatDoor
open Go.RowKit
set_option linter.unusedVariables false

def isC (c : Int) : Bool := decide (97 ≤ c ∧ c ≤ 122) || decide (65 ≤ c ∧ c ≤ 90) || decide (48 ≤ c ∧ c ≤ 57)
def isIdB (s : ByteArray) : Bool := decide (1 ≤ s.size ∧ s.size ≤ 8) && (strL s).all isC

theorem isC_cases (c : Int) : (c < 48 ∧ isC c = false) ∨ (48 ≤ c ∧ c ≤ 57 ∧ isC c = true) ∨ (57 < c ∧ c < 65 ∧ isC c = false) ∨ (65 ≤ c ∧ c ≤ 90 ∧ isC c = true) ∨ (90 < c ∧ c < 97 ∧ isC c = false) ∨ (97 ≤ c ∧ c ≤ 122 ∧ isC c = true) ∨ (122 < c ∧ isC c = false) := by
  unfold isC
  by_cases h1 : c < 48
  · left; refine ⟨h1, ?_⟩; simp; omega
  by_cases h2 : c ≤ 57
  · right; left; refine ⟨by omega, h2, ?_⟩; simp; omega
  by_cases h3 : c < 65
  · right; right; left; refine ⟨by omega, h3, ?_⟩; simp; omega
  by_cases h4 : c ≤ 90
  · right; right; right; left; refine ⟨by omega, h4, ?_⟩; simp; omega
  by_cases h5 : c < 97
  · right; right; right; right; left; refine ⟨by omega, h5, ?_⟩; simp; omega
  by_cases h6 : c ≤ 122
  · right; right; right; right; right; left; refine ⟨by omega, h6, ?_⟩; simp; omega
  · right; right; right; right; right; right; refine ⟨by omega, ?_⟩; simp; omega

set_option maxHeartbeats 2000000 in
theorem n_let (c : Int) (w : World) : Calls Tryz.prog 67 #[.int .u8 c] w fun e w' => e = .returned (.bool (isC c)) ∧ w' = w := by
  rcases isC_cases c with ⟨h1, hc⟩ | ⟨h1, h2, hc⟩ | ⟨h1, h2, hc⟩ | ⟨h1, h2, hc⟩ | ⟨h1, h2, hc⟩ | ⟨h1, h2, hc⟩ | ⟨h1, hc⟩
  all_goals
    rw [hc]
    have d1 : decide (97 ≤ c) = true ∨ decide (97 ≤ c) = false := by cases decide (97 ≤ c) <;> simp
    clear d1
    go_enter Tryz.func67, Tryz.ntmps67
  · have d1 : decide (97 ≤ c) = false := by simp; omega
    have d2 : decide (65 ≤ c) = false := by simp; omega
    have d3 : decide (48 ≤ c) = false := by simp; omega
    go_wp2
    go_ret
    exact ⟨rfl, rfl⟩
  · have d1 : decide (97 ≤ c) = false := by simp; omega
    have d2 : decide (65 ≤ c) = false := by simp; omega
    go_wp2
    go_ret
    exact ⟨rfl, rfl⟩
  · have d1 : decide (97 ≤ c) = false := by simp; omega
    have d2 : decide (65 ≤ c) = false := by simp; omega
    have d3 : (48 : Int) ≤ c := by omega
    have d4 : decide (c ≤ 57) = false := by simp; omega
    go_wp2
    go_ret
    exact ⟨rfl, rfl⟩
  · have d1 : decide (97 ≤ c) = false := by simp; omega
    go_wp2
    go_ret
    exact ⟨rfl, rfl⟩
  · have d1 : decide (97 ≤ c) = false := by simp; omega
    have d2 : (65 : Int) ≤ c := by omega
    have d5 : decide (c ≤ 90) = false := by simp; omega
    have d3 : (48 : Int) ≤ c := by omega
    have d4 : decide (c ≤ 57) = false := by simp; omega
    go_wp2
    go_ret
    exact ⟨rfl, rfl⟩
  · go_wp2
    go_ret
    exact ⟨rfl, rfl⟩
  · have d1 : (97 : Int) ≤ c := by omega
    have d6 : decide (c ≤ 122) = false := by simp; omega
    have d2 : (65 : Int) ≤ c := by omega
    have d5 : decide (c ≤ 90) = false := by simp; omega
    have d3 : (48 : Int) ≤ c := by omega
    have d4 : decide (c ≤ 57) = false := by simp; omega
    go_wp2
    go_ret
    exact ⟨rfl, rfl⟩
theorem strF_size (f : Nat → Int) (m : Nat) : (strF f m).size = m := by
  unfold strF strOfNums
  rw [ByteArray.size]
  simp [lst]
/-- A text turned into bytes. -/
theorem conv_str (f : Nat → Int) (m : Nat) (hby : ∀ i, 0 ≤ f i ∧ f i ≤ 255) (hm : m ≤ 1000000) (w : World) : ∃ G W4 cur fz, (convert 9 22 (.string (strF f m))).run Tryz.prog w = .ok (.slice (some ⟨w.heap.size, 0, none⟩) m G) W4 ∧ m ≤ G ∧ G ≤ 9223372036854775807 ∧ W4.heap[w.heap.size]? = some (.cells cur 5 fz) ∧ (∀ i, i < m → cur[i]? = some (.int .u8 (f i))) ∧ Below w.heap.size w W4 ∧ W4.heap.size = w.heap.size + 1 := by
  have hsz := strF_size f m
  refine ⟨grownCap w m 0 5, Lib.bytesWorld w 5 (strF f m), _, _, ?_, grownCap_ge w _ _ _, ?_, Lib.bytesWorld_at_new w 5 (strF f m), ?_, ⟨rfl, rfl, rfl, by rw [Lib.bytesWorld_size]; omega, fun k hk => Lib.bytesWorld_at_old w 5 (strF f m) k hk⟩, Lib.bytesWorld_size w 5 (strF f m)⟩
  · have := Lib.run_convert_string_bytes w 9 22 5 (strF f m) Tryz.underlying9 Tryz.underlying22 Tryz.underlying5
    rw [hsz] at this
    exact this
  · have := grownCap_le_maxLen w m 0 5 (by unfold maxLen; omega)
    unfold maxLen at this
    exact this
  · intro i hi
    unfold Lib.bytesCells
    have hd : (strF f m).data.size = m := hsz
    rw [Array.getElem?_append_left (by simp [hd]; omega), Array.getElem?_map]
    have e1 : (strF f m).data[i]? = some (UInt8.ofNat (f i).toNat) := by
      rw [← Array.getElem?_toList]
      unfold strF
      rw [strOfNums_data, List.getElem?_map, lst_get f m i hi]
      rfl
    rw [e1]
    have := hby i
    simp
    omega

theorem str_self (s : ByteArray) : strF (fn (strL s)) s.size = s := by have := strF_of s []; rwa [List.append_nil] at this
theorem all_take {xs : List Int} {k : Nat} (h : k < xs.length) (p : Int → Bool) : (xs.take (k + 1)).all p = ((xs.take k).all p && p (fn xs k)) := by
  rw [List.take_add_one, List.getElem?_eq_getElem h, List.all_append]
  simp [fn, List.getD, h]
theorem str_len (s : ByteArray) : s.toList.length = s.size := by rw [ByteArray.toList_eq]; exact Array.length_toList
theorem isEmpty_no {s : ByteArray} (h : ¬ s.size = 0) : s.toList.isEmpty = false := by
  cases e : s.toList with
  | nil => have := str_len s; rw [e] at this; simp at this; omega
  | cons a l => rfl
set_option maxHeartbeats 2000000 in
theorem n_isID (s : ByteArray) (w : World) : Calls Tryz.prog 50 #[.string s] w fun e w' => e = .returned (.bool (isIdB s)) ∧ Below w.heap.size w w' := by
  by_cases h0 : s.size = 0
  · have e : s = ByteArray.empty := by
      cases s with
      | mk d => simp [ByteArray.size] at h0; subst h0; rfl
    subst e
    rw [show isIdB ByteArray.empty = false from rfl]
    go_enter Tryz.func50, Tryz.ntmps50
    go_wp2
    go_ret
    exact ⟨rfl, Below.refl _ _⟩
  have hE := isEmpty_no h0
  by_cases h8 : 8 < s.size
  · rw [show isIdB s = false by simp [isIdB]; omega]
    have h8' : (8 : Int) < (s.size : Int) := by omega
    go_enter Tryz.func50, Tryz.ntmps50
    go_wp2
    go_ret
    exact ⟨rfl, Below.refl _ _⟩
  · have h8' : decide ((8 : Int) < (s.size : Int)) = false := by simp; omega
    obtain ⟨G, W4, cur, fz, hcv, hG1, hG9, hh, hcu, b4, hsz4⟩ := conv_str (fn (strL s)) s.size (fn_by (strL_by s)) (by omega) w
    rw [str_self] at hcv
    obtain ⟨n, hn⟩ : ∃ n, n = s.size := ⟨_, rfl⟩
    rw [← hn] at hcv hG1 hcu
    have HI : Hid (isIdB s = (strL s).all isC ∧ (strL s).length = n) := ⟨by simp [isIdB]; omega, by rw [strL_length, hn]⟩
    have hn8 : n ≤ 8 := by omega
    clear hn h0 h8
    go_enter Tryz.func50, Tryz.ntmps50
    go_wp2
    go_loopw [15] (fun i wr => ∃ (k : Nat), k ≤ n ∧ i = .int .i64 (k : Int) ∧ Hid (((strL s).take k).all isC = true) ∧ wr = W4) (fun i _ => n - (intOf i).toNat)
    case atStart => exact ⟨0, Nat.zero_le _, rfl, (rfl : _ = _), rfl⟩
    case round =>
      obtain ⟨k, hk, rfl, hA, rfl⟩ := hrel
      by_cases hlt : k < n
      · have li : (k : Int) < (n : Int) := by omega
        have l0 : (0 : Int) ≤ (k : Int) := by omega
        have hc : wr.cell? ⟨w.heap.size, k, none⟩ = some (.int .u8 (fn (strL s) k)) := by simp only [World.cell?, hh]; exact hcu k hlt
        have HT := all_take (xs := strL s) (k := k) (by have := HI.out.2; omega) isC
        rw [hA.out, Bool.true_and] at HT
        have HL := n_let (fn (strL s) k) wr
        generalize hgen : fn (strL s) k = c at *
        cases hcc : isC c with
        | true =>
          rw [hcc] at HT HL
          have HT' : Hid (((strL s).take (k + 1)).all isC = true) := HT
          clear HT hA hcu hh hgen hcc
          go_wp2_with (go_at_call 67; refine HL.mono ?_; rintro e w2 ⟨rfl, rfl⟩)
          go_roundw
          case rel => exact ⟨k + 1, by omega, by go_num, HT', trivial⟩
          case measure => simp [intOf]; omega
        | false =>
          rw [hcc] at HT HL
          have HF : Hid (isIdB s = false) := by
            show isIdB s = false
            rw [HI.out.1]
            cases hx : (strL s).all isC with
            | false => rfl
            | true =>
              rw [← List.take_append_drop (k + 1) (strL s), List.all_append, HT] at hx
              cases hx
          clear HT hA hcu hh hgen hcc HI
          go_wp2_with (go_at_call 67; refine HL.mono ?_; rintro e w2 ⟨rfl, rfl⟩)
          go_ret
          exact ⟨by rw [HF.out]; rfl, b4⟩
      · obtain rfl : k = n := by omega
        have HF : Hid (isIdB s = true) := by
          show isIdB s = true
          rw [HI.out.1, ← hA.out, List.take_of_length_le (by have := HI.out.2; omega)]
        clear hA hcu hh HI
        go_wp2
        go_ret
        exact ⟨by rw [HF.out]; rfl, b4⟩
theorem strL_at (s : ByteArray) (k : Nat) (h : k < s.size) : fn (strL s) k = ((s[k]).toNat : Int) := by
  have h' : k < s.data.toList.length := by rw [Array.length_toList]; exact h
  simp only [fn, strL, List.getD, List.getElem?_map, List.getElem?_eq_getElem h']
  rfl
set_option maxHeartbeats 4000000 in
theorem x_isID (s : ByteArray) (w : World) : Calls Tryz.prog 57 #[.string s] w fun e w' => e = .returned (.bool (isIdB s)) ∧ w' = w := by
  by_cases h0 : s.size = 0
  · rw [show isIdB s = false by simp [isIdB]; omega]
    have h1 : (s.size : Int) < 1 := by omega
    go_enter Tryz.func57, Tryz.ntmps57
    go_wp2
    go_ret
    exact ⟨rfl, rfl⟩
  have h1 : decide ((s.size : Int) < 1) = false := by simp; omega
  by_cases h8 : 8 < s.size
  · rw [show isIdB s = false by simp [isIdB]; omega]
    have h8' : (8 : Int) < (s.size : Int) := by omega
    go_enter Tryz.func57, Tryz.ntmps57
    go_wp2
    go_ret
    exact ⟨rfl, rfl⟩
  · have h8' : decide ((8 : Int) < (s.size : Int)) = false := by simp; omega
    have HI : Hid (isIdB s = (strL s).all isC) := show isIdB s = (strL s).all isC by simp [isIdB]; omega
    have hn8 : s.size ≤ 8 := by omega
    clear h0 h8
    go_enter Tryz.func57, Tryz.ntmps57
    go_wp2
    go_loopw [3] (fun i wr => ∃ (k : Nat), k ≤ s.size ∧ i = .int .i64 (k : Int) ∧ Hid (((strL s).take k).all isC = true) ∧ wr = w) (fun i _ => s.size - (intOf i).toNat)
    case atStart => exact ⟨0, Nat.zero_le _, rfl, (rfl : _ = _), rfl⟩
    case round =>
      obtain ⟨k, hk, rfl, hA, rfl⟩ := hrel
      by_cases hlt : k < s.size
      · have li : (k : Int) < (s.size : Int) := by omega
        have l0 : (0 : Int) ≤ (k : Int) := by omega
        have HT := all_take (xs := strL s) (k := k) (by rw [strL_length]; exact hlt) isC
        rw [hA.out, Bool.true_and, strL_at s k hlt] at HT
        rcases isC_cases ((s[k]).toNat : Int) with ⟨h1, hc⟩ | ⟨h1, h2, hc⟩ | ⟨h1, h2, hc⟩ | ⟨h1, h2, hc⟩ | ⟨h1, h2, hc⟩ | ⟨h1, h2, hc⟩ | ⟨h1, hc⟩
        · rw [hc] at HT
          have d1 : ((s[k]).toNat : Int) < 48 := by omega
          have d2 : decide (57 < ((s[k]).toNat : Int)) = false := by simp; omega
          have d3 : ((s[k]).toNat : Int) < 97 := by omega
          have d4 : decide (122 < ((s[k]).toNat : Int)) = false := by simp; omega
          have d5 : ((s[k]).toNat : Int) < 65 := by omega
          have d6 : decide (90 < ((s[k]).toNat : Int)) = false := by simp; omega
          have HF : Hid (isIdB s = false) := by
            show isIdB s = false
            rw [HI.out]
            cases hx : (strL s).all isC with
            | false => rfl
            | true =>
              rw [← List.take_append_drop (k + 1) (strL s), List.all_append, HT] at hx
              cases hx
          clear HT hA hc HI
          go_wp2
          go_ret
          exact ⟨by rw [HF.out]; rfl, rfl⟩
        · rw [hc] at HT
          have d1 : decide (((s[k]).toNat : Int) < 48) = false := by simp; omega
          have d2 : decide (57 < ((s[k]).toNat : Int)) = false := by simp; omega
          have d3 : ((s[k]).toNat : Int) < 97 := by omega
          have d4 : decide (122 < ((s[k]).toNat : Int)) = false := by simp; omega
          have d5 : ((s[k]).toNat : Int) < 65 := by omega
          have d6 : decide (90 < ((s[k]).toNat : Int)) = false := by simp; omega
          have HT' : Hid (((strL s).take (k + 1)).all isC = true) := HT
          clear HT hA hc
          go_wp2
          go_roundw
          case rel => exact ⟨k + 1, by omega, by go_num, HT', trivial⟩
          case measure => simp [intOf]; omega
        · rw [hc] at HT
          have d1 : decide (((s[k]).toNat : Int) < 48) = false := by simp; omega
          have d2 : 57 < ((s[k]).toNat : Int) := by omega
          have d3 : ((s[k]).toNat : Int) < 97 := by omega
          have d4 : decide (122 < ((s[k]).toNat : Int)) = false := by simp; omega
          have d5 : ((s[k]).toNat : Int) < 65 := by omega
          have d6 : decide (90 < ((s[k]).toNat : Int)) = false := by simp; omega
          have HF : Hid (isIdB s = false) := by
            show isIdB s = false
            rw [HI.out]
            cases hx : (strL s).all isC with
            | false => rfl
            | true =>
              rw [← List.take_append_drop (k + 1) (strL s), List.all_append, HT] at hx
              cases hx
          clear HT hA hc HI
          go_wp2
          go_ret
          exact ⟨by rw [HF.out]; rfl, rfl⟩
        · rw [hc] at HT
          have d1 : decide (((s[k]).toNat : Int) < 48) = false := by simp; omega
          have d2 : 57 < ((s[k]).toNat : Int) := by omega
          have d3 : ((s[k]).toNat : Int) < 97 := by omega
          have d4 : decide (122 < ((s[k]).toNat : Int)) = false := by simp; omega
          have d5 : decide (((s[k]).toNat : Int) < 65) = false := by simp; omega
          have d6 : decide (90 < ((s[k]).toNat : Int)) = false := by simp; omega
          have HT' : Hid (((strL s).take (k + 1)).all isC = true) := HT
          clear HT hA hc
          go_wp2
          go_roundw
          case rel => exact ⟨k + 1, by omega, by go_num, HT', trivial⟩
          case measure => simp [intOf]; omega
        · rw [hc] at HT
          have d1 : decide (((s[k]).toNat : Int) < 48) = false := by simp; omega
          have d2 : 57 < ((s[k]).toNat : Int) := by omega
          have d3 : ((s[k]).toNat : Int) < 97 := by omega
          have d4 : decide (122 < ((s[k]).toNat : Int)) = false := by simp; omega
          have d5 : decide (((s[k]).toNat : Int) < 65) = false := by simp; omega
          have d6 : 90 < ((s[k]).toNat : Int) := by omega
          have HF : Hid (isIdB s = false) := by
            show isIdB s = false
            rw [HI.out]
            cases hx : (strL s).all isC with
            | false => rfl
            | true =>
              rw [← List.take_append_drop (k + 1) (strL s), List.all_append, HT] at hx
              cases hx
          clear HT hA hc HI
          go_wp2
          go_ret
          exact ⟨by rw [HF.out]; rfl, rfl⟩
        · rw [hc] at HT
          have d1 : decide (((s[k]).toNat : Int) < 48) = false := by simp; omega
          have d2 : 57 < ((s[k]).toNat : Int) := by omega
          have d3 : decide (((s[k]).toNat : Int) < 97) = false := by simp; omega
          have d4 : decide (122 < ((s[k]).toNat : Int)) = false := by simp; omega
          have d5 : decide (((s[k]).toNat : Int) < 65) = false := by simp; omega
          have d6 : 90 < ((s[k]).toNat : Int) := by omega
          have HT' : Hid (((strL s).take (k + 1)).all isC = true) := HT
          clear HT hA hc
          go_wp2
          go_roundw
          case rel => exact ⟨k + 1, by omega, by go_num, HT', trivial⟩
          case measure => simp [intOf]; omega
        · rw [hc] at HT
          have d1 : decide (((s[k]).toNat : Int) < 48) = false := by simp; omega
          have d2 : 57 < ((s[k]).toNat : Int) := by omega
          have d3 : decide (((s[k]).toNat : Int) < 97) = false := by simp; omega
          have d4 : 122 < ((s[k]).toNat : Int) := by omega
          have d5 : decide (((s[k]).toNat : Int) < 65) = false := by simp; omega
          have d6 : 90 < ((s[k]).toNat : Int) := by omega
          have HF : Hid (isIdB s = false) := by
            show isIdB s = false
            rw [HI.out]
            cases hx : (strL s).all isC with
            | false => rfl
            | true =>
              rw [← List.take_append_drop (k + 1) (strL s), List.all_append, HT] at hx
              cases hx
          clear HT hA hc HI
          go_wp2
          go_ret
          exact ⟨by rw [HF.out]; rfl, rfl⟩
      · obtain rfl : k = s.size := by omega
        have HF : Hid (isIdB s = true) := by
          show isIdB s = true
          rw [HI.out, ← hA.out, List.take_of_length_le (by rw [strL_length]; exact Nat.le_refl _)]
        clear hA HI
        go_wp2
        go_ret
        exact ⟨by rw [HF.out]; rfl, rfl⟩
end Go.Proofs.YtdcclfnbpckioaaGreatDoor
