/-
  Contract of datum's writeString.
  How long what is written may be.
-/
import Derived.Test.YtpjgdpfpgpaenaaDoorGal
namespace Go.Proofs.YtpjgdpfpgpaenaaDoor
open Go.RowKit
set_option linter.unusedVariables false
set_option linter.unusedSimpArgs false

theorem u8_eq {c : UInt8} {k : Nat} (hk : k < 256) : ((c.toNat : Int) == (k : Int)) = decide (c = UInt8.ofNat k) := by
  by_cases h : c = UInt8.ofNat k
  · subst h
    have : (UInt8.ofNat k).toNat = k := by simp [UInt8.toNat_ofNat']; omega
    rw [this]; simp
  · have : ¬ c.toNat = k := fun e => h (by rw [← e]; simp)
    rw [decide_eq_false h]
    simp
    omega
set_option maxRecDepth 100000 in
set_option maxHeartbeats 4000000 in
theorem dt_wstring {B b : Nat} {l : List UInt8} {w : World} (h : Bd B b l w) (s : ByteArray) (hl : l.length + 2 * s.size + 2 ≤ 140737488355328) :
    Calls Tryd.prog 41 #[.pointer (some ⟨b, 0, none⟩), .string s] w fun e w' => e = .returned (.tuple #[]) ∧ Hid (Bd B b (l ++ strL s) w' ∧ Kp B b w w') := by
  have H0 := hid (b_byte h 34 (by omega))
  have hL : Hid (l.length + 2 * s.size + 2 ≤ 140737488355328) := hl
  clear h hl
  go_enter Tryd.func41, Tryd.ntmps41
  go_wp2_with fail
  refine H0.out.mono ?_
  rintro e w1 ⟨rfl, hB1⟩
  go_wp2
  go_loopw [10] (fun i wr => ∃ k : Nat, k ≤ s.size ∧ i = .int .i64 (k : Int) ∧ Hid (Bd B b (l ++ 34 :: escL (s.data.toList.take k)) wr ∧ Kp B b w wr)) (fun i _ => s.size - (intOf i).toNat)
  case atStart => exact ⟨0, Nat.zero_le _, rfl, hB1⟩
  case round =>
    clear hB1 H0
    obtain ⟨k, hk, rfl, HB⟩ := hrel
    by_cases hlt : k < s.size
    · have l1 : (k : Int) < (s.size : Int) := by omega
      have l3 : (s.size : Int) ≤ 140737488355328 := by have := hL.out; omega
      have l2 : (0 : Int) ≤ (k : Int) := by omega
      have hkl : k < s.data.toList.length := by simpa using hlt
      have hLk : (l ++ 34 :: escL (s.data.toList.take k)).length + 2 ≤ 140737488355328 := by
        have h1 := escL_len (s.data.toList.take k)
        have h2 := hL.out
        rw [List.length_take] at h1
        simp only [List.length_append, List.length_cons]
        omega
      obtain ⟨c, hc⟩ : ∃ c, s[k]'hlt = c := ⟨_, rfl⟩
      have key : Hid (l ++ 34 :: escL (s.data.toList.take (k + 1)) = (l ++ 34 :: escL (s.data.toList.take k)) ++ escB c) := by
        refine hid ?_
        have e : s.data.toList.take (k + 1) = s.data.toList.take k ++ [c] := by
          rw [← List.take_append_getElem hkl, ← hc]
          rfl
        rw [e, escL_app]
        simp
      obtain ⟨L, hLd⟩ : ∃ L, l ++ 34 :: escL (s.data.toList.take k) = L := ⟨_, rfl⟩
      rw [hLd] at hLk HB key
      clear hLd hkl
      have H1 := hid (b_byte HB.out.1 92 (by omega))
      have H2 := hid (b_str HB.out.1 ⟨#[92, 110]⟩ (by show _ + 2 ≤ _; omega))
      have H3 := hid (b_str HB.out.1 ⟨#[92, 116]⟩ (by show _ + 2 ≤ _; omega))
      have H4 := hid (b_byte HB.out.1 c (by omega))
      have H5 : Hid (∀ V, Bd B b (L ++ [92]) V → Calls Tryd.prog 47 #[.pointer (some ⟨b, 0, none⟩), .int .u8 (c.toNat : Int)] V fun e w' => e = .returned .nilIface ∧ Hid (Bd B b (L ++ [92] ++ [c]) w' ∧ Kp B b V w')) := fun V hV => b_byte hV c (by simp; omega)
      have HL' : Hid (L.length + 2 ≤ 140737488355328) := hLk
      have hcs : (escB c = [92, c] ∧ ((c.toNat : Int) == 92) = true) ∨ (escB c = [92, c] ∧ ((c.toNat : Int) == 92) = false ∧ ((c.toNat : Int) == 34) = true) ∨ (escB c = [92, 110] ∧ ((c.toNat : Int) == 92) = false ∧ ((c.toNat : Int) == 34) = false ∧ ((c.toNat : Int) == 10) = true) ∨ (escB c = [92, 116] ∧ ((c.toNat : Int) == 92) = false ∧ ((c.toNat : Int) == 34) = false ∧ ((c.toNat : Int) == 10) = false ∧ ((c.toNat : Int) == 9) = true) ∨ (escB c = [c] ∧ ((c.toNat : Int) == 92) = false ∧ ((c.toNat : Int) == 34) = false ∧ ((c.toNat : Int) == 10) = false ∧ ((c.toNat : Int) == 9) = false) := by
        have q1 : ((c.toNat : Int) == 92) = decide (c = 92) := @u8_eq c 92 (by decide)
        have q2 : ((c.toNat : Int) == 34) = decide (c = 34) := @u8_eq c 34 (by decide)
        have q3 : ((c.toNat : Int) == 10) = decide (c = 10) := @u8_eq c 10 (by decide)
        have q4 : ((c.toNat : Int) == 9) = decide (c = 9) := @u8_eq c 9 (by decide)
        rw [q1, q2, q3, q4]
        unfold escB
        by_cases h1 : c = 92
        · simp [h1]
        · by_cases h2 : c = 34
          · simp [h1, h2]
          · by_cases h3 : c = 10
            · simp [h1, h2, h3]
            · by_cases h4 : c = 9
              · simp [h1, h2, h3, h4]
              · simp [h1, h2, h3, h4]
      clear hLk
      rcases hcs with ⟨e0, q1⟩ | ⟨e0, q1, q2⟩ | ⟨e0, q1, q2, q3⟩ | ⟨e0, q1, q2, q3, q4⟩ | ⟨e0, q1, q2, q3, q4⟩
      all_goals
        rw [e0] at key
        clear e0
      iterate 2
        · go_wp2_with fail
          refine H1.out.mono ?_
          rintro e w2 ⟨rfl, hb2⟩
          have H6 := hid (H5.out w2 hb2.out.1)
          go_wp2_with fail
          refine H6.out.mono ?_
          rintro e w3 ⟨rfl, hb3⟩
          have HS : Hid (Bd B b (l ++ 34 :: escL (s.data.toList.take (k + 1))) w3 ∧ Kp B b w w3) := by
            refine hid ⟨?_, HB.out.2.trans (hb2.out.2.trans hb3.out.2)⟩
            rw [key.out]
            have := hb3.out.1
            rw [List.append_assoc] at this
            exact this
          clear key
          go_wp2
          go_roundw
          case rel => exact ⟨k + 1, by omega, by go_num, HS⟩
          case measure => simp [intOf]; omega
      · go_wp2_with fail
        refine H2.out.mono ?_
        rintro e w3 ⟨rfl, hb3⟩
        have HS : Hid (Bd B b (l ++ 34 :: escL (s.data.toList.take (k + 1))) w3 ∧ Kp B b w w3) := by
          refine hid ⟨?_, HB.out.2.trans hb3.out.2⟩
          rw [key.out]
          exact hb3.out.1
        clear key
        go_wp2
        go_roundw
        case rel => exact ⟨k + 1, by omega, by go_num, HS⟩
        case measure => simp [intOf]; omega
      · go_wp2_with fail
        refine H3.out.mono ?_
        rintro e w3 ⟨rfl, hb3⟩
        have HS : Hid (Bd B b (l ++ 34 :: escL (s.data.toList.take (k + 1))) w3 ∧ Kp B b w w3) := by
          refine hid ⟨?_, HB.out.2.trans hb3.out.2⟩
          rw [key.out]
          exact hb3.out.1
        clear key
        go_wp2
        go_roundw
        case rel => exact ⟨k + 1, by omega, by go_num, HS⟩
        case measure => simp [intOf]; omega
      · go_wp2_with fail
        refine H4.out.mono ?_
        rintro e w3 ⟨rfl, hb3⟩
        have HS : Hid (Bd B b (l ++ 34 :: escL (s.data.toList.take (k + 1))) w3 ∧ Kp B b w w3) := by
          refine hid ⟨?_, HB.out.2.trans hb3.out.2⟩
          rw [key.out]
          exact hb3.out.1
        clear key
        go_wp2
        go_roundw
        case rel => exact ⟨k + 1, by omega, by go_num, HS⟩
        case measure => simp [intOf]; omega
    · obtain rfl : k = s.size := by omega
      have HB2 : Hid (Bd B b (l ++ 34 :: escL s.data.toList) wr ∧ Kp B b w wr) := by
        have := HB.out
        rw [List.take_of_length_le (by simp)] at this
        exact this
      have hLk : (l ++ 34 :: escL s.data.toList).length + 1 ≤ 140737488355328 := by
        have h1 := escL_len s.data.toList
        have h2 := hL.out
        have h3 : s.data.toList.length = s.size := by simp
        simp only [List.length_append, List.length_cons]
        omega
      have H7 := hid (b_byte HB2.out.1 34 hLk)
      clear HB hLk
      go_wp2_with fail
      refine H7.out.mono ?_
      rintro e w3 ⟨rfl, hb3⟩
      have HS : Hid (Bd B b (l ++ strL s) w3 ∧ Kp B b w w3) := by
        refine hid ⟨?_, HB2.out.2.trans hb3.out.2⟩
        have := hb3.out.1
        unfold strL
        simpa using this
      go_wp2
      refine bodyPost_end (results_none rfl _ _ _) rfl ?_
      exact ⟨rfl, HS⟩
end Go.Proofs.YtpjgdpfpgpaenaaDoor

namespace Go.Proofs.YtpjgdpfpgpaenaaDoor
open Go.RowKit
set_option linter.unusedVariables false

theorem wtL_app : ∀ (l : List Dt) (x : Dt), wtL (l ++ [x]) = wtL l + x.wt
  | [], x => by simp [wtL]
  | y :: r, x => by
    show y.wt + wtL (r ++ [x]) = y.wt + wtL r + x.wt
    rw [wtL_app r x]; omega
theorem wtL_take (l : List Dt) (j : Nat) : wtL (l.take j) ≤ wtL l := by
  induction l generalizing j with
  | nil => simp
  | cons x r ih =>
    cases j with
    | zero => exact Nat.zero_le _
    | succ j =>
      have := ih j
      show x.wt + wtL (r.take j) ≤ x.wt + wtL r
      omega
theorem wtL_next {l : List Dt} {j : Nat} (h : j < l.length) : wtL (l.take j) + l[j].wt ≤ wtL l := by
  rw [← wtL_app, ← take_snoc _ _ h]
  exact wtL_take l (j + 1)
mutual
theorem out_le : ∀ d : Dt, d.out.length + 3 ≤ 8 * d.wt
  | .node k t l m => by
    have h1 := outL_le false l
    have h2 := outT_le m
    have h3 := escL_len t.data.toList
    have h4 : t.data.toList.length = t.size := by simp
    show (if k = 3 then strL t else if sqB k then (if k = 6 then [35] else []) ++ (40 :: (outL false l ++ outT m ++ [41])) else t.data.toList).length + 3 ≤ 8 * (1 + t.size + (wtL l + wtL m))
    split
    · unfold strL
      simp only [List.length_cons, List.length_append, List.length_nil]
      omega
    · split
      · split <;> simp only [List.length_cons, List.length_append, List.length_nil] <;> omega
      · omega
theorem outL_le : ∀ (f : Bool) (l : List Dt), (outL f l).length ≤ 8 * wtL l
  | _, [] => Nat.zero_le _
  | f, x :: r => by
    have h1 := out_le x
    have h2 := outL_le true r
    show ((if f then [32] else []) ++ x.out ++ outL true r).length ≤ 8 * (x.wt + wtL r)
    cases f <;> simp only [List.length_cons, List.length_append, List.length_nil, if_true, if_false, Bool.false_eq_true] <;> omega
theorem outT_le : ∀ (l : List Dt), (outT l).length ≤ 8 * wtL l
  | [] => Nat.zero_le _
  | x :: r => by
    have h1 := out_le x
    have h2 := outT_le r
    show ([32, 46, 32] ++ x.out ++ outT r).length ≤ 8 * (x.wt + wtL r)
    simp only [List.length_cons, List.length_append, List.length_nil]
    omega
end
end Go.Proofs.YtpjgdpfpgpaenaaDoor
