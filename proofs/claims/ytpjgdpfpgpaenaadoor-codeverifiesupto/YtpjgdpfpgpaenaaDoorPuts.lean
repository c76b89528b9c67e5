/-
  Contracts of bytes.Clone, bytes.Equal, wire.fresh, wire.Put, wire.Text and the document's own Put and Text. Conditions: at most 2^46 bytes.
-/
import Derived.Test.YtpjgdpfpgpaenaaDoorGas
namespace Go.Proofs.YtpjgdpfpgpaenaaDoor
open Go.RowKit
set_option linter.unusedVariables false

def strI (s : ByteArray) : List Int := s.data.toList.map (fun b => (b.toNat : Int))
theorem strI_length (s : ByteArray) : (strI s).length = s.size := by simp only [strI, List.length_map]; exact Array.length_toList

set_option maxHeartbeats 400000 in
theorem fresh (a0 : Option Addr) (n c : Nat) (f : Nat → Int) (room : Nat) (w : World) (hbig : n + room ≤ 140737488355328) (hf : From w a0 n f) (hc0 : a0 = none → c = 0) :
    Calls Tryd.prog 40 #[.slice a0 n c, .int .i64 (room : Int)] w fun e w' => ∃ v', e = .returned v' ∧ Own w' w.heap.size v' (lst f n) ∧ Below w.heap.size w w' := by
  obtain ⟨i0, hi, hz0, hz1, hz2⟩ := info_parts info5
  have HF : Hid (From w a0 n f) := hf
  clear hf
  go_enter Tryd.func40, Tryd.ntmps40
  go_wp2_with (at_make; refine wpList_make_own w rfl _ _ 27 rfl w.heap.size 5 i0 (.int .u8 0) 1 Tryd.underlying27 hi hz0 hz1 .i64 .i64 _ (n + room) rfl rfl ?q0 ?q1 ?q2 ?q3 ?_)
  case q0 => first | rfl | omega | simp
  case q1 => first | omega | (rw [hz2]; omega)
  case q2 => unfold maxLen; omega
  case q3 => exact Nat.le_refl _
  intro w1 ho hg
  have hb1 : Below w.heap.size w w1 := (Below.refl _ w).grown hg (Nat.le_refl _) (fun k hk => by cases hk)
  have hs := hb1.size
  have ho' : Own w1 w.heap.size (.slice (some ⟨w.heap.size, 0, none⟩) 0 (n + room)) [] := ho
  have HF1 : Hid (From w1 a0 n f) := HF.out.below hb1 (Nat.le_refl _)
  clear ho hg HF
  go_wp2_with (at_builtin; refine wpList_app rfl _ _ rfl w.heap.size _ [] rfl ho' a0 n c f rfl HF1.out hc0 ?q2 ?q3 ?_)
  case q2 => simp; omega
  case q3 => omega
  intro v' w' ho hb
  go_wp2
  go_ret
  exact ⟨v', rfl, ho, hb1.trans hb⟩

set_option maxHeartbeats 400000 in
theorem wPut (a0 : Option Addr) (n c : Nat) (f : Nat → Int) (z : Int) (w : World) (hbig : n ≤ 70368744177664) (hf : From w a0 n f) (hc0 : a0 = none → c = 0) (hz : z ≤ 9223372036854775807) :
    Calls Tryd.prog 28 #[.slice a0 n c, .int .i64 z] w fun e w' => ∃ v', e = .returned v' ∧ Own w' w.heap.size v' (lst f n ++ putB z.toNat) ∧ Below w.heap.size w w' := by
  go_enter Tryd.func28, Tryd.ntmps28
  go_wp2_with fail
  refine (fresh a0 n c f 9 w (by omega) hf hc0).mono ?_
  rintro e w1 ⟨v1, rfl, ho, hb⟩
  go_wp2_with fail
  refine (putNumber v1 z hz w.heap.size (lst f n) w1 hb.size (by rw [lst_length]; omega) ho).mono ?_
  rintro e w2 ⟨v2, rfl, ho2, hb2⟩
  go_wp2
  go_ret
  exact ⟨v2, rfl, ho2, hb.trans hb2⟩

set_option maxHeartbeats 400000 in
theorem wText2 (a0 : Option Addr) (n c : Nat) (f : Nat → Int) (s : ByteArray) (w : World) (hbig : n + s.size ≤ 70368744177664) (hf : From w a0 n f) (hc0 : a0 = none → c = 0) :
    Calls Tryd.prog 29 #[.slice a0 n c, .string s] w fun e w' => ∃ v', e = .returned v' ∧ Own w' w.heap.size v' (lst f n ++ putB s.size ++ strI s) ∧ Below w.heap.size w w' := by
  have hlen := putB_le s.size (by omega)
  have hll := lst_length f n
  have HL : Hid ((lst f n ++ putB s.size).length = n + (putB s.size).length) := by show _ = _; rw [List.length_append, hll]
  go_enter Tryd.func29, Tryd.ntmps29
  go_wp2_with fail
  refine (fresh a0 n c f (9 + s.size) w (by omega) hf hc0).mono ?_
  rintro e w1 ⟨v1, rfl, ho, hb⟩
  go_wp2_with fail
  refine (putNumber v1 (s.size : Int) (by omega) w.heap.size (lst f n) w1 hb.size (by omega) ho).mono ?_
  rintro e w2 ⟨v2, rfl, ho2, hb2⟩
  rw [Int.toNat_natCast] at ho2
  have hs2 : w.heap.size ≤ w2.heap.size := Nat.le_trans hb.size hb2.size
  have HB : Hid ((lst f n ++ putB s.size).length + s.size ≤ 140737488355328) := by show _ ≤ _; rw [HL.out]; omega
  clear ho hll hlen
  go_wp2_with (at_builtin; refine wpList_appStr rfl _ _ rfl w.heap.size _ (lst f n ++ putB s.size) rfl ho2 s rfl HB.out hs2 ?_)
  intro v' w' ho hb3
  go_wp2
  go_ret
  exact ⟨v', rfl, (by rw [List.append_assoc]; exact ho), (hb.trans hb2).trans hb3⟩

set_option maxHeartbeats 1000000 in
theorem xPut_at (a0 : Option Addr) (n0 c : Nat) (f : Nat → Int) (n : Nat) (w : World) (hbig : n0 ≤ 70368744177664) (hf : From w a0 n0 f) (hc0 : a0 = none → c = 0) (hn : n ≤ 9223372036854775807) :
    Calls Tryd.prog 14 #[.slice a0 n0 c, .int .i64 (n : Int)] w fun e w' => ∃ v', e = .returned v' ∧ Own w' w.heap.size v' (lst f n0 ++ putB n) ∧ Below w.heap.size w w' := by
  have hm : Own (w.alloc (.cells #[] 5)) w.heap.size (.slice (some ⟨w.heap.size, 0, none⟩) 0 0) [] := World.ownsRow_made w #[] 0 (Nat.le_refl _) (Nat.zero_le _) rfl
  have HF : Hid (From (w.alloc (.cells #[] 5)) a0 n0 f) := hf.alloc (.cells #[] 5)
  have hmax : max (n : Int) 0 = (n : Int) := by omega
  have hlen := putB_le n hn
  have hll := lst_length f n0
  clear hf
  go_enter Tryd.func14, Tryd.ntmps14
  go_wp2_with (at_builtin; refine wpList_app rfl _ _ rfl w.heap.size _ [] rfl hm a0 n0 c f rfl HF.out hc0 ?q2 ?q3 ?_)
  case q2 => simp; omega
  case q3 => simp
  intro v1 w1 ho1 hb1
  have hb1 : Below w.heap.size w w1 := ((Below.refl _ w).alloc (Nat.le_refl _) _).trans hb1
  have ho1 : Own w1 w.heap.size v1 (lst f n0) := ho1
  have hs1 := hb1.size
  clear hm HF
  obtain ⟨i0, hi, hz0, hz1, hz2⟩ := info_parts info5
  go_wp2
  go_loopw [1, 5] (fun m b wr => ∃ (k : Nat) (ys : List Int), m = .int .i64 (k : Int) ∧ k ≤ n ∧ Hid (ys ++ putB k = lst f n0 ++ putB n) ∧ Own wr w.heap.size b ys ∧ Below w.heap.size w wr) (fun m _ _ => (intOf m).toNat)
  case atStart => exact ⟨n, lst f n0, rfl, Nat.le_refl _, rfl, ho1, hb1⟩
  case round =>
    obtain ⟨k, ys, rfl, hk, hys, ho, hbel⟩ := hrel
    have hlen2 : ys.length + (putB k).length ≤ n0 + 9 := by
      have := congrArg List.length hys.out
      simp only [List.length_append] at this
      omega
    have hpos : 1 ≤ (putB k).length := by rw [putB]; split <;> simp
    have hys' : ys.length ≤ 140737488355000 := by omega
    have hs := hbel.size
    clear hlen hlen2 hpos ho1 hb1 hs1 hll
    by_cases hlt : (k : Int) < 128
    · have hge : decide ((128 : Int) ≤ (k : Int)) = false := by simp; omega
      have HE : Hid (ys ++ [(k : Int)] = lst f n0 ++ putB n) := by
        have := hys.out
        rw [putB_small k (by omega)] at this
        exact this
      clear hys
      go_wp2_with (at_builtin; refine wpList_append_own _ rfl _ _ 27 rfl w.heap.size 5 i0 (.int .u8 0) 1 1 Tryd.underlying27 hi hz0 hz1 hz2 rfl (by decide) _ ys.length (ys.map (Value.int .u8)) rfl (ho.alloc _) ⟨wr.heap.size, 0, none⟩ 1 1 [.int .u8 (k : Int)] rfl rfl (cell_one_new _ _ _) ?qc3 ?qc4 ?qc5 ?qc6 ?_)
      case qc3 => first | rfl | (intro u hu; simp at hu; subst hu; rfl)
      case qc4 => unfold maxLen; omega
      case qc5 => omega
      case qc6 => first | omega | (simp; omega)
      intro v' w1 hown' hgrow _
      go_wp2
      go_ret
      refine ⟨v', rfl, ?_, ?_⟩
      · rw [← HE.out]; exact Own.one hown'
      · exact (hbel.alloc (by omega) _).grown hgrow (by simp; omega) (fun q hq => (World.ownsRow.lt ho q hq).1)
    · have hge : (128 : Int) ≤ (k : Int) := by omega
      have HE : Hid ((ys ++ [(k : Int) % 128 + 128]) ++ putB (k / 128) = lst f n0 ++ putB n) := by
        have := hys.out
        rw [putB_more k (by omega), show ((k % 128 + 128 : Nat) : Int) = (k : Int) % 128 + 128 by omega] at this
        rw [List.append_assoc]
        exact this
      clear hys
      go_wp2_with (at_builtin; refine wpList_append_own _ rfl _ _ 27 rfl w.heap.size 5 i0 (.int .u8 0) 1 1 Tryd.underlying27 hi hz0 hz1 hz2 rfl (by decide) _ ys.length (ys.map (Value.int .u8)) rfl (ho.alloc _) ⟨wr.heap.size, 0, none⟩ 1 1 [.int .u8 ((k : Int) % 128 + 128)] rfl rfl (cell_one_new _ _ _) ?qc3 ?qc4 ?qc5 ?qc6 ?_)
      case qc3 => first | rfl | (intro u hu; simp at hu; subst hu; rfl)
      case qc4 => unfold maxLen; omega
      case qc5 => omega
      case qc6 => first | omega | (simp; omega)
      intro v' w1 hown' hgrow _
      have hb2 := (hbel.alloc (by omega) (.cells #[.int .u8 ((k : Int) % 128 + 128)] 5)).grown hgrow (by simp; omega) (fun q hq => (World.ownsRow.lt ho q hq).1)
      have ho2 := Own.one hown'
      clear hown' hgrow ho hbel
      go_wp2
      go_roundw
      case rel => exact ⟨k / 128, _, by go_num, by omega, HE, ho2, hb2⟩
      case measure => simp [intOf]; omega

set_option maxHeartbeats 1000000 in
theorem xPut_neg (a0 : Option Addr) (n0 c : Nat) (f : Nat → Int) (z : Int) (hz : z < 0) (w : World) (hbig : n0 ≤ 70368744177664) (hf : From w a0 n0 f) (hc0 : a0 = none → c = 0) :
    Calls Tryd.prog 14 #[.slice a0 n0 c, .int .i64 z] w fun e w' => ∃ v', e = .returned v' ∧ Own w' w.heap.size v' (lst f n0 ++ putB 0) ∧ Below w.heap.size w w' := by
  have hm : Own (w.alloc (.cells #[] 5)) w.heap.size (.slice (some ⟨w.heap.size, 0, none⟩) 0 0) [] := World.ownsRow_made w #[] 0 (Nat.le_refl _) (Nat.zero_le _) rfl
  have HF : Hid (From (w.alloc (.cells #[] 5)) a0 n0 f) := hf.alloc (.cells #[] 5)
  have hll := lst_length f n0
  have HP : Hid (putB 0 = [0]) := putB_small 0 (by decide)
  clear hf
  go_enter Tryd.func14, Tryd.ntmps14
  go_wp2_with (at_builtin; refine wpList_app rfl _ _ rfl w.heap.size _ [] rfl hm a0 n0 c f rfl HF.out hc0 ?q2 ?q3 ?_)
  case q2 => simp; omega
  case q3 => simp
  intro v1 w1 ho1 hb1
  have hb1 : Below w.heap.size w w1 := ((Below.refl _ w).alloc (Nat.le_refl _) _).trans hb1
  have ho1 : Own w1 w.heap.size v1 (lst f n0) := ho1
  have hs1 := hb1.size
  clear hm HF
  obtain ⟨i0, hi, hz0, hz1, hz2⟩ := info_parts info5
  go_wp2
  refine wp_loop_rounds 1 ?_
  rw [rounds_succ]
  go_wp2_with (at_builtin; refine wpList_append_own _ rfl _ _ 27 rfl w.heap.size 5 i0 (.int .u8 0) 1 1 Tryd.underlying27 hi hz0 hz1 hz2 rfl (by decide) _ (lst f n0).length ((lst f n0).map (Value.int .u8)) rfl (ho1.alloc _) ⟨w1.heap.size, 0, none⟩ 1 1 [.int .u8 0] rfl rfl (cell_one_new _ _ _) ?qc3 ?qc4 ?qc5 ?qc6 ?_)
  case qc3 => first | rfl | (intro u hu; simp at hu; subst hu; rfl)
  case qc4 => unfold maxLen; omega
  case qc5 => omega
  case qc6 => first | omega | (simp; omega)
  intro v' w2 hown' hgrow _
  go_wp2
  go_ret
  refine ⟨v', rfl, ?_, ?_⟩
  · rw [HP.out]
    refine Own.one ?_
    rw [lst_length]
    exact hown'
  · exact (hb1.alloc hs1 _).grown hgrow (by simp; omega) (fun q hq => (World.ownsRow.lt ho1 q hq).1)

theorem xPut (a0 : Option Addr) (n0 c : Nat) (f : Nat → Int) (z : Int) (w : World) (hbig : n0 ≤ 70368744177664) (hf : From w a0 n0 f) (hc0 : a0 = none → c = 0) (hz : z ≤ 9223372036854775807) :
    Calls Tryd.prog 14 #[.slice a0 n0 c, .int .i64 z] w fun e w' => ∃ v', e = .returned v' ∧ Own w' w.heap.size v' (lst f n0 ++ putB z.toNat) ∧ Below w.heap.size w w' := by
  by_cases h : z < 0
  · rw [show z.toNat = 0 by omega]
    exact xPut_neg a0 n0 c f z h w hbig hf hc0
  · obtain ⟨n, rfl⟩ := Int.eq_ofNat_of_zero_le (show 0 ≤ z by omega)
    exact xPut_at a0 n0 c f n w hbig hf hc0 (by omega)

set_option maxHeartbeats 400000 in
theorem xText2 (a0 : Option Addr) (n c : Nat) (f : Nat → Int) (s : ByteArray) (w : World) (hbig : n + s.size ≤ 70368744177664) (hf : From w a0 n f) (hc0 : a0 = none → c = 0) :
    Calls Tryd.prog 15 #[.slice a0 n c, .string s] w fun e w' => ∃ v', e = .returned v' ∧ Own w' w.heap.size v' (lst f n ++ putB s.size ++ strI s) ∧ Below w.heap.size w w' := by
  have hlen := putB_le s.size (by omega)
  have hll := lst_length f n
  have HL : Hid ((lst f n ++ putB s.size).length = n + (putB s.size).length) := by show _ = _; rw [List.length_append, hll]
  go_enter Tryd.func15, Tryd.ntmps15
  go_wp2_with fail
  refine (xPut a0 n c f (s.size : Int) w (by omega) hf hc0 (by omega)).mono ?_
  rintro e w2 ⟨v2, rfl, ho2, hb⟩
  rw [Int.toNat_natCast] at ho2
  have hs2 : w.heap.size ≤ w2.heap.size := hb.size
  have HB : Hid ((lst f n ++ putB s.size).length + s.size ≤ 140737488355328) := by show _ ≤ _; rw [HL.out]; omega
  clear hll hlen
  go_wp2_with (at_builtin; refine wpList_appStr rfl _ _ rfl w.heap.size _ (lst f n ++ putB s.size) rfl ho2 s rfl HB.out hs2 ?_)
  intro v' w' ho hb3
  go_wp2
  go_ret
  exact ⟨v', rfl, (by rw [List.append_assoc]; exact ho), hb.trans hb3⟩
end Go.Proofs.YtpjgdpfpgpaenaaDoor
