/-
  Contracts of wire.putNumber and of the document's own Put: a number's bytes behind those of a slice of the call's own. Conditions: the slice is of memory from block B on, and of at most 2^47 - 4096 bytes.
  Contracts of bytes.Clone, bytes.Equal, wire.fresh, wire.Put, wire.Text and the document's own Put and Text. Conditions: at most 2^46 bytes.
  Contracts of a log's Room, First, Last, Forced, put and Append, over a log in memory (LogW). Conditions: the log lies apart from its tail (told by the blocks' types).
-/
import Derived.Test.YtmjoklppibfdmaaDoorGa
import Derived.Test.YtmjoklppibfdmaaDoorLogX
import Derived.Maps.AppendAt
import Derived.Deep.DeepMust
namespace Go.Proofs.YtmjoklppibfdmaaDoor
open Go.RowKit
set_option linter.unusedVariables false

/-- The bytes of a number. -/
def putB (n : Nat) : List Int := if h : n < 128 then [(n : Int)] else ((n % 128 + 128 : Nat) : Int) :: putB (n / 128)
theorem putB_small (n : Nat) (h : n < 128) : putB n = [(n : Int)] := by rw [putB, dif_pos h]
theorem putB_more (n : Nat) (h : ¬ n < 128) : putB n = ((n % 128 + 128 : Nat) : Int) :: putB (n / 128) := by rw [putB, dif_neg h]
theorem putB_len : ∀ (k n : Nat), n < 128 ^ (k + 1) → (putB n).length ≤ k + 1
  | 0, n, h => by rw [putB_small n (by simpa using h)]; simp
  | k + 1, n, h => by
    by_cases hn : n < 128
    · rw [putB_small n hn]; simp
    · rw [putB_more n hn, List.length_cons]
      have := putB_len k (n / 128) (by rw [Nat.pow_succ] at h; omega)
      omega
theorem putB_le (n : Nat) (h : n ≤ 9223372036854775807) : (putB n).length ≤ 9 := putB_len 8 n (by have : (128 : Nat) ^ (8 + 1) = 9223372036854775808 := by decide
                                                                                                  omega)
theorem putB_by : ∀ (k n : Nat), n < 128 ^ (k + 1) → ∀ x ∈ putB n, 0 ≤ x ∧ x ≤ 255
  | 0, n, h => by
    have h' : n < 128 := by simpa using h
    rw [putB_small n h']
    intro x hx
    simp at hx
    omega
  | k + 1, n, h => by
    by_cases hn : n < 128
    · rw [putB_small n hn]
      intro x hx
      simp at hx
      omega
    · rw [putB_more n hn]
      intro x hx
      rcases List.mem_cons.1 hx with rfl | hx
      · omega
      · exact putB_by k (n / 128) (by rw [Nat.pow_succ] at h; omega) x hx

theorem or128 (m : Nat) : bits .or .u8 ((m : Int) % 256) 128 = ((m % 128 + 128 : Nat) : Int) := by
  have e : ((m : Int) % 256) = ((m % 256 : Nat) : Int) := by omega
  rw [e]
  have h := u8_or_nat (m % 256) 128 (by omega) (by decide)
  have h2 : (m % 256) ||| 128 = m % 128 + 128 := by
    have key : ∀ r, r < 256 → r ||| 128 = r % 128 + 128 := by decide +kernel
    rw [key _ (by omega)]
    omega
  rw [h2] at h
  exact h
theorem wrap8_small (m : Nat) (h : m < 256) : IntKind.u8.wrap (m : Int) = (m : Int) := by rw [IntKind.wrap_u8']; omega

set_option maxHeartbeats 1000000 in
theorem putNumber_at (v : Value) (n B : Nat) (xs : List Int) (w : World) (hB : B ≤ w.heap.size) (hn : n ≤ 9223372036854775807) (hx : xs.length ≤ 140737488351232) (hown : Own w B v xs) :
    Calls Tryd.prog 83 #[v, .int .i64 (n : Int)] w fun e w' => ∃ v', e = .returned v' ∧ Own w' B v' (xs ++ putB n) ∧ Below B w w' := by
  obtain ⟨i0, hi, hz0, hz1, hz2⟩ := info_parts info5
  have hlen := putB_le n hn
  have hmax : max (n : Int) 0 = (n : Int) := by omega
  go_enter Tryd.func83, Tryd.ntmps83
  go_wp2
  go_loopw [0, 1] (fun b m wr => ∃ (k : Nat) (ys : List Int), m = .int .i64 (k : Int) ∧ k ≤ n ∧ Hid (ys ++ putB k = xs ++ putB n) ∧ Own wr B b ys ∧ Below B w wr) (fun _ m _ => (intOf m).toNat)
  case atStart => exact ⟨n, xs, rfl, Nat.le_refl _, rfl, hown, Below.refl _ _⟩
  case round =>
    obtain ⟨k, ys, rfl, hk, hys, ho, hbel⟩ := hrel
    have hlen2 : ys.length + (putB k).length ≤ xs.length + 9 := by
      have := congrArg List.length hys.out
      simp only [List.length_append] at this
      omega
    have hpos : 1 ≤ (putB k).length := by rw [putB]; split <;> simp
    have hys' : ys.length ≤ 140737488355000 := by omega
    have hs := hbel.size
    clear hlen hlen2 hpos
    by_cases hlt : (k : Int) < 128
    · have hge : decide ((128 : Int) ≤ (k : Int)) = false := by simp; omega
      have hw8 := wrap8_small k (by omega)
      have HE : Hid (ys ++ [(k : Int)] = xs ++ putB n) := by
        have := hys.out
        rw [putB_small k (by omega)] at this
        exact this
      clear hys
      go_wp2_with (at_builtin; refine wpList_append_own _ rfl _ _ 34 rfl B 5 i0 (.int .u8 0) 1 1 Tryd.underlying34 hi hz0 hz1 hz2 rfl (by decide) _ ys.length (ys.map (Value.int .u8)) rfl (ho.alloc _) ⟨wr.heap.size, 0, none⟩ 1 1 [.int .u8 (k : Int)] rfl rfl (cell_one_new _ _ _) ?qc3 ?qc4 ?qc5 ?qc6 ?_)
      case qc3 => first | rfl | (intro u hu; simp at hu; subst hu; rfl)
      case qc4 => unfold maxLen; omega
      case qc5 => omega
      case qc6 => first | omega | (simp; omega)
      intro v' w1 hown' hgrow _
      go_wp2
      go_ret
      refine ⟨v', rfl, ?_, ?_⟩
      · rw [← HE.out]; exact Own.one hown'
      · exact (hbel.alloc (by omega) _).grown hgrow (by simp; omega) (fun q hq => (World.ownsRow.lt ho q hq).1)
    · have hge : (128 : Int) ≤ (k : Int) := by omega
      have hor := or128 k
      have HE : Hid ((ys ++ [((k % 128 + 128 : Nat) : Int)]) ++ putB (k / 128) = xs ++ putB n) := by
        have := hys.out
        rw [putB_more k (by omega)] at this
        rw [List.append_assoc]
        exact this
      clear hys
      generalize ((k % 128 + 128 : Nat) : Int) = x at *
      go_wp2_with (at_builtin; refine wpList_append_own _ rfl _ _ 34 rfl B 5 i0 (.int .u8 0) 1 1 Tryd.underlying34 hi hz0 hz1 hz2 rfl (by decide) _ ys.length (ys.map (Value.int .u8)) rfl (ho.alloc _) ⟨wr.heap.size, 0, none⟩ 1 1 [.int .u8 x] rfl rfl (cell_one_new _ _ _) ?qc3 ?qc4 ?qc5 ?qc6 ?_)
      case qc3 => first | rfl | (intro u hu; simp at hu; subst hu; rfl)
      case qc4 => unfold maxLen; omega
      case qc5 => omega
      case qc6 => first | omega | (simp; omega)
      intro v' w1 hown' hgrow _
      have hb2 := (hbel.alloc (by omega) (.cells #[.int .u8 x] 5)).grown hgrow (by simp; omega) (fun q hq => (World.ownsRow.lt ho q hq).1)
      have ho2 := Own.one hown'
      clear hown' hgrow ho hbel
      go_wp2
      go_roundw
      case rel => exact ⟨k / 128, _, by go_num, by omega, HE, ho2, hb2⟩
      case measure => simp [intOf]; omega

set_option maxHeartbeats 1000000 in
theorem putNumber_neg (v : Value) (z : Int) (hz : z < 0) (B : Nat) (xs : List Int) (w : World) (hB : B ≤ w.heap.size) (hx : xs.length ≤ 140737488351232) (hown : Own w B v xs) :
    Calls Tryd.prog 83 #[v, .int .i64 z] w fun e w' => ∃ v', e = .returned v' ∧ Own w' B v' (xs ++ putB 0) ∧ Below B w w' := by
  obtain ⟨i0, hi, hz0, hz1, hz2⟩ := info_parts info5
  have HP : Hid (putB 0 = [0]) := putB_small 0 (by decide)
  go_enter Tryd.func83, Tryd.ntmps83
  go_wp2
  refine wp_loop_rounds 1 ?_
  rw [rounds_succ]
  go_wp2_with (at_builtin; refine wpList_append_own _ rfl _ _ 34 rfl B 5 i0 (.int .u8 0) 1 1 Tryd.underlying34 hi hz0 hz1 hz2 rfl (by decide) _ xs.length (xs.map (Value.int .u8)) rfl (hown.alloc _) ⟨w.heap.size, 0, none⟩ 1 1 [.int .u8 0] rfl rfl (cell_one_new _ _ _) ?qc3 ?qc4 ?qc5 ?qc6 ?_)
  case qc3 => first | rfl | (intro u hu; simp at hu; subst hu; rfl)
  case qc4 => unfold maxLen; omega
  case qc5 => omega
  case qc6 => first | omega | (simp; omega)
  intro v' w1 hown' hgrow _
  go_wp2
  go_ret
  refine ⟨v', rfl, ?_, ?_⟩
  · rw [HP.out]; exact Own.one hown'
  · exact ((Below.refl B w).alloc hB _).grown hgrow (by simp; omega) (fun q hq => (World.ownsRow.lt hown q hq).1)

theorem putNumber (v : Value) (z : Int) (hz : z ≤ 9223372036854775807) (B : Nat) (xs : List Int) (w : World) (hB : B ≤ w.heap.size) (hx : xs.length ≤ 140737488351232) (hown : Own w B v xs) :
    Calls Tryd.prog 83 #[v, .int .i64 z] w fun e w' => ∃ v', e = .returned v' ∧ Own w' B v' (xs ++ putB z.toNat) ∧ Below B w w' := by
  by_cases h : z < 0
  · have := putNumber_neg v z h B xs w hB hx hown
    rw [show z.toNat = 0 by omega]
    exact this
  · obtain ⟨n, rfl⟩ := Int.eq_ofNat_of_zero_le (show 0 ≤ z by omega)
    exact putNumber_at v n B xs w hB (by omega) hx hown
end Go.Proofs.YtmjoklppibfdmaaDoor

namespace Go.Proofs.YtmjoklppibfdmaaDoor
open Go.RowKit
set_option linter.unusedVariables false

def strL (s : ByteArray) : List Int := s.data.toList.map (fun b => (b.toNat : Int))
theorem strL_length (s : ByteArray) : (strL s).length = s.size := by simp only [strL, List.length_map]; exact Array.length_toList

set_option maxHeartbeats 400000 in
theorem fresh (a0 : Option Addr) (n c : Nat) (f : Nat → Int) (room : Nat) (w : World) (hbig : n + room ≤ 140737488355328) (hf : From w a0 n f) (hc0 : a0 = none → c = 0) :
    Calls Tryd.prog 84 #[.slice a0 n c, .int .i64 (room : Int)] w fun e w' => ∃ v', e = .returned v' ∧ Own w' w.heap.size v' (lst f n) ∧ Below w.heap.size w w' := by
  obtain ⟨i0, hi, hz0, hz1, hz2⟩ := info_parts info5
  have HF : Hid (From w a0 n f) := hf
  clear hf
  go_enter Tryd.func84, Tryd.ntmps84
  go_wp2_with (at_make; refine wpList_make_own w rfl _ _ 34 rfl w.heap.size 5 i0 (.int .u8 0) 1 Tryd.underlying34 hi hz0 hz1 .i64 .i64 _ (n + room) rfl rfl ?q0 ?q1 ?q2 ?q3 ?_)
  case q0 => first | rfl | omega | simp
  case q1 => first | omega | (rw [hz2]; omega)
  case q2 => unfold maxLen; omega
  case q3 => exact Nat.le_refl _
  intro w1 ho hg
  have hb1 : Below w.heap.size w w1 := (Below.refl _ w).grown hg (Nat.le_refl _) (fun k hk => by cases hk)
  have hs := hb1.size
  have ho' : Own w1 w.heap.size (.slice (some ⟨w.heap.size, 0, none⟩) 0 (n + room)) [] := ho
  have HF1 : Hid (From w1 a0 n f) := HF.out.below hb1 (Nat.le_refl _)
  clear ho hg HF
  go_wp2_with (at_builtin; refine wpList_app rfl _ _ rfl w.heap.size _ [] rfl ho' a0 n c f rfl HF1.out hc0 ?q2 ?q3 ?_)
  case q2 => simp; omega
  case q3 => omega
  intro v' w' ho hb
  go_wp2
  go_ret
  exact ⟨v', rfl, ho, hb1.trans hb⟩

set_option maxHeartbeats 400000 in
theorem wPut (a0 : Option Addr) (n c : Nat) (f : Nat → Int) (z : Int) (w : World) (hbig : n ≤ 70368744177664) (hf : From w a0 n f) (hc0 : a0 = none → c = 0) (hz : z ≤ 9223372036854775807) :
    Calls Tryd.prog 59 #[.slice a0 n c, .int .i64 z] w fun e w' => ∃ v', e = .returned v' ∧ Own w' w.heap.size v' (lst f n ++ putB z.toNat) ∧ Below w.heap.size w w' := by
  go_enter Tryd.func59, Tryd.ntmps59
  go_wp2_with fail
  refine (fresh a0 n c f 9 w (by omega) hf hc0).mono ?_
  rintro e w1 ⟨v1, rfl, ho, hb⟩
  go_wp2_with fail
  refine (putNumber v1 z hz w.heap.size (lst f n) w1 hb.size (by rw [lst_length]; omega) ho).mono ?_
  rintro e w2 ⟨v2, rfl, ho2, hb2⟩
  go_wp2
  go_ret
  exact ⟨v2, rfl, ho2, hb.trans hb2⟩

set_option maxHeartbeats 1000000 in
theorem xPut_at (a0 : Option Addr) (n0 c : Nat) (f : Nat → Int) (n : Nat) (w : World) (hbig : n0 ≤ 70368744177664) (hf : From w a0 n0 f) (hc0 : a0 = none → c = 0) (hn : n ≤ 9223372036854775807) :
    Calls Tryd.prog 94 #[.slice a0 n0 c, .int .i64 (n : Int)] w fun e w' => ∃ v', e = .returned v' ∧ Own w' w.heap.size v' (lst f n0 ++ putB n) ∧ Below w.heap.size w w' := by
  have hm : Own (w.alloc (.cells #[] 5)) w.heap.size (.slice (some ⟨w.heap.size, 0, none⟩) 0 0) [] := World.ownsRow_made w #[] 0 (Nat.le_refl _) (Nat.zero_le _) rfl
  have HF : Hid (From (w.alloc (.cells #[] 5)) a0 n0 f) := hf.alloc (.cells #[] 5)
  have hmax : max (n : Int) 0 = (n : Int) := by omega
  have hlen := putB_le n hn
  have hll := lst_length f n0
  clear hf
  go_enter Tryd.func94, Tryd.ntmps94
  go_wp2_with (at_builtin; refine wpList_app rfl _ _ rfl w.heap.size _ [] rfl hm a0 n0 c f rfl HF.out hc0 ?q2 ?q3 ?_)
  case q2 => simp; omega
  case q3 => simp
  intro v1 w1 ho1 hb1
  have hb1 : Below w.heap.size w w1 := ((Below.refl _ w).alloc (Nat.le_refl _) _).trans hb1
  have ho1 : Own w1 w.heap.size v1 (lst f n0) := ho1
  have hs1 := hb1.size
  clear hm HF
  obtain ⟨i0, hi, hz0, hz1, hz2⟩ := info_parts info5
  go_wp2
  go_loopw [1, 5] (fun m b wr => ∃ (k : Nat) (ys : List Int), m = .int .i64 (k : Int) ∧ k ≤ n ∧ Hid (ys ++ putB k = lst f n0 ++ putB n) ∧ Own wr w.heap.size b ys ∧ Below w.heap.size w wr) (fun m _ _ => (intOf m).toNat)
  case atStart => exact ⟨n, lst f n0, rfl, Nat.le_refl _, rfl, ho1, hb1⟩
  case round =>
    obtain ⟨k, ys, rfl, hk, hys, ho, hbel⟩ := hrel
    have hlen2 : ys.length + (putB k).length ≤ n0 + 9 := by
      have := congrArg List.length hys.out
      simp only [List.length_append] at this
      omega
    have hpos : 1 ≤ (putB k).length := by rw [putB]; split <;> simp
    have hys' : ys.length ≤ 140737488355000 := by omega
    have hs := hbel.size
    clear hlen hlen2 hpos ho1 hb1 hs1 hll
    by_cases hlt : (k : Int) < 128
    · have hge : decide ((128 : Int) ≤ (k : Int)) = false := by simp; omega
      have HE : Hid (ys ++ [(k : Int)] = lst f n0 ++ putB n) := by
        have := hys.out
        rw [putB_small k (by omega)] at this
        exact this
      clear hys
      go_wp2_with (at_builtin; refine wpList_append_own _ rfl _ _ 34 rfl w.heap.size 5 i0 (.int .u8 0) 1 1 Tryd.underlying34 hi hz0 hz1 hz2 rfl (by decide) _ ys.length (ys.map (Value.int .u8)) rfl (ho.alloc _) ⟨wr.heap.size, 0, none⟩ 1 1 [.int .u8 (k : Int)] rfl rfl (cell_one_new _ _ _) ?qc3 ?qc4 ?qc5 ?qc6 ?_)
      case qc3 => first | rfl | (intro u hu; simp at hu; subst hu; rfl)
      case qc4 => unfold maxLen; omega
      case qc5 => omega
      case qc6 => first | omega | (simp; omega)
      intro v' w1 hown' hgrow _
      go_wp2
      go_ret
      refine ⟨v', rfl, ?_, ?_⟩
      · rw [← HE.out]; exact Own.one hown'
      · exact (hbel.alloc (by omega) _).grown hgrow (by simp; omega) (fun q hq => (World.ownsRow.lt ho q hq).1)
    · have hge : (128 : Int) ≤ (k : Int) := by omega
      have HE : Hid ((ys ++ [(k : Int) % 128 + 128]) ++ putB (k / 128) = lst f n0 ++ putB n) := by
        have := hys.out
        rw [putB_more k (by omega), show ((k % 128 + 128 : Nat) : Int) = (k : Int) % 128 + 128 by omega] at this
        rw [List.append_assoc]
        exact this
      clear hys
      go_wp2_with (at_builtin; refine wpList_append_own _ rfl _ _ 34 rfl w.heap.size 5 i0 (.int .u8 0) 1 1 Tryd.underlying34 hi hz0 hz1 hz2 rfl (by decide) _ ys.length (ys.map (Value.int .u8)) rfl (ho.alloc _) ⟨wr.heap.size, 0, none⟩ 1 1 [.int .u8 ((k : Int) % 128 + 128)] rfl rfl (cell_one_new _ _ _) ?qc3 ?qc4 ?qc5 ?qc6 ?_)
      case qc3 => first | rfl | (intro u hu; simp at hu; subst hu; rfl)
      case qc4 => unfold maxLen; omega
      case qc5 => omega
      case qc6 => first | omega | (simp; omega)
      intro v' w1 hown' hgrow _
      have hb2 := (hbel.alloc (by omega) (.cells #[.int .u8 ((k : Int) % 128 + 128)] 5)).grown hgrow (by simp; omega) (fun q hq => (World.ownsRow.lt ho q hq).1)
      have ho2 := Own.one hown'
      clear hown' hgrow ho hbel
      go_wp2
      go_roundw
      case rel => exact ⟨k / 128, _, by go_num, by omega, HE, ho2, hb2⟩
      case measure => simp [intOf]; omega

set_option maxHeartbeats 1000000 in
theorem xPut_neg (a0 : Option Addr) (n0 c : Nat) (f : Nat → Int) (z : Int) (hz : z < 0) (w : World) (hbig : n0 ≤ 70368744177664) (hf : From w a0 n0 f) (hc0 : a0 = none → c = 0) :
    Calls Tryd.prog 94 #[.slice a0 n0 c, .int .i64 z] w fun e w' => ∃ v', e = .returned v' ∧ Own w' w.heap.size v' (lst f n0 ++ putB 0) ∧ Below w.heap.size w w' := by
  have hm : Own (w.alloc (.cells #[] 5)) w.heap.size (.slice (some ⟨w.heap.size, 0, none⟩) 0 0) [] := World.ownsRow_made w #[] 0 (Nat.le_refl _) (Nat.zero_le _) rfl
  have HF : Hid (From (w.alloc (.cells #[] 5)) a0 n0 f) := hf.alloc (.cells #[] 5)
  have hll := lst_length f n0
  have HP : Hid (putB 0 = [0]) := putB_small 0 (by decide)
  clear hf
  go_enter Tryd.func94, Tryd.ntmps94
  go_wp2_with (at_builtin; refine wpList_app rfl _ _ rfl w.heap.size _ [] rfl hm a0 n0 c f rfl HF.out hc0 ?q2 ?q3 ?_)
  case q2 => simp; omega
  case q3 => simp
  intro v1 w1 ho1 hb1
  have hb1 : Below w.heap.size w w1 := ((Below.refl _ w).alloc (Nat.le_refl _) _).trans hb1
  have ho1 : Own w1 w.heap.size v1 (lst f n0) := ho1
  have hs1 := hb1.size
  clear hm HF
  obtain ⟨i0, hi, hz0, hz1, hz2⟩ := info_parts info5
  go_wp2
  refine wp_loop_rounds 1 ?_
  rw [rounds_succ]
  go_wp2_with (at_builtin; refine wpList_append_own _ rfl _ _ 34 rfl w.heap.size 5 i0 (.int .u8 0) 1 1 Tryd.underlying34 hi hz0 hz1 hz2 rfl (by decide) _ (lst f n0).length ((lst f n0).map (Value.int .u8)) rfl (ho1.alloc _) ⟨w1.heap.size, 0, none⟩ 1 1 [.int .u8 0] rfl rfl (cell_one_new _ _ _) ?qc3 ?qc4 ?qc5 ?qc6 ?_)
  case qc3 => first | rfl | (intro u hu; simp at hu; subst hu; rfl)
  case qc4 => unfold maxLen; omega
  case qc5 => omega
  case qc6 => first | omega | (simp; omega)
  intro v' w2 hown' hgrow _
  go_wp2
  go_ret
  refine ⟨v', rfl, ?_, ?_⟩
  · rw [HP.out]
    refine Own.one ?_
    rw [lst_length]
    exact hown'
  · exact (hb1.alloc hs1 _).grown hgrow (by simp; omega) (fun q hq => (World.ownsRow.lt ho1 q hq).1)

theorem xPut (a0 : Option Addr) (n0 c : Nat) (f : Nat → Int) (z : Int) (w : World) (hbig : n0 ≤ 70368744177664) (hf : From w a0 n0 f) (hc0 : a0 = none → c = 0) (hz : z ≤ 9223372036854775807) :
    Calls Tryd.prog 94 #[.slice a0 n0 c, .int .i64 z] w fun e w' => ∃ v', e = .returned v' ∧ Own w' w.heap.size v' (lst f n0 ++ putB z.toNat) ∧ Below w.heap.size w w' := by
  by_cases h : z < 0
  · rw [show z.toNat = 0 by omega]
    exact xPut_neg a0 n0 c f z h w hbig hf hc0
  · obtain ⟨n, rfl⟩ := Int.eq_ofNat_of_zero_le (show 0 ≤ z by omega)
    exact xPut_at a0 n0 c f n w hbig hf hc0 (by omega)

end Go.Proofs.YtmjoklppibfdmaaDoor

namespace Go.Proofs.YtmjoklppibfdmaaDoor
open Go.RowKit
set_option linter.unusedVariables false

set_option maxHeartbeats 400000 in
theorem lRoom (L T s p t : Nat) (c : Nat) (a : Option Addr) (w : World) (hs : s ≤ 4096) (hp : p ≤ 4096) (ht : t ≤ 1000000) (h0 : w.cell? ⟨L, 0, none⟩ = some (.pointer (some ⟨T, 0, none⟩))) (h2 : w.cell? ⟨T, 2, none⟩ = some (.int .i64 (s : Int))) (h6 : w.cell? ⟨T, 6, none⟩ = some (.int .i64 (p : Int))) (h7 : w.cell? ⟨T, 7, none⟩ = some (.slice a t c)) :
    Calls Tryd.prog 28 #[.pointer (some ⟨L, 0, none⟩)] w fun e w' => e = .returned (.int .i64 (((s : Int) - p) * 112 - t)) ∧ ∃ q, w' = w.drewN q := by
  go_enter Tryd.func28, Tryd.ntmps28
  go_wp2_with fail
  refine (lMissing L T w h0).mono ?_
  rintro e w1 ⟨rfl, hw⟩
  obtain rfl : w = w1 := hw.symm
  clear hw
  go_wp2_with fail
  go_quiet (fail)
  go_wp2
  go_ret
  exact ⟨rfl, _, rfl⟩
set_option maxHeartbeats 400000 in
theorem lLast (L T : Nat) (z : Int) (w : World) (h0 : w.cell? ⟨L, 0, none⟩ = some (.pointer (some ⟨T, 0, none⟩))) (h4 : w.cell? ⟨T, 4, none⟩ = some (.int .i64 z)) :
    Calls Tryd.prog 16 #[.pointer (some ⟨L, 0, none⟩)] w fun e w' => e = .returned (.int .i64 z) ∧ w' = w := by
  go_enter Tryd.func16, Tryd.ntmps16
  go_wp2_with fail
  refine (lMissing L T w h0).mono ?_
  rintro e w1 ⟨rfl, hw⟩
  obtain rfl : w = w1 := hw.symm
  clear hw
  go_wp2
  go_ret
  exact ⟨rfl, rfl⟩
set_option maxHeartbeats 400000 in
theorem lFirst (L T : Nat) (z : Int) (w : World) (h0 : w.cell? ⟨L, 0, none⟩ = some (.pointer (some ⟨T, 0, none⟩))) (h4 : w.cell? ⟨T, 3, none⟩ = some (.int .i64 z)) :
    Calls Tryd.prog 26 #[.pointer (some ⟨L, 0, none⟩)] w fun e w' => e = .returned (.int .i64 z) ∧ w' = w := by
  go_enter Tryd.func26, Tryd.ntmps26
  go_wp2_with fail
  refine (lMissing L T w h0).mono ?_
  rintro e w1 ⟨rfl, hw⟩
  obtain rfl : w = w1 := hw.symm
  clear hw
  go_wp2
  go_ret
  exact ⟨rfl, rfl⟩
set_option maxHeartbeats 400000 in
theorem lForced (L T : Nat) (z : Int) (w : World) (h0 : w.cell? ⟨L, 0, none⟩ = some (.pointer (some ⟨T, 0, none⟩))) (h4 : w.cell? ⟨T, 5, none⟩ = some (.int .i64 z)) :
    Calls Tryd.prog 15 #[.pointer (some ⟨L, 0, none⟩)] w fun e w' => e = .returned (.int .i64 z) ∧ w' = w := by
  go_enter Tryd.func15, Tryd.ntmps15
  go_wp2_with fail
  refine (lMissing L T w h0).mono ?_
  rintro e w1 ⟨rfl, hw⟩
  obtain rfl : w = w1 := hw.symm
  clear hw
  go_wp2
  go_ret
  exact ⟨rfl, rfl⟩
theorem LogW.l0 {w : World} {L T D from_ sectors first last forced place : Nat} {vt : Value} (h : LogW w L T D from_ sectors first last forced place vt) : w.cell? ⟨L, 0, none⟩ = some (.pointer (some ⟨T, 0, none⟩)) := by rw [cells_at h.hL 0]; rfl
theorem LogW.below {w w' : World} {L T D from_ sectors first last forced place : Nat} {vt : Value} (h : LogW w L T D from_ sectors first last forced place vt) (hb : Below w.heap.size w w') : LogW w' L T D from_ sectors first last forced place vt :=
  ⟨(hb.block L (Array.getElem?_eq_some_iff.1 h.hL).1).trans h.hL, (hb.block T (Array.getElem?_eq_some_iff.1 h.hT).1).trans h.hT⟩
theorem LogW.part {w w' : World} {F : Nat → Prop} {L T D from_ sectors first last forced place : Nat} {vt : Value} (h : LogW w L T D from_ sectors first last forced place vt) (hb : Part F w w') (h1 : ¬ F L) (h2 : ¬ F T) : LogW w' L T D from_ sectors first last forced place vt :=
  ⟨(hb.block L (Array.getElem?_eq_some_iff.1 h.hL).1 h1).trans h.hL, (hb.block T (Array.getElem?_eq_some_iff.1 h.hT).1 h2).trans h.hT⟩
/-- A row of bytes lies in no block of another type. -/
theorem Own.ne {w : World} {B : Nat} {v : Value} {xs : List Int} (h : Own w B v xs) {k : Nat} {cs : Array Value} {t : TypeId} {fz : Nat × Nat} (hk : w.heap[k]? = some (.cells cs t fz)) (ht : t ≠ 5) : v.ownBlock ≠ some k := by
  intro e
  unfold Own World.ownsRow at h
  rcases h.2 with ⟨rfl, _⟩ | ⟨g, cap, cur, rfl, h2, h3, _⟩
  · cases e
  · obtain rfl : g = k := Option.some.inj e
    rw [hk] at h3
    cases h3
    exact ht rfl

/-- How a row of bytes grows: nothing but its own block, and what is new. -/
def Grow (w w' : World) (v v' : Value) : Prop := Part (fun k => some k = v.ownBlock) w w' ∧ ∀ k, v'.ownBlock = some k → some k = v.ownBlock ∨ w.heap.size ≤ k
theorem Grow.trans {a b c : World} {u v x : Value} (h : Grow a b u v) (k : Grow b c v x) : Grow a c u x := by
  refine ⟨h.1.trans k.1 (fun i hi e => ?_), fun i e => ?_⟩
  · rcases h.2 i e.symm with h2 | h2
    · exact h2
    · omega
  · rcases k.2 i e with h2 | h2
    · exact h.2 i h2.symm
    · exact .inr (Nat.le_trans h.1.size h2)

section
variable {w : World} {ops : Array Oper} {rest : List Oper} {o : Oper} {a : Act} {Q : Exit → Act → World → Prop}
/-- wpList_app, with what stays told by blocks. -/
theorem wpList_appH (hgd : o.guard = none) (s x : Operand) (ho : o.op = .call { callee := .builtin .append, args := #[s, x], argTypes := #[34, 34] })
    (B : Nat) (v : Value) (xs : List Int) (hs : a.eval s = v) (hown : Own w B v xs) (ao : Option Addr) (m c : Nat) (f : Nat → Int) (hx : a.eval x = .slice ao m c) (hf : From w ao m f) (hc0 : ao = none → c = 0)
    (hbig : xs.length + m ≤ 140737488355328) (hB : B ≤ w.heap.size)
    (h : ∀ v' w', Own w' B v' (xs ++ lst f m) → Grow w w' v v' → wpList Tryd.prog ops Q rest (a.put o.dst v') w') : wpList Tryd.prog ops Q (o :: rest) a w := by
  obtain ⟨i0, hi, hz0, hz1, hz2⟩ := info_parts info5
  rcases hf with ⟨h1, h2⟩ | ⟨ad, h1, h2⟩
  · subst h1 h2
    rw [hc0 rfl] at hx
    refine wpList_append_own_none hgd s x 34 ho B 5 i0 1 Tryd.underlying34 hi v xs.length (xs.map (Value.int .u8)) hs hown hx (h v w ?_ ⟨Part.refl _ _, fun k hk => .inl hk.symm⟩)
    simpa [lst] using hown
  · subst h1
    refine wpList_append_own_at w hgd s x 34 ho B 5 i0 (.int .u8 0) 1 1 Tryd.underlying34 hi hz0 hz1 hz2 rfl (by decide) v xs.length (xs.map (Value.int .u8)) hs hown ad m c ((lst f m).map (Value.int .u8)) hx (by simp [lst_length]) ?_ ?_ (by unfold maxLen; omega) (by omega) hB ?_
    · intro j u hj
      have hjm : j < m := by
        have := (List.getElem?_eq_some_iff.1 hj).1
        simpa [lst_length] using this
      rw [h2 j hjm]
      rw [List.getElem?_map, lst_get f m j hjm] at hj
      simpa using hj
    · intro u hu
      obtain ⟨y, _, rfl⟩ := List.mem_map.1 hu
      rfl
    · intro v' w' h3 h4 _ h5
      refine h v' w' ?_ ⟨(Part.refl _ w).grown h4 (fun k e _ => e.symm), fun k e => ?_⟩
      · unfold Own
        rw [List.length_append, lst_length, List.map_append]
        exact h3
      · rcases h5 with h5 | h5
        · exact .inl (e.symm.trans h5)
        · rw [h5] at e
          cases e
          exact .inr (Nat.le_refl _)
end

set_option maxHeartbeats 1000000 in
theorem lputH (v : Value) (B : Nat) (xs : List Int) (g : Nat) (a1 a2 : Option Addr) (n1 c1 n2 c2 : Nat) (f1 f2 : Nat → Int) (w : World) (hown : Own w B v xs) (hB : B ≤ w.heap.size) (hg : g < w.heap.size) (hgv : some g ≠ v.ownBlock)
    (h0 : w.cell? ⟨g, 0, none⟩ = some (.slice a1 n1 c1)) (h1 : w.cell? ⟨g, 1, none⟩ = some (.slice a2 n2 c2)) (hf1 : From w a1 n1 f1) (hf2 : ∀ w', Part (fun k => some k = v.ownBlock) w w' → From w' a2 n2 f2) (k1 : a1 = none → c1 = 0) (k2 : a2 = none → c2 = 0) (hbig : xs.length + n1 + n2 ≤ 140737488355328) :
    Calls Tryd.prog 60 #[v, .slice (some ⟨g, 0, none⟩) 2 2] w fun e w' => ∃ v', e = .returned v' ∧ Own w' B v' (xs ++ lst f1 n1 ++ lst f2 n2) ∧ Grow w w' v v' := by
  have HF1 : Hid (From w a1 n1 f1) := hf1
  have HF2 : Hid (∀ w', Part (fun k => some k = v.ownBlock) w w' → From w' a2 n2 f2) := hf2
  have HK : Hid (∀ w' : World, Part (fun k => some k = v.ownBlock) w w' → w'.cell? ⟨g, 1, none⟩ = some (.slice a2 n2 c2)) := fun w' hk => by
    rw [World.cell?_of_block (w := w) (hk.block g hg hgv)]
    exact h1
  clear hf1 hf2 hgv
  go_enter Tryd.func60, Tryd.ntmps60
  go_wp2
  refine wp_loop_rounds 3 ?_
  rw [rounds_succ]
  go_wp2_with (at_builtin; refine wpList_appH rfl _ _ rfl B _ xs rfl hown a1 n1 c1 f1 rfl HF1.out k1 ?q2 hB ?_)
  case q2 => omega
  intro v1 w1 ho1 hg1
  have hs1 := hg1.1.size
  have hc := HK.out w1 hg1.1
  have HF3 : Hid (From w1 a2 n2 f2) := HF2.out w1 hg1.1
  have hll : (xs ++ lst f1 n1).length = xs.length + n1 := by rw [List.length_append, lst_length]
  have HG : Hid (Grow w w1 v v1) := hg1
  clear HK hg1 HF1 HF2 hown h0 h1
  go_wp2
  rw [rounds_succ]
  go_wp2_with (at_builtin; refine wpList_appH rfl _ _ rfl B _ (xs ++ lst f1 n1) rfl ho1 a2 n2 c2 f2 rfl HF3.out k2 ?r2 ?r3 ?_)
  case r2 => omega
  case r3 => omega
  intro v2 w2 ho2 hg2
  have HG2 : Hid (Grow w w2 v v2) := HG.out.trans hg2
  clear ho1 hc HF3 HG hg2
  go_wp2
  rw [rounds_succ]
  go_wp2
  go_ret
  exact ⟨v2, rfl, by rw [List.append_assoc]; exact ho2, HG2.out⟩

theorem putB_lt {n : Nat} (h : n < 128) : (putB n).length = 1 := by rw [putB_small n h]; rfl
theorem putB_ge {n : Nat} (h : 128 ≤ n) (h2 : n ≤ 2000) : (putB n).length = 2 := by rw [putB_more n (by omega), List.length_cons, putB_small (n / 128) (by omega)]; rfl

set_option maxHeartbeats 400000 in
theorem appL_empty (L T c : Nat) (a0 : Option Addr) (w : World) (l0 : w.cell? ⟨L, 0, none⟩ = some (.pointer (some ⟨T, 0, none⟩))) :
    Calls Tryd.prog 27 #[.pointer (some ⟨L, 0, none⟩), .slice a0 0 c] w fun e w' => e = .returned (.tuple #[.int .i64 0, .int .i64 1]) ∧ w' = w := by
  go_enter Tryd.func27, Tryd.ntmps27
  go_wp2_with fail
  refine (lMissing L T w l0).mono ?_
  rintro e w1 ⟨rfl, hw⟩
  obtain rfl : w = w1 := hw.symm
  clear hw
  go_wp2
  go_ret2
  exact ⟨rfl, rfl⟩
set_option maxHeartbeats 400000 in
theorem appL_long (L T n c : Nat) (a0 : Option Addr) (w : World) (l0 : w.cell? ⟨L, 0, none⟩ = some (.pointer (some ⟨T, 0, none⟩))) (hn : 2000 < n) :
    Calls Tryd.prog 27 #[.pointer (some ⟨L, 0, none⟩), .slice a0 n c] w fun e w' => e = .returned (.tuple #[.int .i64 0, .int .i64 12]) ∧ w' = w := by
  have g1 : ((n : Int) == 0) = false := by simp; omega
  have g2 : (2000 : Int) < (n : Int) := by omega
  go_enter Tryd.func27, Tryd.ntmps27
  go_wp2_with fail
  refine (lMissing L T w l0).mono ?_
  rintro e w1 ⟨rfl, hw⟩
  obtain rfl : w = w1 := hw.symm
  clear hw
  go_wp2
  go_ret2
  exact ⟨rfl, rfl⟩
theorem lwRoom {w : World} {L T D from_ sectors first last forced place B : Nat} {vt : Value} {xs : List Int} (h : LogW w L T D from_ sectors first last forced place vt) (ho : Own w B vt xs) (hs : sectors ≤ 4096) (hr : place * 112 + xs.length ≤ sectors * 112) :
    Calls Tryd.prog 28 #[.pointer (some ⟨L, 0, none⟩)] w fun e w' => e = .returned (.int .i64 ((sectors * 112 - place * 112 - xs.length : Nat) : Int)) ∧ ∃ q, w' = w.drewN q := by
  obtain ⟨ao, c, rfl, _⟩ := ho.open
  have := lRoom L T sectors place xs.length c ao w hs (by omega) (by omega) h.l0 (by rw [cells_at h.hT 2]; rfl) (by rw [cells_at h.hT 6]; rfl) (by rw [cells_at h.hT 7]; rfl)
  have e : (((sectors : Int) - (place : Int)) * 112 - (xs.length : Int)) = ((sectors * 112 - place * 112 - xs.length : Nat) : Int) := by omega
  rw [e] at this
  exact this
set_option maxHeartbeats 1000000 in
theorem appL_full (L T D from_ sectors first last forced place B n c : Nat) (vt : Value) (xs : List Int) (a0 : Option Addr) (w : World) (h : LogW w L T D from_ sectors first last forced place vt) (ho : Own w B vt xs) (hs : sectors ≤ 4096) (hr : place * 112 + xs.length ≤ sectors * 112) (h1 : 0 < n) (h2 : n ≤ 2000) (hf : sectors * 112 - place * 112 - xs.length < (putB n).length + n ∨ 4611686018427387904 ≤ last) :
    Calls Tryd.prog 27 #[.pointer (some ⟨L, 0, none⟩), .slice a0 n c] w fun e w' => e = .returned (.tuple #[.int .i64 0, .int .i64 4]) ∧ Below w.heap.size w w' := by
  have hl0 := h.l0
  have g1 : ((n : Int) == 0) = false := by simp; omega
  have g2 : ¬ (2000 : Int) < (n : Int) := by omega
  have hlen := putB_le n (by omega)
  have H : Hid (LogW w L T D from_ sectors first last forced place vt) := h
  have HO : Hid (Own w B vt xs) := ho
  clear h ho
  go_enter Tryd.func27, Tryd.ntmps27
  go_wp2_with fail
  refine (lMissing L T w hl0).mono ?_
  rintro e w1 ⟨rfl, hw⟩
  obtain rfl : w = w1 := hw.symm
  clear hw
  go_wp2_with fail
  refine (wPut none 0 0 (fun _ => 0) (n : Int) w (by omega) (.inl ⟨rfl, rfl⟩) (fun _ => rfl) (by omega)).mono ?_
  rintro e w1 ⟨v1, rfl, ho1, hb1⟩
  rw [Int.toNat_natCast, show lst (fun _ => 0) 0 ++ putB n = putB n from rfl] at ho1
  obtain ⟨al, cl, rfl, hfl, hal, _, _, _⟩ := ho1.open
  have H1 := H.out.below hb1
  have l1 := H1.l0
  have l4 : w1.cell? ⟨T, 4, none⟩ = some (.int .i64 (last : Int)) := by rw [cells_at H1.hT 4]; rfl
  have CR := lwRoom H1 (HO.out.below hb1 (Nat.le_refl _)) hs hr
  obtain ⟨R, hR⟩ : ∃ R, sectors * 112 - place * 112 - xs.length = R := ⟨_, rfl⟩
  rw [hR] at hf CR
  obtain ⟨ln, hln⟩ : ∃ ln, (putB n).length = ln := ⟨_, rfl⟩
  rw [hln] at hf hlen ⊢
  clear hR hln hfl H1 hr
  go_wp2_with fail
  refine CR.mono ?_
  rintro e w2 ⟨rfl, q, rfl⟩
  have l1' : (w1.drewN q).cell? ⟨L, 0, none⟩ = some (.pointer (some ⟨T, 0, none⟩)) := l1
  have l4' : (w1.drewN q).cell? ⟨T, 4, none⟩ = some (.int .i64 (last : Int)) := l4
  by_cases hlt : R < ln + n
  · have g3 : (R : Int) < (ln : Int) + (n : Int) := by omega
    clear hf hlt
    go_wp2
    go_ret2
    exact ⟨rfl, blw_drewN q hb1⟩
  · have g3 : ¬ (R : Int) < (ln : Int) + (n : Int) := by omega
    have g4 : decide ((4611686018427387904 : Int) ≤ (last : Int)) = true := by simp; omega
    clear hf hlt
    go_wp2
    go_ret2
    exact ⟨rfl, blw_drewN q hb1⟩
set_option maxRecDepth 100000 in
set_option maxHeartbeats 1000000 in
theorem reset_full (L T D from_ sectors first last forced place : Nat) (vt : Value) (w : World) (h : LogW w L T D from_ sectors first last forced place vt) (hl : 4611686018427387904 ≤ last) :
    Calls Tryd.prog 25 #[.pointer (some ⟨L, 0, none⟩)] w fun r w' => r = .returned (.int .i64 4) ∧ w' = w := by
  have l0 := h.l0
  have c4 : w.cell? ⟨T, 4, none⟩ = some (.int .i64 (last : Int)) := by rw [cells_at h.hT 4]; rfl
  have hl1 : decide ((4611686018427387904 : Int) ≤ (last : Int)) = true := by simp; omega
  clear hl h
  go_enter Tryd.func25, Tryd.ntmps25
  go_wp2_with fail
  refine (lMissing L T w l0).mono ?_
  rintro r w0 ⟨rfl, hw⟩
  obtain rfl : w = w0 := hw.symm
  clear hw
  go_wp2
  go_ret
  exact ⟨rfl, rfl⟩
end Go.Proofs.YtmjoklppibfdmaaDoor
