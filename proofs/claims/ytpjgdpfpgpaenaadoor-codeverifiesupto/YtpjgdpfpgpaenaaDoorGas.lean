/-
  Contracts of wire.putNumber and of the document's own Put: a number's bytes behind those of a slice of the call's own. Conditions: the slice is of memory from block B on, and of at most 2^47 - 4096 bytes.
  append of a text's bytes onto a slice of the call's own.
-/
import Derived.Test.YtpjgdpfpgpaenaaDoorGar
import Derived.Laws.AppendOwnNone
import Derived.Lib.AppendStr
namespace Go.Proofs.YtpjgdpfpgpaenaaDoor
open Go.RowKit
set_option linter.unusedVariables false

/-- The bytes of a number. -/
def putB (n : Nat) : List Int := if h : n < 128 then [(n : Int)] else ((n % 128 + 128 : Nat) : Int) :: putB (n / 128)
theorem putB_small (n : Nat) (h : n < 128) : putB n = [(n : Int)] := by rw [putB, dif_pos h]
theorem putB_more (n : Nat) (h : ¬ n < 128) : putB n = ((n % 128 + 128 : Nat) : Int) :: putB (n / 128) := by rw [putB, dif_neg h]
theorem putB_len : ∀ (k n : Nat), n < 128 ^ (k + 1) → (putB n).length ≤ k + 1
  | 0, n, h => by rw [putB_small n (by simpa using h)]; simp
  | k + 1, n, h => by
    by_cases hn : n < 128
    · rw [putB_small n hn]; simp
    · rw [putB_more n hn, List.length_cons]
      have := putB_len k (n / 128) (by rw [Nat.pow_succ] at h; omega)
      omega
theorem putB_le (n : Nat) (h : n ≤ 9223372036854775807) : (putB n).length ≤ 9 := putB_len 8 n (by have : (128 : Nat) ^ (8 + 1) = 9223372036854775808 := by decide
                                                                                                  omega)
theorem putB_by : ∀ (k n : Nat), n < 128 ^ (k + 1) → ∀ x ∈ putB n, 0 ≤ x ∧ x ≤ 255
  | 0, n, h => by
    have h' : n < 128 := by simpa using h
    rw [putB_small n h']
    intro x hx
    simp at hx
    omega
  | k + 1, n, h => by
    by_cases hn : n < 128
    · rw [putB_small n hn]
      intro x hx
      simp at hx
      omega
    · rw [putB_more n hn]
      intro x hx
      rcases List.mem_cons.1 hx with rfl | hx
      · omega
      · exact putB_by k (n / 128) (by rw [Nat.pow_succ] at h; omega) x hx

theorem or128 (m : Nat) : bits .or .u8 ((m : Int) % 256) 128 = ((m % 128 + 128 : Nat) : Int) := by
  have e : ((m : Int) % 256) = ((m % 256 : Nat) : Int) := by omega
  rw [e]
  have h := u8_or_nat (m % 256) 128 (by omega) (by decide)
  have h2 : (m % 256) ||| 128 = m % 128 + 128 := by
    have key : ∀ r, r < 256 → r ||| 128 = r % 128 + 128 := by decide +kernel
    rw [key _ (by omega)]
    omega
  rw [h2] at h
  exact h
theorem wrap8_small (m : Nat) (h : m < 256) : IntKind.u8.wrap (m : Int) = (m : Int) := by rw [IntKind.wrap_u8']; omega

set_option maxHeartbeats 1000000 in
theorem putNumber_at (v : Value) (n B : Nat) (xs : List Int) (w : World) (hB : B ≤ w.heap.size) (hn : n ≤ 9223372036854775807) (hx : xs.length ≤ 140737488351232) (hown : Own w B v xs) :
    Calls Tryd.prog 39 #[v, .int .i64 (n : Int)] w fun e w' => ∃ v', e = .returned v' ∧ Own w' B v' (xs ++ putB n) ∧ Below B w w' := by
  obtain ⟨i0, hi, hz0, hz1, hz2⟩ := info_parts info5
  have hlen := putB_le n hn
  have hmax : max (n : Int) 0 = (n : Int) := by omega
  go_enter Tryd.func39, Tryd.ntmps39
  go_wp2
  go_loopw [0, 1] (fun b m wr => ∃ (k : Nat) (ys : List Int), m = .int .i64 (k : Int) ∧ k ≤ n ∧ Hid (ys ++ putB k = xs ++ putB n) ∧ Own wr B b ys ∧ Below B w wr) (fun _ m _ => (intOf m).toNat)
  case atStart => exact ⟨n, xs, rfl, Nat.le_refl _, rfl, hown, Below.refl _ _⟩
  case round =>
    obtain ⟨k, ys, rfl, hk, hys, ho, hbel⟩ := hrel
    have hlen2 : ys.length + (putB k).length ≤ xs.length + 9 := by
      have := congrArg List.length hys.out
      simp only [List.length_append] at this
      omega
    have hpos : 1 ≤ (putB k).length := by rw [putB]; split <;> simp
    have hys' : ys.length ≤ 140737488355000 := by omega
    have hs := hbel.size
    clear hlen hlen2 hpos
    by_cases hlt : (k : Int) < 128
    · have hge : decide ((128 : Int) ≤ (k : Int)) = false := by simp; omega
      have hw8 := wrap8_small k (by omega)
      have HE : Hid (ys ++ [(k : Int)] = xs ++ putB n) := by
        have := hys.out
        rw [putB_small k (by omega)] at this
        exact this
      clear hys
      go_wp2_with (at_builtin; refine wpList_append_own _ rfl _ _ 27 rfl B 5 i0 (.int .u8 0) 1 1 Tryd.underlying27 hi hz0 hz1 hz2 rfl (by decide) _ ys.length (ys.map (Value.int .u8)) rfl (ho.alloc _) ⟨wr.heap.size, 0, none⟩ 1 1 [.int .u8 (k : Int)] rfl rfl (cell_one_new _ _ _) ?qc3 ?qc4 ?qc5 ?qc6 ?_)
      case qc3 => first | rfl | (intro u hu; simp at hu; subst hu; rfl)
      case qc4 => unfold maxLen; omega
      case qc5 => omega
      case qc6 => first | omega | (simp; omega)
      intro v' w1 hown' hgrow _
      go_wp2
      go_ret
      refine ⟨v', rfl, ?_, ?_⟩
      · rw [← HE.out]; exact Own.one hown'
      · exact (hbel.alloc (by omega) _).grown hgrow (by simp; omega) (fun q hq => (World.ownsRow.lt ho q hq).1)
    · have hge : (128 : Int) ≤ (k : Int) := by omega
      have hor := or128 k
      have HE : Hid ((ys ++ [((k % 128 + 128 : Nat) : Int)]) ++ putB (k / 128) = xs ++ putB n) := by
        have := hys.out
        rw [putB_more k (by omega)] at this
        rw [List.append_assoc]
        exact this
      clear hys
      generalize ((k % 128 + 128 : Nat) : Int) = x at *
      go_wp2_with (at_builtin; refine wpList_append_own _ rfl _ _ 27 rfl B 5 i0 (.int .u8 0) 1 1 Tryd.underlying27 hi hz0 hz1 hz2 rfl (by decide) _ ys.length (ys.map (Value.int .u8)) rfl (ho.alloc _) ⟨wr.heap.size, 0, none⟩ 1 1 [.int .u8 x] rfl rfl (cell_one_new _ _ _) ?qc3 ?qc4 ?qc5 ?qc6 ?_)
      case qc3 => first | rfl | (intro u hu; simp at hu; subst hu; rfl)
      case qc4 => unfold maxLen; omega
      case qc5 => omega
      case qc6 => first | omega | (simp; omega)
      intro v' w1 hown' hgrow _
      have hb2 := (hbel.alloc (by omega) (.cells #[.int .u8 x] 5)).grown hgrow (by simp; omega) (fun q hq => (World.ownsRow.lt ho q hq).1)
      have ho2 := Own.one hown'
      clear hown' hgrow ho hbel
      go_wp2
      go_roundw
      case rel => exact ⟨k / 128, _, by go_num, by omega, HE, ho2, hb2⟩
      case measure => simp [intOf]; omega

set_option maxHeartbeats 1000000 in
theorem putNumber_neg (v : Value) (z : Int) (hz : z < 0) (B : Nat) (xs : List Int) (w : World) (hB : B ≤ w.heap.size) (hx : xs.length ≤ 140737488351232) (hown : Own w B v xs) :
    Calls Tryd.prog 39 #[v, .int .i64 z] w fun e w' => ∃ v', e = .returned v' ∧ Own w' B v' (xs ++ putB 0) ∧ Below B w w' := by
  obtain ⟨i0, hi, hz0, hz1, hz2⟩ := info_parts info5
  have HP : Hid (putB 0 = [0]) := putB_small 0 (by decide)
  go_enter Tryd.func39, Tryd.ntmps39
  go_wp2
  refine wp_loop_rounds 1 ?_
  rw [rounds_succ]
  go_wp2_with (at_builtin; refine wpList_append_own _ rfl _ _ 27 rfl B 5 i0 (.int .u8 0) 1 1 Tryd.underlying27 hi hz0 hz1 hz2 rfl (by decide) _ xs.length (xs.map (Value.int .u8)) rfl (hown.alloc _) ⟨w.heap.size, 0, none⟩ 1 1 [.int .u8 0] rfl rfl (cell_one_new _ _ _) ?qc3 ?qc4 ?qc5 ?qc6 ?_)
  case qc3 => first | rfl | (intro u hu; simp at hu; subst hu; rfl)
  case qc4 => unfold maxLen; omega
  case qc5 => omega
  case qc6 => first | omega | (simp; omega)
  intro v' w1 hown' hgrow _
  go_wp2
  go_ret
  refine ⟨v', rfl, ?_, ?_⟩
  · rw [HP.out]; exact Own.one hown'
  · exact ((Below.refl B w).alloc hB _).grown hgrow (by simp; omega) (fun q hq => (World.ownsRow.lt hown q hq).1)

theorem putNumber (v : Value) (z : Int) (hz : z ≤ 9223372036854775807) (B : Nat) (xs : List Int) (w : World) (hB : B ≤ w.heap.size) (hx : xs.length ≤ 140737488351232) (hown : Own w B v xs) :
    Calls Tryd.prog 39 #[v, .int .i64 z] w fun e w' => ∃ v', e = .returned v' ∧ Own w' B v' (xs ++ putB z.toNat) ∧ Below B w w' := by
  by_cases h : z < 0
  · have := putNumber_neg v z h B xs w hB hx hown
    rw [show z.toNat = 0 by omega]
    exact this
  · obtain ⟨n, rfl⟩ := Int.eq_ofNat_of_zero_le (show 0 ≤ z by omega)
    exact putNumber_at v n B xs w hB (by omega) hx hown
end Go.Proofs.YtpjgdpfpgpaenaaDoor

namespace Go.Proofs.YtpjgdpfpgpaenaaDoor
open Go.RowKit
set_option linter.unusedVariables false
section
variable {w : World} {ops : Array Oper} {rest : List Oper} {o : Oper} {a : Act} {Q : Exit → Act → World → Prop}
theorem wpList_appStr (hgd : o.guard = none) (sl x : Operand) (ho : o.op = .call { callee := .builtin .append, args := #[sl, x], argTypes := #[27, 9] })
    (B : Nat) (v : Value) (xs : List Int) (hs : a.eval sl = v) (hown : Own w B v xs) (s : ByteArray) (hx : a.eval x = .string s)
    (hbig : xs.length + s.size ≤ 140737488355328) (hB : B ≤ w.heap.size)
    (h : ∀ v' w', Own w' B v' (xs ++ s.data.toList.map (fun b => (b.toNat : Int))) → Below B w w' → wpList Tryd.prog ops Q rest (a.put o.dst v') w') : wpList Tryd.prog ops Q (o :: rest) a w := by
  obtain ⟨i0, hi, hz0, hz1, hz2⟩ := info_parts info5
  refine Lib.wpList_append_own_string w hgd sl x 27 9 ho B 5 i0 Tryd.underlying27 Tryd.underlying9 hi hz0 hz1 hz2 v xs.length (xs.map (Value.int .u8)) hs hown s hx (by unfold maxLen; omega) hbig hB ?_
  intro v' w' h3 h4 _
  refine h v' w' ?_ ((Below.refl _ w).grown h4 hB (fun q hq => (World.ownsRow.lt hown q hq).1))
  unfold Own
  rw [List.length_append, List.map_append, List.length_map]
  have e : (s.data.toList.map (fun b => (b.toNat : Int))).map (Value.int .u8) = Lib.strCells s := by
    simp [Lib.strCells]
  rw [e, show s.data.toList.length = s.size from Array.length_toList]
  exact h3
end
end Go.Proofs.YtpjgdpfpgpaenaaDoor
