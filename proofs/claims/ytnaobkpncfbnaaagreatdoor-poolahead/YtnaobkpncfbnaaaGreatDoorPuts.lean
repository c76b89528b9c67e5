/-
  Contracts of bytes.Clone, bytes.Equal, wire.fresh, wire.Put, wire.Text and the document's own Put and Text. Conditions: at most 2^46 bytes.
-/
import Derived.Test.YtnaobkpncfbnaaaGreatDoorPut
namespace Go.Proofs.YtnaobkpncfbnaaaGreatDoor
open Go.RowKit
set_option linter.unusedVariables false

def strL (s : ByteArray) : List Int := s.data.toList.map (fun b => (b.toNat : Int))
theorem strL_length (s : ByteArray) : (strL s).length = s.size := by simp only [strL, List.length_map]; exact Array.length_toList

set_option maxHeartbeats 400000 in
theorem fresh (a0 : Option Addr) (n c : Nat) (f : Nat → Int) (room : Nat) (w : World) (hbig : n + room ≤ 140737488355328) (hf : From w a0 n f) (hc0 : a0 = none → c = 0) :
    Calls Tryz.prog 68 #[.slice a0 n c, .int .i64 (room : Int)] w fun e w' => ∃ v', e = .returned v' ∧ Own w' w.heap.size v' (lst f n) ∧ Below w.heap.size w w' := by
  obtain ⟨i0, hi, hz0, hz1, hz2⟩ := info_parts info5
  have HF : Hid (From w a0 n f) := hf
  clear hf
  go_enter Tryz.func68, Tryz.ntmps68
  go_wp2_with (at_make; refine wpList_make_own w rfl _ _ 36 rfl w.heap.size 5 i0 (.int .u8 0) 1 Tryz.underlying36 hi hz0 hz1 .i64 .i64 _ (n + room) rfl rfl ?q0 ?q1 ?q2 ?q3 ?_)
  case q0 => first | rfl | omega | simp
  case q1 => first | omega | (rw [hz2]; omega)
  case q2 => unfold maxLen; omega
  case q3 => exact Nat.le_refl _
  intro w1 ho hg
  have hb1 : Below w.heap.size w w1 := (Below.refl _ w).grown hg (Nat.le_refl _) (fun k hk => by cases hk)
  have hs := hb1.size
  have ho' : Own w1 w.heap.size (.slice (some ⟨w.heap.size, 0, none⟩) 0 (n + room)) [] := ho
  have HF1 : Hid (From w1 a0 n f) := HF.out.below hb1 (Nat.le_refl _)
  clear ho hg HF
  go_wp2_with (at_builtin; refine wpList_app rfl _ _ rfl w.heap.size _ [] rfl ho' a0 n c f rfl HF1.out hc0 ?q2 ?q3 ?_)
  case q2 => simp; omega
  case q3 => omega
  intro v' w' ho hb
  go_wp2
  go_ret
  exact ⟨v', rfl, ho, hb1.trans hb⟩

set_option maxHeartbeats 400000 in
theorem wPut (a0 : Option Addr) (n c : Nat) (f : Nat → Int) (z : Int) (w : World) (hbig : n ≤ 70368744177664) (hf : From w a0 n f) (hc0 : a0 = none → c = 0) (hz : z ≤ 9223372036854775807) :
    Calls Tryz.prog 37 #[.slice a0 n c, .int .i64 z] w fun e w' => ∃ v', e = .returned v' ∧ Own w' w.heap.size v' (lst f n ++ putB z.toNat) ∧ Below w.heap.size w w' := by
  go_enter Tryz.func37, Tryz.ntmps37
  go_wp2_with fail
  refine (fresh a0 n c f 9 w (by omega) hf hc0).mono ?_
  rintro e w1 ⟨v1, rfl, ho, hb⟩
  go_wp2_with fail
  refine (putNumber v1 z hz w.heap.size (lst f n) w1 hb.size (by rw [lst_length]; omega) ho).mono ?_
  rintro e w2 ⟨v2, rfl, ho2, hb2⟩
  go_wp2
  go_ret
  exact ⟨v2, rfl, ho2, hb.trans hb2⟩

end Go.Proofs.YtnaobkpncfbnaaaGreatDoor
