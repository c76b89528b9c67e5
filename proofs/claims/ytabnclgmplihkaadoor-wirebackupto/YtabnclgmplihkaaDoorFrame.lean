/-
  Contracts of wire.Frame and of the document's own Frame. Condition: the slice has at most 2^47 bytes; the table is laid.
-/
import Derived.Test.YtabnclgmplihkaaDoorFour
namespace Go.Proofs.YtabnclgmplihkaaDoor
open Go.RowKit
set_option linter.unusedVariables false

def frameB (f : Nat → Int) (n : Nat) : List Int := putB n ++ lst f n ++ fourB (Crc.sum (lstN f n))

set_option maxHeartbeats 400000 in
theorem wFrame_long (a0 : Option Addr) (n c : Nat) (w : World) (h : 65536 < n) :
    Calls Tryd.prog 15 #[.slice a0 n c] w fun e w' => e = .returned (.tuple #[.slice none 0 0, .int .i64 12]) ∧ w' = w := by
  have h' : (65536 : Int) < (n : Int) := by omega
  go_enter Tryd.func15, Tryd.ntmps15
  go_wp2
  go_ret2
  exact ⟨rfl, rfl⟩
set_option maxHeartbeats 400000 in
theorem xFrame_long (a0 : Option Addr) (n c : Nat) (w : World) (h : 65536 < n) :
    Calls Tryd.prog 16 #[.slice a0 n c] w fun e w' => e = .returned (.tuple #[.slice none 0 0, .int .i64 12]) ∧ w' = w := by
  have h' : (65536 : Int) < (n : Int) := by omega
  go_enter Tryd.func16, Tryd.ntmps16
  go_wp2
  go_ret2
  exact ⟨rfl, rfl⟩

set_option maxHeartbeats 1000000 in
theorem wFrame_ok (a0 : Option Addr) (n c : Nat) (f : Nat → Int) (w : World) (h : n ≤ 65536) (hby : ∀ i, 0 ≤ f i ∧ f i ≤ 255) (hf : From w a0 n f) (hc0 : a0 = none → c = 0) (ht : Tab w) :
    Calls Tryd.prog 15 #[.slice a0 n c] w fun e w' => ∃ v', e = .returned (.tuple #[v', .int .i64 0]) ∧ Own w' w.heap.size v' (frameB f n) ∧ Below w.heap.size w w' := by
  have h' : ¬ (65536 : Int) < (n : Int) := by omega
  have hlen := putB_le n (by omega)
  have hll := lst_length f n
  have hsum := Crc.sum_lt (lstN f n) (lstN_by hby n)
  have HF : Hid (From w a0 n f) := hf
  have HT : Hid (Tab w) := ht
  clear hf ht
  go_enter Tryd.func15, Tryd.ntmps15
  go_wp2_with fail
  refine (fresh none 0 0 f (9 + n + 4) w (by omega) (.inl ⟨rfl, rfl⟩) (fun _ => rfl)).mono ?_
  rintro e w1 ⟨v1, rfl, ho1, hb1⟩
  have hs1 := hb1.size
  go_wp2_with fail
  refine (putNumber v1 (n : Int) (by omega) w.heap.size (lst f 0) w1 hs1 (by simp [lst]) ho1).mono ?_
  rintro e w2 ⟨v2, rfl, ho2, hb2⟩
  rw [Int.toNat_natCast, show lst f 0 ++ putB n = putB n from rfl] at ho2
  have hbA := hb1.trans hb2
  have hs2 := hbA.size
  have HF2 : Hid (From w2 a0 n f) := HF.out.below hbA (Nat.le_refl _)
  clear ho1 hb1 hb2 hs1
  go_wp2_with (at_builtin; refine wpList_app rfl _ _ rfl w.heap.size _ (putB n) rfl ho2 a0 n c f rfl HF2.out hc0 ?q2 ?q3 ?_)
  case q2 => omega
  case q3 => omega
  intro v3 w3 ho3 hb3
  have hbB := hbA.trans hb3
  have hs3 := hbB.size
  have hf3 := (HF.out.below hbB (Nat.le_refl _)).lay
  have ht3 := HT.out.below hbB (Nat.le_refl _)
  clear ho2 hbA hs2 HF2 hb3
  go_wp2_with fail
  refine (wSum a0 n c f (by omega) hby hf3 ht3).mono ?_
  rintro e w4 ⟨rfl, rfl⟩
  have hx : (putB n ++ lst f n).length ≤ 140737488351232 := by rw [List.length_append]; omega
  go_wp2_with fail
  refine (putSum v3 (Crc.sum (lstN f n)) w.heap.size (putB n ++ lst f n) w4 hs3 hsum hx ho3).mono ?_
  rintro e w5 ⟨v5, rfl, ho5, hb5⟩
  go_wp2
  go_ret2
  exact ⟨v5, rfl, ho5, hbB.trans hb5⟩

set_option maxHeartbeats 1000000 in
theorem xFrame_ok (a0 : Option Addr) (n c : Nat) (f : Nat → Int) (w : World) (h : n ≤ 65536) (hby : ∀ i, 0 ≤ f i ∧ f i ≤ 255) (hf : From w a0 n f) (hc0 : a0 = none → c = 0) :
    Calls Tryd.prog 16 #[.slice a0 n c] w fun e w' => ∃ v', e = .returned (.tuple #[v', .int .i64 0]) ∧ Own w' w.heap.size v' (frameB f n) ∧ Below w.heap.size w w' := by
  have h' : ¬ (65536 : Int) < (n : Int) := by omega
  have hlen := putB_le n (by omega)
  have hll := lst_length f n
  have hsum := Crc.sum_lt (lstN f n) (lstN_by hby n)
  have HF : Hid (From w a0 n f) := hf
  clear hf
  go_enter Tryd.func16, Tryd.ntmps16
  go_wp2_with fail
  refine (xPut none 0 0 f (n : Int) w (by omega) (.inl ⟨rfl, rfl⟩) (fun _ => rfl) (by omega)).mono ?_
  rintro e w2 ⟨v2, rfl, ho2, hbA⟩
  rw [Int.toNat_natCast, show lst f 0 ++ putB n = putB n from rfl] at ho2
  have hs2 := hbA.size
  have HF2 : Hid (From w2 a0 n f) := HF.out.below hbA (Nat.le_refl _)
  go_wp2_with (at_builtin; refine wpList_app rfl _ _ rfl w.heap.size _ (putB n) rfl ho2 a0 n c f rfl HF2.out hc0 ?q2 ?q3 ?_)
  case q2 => omega
  case q3 => omega
  intro v3 w3 ho3 hb3
  have hbB := hbA.trans hb3
  have hs3 := hbB.size
  have hf3 := (HF.out.below hbB (Nat.le_refl _)).lay
  clear ho2 hbA hs2 HF2 hb3
  go_wp2_with fail
  refine (xSum a0 n c f (by omega) hby hf3).mono ?_
  rintro e w4 ⟨rfl, rfl⟩
  go_wp2_with fail
  refine (four (Crc.sum (lstN f n)) hsum w4).mono ?_
  rintro e w5 ⟨rfl, rfl⟩
  have hx : (putB n ++ lst f n).length + 4 ≤ 140737488351232 := by rw [List.length_append]; omega
  have HX : Hid ((putB n ++ lst f n).length + 4 ≤ 140737488355328) := (by omega : (putB n ++ lst f n).length + 4 ≤ 140737488355328)
  have ho4 : Own (w4.alloc (.cells #[.int .u8 (fourAt (Crc.sum (lstN f n)) 0), .int .u8 (fourAt (Crc.sum (lstN f n)) 1), .int .u8 (fourAt (Crc.sum (lstN f n)) 2), .int .u8 (fourAt (Crc.sum (lstN f n)) 3)] 5)) w.heap.size v3 (putB n ++ lst f n) := World.ownsRow.alloc ho3 _
  have HFF : Hid (From (w4.alloc (.cells #[.int .u8 (fourAt (Crc.sum (lstN f n)) 0), .int .u8 (fourAt (Crc.sum (lstN f n)) 1), .int .u8 (fourAt (Crc.sum (lstN f n)) 2), .int .u8 (fourAt (Crc.sum (lstN f n)) 3)] 5)) (some ⟨w4.heap.size, 0, none⟩) 4 (fourAt (Crc.sum (lstN f n)))) := by
    refine .inr ⟨_, rfl, fun i hi => ?_⟩
    rw [Addr.add_lit, Nat.zero_add, World.cell?_alloc_at _ _ _ _ rfl]
    have hk : i = 0 ∨ i = 1 ∨ i = 2 ∨ i = 3 := by omega
    rcases hk with h | h | h | h <;> subst h <;> rfl
  have hbC := hbB.alloc hs3 (.cells #[.int .u8 (fourAt (Crc.sum (lstN f n)) 0), .int .u8 (fourAt (Crc.sum (lstN f n)) 1), .int .u8 (fourAt (Crc.sum (lstN f n)) 2), .int .u8 (fourAt (Crc.sum (lstN f n)) 3)] 5)
  have HS : Hid (w.heap.size ≤ (w4.alloc (.cells #[.int .u8 (fourAt (Crc.sum (lstN f n)) 0), .int .u8 (fourAt (Crc.sum (lstN f n)) 1), .int .u8 (fourAt (Crc.sum (lstN f n)) 2), .int .u8 (fourAt (Crc.sum (lstN f n)) 3)] 5)).heap.size) := hbC.size
  have HE : Hid ((putB n ++ lst f n) ++ lst (fourAt (Crc.sum (lstN f n))) 4 = frameB f n) := rfl
  clear ho3 hx hll hlen
  go_wp2_with (at_builtin; refine wpList_app rfl _ _ rfl w.heap.size _ (putB n ++ lst f n) rfl ho4 (some ⟨w4.heap.size, 0, none⟩) 4 4 (fourAt (Crc.sum (lstN f n))) rfl HFF.out (fun h => by cases h) HX.out HS.out ?_)
  intro v5 w5 ho5 hb5
  go_wp2
  go_ret2
  refine ⟨v5, rfl, ?_, hbC.trans hb5⟩
  rw [← HE.out]
  first | exact ho5 | (rw [List.append_assoc]; exact ho5)
end Go.Proofs.YtabnclgmplihkaaDoor
