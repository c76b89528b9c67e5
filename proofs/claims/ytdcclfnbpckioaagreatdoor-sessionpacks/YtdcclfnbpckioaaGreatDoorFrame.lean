/-
  Contracts of little.Put over an array's bytes, of wire.Frame and of the document's own Frame. Condition: the slice has at most 2^47 bytes; the table is laid.
-/
import Derived.Test.YtdcclfnbpckioaaGreatDoorFour
import Derived.Deep.DeepMust
namespace Go.Proofs.YtdcclfnbpckioaaGreatDoor
open Go.RowKit
set_option linter.unusedVariables false

def frameB (f : Nat → Int) (n : Nat) : List Int := putB n ++ lst f n ++ fourB (Crc.sum (lstN f n))

theorem Tab.below {w w' : World} {B : Nat} (h : Tab w) (hb : Below B w w') (hB : w.heap.size ≤ B) : Tab w' := fun i hi => by
  have := h i hi
  rw [hb.cell (p := ⟨0, i, none⟩) (Nat.lt_of_lt_of_le (World.block_lt_of_cell? w _ this) hB)]
  exact this
theorem Tab.lt {w : World} (h : Tab w) : 0 < w.heap.size := World.block_lt_of_cell? w ⟨0, 0, none⟩ (h 0 (by decide))

/-- The first n cells of block g are bytes, and may be written. -/
def Arr (w : World) (g n : Nat) (F : Nat → Int) : Prop := ∀ i, i < n → w.cell? ⟨g, i, none⟩ = some (.int .u8 (F i)) ∧ w.frozen? ⟨g, i, none⟩ = false
theorem Arr.set {w : World} {g n : Nat} {F : Nat → Int} (h : Arr w g n F) (k : Nat) (hk : k < n) (x : Int) : Arr (w.setCell ⟨g, k, none⟩ (.int .u8 x)) g n (fun i => if i = k then x else F i) := fun i hi => by
  refine ⟨?_, by rw [World.frozen?_setCell]; exact (h i hi).2⟩
  by_cases e : i = k
  · subst e
    rw [World.cell?_setCell_same _ _ _ (h i hi).1]
    simp
  · rw [World.cell?_setCell_other _ _ _ _ (fun e2 => e (congrArg Addr.off e2).symm)]
    simp only [if_neg e]
    exact (h i hi).1
theorem Arr.ext {w : World} {g n : Nat} {F G : Nat → Int} (h : Arr w g n F) (e : ∀ i, i < n → F i = G i) : Arr w g n G := fun i hi => e i hi ▸ h i hi

set_option maxHeartbeats 1000000 in
theorem putA (g m s : Nat) (F : Nat → Int) (w : World) (hs : s ≤ 9223372036854775807) (hm : m ≤ 140737488355328) (ho : Arr w g m F) :
    Calls Tryz.prog 80 #[.slice (some ⟨g, 0, none⟩) m m, .int .i64 (s : Int)] w fun e w' => e = .returned (.tuple #[]) ∧ Arr w' g m (leAt s) ∧ Only g w w' := by
  go_enter Tryz.func80, Tryz.ntmps80
  go_wp2
  go_loopw [1, 7] (fun x i wr => ∃ k : Nat, k ≤ m ∧ i = .int .i64 (k : Int) ∧ x = .int .i64 ((s / 256 ^ k : Nat) : Int) ∧ Arr wr g m (ov F 0 k (leAt s)) ∧ Only g w wr) (fun _ i _ => m - (intOf i).toNat)
  case atStart => exact ⟨0, Nat.zero_le _, rfl, by simp, ho.ext (fun i _ => by unfold ov; rw [if_neg (by omega)]), Only.refl _ _⟩
  case round =>
    obtain ⟨k, hk, rfl, rfl, ho1, hb⟩ := hrel
    by_cases hlt : k < m
    · have hlt' : (k : Int) < (m : Int) := by omega
      have hcell := (ho1 k hlt).1
      have hfz := (ho1 k hlt).2
      have HO : Hid (∀ x, x = leAt s k → Arr (wr.setCell ⟨g, k, none⟩ (.int .u8 x)) g m (ov F 0 (k + 1) (leAt s))) := fun x hx => by
        refine (ho1.set k hlt x).ext fun i hi => ?_
        show (if i = k then x else ov F 0 k (leAt s) i) = ov F 0 (k + 1) (leAt s) i
        unfold ov
        by_cases e : i = k
        · rw [if_pos e, if_pos (by omega), hx, e, Nat.sub_zero]
        · rw [if_neg e]
          by_cases e2 : 0 ≤ i ∧ i < 0 + k
          · rw [if_pos e2, if_pos (by omega)]
          · rw [if_neg e2, if_neg (by omega)]
      have HB : Hid (∀ x : Int, Only g w (wr.setCell ⟨g, k, none⟩ (.int .u8 x))) := fun x => hb.setCell (p := ⟨g, k, none⟩) rfl _
      have hdiv : Hid (s / 256 ^ (k + 1) = s / 256 ^ k / 256) := (by rw [Nat.pow_succ, Nat.div_div_eq_div_mul] : s / 256 ^ (k + 1) = s / 256 ^ k / 256)
      have hat : Hid (((s / 256 ^ k : Nat) : Int) % 256 = leAt s k) := (by unfold leAt; omega : ((s / 256 ^ k : Nat) : Int) % 256 = leAt s k)
      have htl : s / 256 ^ k ≤ s := Nat.div_le_self _ _
      clear ho1 hb
      generalize s / 256 ^ k = t at *
      go_wp2
      go_roundw
      case rel => exact ⟨k + 1, by omega, by go_num, by rw [hdiv.out]; go_num, HO.out _ hat.out, HB.out _⟩
      case measure => simp [intOf]; omega
    · obtain rfl : k = m := by omega
      have HA : Hid (Arr wr g k (leAt s)) := ho1.ext (fun i hi => by unfold ov; rw [if_pos (by omega), Nat.sub_zero])
      clear ho1
      go_wp2
      go_end0
      exact ⟨rfl, HA.out, hb⟩

set_option maxHeartbeats 400000 in
theorem wFrame_long (a0 : Option Addr) (n c : Nat) (w : World) (h : 65536 < n) :
    Calls Tryz.prog 56 #[.slice a0 n c] w fun e w' => e = .returned (.tuple #[.slice none 0 0, .int .i64 12]) ∧ w' = w := by
  have h' : (65536 : Int) < (n : Int) := by omega
  go_enter Tryz.func56, Tryz.ntmps56
  go_wp2
  go_ret2
  exact ⟨rfl, rfl⟩
set_option maxHeartbeats 400000 in
theorem xFrame_long (a0 : Option Addr) (n c : Nat) (w : World) (h : 65536 < n) :
    Calls Tryz.prog 46 #[.slice a0 n c] w fun e w' => e = .returned (.tuple #[.slice none 0 0, .int .i64 12]) ∧ w' = w := by
  have h' : (65536 : Int) < (n : Int) := by omega
  go_enter Tryz.func46, Tryz.ntmps46
  go_wp2
  go_ret2
  exact ⟨rfl, rfl⟩

set_option maxHeartbeats 1000000 in
theorem wFrame_ok (a0 : Option Addr) (n c : Nat) (f : Nat → Int) (w : World) (h : n ≤ 65536) (hby : ∀ i, 0 ≤ f i ∧ f i ≤ 255) (hf : From w a0 n f) (hc0 : a0 = none → c = 0) (ht : Tab w) :
    Calls Tryz.prog 56 #[.slice a0 n c] w fun e w' => ∃ v', e = .returned (.tuple #[v', .int .i64 0]) ∧ Own w' w.heap.size v' (frameB f n) ∧ Below w.heap.size w w' := by
  have h' : ¬ (65536 : Int) < (n : Int) := by omega
  have hlen := putB_le n (by omega)
  have hll := lst_length f n
  have hsum := Crc.sum_lt (lstN f n) (lstN_by hby n)
  have HF : Hid (From w a0 n f) := hf
  have HT : Hid (Tab w) := ht
  clear hf ht
  go_enter Tryz.func56, Tryz.ntmps56
  go_wp2_with fail
  refine (fresh none 0 0 f (9 + n + 4) w (by omega) (.inl ⟨rfl, rfl⟩) (fun _ => rfl)).mono ?_
  rintro e w1 ⟨v1, rfl, ho1, hb1⟩
  have hs1 := hb1.size
  go_wp2_with fail
  refine (putNumber v1 (n : Int) (by omega) w.heap.size (lst f 0) w1 hs1 (by simp [lst]) ho1).mono ?_
  rintro e w2 ⟨v2, rfl, ho2, hb2⟩
  rw [Int.toNat_natCast, show lst f 0 ++ putB n = putB n from rfl] at ho2
  have hbA := hb1.trans hb2
  have hs2 := hbA.size
  have HF2 : Hid (From w2 a0 n f) := HF.out.below hbA (Nat.le_refl _)
  clear ho1 hb1 hb2 hs1
  go_wp2_with (at_builtin; refine wpList_app rfl _ _ rfl w.heap.size _ (putB n) rfl ho2 a0 n c f rfl HF2.out hc0 ?q2 ?q3 ?_)
  case q2 => omega
  case q3 => omega
  intro v3 w3 ho3 hb3
  have hbB := hbA.trans hb3
  have hs3 := hbB.size
  obtain ⟨o, hO⟩ : ∃ o, Obj.cells #[.int .u8 0, .int .u8 0, .int .u8 0, .int .u8 0] 102 = o := ⟨_, rfl⟩
  have HO : Hid (Obj.cells #[.int .u8 0, .int .u8 0, .int .u8 0, .int .u8 0] 102 = o) := hO
  obtain ⟨Z, hZ⟩ : ∃ Z, Crc.sum (lstN f n) = Z := ⟨_, rfl⟩
  rw [hZ] at hsum
  have HZ : Hid (Crc.sum (lstN f n) = Z) := hZ
  have hsum' : Z < 4294967296 := hsum
  have HW : Hid (IntKind.i64.wrap (Z : Int) = (Z : Int)) := (by simp only [IntKind.wrap, IntKind.bits, IntKind.signed]; simp; omega : IntKind.i64.wrap (Z : Int) = (Z : Int))
  have HQ : Hid (∀ wq : World, wq.heap = (w3.alloc o).heap → Lay wq a0 n f ∧ Tab wq ∧ Arr wq w3.heap.size 4 (fun _ => 0)) := fun wq hq => by
    have hc : ∀ p, wq.cell? p = (w3.alloc o).cell? p := fun p => World.cell?_of_block (w := w3.alloc o) (by rw [hq])
    have hbo : Below w.heap.size w (w3.alloc o) := hbB.alloc hs3 o
    have hbq : Below w.heap.size (w3.alloc o) (w3.alloc o) := Below.refl _ _
    have hl := (HF.out.below hbo (Nat.le_refl _)).lay
    have htt := HT.out.below hbo (Nat.le_refl _)
    refine ⟨?_, fun i hi => (hc _).trans (htt i hi), fun i hi => ⟨?_, ?_⟩⟩
    · rcases hl with rfl | ⟨b, off, rfl, hcc⟩
      · exact .inl rfl
      · exact .inr ⟨b, off, rfl, fun i hi => (hc _).trans (hcc i hi)⟩
    · rw [hc, ← HO.out, World.cell?_alloc_at _ _ _ _ rfl]
      have hk : i = 0 ∨ i = 1 ∨ i = 2 ∨ i = 3 := by omega
      rcases hk with h | h | h | h <;> subst h <;> rfl
    · have : wq.heap[w3.heap.size]? = (w3.alloc o).heap[w3.heap.size]? := by rw [hq]
      rw [World.frozen?_of_block (w := w3.alloc o) this, ← HO.out]
      simp only [World.frozen?_alloc_new]
  clear ho2 hbA hs2 HF2 hb3 hO hZ hsum
  go_wp2_with fail
  rw [HO.out]
  go_region_with (first
    | (go_at_call 81; refine (wSum a0 n c f (by omega) hby (by exact (HQ.out _ rfl).1) (by exact (HQ.out _ rfl).2.1)).mono ?_; rintro e1 w5 ⟨rfl, rfl⟩; rw [HZ.out])
    | (go_at_call 80; rw [HW.out]; refine (putA w3.heap.size 4 Z (fun _ => 0) _ (by omega) (by omega) (by exact (HQ.out _ rfl).2.2)).mono ?_; rintro e' w' ⟨rfl, ho5, hb5⟩))
  have hb6 : Below w3.heap.size w3 w' := (blw_drewN 1 ((Below.refl _ w3).alloc (Nat.le_refl _) o)).trans (hb5.below (Nat.le_refl _))
  have hbC : Below w.heap.size w w' := hbB.trans (hb6.mono hs3)
  have ho6 : Own w' w.heap.size v3 (putB n ++ lst f n) := ho3.below hb6 (Nat.le_refl _)
  have hs6 := hbC.size
  have HF6 : Hid (From w' (some ⟨w3.heap.size, 0, none⟩) 4 (fourAt Z)) := .inr ⟨_, rfl, fun i hi => by
    rw [Addr.add_lit, Nat.zero_add]
    exact (ho5 i hi).1⟩
  have hx : (putB n ++ lst f n).length + 4 ≤ 140737488355328 := by rw [List.length_append]; omega
  have HX : Hid ((putB n ++ lst f n).length + 4 ≤ 140737488355328) := hx
  have HE : Hid ((putB n ++ lst f n) ++ lst (fourAt Z) 4 = frameB f n) := (by rw [← HZ.out]; rfl : (putB n ++ lst f n) ++ lst (fourAt Z) 4 = frameB f n)
  clear ho3 hx hll hlen HQ ho5 hb5 hb6 hbB
  go_wp2_with (at_builtin; refine wpList_app rfl _ _ rfl w.heap.size _ (putB n ++ lst f n) rfl ho6 (some ⟨w3.heap.size, 0, none⟩) 4 4 (fourAt Z) rfl HF6.out (fun h => by cases h) HX.out hs6 ?_)
  intro v5 w5 ho7 hb7
  go_wp2
  go_ret2
  refine ⟨v5, rfl, ?_, hbC.trans hb7⟩
  rw [← HE.out]
  first | exact ho7 | (rw [List.append_assoc]; exact ho7)
set_option maxHeartbeats 1000000 in
theorem xFrame_ok (a0 : Option Addr) (n c : Nat) (f : Nat → Int) (w : World) (h : n ≤ 65536) (hby : ∀ i, 0 ≤ f i ∧ f i ≤ 255) (hf : From w a0 n f) (hc0 : a0 = none → c = 0) :
    Calls Tryz.prog 46 #[.slice a0 n c] w fun e w' => ∃ v', e = .returned (.tuple #[v', .int .i64 0]) ∧ Own w' w.heap.size v' (frameB f n) ∧ Below w.heap.size w w' := by
  have h' : ¬ (65536 : Int) < (n : Int) := by omega
  have hlen := putB_le n (by omega)
  have hll := lst_length f n
  have hsum := Crc.sum_lt (lstN f n) (lstN_by hby n)
  have HF : Hid (From w a0 n f) := hf
  clear hf
  go_enter Tryz.func46, Tryz.ntmps46
  go_wp2_with fail
  refine (xPut none 0 0 f (n : Int) w (by omega) (.inl ⟨rfl, rfl⟩) (fun _ => rfl) (by omega)).mono ?_
  rintro e w2 ⟨v2, rfl, ho2, hbA⟩
  rw [Int.toNat_natCast, show lst f 0 ++ putB n = putB n from rfl] at ho2
  have hs2 := hbA.size
  have HF2 : Hid (From w2 a0 n f) := HF.out.below hbA (Nat.le_refl _)
  go_wp2_with (at_builtin; refine wpList_app rfl _ _ rfl w.heap.size _ (putB n) rfl ho2 a0 n c f rfl HF2.out hc0 ?q2 ?q3 ?_)
  case q2 => omega
  case q3 => omega
  intro v3 w3 ho3 hb3
  have hbB := hbA.trans hb3
  have hs3 := hbB.size
  have hf3 := (HF.out.below hbB (Nat.le_refl _)).lay
  clear ho2 hbA hs2 HF2 hb3
  go_wp2_with fail
  refine (xSum a0 n c f (by omega) hby hf3).mono ?_
  rintro e w4 ⟨rfl, rfl⟩
  go_wp2_with fail
  refine (four (Crc.sum (lstN f n)) hsum w4).mono ?_
  rintro e w5 ⟨rfl, rfl⟩
  have hx : (putB n ++ lst f n).length + 4 ≤ 140737488351232 := by rw [List.length_append]; omega
  have HX : Hid ((putB n ++ lst f n).length + 4 ≤ 140737488355328) := (by omega : (putB n ++ lst f n).length + 4 ≤ 140737488355328)
  have ho4 : Own (w4.alloc (.cells #[.int .u8 (fourAt (Crc.sum (lstN f n)) 0), .int .u8 (fourAt (Crc.sum (lstN f n)) 1), .int .u8 (fourAt (Crc.sum (lstN f n)) 2), .int .u8 (fourAt (Crc.sum (lstN f n)) 3)] 5)) w.heap.size v3 (putB n ++ lst f n) := World.ownsRow.alloc ho3 _
  have HFF : Hid (From (w4.alloc (.cells #[.int .u8 (fourAt (Crc.sum (lstN f n)) 0), .int .u8 (fourAt (Crc.sum (lstN f n)) 1), .int .u8 (fourAt (Crc.sum (lstN f n)) 2), .int .u8 (fourAt (Crc.sum (lstN f n)) 3)] 5)) (some ⟨w4.heap.size, 0, none⟩) 4 (fourAt (Crc.sum (lstN f n)))) := by
    refine .inr ⟨_, rfl, fun i hi => ?_⟩
    rw [Addr.add_lit, Nat.zero_add, World.cell?_alloc_at _ _ _ _ rfl]
    have hk : i = 0 ∨ i = 1 ∨ i = 2 ∨ i = 3 := by omega
    rcases hk with h | h | h | h <;> subst h <;> rfl
  have hbC := hbB.alloc hs3 (.cells #[.int .u8 (fourAt (Crc.sum (lstN f n)) 0), .int .u8 (fourAt (Crc.sum (lstN f n)) 1), .int .u8 (fourAt (Crc.sum (lstN f n)) 2), .int .u8 (fourAt (Crc.sum (lstN f n)) 3)] 5)
  have HS : Hid (w.heap.size ≤ (w4.alloc (.cells #[.int .u8 (fourAt (Crc.sum (lstN f n)) 0), .int .u8 (fourAt (Crc.sum (lstN f n)) 1), .int .u8 (fourAt (Crc.sum (lstN f n)) 2), .int .u8 (fourAt (Crc.sum (lstN f n)) 3)] 5)).heap.size) := hbC.size
  have HE : Hid ((putB n ++ lst f n) ++ lst (fourAt (Crc.sum (lstN f n))) 4 = frameB f n) := rfl
  clear ho3 hx hll hlen
  go_wp2_with (at_builtin; refine wpList_app rfl _ _ rfl w.heap.size _ (putB n ++ lst f n) rfl ho4 (some ⟨w4.heap.size, 0, none⟩) 4 4 (fourAt (Crc.sum (lstN f n))) rfl HFF.out (fun h => by cases h) HX.out HS.out ?_)
  intro v5 w5 ho5 hb5
  go_wp2
  go_ret2
  refine ⟨v5, rfl, ?_, hbC.trans hb5⟩
  rw [← HE.out]
  first | exact ho5 | (rw [List.append_assoc]; exact ho5)
end Go.Proofs.YtdcclfnbpckioaaGreatDoor
