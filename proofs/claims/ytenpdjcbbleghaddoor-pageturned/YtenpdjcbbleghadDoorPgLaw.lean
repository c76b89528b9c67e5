/-
  The laws PageBack and PageTurned: the walks. Condition: the table is laid.
-/
import Derived.Test.YtenpdjcbbleghadDoorPgMath
namespace Go.Proofs.YtenpdjcbbleghadDoor
open Go.RowKit
set_option linter.unusedVariables false

theorem mod_ex (z : Int) (m : Nat) (h0 : 0 < m) (h1 : m ≤ 140737488355328) : ∃ t : Nat, t < m ∧ wrap64 ((IntKind.u64.wrap z).tmod (m : Int)) = (t : Int) := by
  rw [IntKind.wrap_u64, Int.tmod_eq_emod_of_nonneg (Int.emod_nonneg _ (by decide))]
  have a := Int.emod_nonneg (z % 18446744073709551616) (show (m : Int) ≠ 0 by omega)
  have b := Int.emod_lt_of_pos (z % 18446744073709551616) (show (0 : Int) < (m : Int) by omega)
  obtain ⟨t, ht⟩ := Int.eq_ofNat_of_zero_le a
  rw [ht] at b ⊢
  exact ⟨t, by omega, Wm.w64 _ (by omega)⟩
theorem xor_turn (x d : Int) (hx : 0 ≤ x ∧ x ≤ 255) (hd : 1 ≤ d ∧ d ≤ 255) : bits .xor .u8 x d ≠ x ∧ 0 ≤ bits .xor .u8 x d ∧ bits .xor .u8 x d ≤ 255 := by
  obtain ⟨a, rfl⟩ := Int.eq_ofNat_of_zero_le hx.1
  obtain ⟨b, rfl⟩ := Int.eq_ofNat_of_zero_le (show 0 ≤ d by omega)
  rw [u8_xor_nat a b (by omega) (by omega)]
  have hlt : a ^^^ b < 2 ^ 8 := Nat.xor_lt_two_pow (by omega) (by omega)
  refine ⟨fun e => ?_, by omega, by omega⟩
  have e' : a ^^^ b = a ^^^ 0 := by rw [Nat.xor_zero]; omega
  have := Crc.xor_left_inj e'
  omega
theorem by_ex (z : Int) : 1 ≤ IntKind.u64.wrap (1 + (IntKind.u64.wrap z).tmod 255) % 256 ∧ IntKind.u64.wrap (1 + (IntKind.u64.wrap z).tmod 255) % 256 ≤ 255 := by
  rw [IntKind.wrap_u64, IntKind.wrap_u64, Int.tmod_eq_emod_of_nonneg (Int.emod_nonneg _ (by decide))]
  omega

theorem Own.some {w : World} {B : Nat} {v : Value} {xs : List Int} (h : Own w B v xs) (hp : 0 < xs.length) : ∃ g c, v = .slice (some ⟨g, 0, none⟩) xs.length c ∧ B ≤ g ∧ g < w.heap.size ∧ xs.length ≤ c ∧ c ≤ 9223372036854775807 := by
  obtain ⟨ao, c, h1, h2, h3, h4, h5, h6⟩ := h.open
  rcases h2 with ⟨_, e⟩ | ⟨x, rfl, _⟩
  · omega
  · obtain ⟨k, rfl, k1, k2⟩ := h6 x rfl
    exact ⟨k, c, h1, k1, k2, h4, h5⟩

theorem encF_by {z : Int} {f : Nat → Int} (h : ∀ i, 0 ≤ f i ∧ f i ≤ 255) : ∀ i, 0 ≤ encF z f i ∧ encF z f i ≤ 255 := fun i => by
  unfold encF
  split
  · exact ⟨Int.le_refl _, by show (0 : Int) ≤ 255; decide⟩
  · exact pg_by _ h i

set_option maxRecDepth 100000 in
set_option maxHeartbeats 1000000 in
theorem back_err (a0 : Option Addr) (n c : Nat) (z : Int) (f : Nat → Int) (w : World) (hf : From w a0 n f) (hby : ∀ i, 0 ≤ f i ∧ f i ≤ 255) (ht : Tab w) (hk : ¬ EncOk z n) :
    Calls Tryd.prog 3 #[.int .i64 z, .slice a0 n c] w fun e w' => e = .returned (.bool true) ∧ Below w.heap.size w w' := by
  have he : encE z n = 1 := if_neg hk
  have hl : encL z n f = [] := if_neg hk
  go_enter Tryd.func3, Tryd.ntmps3
  go_wp2_with fail
  refine (wEncode a0 n c z f w hf hby ht).mono ?_
  rintro e w1 ⟨vX, rfl, hoX, hb1⟩
  rw [hl] at hoX
  rw [he]
  obtain ⟨aX, cX, rfl, _⟩ := hoX.open
  have hf1 := hf.below hb1 (Nat.le_refl _)
  have hs1 := hb1.size
  go_wp2_with fail
  refine (xEncode a0 n c z f w1 hf1 hby).mono ?_
  rintro e w2 ⟨vY, rfl, hoY, hb2⟩
  rw [he]
  have hbB := hb1.trans (hb2.mono hs1)
  go_wp2
  go_ret
  exact ⟨rfl, hbB⟩

set_option maxRecDepth 100000 in
set_option maxHeartbeats 1000000 in
theorem back_ok (a0 : Option Addr) (c : Nat) (z : Int) (f : Nat → Int) (w : World) (hf : From w a0 112 f) (hby : ∀ i, 0 ≤ f i ∧ f i ≤ 255) (ht : Tab w) (hk : EncOk z 112) :
    Calls Tryd.prog 3 #[.int .i64 z, .slice a0 112 c] w fun e w' => e = .returned (.bool true) ∧ Below w.heap.size w w' := by
  have he : encE z 112 = 0 := if_pos hk
  have hl : ∀ f, encL z 112 f = lst (encF z f) 128 := fun f => if_pos hk
  have hdb := dec_back hk hby
  have hEb : ∀ i, 0 ≤ encF z f i ∧ encF z f i ≤ 255 := encF_by hby
  go_enter Tryd.func3, Tryd.ntmps3
  go_wp2_with fail
  refine (wEncode a0 112 c z f w hf hby ht).mono ?_
  rintro e w1 ⟨vX, rfl, hoX, hb1⟩
  rw [hl] at hoX
  rw [he]
  obtain ⟨aX, cX, rfl, hfX, hcX, hcX1, hcX2, hgX⟩ := hoX.openF
  have hf1 := hf.below hb1 (Nat.le_refl _)
  have hs1 := hb1.size
  go_wp2_with fail
  refine (xEncode a0 112 c z f w1 hf1 hby).mono ?_
  rintro e w2 ⟨vY, rfl, hoY, hb2⟩
  rw [he]
  have hbB := hb1.trans (hb2.mono hs1)
  have hs2 := hb2.size
  have hfX2 := hfX.below hb2 (Nat.le_refl _)
  have ht2 := ht.below hbB (Nat.le_refl _)
  clear hfX hoX hoY hf1
  go_wp2_with fail
  refine (wDecode aX 128 cX (encF z f) w2 hfX2 hcX1 hEb ht2).mono ?_
  rintro e w3 ⟨vP, rfl, hoP, hb3⟩
  rw [hdb] at hoP ⊢
  obtain ⟨aP, cP, rfl, hfP, hcP, hcP1, hcP2, hgP⟩ := hoP.openF
  have hbC := hbB.trans (hb3.mono (by omega))
  have hs3 := hb3.size
  have hfX3 := hfX2.below hb3 (Nat.le_refl _)
  have hf3 := hf.below hbC (Nat.le_refl _)
  have ht3 := ht.below hbC (Nat.le_refl _)
  clear hfX2 hoP hf ht ht2
  have HE : Hid (∀ f, encL z 112 f = lst (encF z f) 128) := hl
  have HDB : Hid (encE z 112 = 0) := he
  have HBY : Hid (∀ i, 0 ≤ f i ∧ f i ≤ 255) := hby
  clear hl hdb he hEb hby
  go_wp2_with fail
  refine (equal_yes aP a0 112 cP 112 c f f w3 hfP hf3 rfl).mono ?_
  rintro e w4 ⟨rfl, rfl⟩
  go_wp2_with fail
  refine (wEncode aP 112 cP z f _ hfP HBY.out ht3).mono ?_
  rintro e w5 ⟨vZ, rfl, hoZ, hb5⟩
  rw [HE.out] at hoZ
  rw [HDB.out]
  obtain ⟨aZ, cZ, rfl, hfZ, _⟩ := hoZ.openF
  have hbD := hbC.trans (hb5.mono (by omega))
  have hfX5 := hfX3.below hb5 (Nat.le_refl _)
  clear hfX3 hoZ
  go_wp2_with fail
  refine (equal_yes aX aZ 128 cX 128 cZ (encF z f) (encF z f) w5 hfX5 hfZ rfl).mono ?_
  rintro e w6 ⟨rfl, rfl⟩
  go_wp2
  go_ret
  exact ⟨rfl, hbD⟩

theorem back_walk (a0 : Option Addr) (n c : Nat) (z : Int) (f : Nat → Int) (w : World) (hf : From w a0 n f) (hby : ∀ i, 0 ≤ f i ∧ f i ≤ 255) (ht : Tab w) :
    Calls Tryd.prog 3 #[.int .i64 z, .slice a0 n c] w fun e w' => e = .returned (.bool true) ∧ Below w.heap.size w w' := by
  by_cases hk : EncOk z n
  · obtain rfl := hk.2.2
    exact back_ok a0 c z f w hf hby ht hk
  · exact back_err a0 n c z f w hf hby ht hk

set_option maxRecDepth 100000 in
set_option maxHeartbeats 1000000 in
theorem turned_err (a0 : Option Addr) (n c : Nat) (z k by_ : Int) (f : Nat → Int) (w : World) (hf : From w a0 n f) (hby : ∀ i, 0 ≤ f i ∧ f i ≤ 255) (ht : Tab w) (hk : ¬ EncOk z n) :
    Calls Tryd.prog 4 #[.int .i64 z, .slice a0 n c, .int .i64 k, .int .i64 by_] w fun e w' => e = .returned (.bool true) ∧ Below w.heap.size w w' := by
  have he : encE z n = 1 := if_neg hk
  go_enter Tryd.func4, Tryd.ntmps4
  go_wp2_with fail
  refine (wEncode a0 n c z f w hf hby ht).mono ?_
  rintro e w1 ⟨vX, rfl, hoX, hb1⟩
  rw [he]
  have hf1 := hf.below hb1 (Nat.le_refl _)
  have hs1 := hb1.size
  go_wp2_with fail
  refine (xEncode a0 n c z f w1 hf1 hby).mono ?_
  rintro e w2 ⟨vY, rfl, hoY, hb2⟩
  rw [he]
  have hbB := hb1.trans (hb2.mono hs1)
  go_wp2
  go_ret
  exact ⟨rfl, hbB⟩
set_option maxRecDepth 100000 in
set_option maxHeartbeats 1000000 in
theorem turned_zero (a0 : Option Addr) (c : Nat) (k by_ : Int) (f : Nat → Int) (w : World) (hf : From w a0 112 f) (hby : ∀ i, 0 ≤ f i ∧ f i ≤ 255) (ht : Tab w) :
    Calls Tryd.prog 4 #[.int .i64 0, .slice a0 112 c, .int .i64 k, .int .i64 by_] w fun e w' => e = .returned (.bool true) ∧ Below w.heap.size w w' := by
  have he : encE 0 112 = 0 := rfl
  go_enter Tryd.func4, Tryd.ntmps4
  go_wp2_with fail
  refine (wEncode a0 112 c 0 f w hf hby ht).mono ?_
  rintro e w1 ⟨vX, rfl, hoX, hb1⟩
  rw [he]
  have hf1 := hf.below hb1 (Nat.le_refl _)
  have hs1 := hb1.size
  go_wp2_with fail
  refine (xEncode a0 112 c 0 f w1 hf1 hby).mono ?_
  rintro e w2 ⟨vY, rfl, hoY, hb2⟩
  rw [he]
  have hbB := hb1.trans (hb2.mono hs1)
  go_wp2
  go_ret
  exact ⟨rfl, hbB⟩

set_option maxRecDepth 100000 in
set_option maxHeartbeats 1000000 in
theorem turned_ok (a0 : Option Addr) (c s : Nat) (k by_ : Int) (f : Nat → Int) (w : World) (hf : From w a0 112 f) (hby : ∀ i, 0 ≤ f i ∧ f i ≤ 255) (ht : Tab w) (hs : 1 ≤ s) (hs2 : s ≤ 4611686018427387904) :
    Calls Tryd.prog 4 #[.int .i64 (s : Int), .slice a0 112 c, .int .i64 k, .int .i64 by_] w fun e w' => e = .returned (.bool true) ∧ Below w.heap.size w w' := by
  have hk : EncOk (s : Int) 112 := ⟨by omega, by omega, rfl⟩
  have he : encE (s : Int) 112 = 0 := if_pos hk
  have hl : encL (s : Int) 112 f = lst (pg s f) 128 := by
    unfold encL encF
    rw [if_pos hk, if_neg (by omega), Int.toNat_natCast]
  have hEb : ∀ i, 0 ≤ pg s f i ∧ pg s f i ≤ 255 := pg_by s hby
  have h1' : ¬ (s : Int) < 1 := by omega
  obtain ⟨t, ht1, ht2⟩ := mod_ex k 128 (by omega) (by omega)
  have ht2 : wrap64 ((IntKind.u64.wrap k).tmod 128) = (t : Int) := ht2
  have hd := by_ex by_
  have hturn := xor_turn (pg s f t) _ (hEb t) hd
  have HM : Hid (∀ v : Int, v ≠ pg s f t → 0 ≤ v → v ≤ 255 → dec (fun i => if i = t then v else pg s f i) 128 = (0, [], 13) ∧ ∀ i, 0 ≤ (fun i => if i = t then v else pg s f i) i ∧ (fun i => if i = t then v else pg s f i) i ≤ 255) := fun v h1 h2 h3 => by
    have hb : ∀ i, 0 ≤ (fun i => if i = t then v else pg s f i) i ∧ (fun i => if i = t then v else pg s f i) i ≤ 255 := fun i => by
      show 0 ≤ (if i = t then v else pg s f i) ∧ (if i = t then v else pg s f i) ≤ 255
      split
      · exact ⟨h2, h3⟩
      · exact hEb i
    refine ⟨dec_turned hs hs2 hby hb t ht1 ?_ ?_, hb⟩
    · show (if t = t then v else pg s f t) ≠ _
      rw [if_pos rfl]; exact h1
    · intro i hi
      show (if i = t then v else pg s f i) = _
      rw [if_neg hi]
  have htl : (t : Int) < 128 := by omega
  go_enter Tryd.func4, Tryd.ntmps4
  go_wp2_with fail
  refine (wEncode a0 112 c (s : Int) f w hf hby ht).mono ?_
  rintro e w1 ⟨vX, rfl, hoX, hb1⟩
  rw [hl] at hoX
  rw [he]
  have hs1 := hb1.size
  obtain ⟨gX, cX, rfl, k1, k2, k3, k4⟩ := hoX.some (by rw [lst_length]; omega)
  rw [lst_length] at k3
  rw [lst_length]
  have hoX : Own w1 w.heap.size (.slice (some ⟨gX, 0, none⟩) 128 cX) (lst (pg s f) 128) := by rw [lst_length] at hoX; exact hoX
  have hcell := hoX.cellF t ht1
  have hfz := hoX.freeF t
  have H4 : Hid (∀ v : Int, From (w1.setCell ⟨gX, t, none⟩ (.int .u8 v)) (some ⟨gX, 0, none⟩) 128 (fun i => if i = t then v else pg s f i) ∧ Tab (w1.setCell ⟨gX, t, none⟩ (.int .u8 v)) ∧ Below w.heap.size w (w1.setCell ⟨gX, t, none⟩ (.int .u8 v))) := fun v => by
    have ho := hoX.set t ht1 v
    refine ⟨?_, ?_, hb1.setCell (p := ⟨gX, t, none⟩) k1 _⟩
    · refine .inr ⟨_, rfl, fun i hi => ?_⟩
      rw [Addr.add_lit, Nat.zero_add]
      exact ho.cellF i hi
    · intro i hi
      have h0 := ht.lt
      rw [World.cell?_setCell_other _ _ _ _ (fun e' => by have : gX = 0 := congrArg Addr.block e'; omega)]
      exact (ht.below hb1 (Nat.le_refl _)) i hi
  clear hoX hl he hEb hf hby hk
  go_wp2_with fail
  generalize bits BinOp.xor IntKind.u8 (pg s f t) (IntKind.u64.wrap (1 + (IntKind.u64.wrap by_).tmod 255) % 256) = v at *
  obtain ⟨t1, t2, t3⟩ := hturn
  obtain ⟨u1, u2, u4⟩ := H4.out v
  obtain ⟨m1, m2⟩ := HM.out v t1 t2 t3
  refine (wDecode (some ⟨gX, 0, none⟩) 128 cX _ _ u1 k3 m2 u2).mono ?_
  rintro e w4 ⟨v3, rfl, ho4, hb4⟩
  rw [m1] at ho4 ⊢
  obtain ⟨aP, cP, rfl, _⟩ := ho4.open
  have hfin : Below w.heap.size w w4 := u4.trans (hb4.mono u4.size)
  clear H4 HM u1 u2 m1 m2 hb4 ho4
  go_wp2
  go_ret
  exact ⟨rfl, hfin⟩

theorem turned_walk (a0 : Option Addr) (n c : Nat) (z k by_ : Int) (f : Nat → Int) (w : World) (hf : From w a0 n f) (hby : ∀ i, 0 ≤ f i ∧ f i ≤ 255) (ht : Tab w) :
    Calls Tryd.prog 4 #[.int .i64 z, .slice a0 n c, .int .i64 k, .int .i64 by_] w fun e w' => e = .returned (.bool true) ∧ Below w.heap.size w w' := by
  by_cases hk : EncOk z n
  · obtain ⟨h1, h2, rfl⟩ := hk
    obtain ⟨s, rfl⟩ := Int.eq_ofNat_of_zero_le h1
    by_cases h0 : s = 0
    · subst h0
      exact turned_zero a0 c k by_ f w hf hby ht
    · exact turned_ok a0 c s k by_ f w hf hby ht (by omega) (by omega)
  · exact turned_err a0 n c z k by_ f w hf hby ht hk
end Go.Proofs.YtenpdjcbbleghadDoor
