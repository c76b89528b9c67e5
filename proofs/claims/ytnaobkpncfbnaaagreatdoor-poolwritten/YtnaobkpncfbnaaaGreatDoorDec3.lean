/-
  Contract of the document's own Decode, its last ways.
-/
import Derived.Test.YtnaobkpncfbnaaaGreatDoorDec2
namespace Go.Proofs.YtnaobkpncfbnaaaGreatDoor
open Go.RowKit
set_option linter.unusedVariables false

theorem get_u {g : Nat → Int} (h : ∀ i, 0 ≤ g i ∧ g i ≤ 255) (k : Nat) (hk : k < 8) : IntKind.u64.wrap (((rd g k : Nat) : Int) + IntKind.u64.wrap (g k * 2 ^ (8 * k))) = ((rd g (k + 1) : Nat) : Int) := by
  have l1 := rd_lt h (k + 1)
  have hb := h k
  obtain ⟨y, hy⟩ := Int.eq_ofNat_of_zero_le hb.1
  have e8 : (256 : Nat) ^ k = 2 ^ (8 * k) := by rw [Nat.pow_mul]
  have hp : (256 : Nat) ^ (k + 1) ≤ 256 ^ 8 := Nat.pow_le_pow_right (by decide) (by omega)
  have h8 : (256 : Nat) ^ 8 = 18446744073709551616 := by decide
  have e : g k * 2 ^ (8 * k) = ((y * 256 ^ k : Nat) : Int) := by rw [hy, e8]; simp
  have e2 : rd g (k + 1) = rd g k + y * 256 ^ k := by rw [rd, hy, Int.toNat_natCast]
  rw [e, IntKind.wrap_u64, IntKind.wrap_u64, e2]
  rw [e2] at l1
  generalize y * 256 ^ k = t at *
  omega
theorem numS_ok (r : Nat) (hr : r < 18446744073709551616) : EncOk (wrap64 (r : Int)) 112 ↔ r ≤ 4611686018427387904 := by
  unfold EncOk wrap64
  constructor
  · rintro ⟨h1, h2, _⟩; omega
  · intro h; exact ⟨by omega, by omega, rfl⟩

set_option maxRecDepth 100000 in
set_option maxHeartbeats 1000000 in
theorem xDec_enc (b off c : Nat) (f : Nat → Int) (w : World) (hcap : 128 ≤ c) (hby : ∀ i, 0 ≤ f i ∧ f i ≤ 255) (hc : Hid (∀ i, i < 128 → w.cell? ⟨b, off + i, none⟩ = some (.int .u8 (f i)))) (hz : ¬ Nil f 128) (hs : rd (sh f 124) 4 = sumS f) :
    Calls Tryz.prog 27 #[.slice (some ⟨b, off, none⟩) 128 c] w fun e w' => ∃ v', e = .returned (.tuple #[.int .i64 (if DecOk f then numS f else 0), v', .int .i64 (if DecOk f then 0 else 5)]) ∧ Own w' w.heap.size v' (if DecOk f then lst (sh f 12) 112 else []) ∧ Below w.heap.size w w' := by
  have HD : Hid (decide (Nil f 128) = false) := decide_eq_false hz
  have HB : Hid (∀ i, 0 ≤ f i ∧ f i ≤ 255) := hby
  have hl := sum_lt4 hby
  have h4 : (256 : Nat) ^ 4 = 4294967296 := by decide
  rw [h4] at hl
  obtain ⟨p0, p1, p2, p3⟩ := (sealed_iff hby).1 hs
  obtain ⟨s0, s1, s2, s3⟩ := four_spell (sumS f) hl
  have HE : Hid (Crc.sum (lstN f 124) = sumS f) := rfl
  have HL : Hid (Lay w (some ⟨b, off, none⟩) 124 f) := .inr ⟨b, off, rfl, fun i hi => hc.out i (by omega)⟩
  have HFb : Hid (From w (some ⟨b, off, none⟩) 128 f) := .inr ⟨_, rfl, fun i hi => by rw [Addr.add_lit]; exact hc.out i hi⟩
  have HFl : Hid (From w (some ⟨b, off + 12, none⟩) 112 (sh f 12)) := .inr ⟨_, rfl, fun i hi => by
    rw [Addr.add_lit, Nat.add_assoc]
    exact hc.out (12 + i) (by omega)⟩
  have c0 := hc.out 124 (by omega)
  have c1 := hc.out 125 (by omega)
  have c2 := hc.out 126 (by omega)
  have c3 := hc.out 127 (by omega)
  rw [p0, s0] at c0
  rw [p1, s1] at c1
  rw [p2, s2] at c2
  rw [p3, s3] at c3
  have hc1 : (124 : Int) ≤ (c : Int) := by omega
  have hc2 : (12 : Int) < (c : Int) := by omega
  have HR : Hid (∀ k, k ≤ 8 → rd (sh f 4) k < 256 ^ k) := fun k _ => rd_lt (sh_by hby 4) k
  have HDK : Hid (DecOk f ↔ (EncOk (numS f) 112 ∧ lst (encF (numS f) (sh f 12)) 128 = lst f 128)) := Iff.rfl
  have HNS : Hid (numS f = wrap64 ((rd (sh f 4) 8 : Nat) : Int)) := rfl
  have HBE : Hid (∀ z i, 0 ≤ encF z (sh f 12) i ∧ encF z (sh f 12) i ≤ 255) := fun z i => by
    unfold encF
    split
    · exact ⟨Int.le_refl _, by show (0 : Int) ≤ 255; decide⟩
    · exact pg_by _ (sh_by hby 12) i
  clear hz hs hby p0 p1 p2 p3 s0 s1 s2 s3 h4
  generalize sumS f = Z at *
  go_enter Tryz.func27, Tryz.ntmps27
  go_wp2_with fail
  refine (noughts_at b off 128 c f w (by omega) hc).mono ?_
  rintro e w1 ⟨rfl, hw⟩
  obtain rfl : w = w1 := hw.symm
  rw [HD.out]
  clear hw
  go_wp2_with fail
  refine (xSum (some ⟨b, off, none⟩) 124 c f (by omega) HB.out HL.out).mono ?_
  rintro e w1 ⟨rfl, hw⟩
  obtain rfl : w = w1 := hw.symm
  rw [HE.out]
  clear hw
  go_wp2
  go_loop [6, 53] (fun x i => ∃ k : Nat, k ≤ 8 ∧ i = .int .i64 (k : Int) ∧ x = .int .u64 ((rd (sh f 4) k : Nat) : Int)) (fun _ i => 8 - (intOf i).toNat)
  case atStart => exact ⟨0, by omega, rfl, rfl⟩
  case round =>
    obtain ⟨k, hk, rfl, rfl⟩ := hrel
    by_cases hlt : k < 8
    · have hlt' : (k : Int) < 8 := by omega
      have hcell := hc.out (4 + k) (by omega)
      have hb1 := HB.out (4 + k)
      have hcell : w.cell? ⟨b, off + (4 + k), none⟩ = some (.int .u8 (sh f 4 k)) := hcell
      have hb1 : 0 ≤ sh f 4 k ∧ sh f 4 k ≤ 255 := hb1
      have HS : Hid _ := get_u (sh_by HB.out 4) k hlt
      have HS : Hid (IntKind.u64.wrap (((rd (sh f 4) k : Nat) : Int) + IntKind.u64.wrap (f (4 + k) * 2 ^ (8 * k))) = ((rd (sh f 4) (k + 1) : Nat) : Int)) := HS
      clear c0 c1 c2 c3
      generalize rd (sh f 4) k = R at *
      go_wp2
      go_round
      case rel => exact ⟨k + 1, by omega, by go_num, by rw [HS.out]⟩
      case measure => simp [intOf]; omega
    · obtain rfl : k = 8 := by omega
      have hr8 := HR.out 8 (by omega)
      have h8 : (256 : Nat) ^ 8 = 18446744073709551616 := by decide
      rw [h8] at hr8
      have hok := numS_ok _ hr8
      rw [← HNS.out] at hok
      have HOK : Hid (EncOk (numS f) 112 ↔ rd (sh f 4) 8 ≤ 4611686018427387904) := hok
      clear hok h8 c0 c1 c2 c3 HL HE HR HD
      by_cases hbig : 4611686018427387904 < rd (sh f 4) 8
      · have HDD : Hid (¬ DecOk f) := fun h => by have := HOK.out.1 (HDK.out.1 h).1; omega
        have hbig' : (4611686018427387904 : Int) < ((rd (sh f 4) 8 : Nat) : Int) := by omega
        clear HDK HNS HOK
        generalize rd (sh f 4) 8 = R at *
        go_wp2
        go_ret3
        refine ⟨_, ?_, (by first | exact World.ownsRow_nil _ _ _ _ | (rw [if_neg HDD.out]; exact World.ownsRow_nil _ _ _ _)), Below.refl _ _⟩
        first | rfl | (rw [if_neg HDD.out, if_neg HDD.out]; rfl)
      · have hbig' : ¬ (4611686018427387904 : Int) < ((rd (sh f 4) 8 : Nat) : Int) := by omega
        have HN2 : Hid (numS f = ((rd (sh f 4) 8 : Nat) : Int)) := HNS.out.trans (Wm.w64 _ (by omega))
        have HK : Hid (EncOk (numS f) 112) := HOK.out.2 (by omega)
        have HW : Hid (wrap64 ((rd (sh f 4) 8 : Nat) : Int) = ((rd (sh f 4) 8 : Nat) : Int)) := Wm.w64 _ (by omega)
        clear HNS HOK
        generalize rd (sh f 4) 8 = R at *
        have hm : Own (w.alloc (.cells #[] 5)) w.heap.size (.slice (some ⟨w.heap.size, 0, none⟩) 0 0) [] := World.ownsRow_made w #[] 0 (Nat.le_refl _) (Nat.zero_le _) rfl
        have HFa : Hid (From (w.alloc (.cells #[] 5)) (some ⟨b, off + 12, none⟩) 112 (sh f 12)) := HFl.out.alloc (.cells #[] 5)
        go_wp2_with (at_builtin; refine wpList_app rfl _ _ rfl w.heap.size _ [] rfl hm (some ⟨b, off + 12, none⟩) 112 _ (sh f 12) rfl HFa.out (fun h => by cases h) (by simp) (by simp) ?_)
        intro v1 w1 ho1 hb0
        have ho1 : Own w1 w.heap.size v1 (lst (sh f 12) 112) := ho1
        have hbA : Below w.heap.size w w1 := ((Below.refl _ w).alloc (Nat.le_refl _) _).trans hb0
        have hs1 := hbA.size
        obtain ⟨aP, cP, rfl, hfP, hcP, hcP1, hcP2, hgP⟩ := ho1.openF
        have HP : Hid (Own w1 w.heap.size (.slice aP 112 cP) (lst (sh f 12) 112)) := ho1
        have HfP : Hid (From w1 aP 112 (sh f 12)) := hfP
        clear ho1 hfP hm HFa hb0 HFl
        go_wp2_with fail
        have HKR : Hid (EncOk (R : Int) 112) := (HN2.out ▸ HK.out : EncOk (R : Int) 112)
        refine (xEncode aP 112 cP (R : Int) (sh f 12) w1 HfP.out (sh_by HB.out 12)).mono ?_
        rintro e w2 ⟨vA, rfl, hoA, hb2⟩
        have he : encE (R : Int) 112 = 0 := if_pos HKR.out
        have hle : encPL (R : Int) 112 (sh f 12) = lst (encF (R : Int) (sh f 12)) 128 := if_pos HKR.out
        rw [hle] at hoA
        rw [he]
        obtain ⟨aA, cA, rfl, hfA, _⟩ := hoA.openF
        have HB2 : Hid (Below w.heap.size w w2) := hbA.trans (hb2.mono hs1)
        have HP2 : Hid (Own w2 w.heap.size (.slice aP 112 cP) (lst (sh f 12) 112)) := HP.out.below hb2 (Nat.le_refl _)
        have hF2 := HFb.out.below HB2.out (Nat.le_refl _)
        have g1 := conv_from cA hfA
        have g2 := conv_from c hF2
        clear hle he HP HfP hoA hb2
        by_cases heq : lst (encF (R : Int) (sh f 12)) 128 = lst f 128
        · have HDD : Hid (DecOk f) := HDK.out.2 ⟨HK.out, by rw [HN2.out]; exact heq⟩
          have e1 : strF (encF (R : Int) (sh f 12)) 128 = strF f 128 := by unfold strF; rw [heq]
          rw [e1] at g1
          clear e1 heq HDK hfA hF2
          generalize strF f 128 = S at *
          go_wp2
          go_ret3
          refine ⟨_, ?_, (by first | exact HP2.out | (rw [if_pos HDD.out]; exact HP2.out)), HB2.out⟩
          first | rfl | (rw [HN2.out]; rfl) | (rw [if_pos HDD.out, if_pos HDD.out, HN2.out]; rfl)
        · have HDD : Hid (¬ DecOk f) := fun h => heq (by have := (HDK.out.1 h).2; rw [HN2.out] at this; exact this)
          have h3 : (strF (encF (R : Int) (sh f 12)) 128).toList ≠ (strF f 128).toList := fun h => heq (strF_inj (HBE.out _) HB.out (by
            have e : (strF (encF (R : Int) (sh f 12)) 128).data.toList = (strF f 128).data.toList := by
              have p := Lib.strOfNums_toList (lst (encF (R : Int) (sh f 12)) 128)
              have q := Lib.strOfNums_toList (lst f 128)
              exact (p.symm.trans (h.trans q))
            exact ByteArray.ext (Array.toList_inj.1 e)))
          clear heq HDK hfA hF2
          generalize strF f 128 = S at *
          generalize strF (encF (R : Int) (sh f 12)) 128 = T at *
          have h4 : (T.toList == S.toList) = false := by simpa using h3
          go_wp2
          go_ret3
          refine ⟨_, ?_, (by first | exact World.ownsRow_nil _ _ _ _ | (rw [if_neg HDD.out]; exact World.ownsRow_nil _ _ _ _)), HB2.out⟩
          first | rfl | (rw [if_neg HDD.out, if_neg HDD.out]; rfl)

theorem xDecode (a0 : Option Addr) (n c : Nat) (f : Nat → Int) (w : World) (hf : From w a0 n f) (hcap : n ≤ c) (hby : ∀ i, 0 ≤ f i ∧ f i ≤ 255) :
    Calls Tryz.prog 27 #[.slice a0 n c] w fun e w' => ∃ v', e = .returned (.tuple #[.int .i64 (dec f n).1, v', .int .i64 (dec f n).2.2]) ∧ Own w' w.heap.size v' (dec f n).2.1 ∧ Below w.heap.size w w' := by
  unfold dec
  by_cases h1 : n = 128
  · subst h1
    rw [if_neg (by simp)]
    obtain ⟨b, off, rfl, hc⟩ := hf.lay.resolve_left (by omega)
    by_cases h2 : Nil f 128
    · rw [if_pos h2]
      exact xDec_nil b off c f w hc h2
    · rw [if_neg h2]
      by_cases h3 : rd (sh f 124) 4 = sumS f
      · rw [if_neg (by simpa using h3)]
        refine (xDec_enc b off c f w hcap hby hc h2 h3).mono fun e w' ⟨v, k1, k2, k3⟩ => ⟨v, ?_, ?_, k3⟩
        · rw [k1]
          by_cases h4 : DecOk f
          · rw [if_pos h4, if_pos h4, if_pos h4]
          · rw [if_neg h4, if_neg h4, if_neg h4]
        · by_cases h4 : DecOk f
          · rw [if_pos h4] at k2 ⊢; exact k2
          · rw [if_neg h4] at k2 ⊢; exact k2
      · rw [if_pos h3]
        exact (xDec_sum b off c f w hcap hby hc h2 h3).mono fun e w' ⟨k1, k2⟩ => ⟨_, k1, World.ownsRow_nil _ _ _ _, by rw [k2]; exact Below.refl _ w⟩
  · rw [if_pos h1]
    exact (xDec_len a0 n c w h1).mono fun e w' ⟨k1, k2⟩ => ⟨_, k1, World.ownsRow_nil _ _ _ _, by rw [k2]; exact Below.refl _ w⟩
end Go.Proofs.YtnaobkpncfbnaaaGreatDoor
