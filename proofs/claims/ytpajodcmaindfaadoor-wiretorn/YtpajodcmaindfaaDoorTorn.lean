/-
  The law WireTorn: the walk. Condition: the load has at most 2^47 - 4096 bytes; the table is laid.
-/
import Derived.Test.YtpajodcmaindfaaDoorTornMath
namespace Go.Proofs.YtpajodcmaindfaaDoor
open Go.RowKit
set_option linter.unusedVariables false

theorem mod_ex (z : Int) (m : Nat) (h0 : 0 < m) (h1 : m ≤ 140737488355328) : ∃ t : Nat, t < m ∧ wrap64 ((IntKind.u64.wrap z).tmod (m : Int)) = (t : Int) := by
  rw [IntKind.wrap_u64, Int.tmod_eq_emod_of_nonneg (Int.emod_nonneg _ (by decide))]
  have a := Int.emod_nonneg (z % 18446744073709551616) (show (m : Int) ≠ 0 by omega)
  have b := Int.emod_lt_of_pos (z % 18446744073709551616) (show (0 : Int) < (m : Int) by omega)
  obtain ⟨t, ht⟩ := Int.eq_ofNat_of_zero_le a
  rw [ht] at b ⊢
  exact ⟨t, by omega, Wm.w64 _ (by omega)⟩
theorem frame_by (f : Nat → Int) (n : Nat) (hn : n ≤ 65536) (hby : ∀ i, 0 ≤ f i ∧ f i ≤ 255) : ∀ x ∈ frameB f n, 0 ≤ x ∧ x ≤ 255 := by
  intro x hx
  unfold frameB at hx
  rcases List.mem_append.1 hx with hx | hx
  · rcases List.mem_append.1 hx with hx | hx
    · exact putB_by 2 n (by have : (128 : Nat) ^ (2 + 1) = 2097152 := by decide
                            omega) x hx
    · obtain ⟨i, _, rfl⟩ := List.mem_map.1 hx
      exact hby i
  · have key : ∀ k, 0 ≤ fourAt (Crc.sum (lstN f n)) k ∧ fourAt (Crc.sum (lstN f n)) k ≤ 255 := fun k => by unfold fourAt; omega
    simp only [fourB, List.mem_cons, List.not_mem_nil, or_false] at hx
    rcases hx with rfl | rfl | rfl | rfl <;> exact key _
theorem xor_turn (x d : Int) (hx : 0 ≤ x ∧ x ≤ 255) (hd : 1 ≤ d ∧ d ≤ 255) : bits .xor .u8 x d ≠ x ∧ 0 ≤ bits .xor .u8 x d ∧ bits .xor .u8 x d ≤ 255 := by
  obtain ⟨a, rfl⟩ := Int.eq_ofNat_of_zero_le hx.1
  obtain ⟨b, rfl⟩ := Int.eq_ofNat_of_zero_le (show 0 ≤ d by omega)
  rw [u8_xor_nat a b (by omega) (by omega)]
  have hlt : a ^^^ b < 2 ^ 8 := Nat.xor_lt_two_pow (by omega) (by omega)
  refine ⟨fun e => ?_, by omega, by omega⟩
  have e' : a ^^^ b = a ^^^ 0 := by rw [Nat.xor_zero]; omega
  have := Crc.xor_left_inj e'
  omega
theorem by_ex (z : Int) : 1 ≤ IntKind.u64.wrap (1 + (IntKind.u64.wrap z).tmod 255) % 256 ∧ IntKind.u64.wrap (1 + (IntKind.u64.wrap z).tmod 255) % 256 ≤ 255 := by
  rw [IntKind.wrap_u64, IntKind.wrap_u64, Int.tmod_eq_emod_of_nonneg (Int.emod_nonneg _ (by decide))]
  omega
set_option maxHeartbeats 400000 in
theorem torn_long (a0 : Option Addr) (n c : Nat) (cut k by_ : Int) (w : World) (h : 65536 < n) :
    Calls Tryd.prog 4 #[.slice a0 n c, .int .i64 cut, .int .i64 k, .int .i64 by_] w fun e w' => e = .returned (.bool true) ∧ w' = w := by
  have h' : (65536 : Int) < (n : Int) := by omega
  go_enter Tryd.func4, Tryd.ntmps4
  go_wp2_with fail
  refine (wFrame_long a0 n c w h).mono ?_
  rintro e w' ⟨rfl, rfl⟩
  go_wp2
  go_ret
  exact ⟨rfl, rfl⟩

set_option maxRecDepth 100000 in
set_option maxHeartbeats 2000000 in
theorem torn_ok (a0 : Option Addr) (n c : Nat) (f : Nat → Int) (cut k by_ : Int) (w : World) (h : n ≤ 65536) (hby : ∀ i, 0 ≤ f i ∧ f i ≤ 255) (hf : From w a0 n f) (hc0 : a0 = none → c = 0) (ht : Tab w) :
    Calls Tryd.prog 4 #[.slice a0 n c, .int .i64 cut, .int .i64 k, .int .i64 by_] w fun e w' => e = .returned (.bool true) ∧ Below w.heap.size w w' := by
  obtain ⟨XS, hXS⟩ : ∃ XS, frameB f n = XS := ⟨_, rfl⟩
  have hlen := frameB_len f n
  have hpl := putB_le n (by omega)
  have hpp := putB_pos n
  rw [hXS] at hlen
  have HX : Hid (frameB f n = XS) := hXS
  clear hXS
  go_enter Tryd.func4, Tryd.ntmps4
  go_wp2_with fail
  refine (wFrame_ok a0 n c f w h hby hf hc0 ht).mono ?_
  rintro e w1 ⟨vX, rfl, hoX, hb1⟩
  rw [HX.out] at hoX
  obtain ⟨aX, cX, rfl, hfX, hcX, hcX1, hcX2, hgX⟩ := hoX.open
  have hs1 := hb1.size
  obtain ⟨xl, hxl⟩ : ∃ xl, XS.length = xl := ⟨_, rfl⟩
  rw [hxl] at hlen hfX hcX1 ⊢
  have HL : Hid (XS.length = xl) := hxl
  clear hxl
  have hge : ¬ (xl : Int) < (n : Int) + 4 := by omega
  have hx5 : 5 ≤ xl := by omega
  have hxb : xl ≤ 70000 := by omega
  have HLen : Hid (xl = (putB n).length + n + 4) := hlen
  clear hlen
  have hxs : ∀ i, 0 ≤ fn XS i ∧ fn XS i ≤ 255 := fun i => fn_by (by rw [← HX.out]; exact frame_by f n h hby) i
  obtain ⟨ct, hct1, hct2⟩ := mod_ex cut xl (by omega) (by omega)
  obtain ⟨kt, hkt1, hkt2⟩ := mod_ex k (n + 4) (by omega) (by omega)
  have hkt2 : wrap64 ((IntKind.u64.wrap k).tmod ((n : Int) + 4)) = (kt : Int) := hkt2
  have ht1 := ht.below hb1 (Nat.le_refl _)
  have ht00 := ht.lt
  have HCut : Hid ((unf (fn XS) ct).1 = 10) := (by rw [← HX.out]; exact unf_cut f n ct h (by have := HLen.out; omega) : (unf (fn XS) ct).1 = 10)
  have q1 : (ct : Int) ≤ (cX : Int) := by omega
  have HXS : Hid (∀ i, 0 ≤ fn XS i ∧ fn XS i ≤ 255) := hxs
  have hby0 : Hid (∀ i, 0 ≤ f i ∧ f i ≤ 255) := hby
  have HT1 : Hid (Tab w1) := ht1
  clear hxs ht1 ht hf hby
  go_wp2_with fail
  refine (wUnframe aX ct cX (fn XS) w1 (by omega) HXS.out (hfX.take (by omega)) (by omega) hcX2 HT1.out).mono ?_
  rintro e w2 ⟨v1, v2, rfl, _, _, hb2⟩
  rw [HCut.out]
  have hs2 := hb2.size
  have hfX2 := hfX.below hb2 (Nat.le_refl _)
  have HT2 : Hid (Tab w2) := HT1.out.below hb2 (Nat.le_refl _)
  clear HT1 hct2 hct1
  go_wp2_with fail
  refine (clone aX xl cX (fn XS) w2 (by omega) hfX2).mono ?_
  rintro e w3 ⟨vY, rfl, hoY, hb3⟩
  have hs3 := hb3.size
  have HT3 : Hid (Tab w3) := HT2.out.below hb3 (Nat.le_refl _)
  obtain ⟨aY, cY, rfl, hfY, hcY, hcY1, hcY2, hgY⟩ := hoY.openF
  have hYg : ∃ g, aY = some ⟨g, 0, none⟩ ∧ w2.heap.size ≤ g ∧ g < w3.heap.size := by
    rcases hfY with ⟨_, h⟩ | ⟨x, h, _⟩
    · omega
    · obtain ⟨q, rfl, h1, h2⟩ := hgY x h
      exact ⟨q, h, h1, h2⟩
  obtain ⟨gY, rfl, hg1, hg2⟩ := hYg
  obtain ⟨tt, htt⟩ : ∃ tt, xl - 1 - kt = tt := ⟨_, rfl⟩
  have htt1 : tt < xl := by omega
  have htt2 : Hid ((putB n).length ≤ tt) := (by have := HLen.out; omega : (putB n).length ≤ tt)
  have hidx : (xl : Int) - 1 - (kt : Int) = (tt : Int) := by omega
  have hcell : w3.cell? ⟨gY, tt, none⟩ = some (.int .u8 (fn XS tt)) := by
    rcases hfY with ⟨h, _⟩ | ⟨x, h, h2⟩
    · cases h
    · cases h
      have := h2 tt htt1
      rw [Addr.add_lit, Nat.zero_add] at this
      exact this
  have hfz : w3.frozen? ⟨gY, tt, none⟩ = false := by
    have h0 := hoY
    unfold Own at h0
    rw [lst_length] at h0
    exact h0.frozenAt tt
  have htl : (tt : Int) < (xl : Int) := by omega
  clear htt HT2 hfX hfX2
  have hd := by_ex by_
  have hx2 := HXS.out tt
  have hturn := xor_turn (fn XS tt) _ hx2 hd
  have H4 : Hid (∀ v : Int, v ≠ fn XS tt → 0 ≤ v → v ≤ 255 → From (w3.setCell ⟨gY, tt, none⟩ (.int .u8 v)) (some ⟨gY, 0, none⟩) xl (fun i => if i = tt then v else fn XS i) ∧ Tab (w3.setCell ⟨gY, tt, none⟩ (.int .u8 v)) ∧ (unf (fun i => if i = tt then v else fn XS i) xl).1 = 13 ∧ Below w.heap.size w (w3.setCell ⟨gY, tt, none⟩ (.int .u8 v)) ∧ (∀ i, 0 ≤ (fun i => if i = tt then v else fn XS i) i ∧ (fun i => if i = tt then v else fn XS i) i ≤ 255)) := by
    intro v hv1 hv2 hv3
    have hb : ∀ i, 0 ≤ (fun i => if i = tt then v else fn XS i) i ∧ (fun i => if i = tt then v else fn XS i) i ≤ 255 := fun i => by
      show 0 ≤ (if i = tt then v else fn XS i) ∧ (if i = tt then v else fn XS i) ≤ 255
      split
      · exact ⟨hv2, hv3⟩
      · exact HXS.out i
    refine ⟨.inr ⟨_, rfl, fun i hi => ?_⟩, ?_, ?_, ?_, hb⟩
    · rw [Addr.add_lit, Nat.zero_add]
      show _ = some (Value.int .u8 (if i = tt then v else fn XS i))
      by_cases e : i = tt
      · subst e
        rw [if_pos rfl]
        exact World.cell?_setCell_same _ _ _ hcell
      · rw [if_neg e, World.cell?_setCell_other _ _ _ _ (fun e' => e (congrArg Addr.off e').symm)]
        rcases hfY with ⟨h, _⟩ | ⟨x, h, h2⟩
        · cases h
        · cases h
          have := h2 i hi
          rw [Addr.add_lit, Nat.zero_add] at this
          exact this
    · intro i hi
      rw [World.cell?_setCell_other _ _ _ _ (fun e' => by have : gY = 0 := congrArg Addr.block e'; omega)]
      exact HT3.out i hi
    · rw [HLen.out]
      refine unf_turned f n tt _ h hby0.out hb htt2.out (by have := HLen.out; omega) (fun i hi hne => ?_) ?_
      · show (if i = tt then v else fn XS i) = _
        rw [if_neg hne, HX.out]
      · show (if tt = tt then v else fn XS tt) ≠ _
        rw [if_pos rfl, HX.out]
        exact hv1
    · exact (hb1.trans ((hb2.mono hs1).trans (hb3.mono (by omega)))).setCell (p := ⟨gY, tt, none⟩) (by show w.heap.size ≤ gY; omega) _
  clear hfY hoY
  go_wp2_with fail
  generalize bits BinOp.xor IntKind.u8 (fn XS tt) (IntKind.u64.wrap (1 + (IntKind.u64.wrap by_).tmod 255) % 256) = v at *
  obtain ⟨t1, t2, t3⟩ := hturn
  obtain ⟨u1, u2, u3, u4, u5⟩ := H4.out v t1 t2 t3
  refine (wUnframe (some ⟨gY, 0, none⟩) xl cY _ _ (by omega) u5 u1 (by omega) hcY2 u2).mono ?_
  rintro e w4 ⟨v3, v4, rfl, _, _, hb4⟩
  rw [u3]
  have hfin : Below w.heap.size w w4 := u4.trans (hb4.mono u4.size)
  clear H4 u1 u2 u3 u5 hb4
  go_wp2
  go_ret
  exact ⟨rfl, hfin⟩

theorem torn_walk (a0 : Option Addr) (n c : Nat) (f : Nat → Int) (cut k by_ : Int) (w : World) (hby : ∀ i, 0 ≤ f i ∧ f i ≤ 255) (hf : From w a0 n f) (hc0 : a0 = none → c = 0) (ht : Tab w) :
    Calls Tryd.prog 4 #[.slice a0 n c, .int .i64 cut, .int .i64 k, .int .i64 by_] w fun e w' => e = .returned (.bool true) ∧ Below w.heap.size w w' := by
  by_cases h : n ≤ 65536
  · exact torn_ok a0 n c f cut k by_ w h hby hf hc0 ht
  · exact (torn_long a0 n c cut k by_ w (by omega)).mono fun e w' ⟨h1, h2⟩ => ⟨h1, by rw [h2]; exact Below.refl _ _⟩
end Go.Proofs.YtpajodcmaindfaaDoor
