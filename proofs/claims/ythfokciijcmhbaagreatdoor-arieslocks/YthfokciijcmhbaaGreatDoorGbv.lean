/-
  AriesLocks: the law's walk.
-/
import Derived.Test.YthfokciijcmhbaaGreatDoorGbu
import Derived.Deep.DeepCutAuto
import Derived.Deep.CutBlock
namespace Go.Proofs.YthfokciijcmhbaaGreatDoor
open Go.RowKit
set_option linter.unusedVariables false

theorem umod (z : Int) (m : Nat) (hm : 0 < m) (hm2 : m ≤ 1000) : ∃ t : Nat, t < m ∧ (IntKind.u64.wrap z).tmod (m : Int) = (t : Int) ∧ wrap64 (t : Int) = (t : Int) := by
  have h0 : 0 ≤ IntKind.u64.wrap z := by
    simp only [IntKind.wrap]
    first | omega | exact Int.emod_nonneg _ (by decide)
  obtain ⟨n, hn⟩ := Int.eq_ofNat_of_zero_le h0
  refine ⟨n % m, Nat.mod_lt _ hm, ?_, ?_⟩
  · rw [hn]; exact (Int.ofNat_tmod n m).symm
  · have := Nat.mod_lt n hm
    unfold wrap64; omega
variable {w w0 w' w1 w2 : World}
/-- Ahead of the calls: the slice that is written. -/
def Rdy (w0 : World) (Q B : Nat) (gb ob nb : Nat) (w : World) : Prop := ∃ fb K, Sg w0 ⟨Q, B, gb, ob, nb, fb⟩ 0 0 0 0 0 (fun _ _ => 0) T0 K w ∧ ∀ j, 0 ≤ fb j ∧ fb j ≤ 255
theorem Lw.rdy {Q B : Nat} (h : Lw w0 Q B w) (a : Option Addr) (n c : Nat) (f : Nat → Int) (nb : Nat) (hn : 0 < nb) (hnb : nb ≤ n) (hf : From w0 a n f) (hby : ∀ j, 0 ≤ f j ∧ f j ≤ 255) : ∃ gb ob, a = some ⟨gb, ob, none⟩ ∧ Rdy w0 Q B gb ob nb w := by
  rcases hf with ⟨_, e⟩ | ⟨x, rfl, hx⟩
  · omega
  · obtain ⟨gb, ob, spot⟩ := x
    have c0 := hx 0 (by omega)
    have hs : spot = none := by simpa [Addr.add] using World.cell?_spot c0
    subst hs
    have hlt : gb < w0.heap.size := by simpa [Addr.add] using World.block_lt_of_cell? w0 _ c0
    obtain ⟨Z, S, D, L, h1, h2, h3, h4⟩ := h
    refine ⟨gb, ob, rfl, f, _, ⟨⟨Z, S, D, L, _, h1⟩, .inr rfl, .inl hlt, h2, .inr ⟨_, rfl, fun j hj => ?_⟩, fun b hb => .inl hb, h3⟩, hby⟩
    have hj := hx j (Nat.lt_of_lt_of_le hj hnb)
    rw [Addr.add_lit] at hj ⊢
    exact (h3.cell (p := ⟨gb, ob + j, none⟩) hlt).trans hj
theorem Lw.rdy1 {Q B : Nat} (h : Lw w0 Q B w) (o : Obj) (ho : o = .cells #[.int .u8 1] 5) : Rdy w0 Q B w.heap.size 0 1 (w.alloc o) := by
  subst ho
  obtain ⟨Z, S, D, L, h1, h2, h3, h4⟩ := h
  have hb : Below w.heap.size w (w.alloc (.cells #[.int .u8 1] 5)) := (Below.refl _ w).alloc (Nat.le_refl _) _
  have he : (w.alloc (.cells #[.int .u8 1] 5)).heap[w.heap.size]? = some (.cells #[.int .u8 1] 5 (0, 0)) := heap_alloc_at _ _ _ rfl
  refine ⟨fun _ => 1, _, ⟨⟨Z, S, D, L, _, h1.more hb w.heap.size (Nat.le_refl _) _ _ he ⟨by decide, by decide, by decide, by decide, by decide, by decide, by decide⟩⟩, .inl (.inr rfl), .inr rfl, (hb.cell (p := ⟨B, 1, none⟩) (World.block_lt_of_cell? w _ h2)).trans h2, .inr ⟨_, rfl, fun j hj => ?_⟩, fun b hb' => .inl (.inl hb'), h3.trans (hb.mono h3.size)⟩, fun _ => ⟨by show (0 : Int) ≤ 1; decide, by show (1 : Int) ≤ 255; decide⟩⟩
  obtain rfl : j = 0 := Nat.lt_one_iff.1 hj
  rw [Addr.add_lit, cells_at he 0]
  rfl
set_option maxRecDepth 100000 in
set_option maxHeartbeats 2000000 in
theorem locks_walk (pg of : Int) (a : Option Addr) (n c : Nat) (f : Nat → Int) (st : Bool) (w : World) (hf : From w a n f) (hby : ∀ j, 0 ≤ f j ∧ f j ≤ 255) (hnc : n ≤ c) (hc : c ≤ 9223372036854775807) (hz : a = none → c = 0) (hT : Tab w) : Calls Tryz.prog 6 #[.int .i64 pg, .int .i64 of, .slice a n c, .bool st] w fun r w' => r = .returned (.bool true) ∧ Below w.heap.size w w' := by
  have HB := beginS hT
  clear hT
  go_enter Tryz.func6, Tryz.ntmps6
  go_wp2_with fail
  refine HB.mono ?_
  rintro r w1 ⟨B, rfl, HL⟩
  obtain ⟨Q, HL⟩ := HL.out
  have HL : Hid (Lw w Q B w1) := HL
  clear HB
  obtain ⟨p, hp, e6, w6⟩ := umod pg 6 (by decide) (by decide)
  have HE6 : Hid ((IntKind.u64.wrap pg).tmod 6 = (p : Int) ∧ wrap64 (p : Int) = (p : Int)) := ⟨e6, w6⟩
  have HA : Hid (∀ nb, 0 < nb → nb ≤ n → ∃ gb ob, a = some ⟨gb, ob, none⟩ ∧ Rdy w Q B gb ob nb w1) := fun nb h1 h2 => HL.out.rdy a n c f nb h1 h2 hf hby
  have HA1 : Hid (∀ o, o = .cells #[.int .u8 1] 5 → Rdy w Q B w1.heap.size 0 1 (w1.alloc o)) := fun o ho => HL.out.rdy1 o ho
  have hz : n = 0 → a = none ∨ ∃ x, a = some x := fun _ => by cases a; exact .inl rfl; exact .inr ⟨_, rfl⟩
  clear e6 w6 hf hby HL
  go_upto_region 5 with fail
  rw [HE6.out.1, HE6.out.2]
  clear HE6
  go_cut [2] (fun s2 wc => wc = w1 ∧ ∃ nb, nb ≤ 112 ∧ nb ≤ n ∧ (nb = 0 → n = 0) ∧ s2 = .slice a nb c)
  case first =>
    clear HA HA1
    by_cases h1 : 112 < n
    · have d1 : ((112 : Int) < (n : Int)) = True := eq_true (by omega)
      go_wp2
      go_meet
      case rel => exact ⟨rfl, 112, Nat.le_refl _, Nat.le_of_lt h1, (fun h => absurd h (by decide)), rfl⟩
    · have d1 : ((112 : Int) < (n : Int)) = False := eq_false (by omega)
      have h2 : Hid (n ≤ 112) := Nat.le_of_not_lt h1
      clear h1
      go_wp2
      go_meet
      case rel => exact ⟨rfl, n, h2.out, Nat.le_refl _, id, rfl⟩
  case rest =>
    obtain ⟨hw, nb, hb1, hb2, hb3, rfl⟩ := hcut
    obtain rfl : w1 = wc := hw.symm
    clear hw
    go_upto_if 32 with fail
    go_cut [2] (fun s2 wc => ∃ gb ob nb cb, s2 = .slice (some ⟨gb, ob, none⟩) nb cb ∧ 0 < nb ∧ nb ≤ 112 ∧ Hid (Rdy w Q B gb ob nb wc))
    case first =>
      by_cases h0 : nb = 0
      · have hn := hb3 h0
        have HR := HA1.out _ rfl
        have HR : Hid (Rdy w Q B w1.heap.size 0 1 (w1.alloc (.cells #[.int .u8 1] 5))) := HR
        clear HA HA1 hb3
        subst hn
        subst h0
        go_wp2
        go_meet
        case rel => exact ⟨_, 0, 1, 1, rfl, by decide, by decide, HR⟩
      · obtain ⟨gb, ob, rfl, HR⟩ := HA.out nb (by omega) hb2
        have HR : Hid (Rdy w Q B gb ob nb w1) := HR
        have d0 : ((nb : Int) == 0) = false := by simp; omega
        have hpos : 0 < nb := by omega
        clear HA HA1 hb3 h0
        go_wp2
        go_meet
        case rel => exact ⟨gb, ob, nb, c, rfl, hpos, hb1, HR⟩
    case rest =>
      obtain ⟨gb, ob, nb, cb, rfl, hpos, hb9, HR⟩ := hcut
      clear HA HA1 hb1 hb2 hb3
      obtain ⟨o, hoff, e1, w1'⟩ := umod of (113 - nb) (by omega) (by omega)
      have hc9 : (((113 - nb : Nat)) : Int) = 113 - (nb : Int) := by omega
      rw [hc9] at e1
      obtain ⟨MB, hMB⟩ : ∃ MB, madeCells #[.int .u8 0] nb = MB := ⟨_, rfl⟩
      have hmb : ∀ w : World, (Instr.makeSlice 47 (.int .i64 (nb : Int)) (.int .i64 (nb : Int))).run Tryz.prog w = .ok (.slice (some ⟨w.heap.size, 0, none⟩) nb nb) (w.alloc (.cells MB 5)) := fun w => by
        rw [← hMB]
        exact run_make_row' (P := Tryz.prog) 47 5 (.int .u8 0) 1 Tryz.underlying47 info5 rfl .i64 .i64 nb (by omega) (by omega) w
      have HMB : Hid (∀ v : World, From (v.alloc (.cells MB 5)) (some ⟨v.heap.size, 0, none⟩) nb (fun _ => 0)) := fun v => by
        rw [← hMB]
        obtain ⟨x1, x2, e9, h8, _⟩ := (made_own v nb (by omega)).openF
        injection e9 with e9
        subst e9
        exact h8
      clear hMB
      have HE1 : Hid ((IntKind.u64.wrap of).tmod (113 - (nb : Int)) = (o : Int) ∧ wrap64 (o : Int) = (o : Int)) := ⟨e1, w1'⟩
      obtain ⟨fb, K, HS, hby⟩ := HR.out
      have HS : Hid (Sg w ⟨Q, B, gb, ob, nb, fb⟩ 0 0 0 0 0 (fun _ _ => 0) T0 K wc) := HS
      have HM : Hid (Okm ⟨Q, B, gb, ob, nb, fb⟩ p o) := ⟨hp, hpos, by show o + nb ≤ 112; omega, hby⟩
      have ho112 : o + nb ≤ 112 := by omega
      have HG1 : Hid (Calls Tryz.prog 14 #[.pointer (some ⟨Q, 0, none⟩)] wc fun r w' => r = .returned (.tuple #[.int .i64 1, .int .i64 0]) ∧ w'.cell? ⟨B, 1, none⟩ = some (.pointer (some ⟨Q, 0, none⟩)) ∧ Hid (S1 w ⟨Q, B, gb, ob, nb, fb⟩ w')) := s_begin1 HS.out
      have cB : wc.cell? ⟨B, 1, none⟩ = some (.pointer (some ⟨Q, 0, none⟩)) := HS.out.cell
      clear e1 w1' hc9 hoff HR hby HS
      go_upto_region 9 with fail
      rw [HE1.out.1, HE1.out.2]
      clear HE1
      go_wp2_with fail
      refine HG1.out.mono ?_
      rintro r v1 ⟨rfl, cB1, HS1⟩
      have HG2 := s_begin2 HS1.out
      have HG2 : Hid (Calls Tryz.prog 14 #[.pointer (some ⟨Q, 0, none⟩)] v1 fun r w' => r = .returned (.tuple #[.int .i64 2, .int .i64 0]) ∧ w'.cell? ⟨B, 1, none⟩ = some (.pointer (some ⟨Q, 0, none⟩)) ∧ Hid (S2 w ⟨Q, B, gb, ob, nb, fb⟩ w')) := HG2
      clear HG1 HS1 cB
      go_wp2_with fail
      refine HG2.out.mono ?_
      rintro r v2 ⟨rfl, cB2, HS2⟩
      clear HG2 cB1
      by_cases hc0 : ∀ j, j < nb → fb j = 0
      · have HG3 : Hid (Calls Tryz.prog 15 #[.pointer (some ⟨Q, 0, none⟩), .int .i64 1, .int .i64 (p : Int), .int .i64 (o : Int), .slice (some ⟨gb, ob, none⟩) nb cb] v2 fun r w' => r = .returned (.int .i64 0) ∧ w'.cell? ⟨B, 1, none⟩ = some (.pointer (some ⟨Q, 0, none⟩)) ∧ Hid (Sw w ⟨Q, B, gb, ob, nb, fb⟩ p o false 2 none w')) := s_write_u HS2.out HM.out hc0 cb
        have HN0 : Hid (lst fb nb = lst (fun _ => 0) nb) := lst_ext hc0
        have HW3 : Hid (∀ v k g, Sw w ⟨Q, B, gb, ob, nb, fb⟩ p o false k (some g) v → Calls Tryz.prog 19 #[.slice (some ⟨gb, ob, none⟩) nb cb, .slice (some ⟨v.heap.size, 0, none⟩) nb nb] (v.alloc (.cells MB 5)) fun e w' => e = .returned (.bool true) ∧ w' = v.alloc (.cells MB 5)) := fun v k g h => equal_yes _ _ _ _ _ _ fb (fun _ => 0) _ (h.below ((Below.refl _ v).alloc (Nat.le_refl _) _)).given (HMB.out v) HN0
        have HX3 : Hid (∀ v k g cx, Sw w ⟨Q, B, gb, ob, nb, fb⟩ p o false k (some g) v → ∀ wq, Below v.heap.size v wq → Calls Tryz.prog 19 #[.slice (some ⟨g, o, none⟩) nb cx, .slice (some ⟨gb, ob, none⟩) nb cb] wq fun e w' => e = .returned (.bool true) ∧ w' = wq) := fun v k g cx h wq hb => equal_yes _ _ _ _ _ _ fb fb _ (h.below hb).seen (h.below hb).given rfl
        clear hc0 HS2
        go_wp2_with fail
        refine HG3.out.mono ?_
        rintro r v3 ⟨rfl, cB3, HS3⟩
        have HR1 := s_read1 HS3.out HM.out (by decide)
        clear HG3 HS3 cB2
        go_wp2_with fail
        refine HR1.mono ?_
        rintro r v4 ⟨a4, n4, c4, rfl, cB4, HX4⟩
        obtain ⟨gx, e4, b4, b4', HS4⟩ := HX4.out
        injection e4 with e4 e4'
        subst e4 e4'
        have HS4 : Hid (Sw w ⟨Q, B, gb, ob, nb, fb⟩ p o false 3 (some gx) v4) := HS4
        have HR2 := s_read2u HS4.out HM.out (by decide)
        clear HR1 HX4 cB3
        go_wp2_with fail
        refine HR2.mono ?_
        rintro r v5 ⟨a5, n5, c5, rfl, cB5, HS5⟩
        have HQ5 := HW3.out v5 _ gx HS5.out
        have HS6 : Hid (Sw w ⟨Q, B, gb, ob, nb, fb⟩ p o false 4 (some gx) (v5.alloc (.cells MB 5))) := HS5.out.below ((Below.refl _ v5).alloc (Nat.le_refl _) _)
        clear HR2 HS4 cB4 HS5 HW3
        go_wp2_with fail
        refine HQ5.mono ?_
        rintro r v6 ⟨rfl, hv6⟩
        rw [← hv6] at HS6
        have cB6 := HS6.out.cell
        have HX6 := HX3.out v6 _ gx (c4 - o) HS6.out
        clear HQ5 cB5 HX3 hv6
        go_wp2_with fail
        refine (HX6 v6 (Below.refl _ _)).mono ?_
        rintro r v7 ⟨rfl, hv7⟩
        obtain rfl : v6 = v7 := hv7.symm
        have HS8 : Hid (Sw w ⟨Q, B, gb, ob, nb, fb⟩ p o false 4 (some gx) v6) := HS6
        clear hv7 HX6 HS6
        cases st
        · have HR8 := s_abort HS8.out HM.out (by decide)
          clear HS8
          go_wp2_with fail
          refine HR8.mono ?_
          rintro r v9 ⟨rfl, cB9, HS9⟩
          have HS9 : Hid (Sf w ⟨Q, B, gb, ob, nb, fb⟩ p o false 2000 none v9) := HS9
          have HR9 := s_read3 HS9.out HM.out (by decide)
          clear HR8 cB6
          go_wp2_with fail
          refine HR9.mono ?_
          rintro r v10 ⟨a10, n10, c10, rfl, cB10, HX10⟩
          obtain ⟨gy, e10, b10, b10', HS10⟩ := HX10.out
          injection e10 with e10 e10'
          subst e10 e10'
          have HS10 : Hid (Sf w ⟨Q, B, gb, ob, nb, fb⟩ p o false 2001 (some gy) v10) := HS10
          have HS11 : Hid (Sf w ⟨Q, B, gb, ob, nb, fb⟩ p o false 2001 (some gy) (v10.alloc (.cells MB 5))) := HS10.out.below ((Below.refl _ v10).alloc (Nat.le_refl _) _)
          have HQ11 : Hid (Calls Tryz.prog 19 #[.slice (some ⟨gy, o, none⟩) nb (c10 - o), .slice (some ⟨v10.heap.size, 0, none⟩) nb nb] (v10.alloc (.cells MB 5)) fun e w' => e = .returned (.bool true) ∧ w' = v10.alloc (.cells MB 5)) := equal_yes _ _ _ _ _ _ _ (fun _ => 0) _ HS11.out.seen (HMB.out v10) (lst_ext (fun j hj => rfl))
          have cB11 := HS11.out.cell
          clear HR9 HX10 HS9 HS10 cB9 cB10
          go_wp2_with fail
          refine HQ11.out.mono ?_
          rintro r v11 ⟨rfl, hv11⟩
          rw [← hv11] at HS11 cB11
          have HR11 := s_commit2 HS11.out
          clear HQ11 hv11 HS11
          go_wp2_with fail
          refine HR11.mono ?_
          rintro r v12 ⟨rfl, cB12, HS12⟩
          have HR12 := s_commit3 HS12.out
          clear HR11 HS12 cB11
          go_wp2_with fail
          refine HR12.mono ?_
          rintro r v13 ⟨rfl, cB13, HS13⟩
          have HB13 : Hid (Below w.heap.size w v13) := HS13.out.bel
          clear HR12 HS13 cB12 cB13
          go_wp2
          go_ret
          exact ⟨rfl, HB13.out⟩
        · have HR8 := s_commit HS8.out HM.out (by decide)
          clear HS8
          go_wp2_with fail
          refine HR8.mono ?_
          rintro r v9 ⟨rfl, cB9, HS9⟩
          have HS9 : Hid (Sf w ⟨Q, B, gb, ob, nb, fb⟩ p o true 2000 none v9) := HS9
          have HR9 := s_read3 HS9.out HM.out (by decide)
          clear HR8 cB6
          go_wp2_with fail
          refine HR9.mono ?_
          rintro r v10 ⟨a10, n10, c10, rfl, cB10, HX10⟩
          obtain ⟨gy, e10, b10, b10', HS10⟩ := HX10.out
          injection e10 with e10 e10'
          subst e10 e10'
          have HS10 : Hid (Sf w ⟨Q, B, gb, ob, nb, fb⟩ p o true 2001 (some gy) v10) := HS10
          have HS11 : Hid (Sf w ⟨Q, B, gb, ob, nb, fb⟩ p o true 2001 (some gy) (v10.alloc (.cells MB 5))) := HS10.out.below ((Below.refl _ v10).alloc (Nat.le_refl _) _)
          have HQ11 : Hid (Calls Tryz.prog 19 #[.slice (some ⟨gy, o, none⟩) nb (c10 - o), .slice (some ⟨gb, ob, none⟩) nb cb] (v10.alloc (.cells MB 5)) fun e w' => e = .returned (.bool true) ∧ w' = v10.alloc (.cells MB 5)) := equal_yes _ _ _ _ _ _ _ fb _ HS11.out.seen HS11.out.given (lst_ext (fun j hj => if_pos rfl))
          have cB11 := HS11.out.cell
          clear HR9 HX10 HS9 HS10 cB9 cB10
          go_wp2_with fail
          refine HQ11.out.mono ?_
          rintro r v11 ⟨rfl, hv11⟩
          rw [← hv11] at HS11 cB11
          have HR11 := s_commit2 HS11.out
          clear HQ11 hv11 HS11
          go_wp2_with fail
          refine HR11.mono ?_
          rintro r v12 ⟨rfl, cB12, HS12⟩
          have HR12 := s_commit3 HS12.out
          clear HR11 HS12 cB11
          go_wp2_with fail
          refine HR12.mono ?_
          rintro r v13 ⟨rfl, cB13, HS13⟩
          have HB13 : Hid (Below w.heap.size w v13) := HS13.out.bel
          clear HR12 HS13 cB12 cB13
          go_wp2
          go_ret
          exact ⟨rfl, HB13.out⟩
      · have HG3 : Hid (Calls Tryz.prog 15 #[.pointer (some ⟨Q, 0, none⟩), .int .i64 1, .int .i64 (p : Int), .int .i64 (o : Int), .slice (some ⟨gb, ob, none⟩) nb cb] v2 fun r w' => r = .returned (.int .i64 0) ∧ w'.cell? ⟨B, 1, none⟩ = some (.pointer (some ⟨Q, 0, none⟩)) ∧ Hid (Sw w ⟨Q, B, gb, ob, nb, fb⟩ p o true 2 none w')) := s_write_c HS2.out HM.out hc0 cb
        have HN0 : Hid (lst fb nb ≠ lst (fun _ => 0) nb) := fun e => hc0 (fun j hj => by have := congrArg (fun l => fn l j) e; simpa only [fn_lst _ _ _ hj] using this)
        have HW3 : Hid (∀ v k g, Sw w ⟨Q, B, gb, ob, nb, fb⟩ p o true k (some g) v → Calls Tryz.prog 19 #[.slice (some ⟨gb, ob, none⟩) nb cb, .slice (some ⟨v.heap.size, 0, none⟩) nb nb] (v.alloc (.cells MB 5)) fun e w' => e = .returned (.bool false) ∧ w' = v.alloc (.cells MB 5)) := fun v k g h => equal_no _ _ _ _ _ _ fb (fun _ => 0) _ (h.below ((Below.refl _ v).alloc (Nat.le_refl _) _)).given (HMB.out v) HM.out.2.2.2 (fun _ => ⟨by decide, by decide⟩) HN0.out
        have HX3 : Hid (∀ v k g cx, Sw w ⟨Q, B, gb, ob, nb, fb⟩ p o true k (some g) v → ∀ wq, Below v.heap.size v wq → Calls Tryz.prog 19 #[.slice (some ⟨g, o, none⟩) nb cx, .slice (some ⟨gb, ob, none⟩) nb cb] wq fun e w' => e = .returned (.bool true) ∧ w' = wq) := fun v k g cx h wq hb => equal_yes _ _ _ _ _ _ fb fb _ (h.below hb).seen (h.below hb).given rfl
        clear hc0 HS2
        go_wp2_with fail
        refine HG3.out.mono ?_
        rintro r v3 ⟨rfl, cB3, HS3⟩
        have HR1 := s_read1 HS3.out HM.out (by decide)
        clear HG3 HS3 cB2
        go_wp2_with fail
        refine HR1.mono ?_
        rintro r v4 ⟨a4, n4, c4, rfl, cB4, HX4⟩
        obtain ⟨gx, e4, b4, b4', HS4⟩ := HX4.out
        injection e4 with e4 e4'
        subst e4 e4'
        have HS4 : Hid (Sw w ⟨Q, B, gb, ob, nb, fb⟩ p o true 3 (some gx) v4) := HS4
        have HR2 := s_read2c HS4.out HM.out
        clear HR1 HX4 cB3
        go_wp2_with fail
        refine HR2.mono ?_
        rintro r v5 ⟨a5, n5, c5, rfl, cB5, HS5⟩
        have HQ5 := HW3.out v5 _ gx HS5.out
        have HS6 : Hid (Sw w ⟨Q, B, gb, ob, nb, fb⟩ p o true 3 (some gx) (v5.alloc (.cells MB 5))) := HS5.out.below ((Below.refl _ v5).alloc (Nat.le_refl _) _)
        clear HR2 HS4 cB4 HS5 HW3
        go_wp2_with fail
        refine HQ5.mono ?_
        rintro r v6 ⟨rfl, hv6⟩
        rw [← hv6] at HS6
        have cB6 := HS6.out.cell
        have HX6 := HX3.out v6 _ gx (c4 - o) HS6.out
        clear HQ5 cB5 HX3 hv6
        go_wp2_with fail
        refine (HX6 v6 (Below.refl _ _)).mono ?_
        rintro r v7 ⟨rfl, hv7⟩
        obtain rfl : v6 = v7 := hv7.symm
        have HR7 := s_write2 HS6.out HM.out cb
        clear hv7 HX6 HS6
        go_wp2_with fail
        refine HR7.mono ?_
        rintro r v8 ⟨rfl, cB8, HS8⟩
        clear HR7 cB6
        cases st
        · have HR8 := s_abort HS8.out HM.out (by decide)
          clear HS8
          go_wp2_with fail
          refine HR8.mono ?_
          rintro r v9 ⟨rfl, cB9, HS9⟩
          have HS9 : Hid (Sf w ⟨Q, B, gb, ob, nb, fb⟩ p o false 2000 none v9) := HS9
          have HR9 := s_read3 HS9.out HM.out (by decide)
          clear HR8 cB8
          go_wp2_with fail
          refine HR9.mono ?_
          rintro r v10 ⟨a10, n10, c10, rfl, cB10, HX10⟩
          obtain ⟨gy, e10, b10, b10', HS10⟩ := HX10.out
          injection e10 with e10 e10'
          subst e10 e10'
          have HS10 : Hid (Sf w ⟨Q, B, gb, ob, nb, fb⟩ p o false 2001 (some gy) v10) := HS10
          have HS11 : Hid (Sf w ⟨Q, B, gb, ob, nb, fb⟩ p o false 2001 (some gy) (v10.alloc (.cells MB 5))) := HS10.out.below ((Below.refl _ v10).alloc (Nat.le_refl _) _)
          have HQ11 : Hid (Calls Tryz.prog 19 #[.slice (some ⟨gy, o, none⟩) nb (c10 - o), .slice (some ⟨v10.heap.size, 0, none⟩) nb nb] (v10.alloc (.cells MB 5)) fun e w' => e = .returned (.bool true) ∧ w' = v10.alloc (.cells MB 5)) := equal_yes _ _ _ _ _ _ _ (fun _ => 0) _ HS11.out.seen (HMB.out v10) (lst_ext (fun j hj => rfl))
          have cB11 := HS11.out.cell
          clear HR9 HX10 HS9 HS10 cB9 cB10
          go_wp2_with fail
          refine HQ11.out.mono ?_
          rintro r v11 ⟨rfl, hv11⟩
          rw [← hv11] at HS11 cB11
          have HR11 := s_commit2 HS11.out
          clear HQ11 hv11 HS11
          go_wp2_with fail
          refine HR11.mono ?_
          rintro r v12 ⟨rfl, cB12, HS12⟩
          have HR12 := s_commit3 HS12.out
          clear HR11 HS12 cB11
          go_wp2_with fail
          refine HR12.mono ?_
          rintro r v13 ⟨rfl, cB13, HS13⟩
          have HB13 : Hid (Below w.heap.size w v13) := HS13.out.bel
          clear HR12 HS13 cB12 cB13
          go_wp2
          go_ret
          exact ⟨rfl, HB13.out⟩
        · have HR8 := s_commit HS8.out HM.out (by decide)
          clear HS8
          go_wp2_with fail
          refine HR8.mono ?_
          rintro r v9 ⟨rfl, cB9, HS9⟩
          have HS9 : Hid (Sf w ⟨Q, B, gb, ob, nb, fb⟩ p o true 2000 none v9) := HS9
          have HR9 := s_read3 HS9.out HM.out (by decide)
          clear HR8 cB8
          go_wp2_with fail
          refine HR9.mono ?_
          rintro r v10 ⟨a10, n10, c10, rfl, cB10, HX10⟩
          obtain ⟨gy, e10, b10, b10', HS10⟩ := HX10.out
          injection e10 with e10 e10'
          subst e10 e10'
          have HS10 : Hid (Sf w ⟨Q, B, gb, ob, nb, fb⟩ p o true 2001 (some gy) v10) := HS10
          have HS11 : Hid (Sf w ⟨Q, B, gb, ob, nb, fb⟩ p o true 2001 (some gy) (v10.alloc (.cells MB 5))) := HS10.out.below ((Below.refl _ v10).alloc (Nat.le_refl _) _)
          have HQ11 : Hid (Calls Tryz.prog 19 #[.slice (some ⟨gy, o, none⟩) nb (c10 - o), .slice (some ⟨gb, ob, none⟩) nb cb] (v10.alloc (.cells MB 5)) fun e w' => e = .returned (.bool true) ∧ w' = v10.alloc (.cells MB 5)) := equal_yes _ _ _ _ _ _ _ fb _ HS11.out.seen HS11.out.given (lst_ext (fun j hj => if_pos rfl))
          have cB11 := HS11.out.cell
          clear HR9 HX10 HS9 HS10 cB9 cB10
          go_wp2_with fail
          refine HQ11.out.mono ?_
          rintro r v11 ⟨rfl, hv11⟩
          rw [← hv11] at HS11 cB11
          have HR11 := s_commit2 HS11.out
          clear HQ11 hv11 HS11
          go_wp2_with fail
          refine HR11.mono ?_
          rintro r v12 ⟨rfl, cB12, HS12⟩
          have HR12 := s_commit3 HS12.out
          clear HR11 HS12 cB11
          go_wp2_with fail
          refine HR12.mono ?_
          rintro r v13 ⟨rfl, cB13, HS13⟩
          have HB13 : Hid (Below w.heap.size w v13) := HS13.out.bel
          clear HR12 HS13 cB12 cB13
          go_wp2
          go_ret
          exact ⟨rfl, HB13.out⟩
end Go.Proofs.YthfokciijcmhbaaGreatDoor
