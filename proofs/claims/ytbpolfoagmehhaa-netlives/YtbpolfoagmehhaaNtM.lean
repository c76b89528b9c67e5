/-
  NetLives' walk.
-/
import Derived.Test.YtbpolfoagmehhaaNtL
import Derived.Deep.CutBlock
import Derived.Deep.DeepCutAuto
namespace Go.Proofs.Ytbpolfoagmehhaa
open Go.RowKit
set_option linter.unusedVariables false
set_option maxRecDepth 100000
set_option maxHeartbeats 4000000

/-- The calls that are handed in. -/
def DosN (w : World) (a0 : Option Addr) (N : Nat) : Prop := ∀ r, r < N → ∃ b off z0 z1 a l c f, a0 = some ⟨b, off, none⟩ ∧ w.cell? ⟨b, off + r * 3, none⟩ = some (.int .i64 z0) ∧ w.cell? ⟨b, off + r * 3 + 1, none⟩ = some (.int .i64 z1) ∧ w.cell? ⟨b, off + r * 3 + 1 + 1, none⟩ = some (.slice a l c) ∧ From w a l f ∧ l ≤ 140737488355328 ∧ (a = none → c = 0)
theorem mod6 (z : Int) : ∃ t : Nat, t < 6 ∧ IntKind.i64.wrap ((IntKind.u64.wrap z).tmod 6) = (t : Int) := by
  have h0 : 0 ≤ IntKind.u64.wrap z := by rw [IntKind.wrap_u64]; omega
  refine ⟨((IntKind.u64.wrap z) % 6).toNat, by omega, ?_⟩
  rw [Int.tmod_eq_emod_of_nonneg h0, IntKind.wrap_i64]
  omega
theorem st_new {w w1 : World} (hn1 : Nt w1 w.heap.size true w.heap.size (.slice none 0 0) []) (hw1 : w1 = w.alloc (.cells #[.slice none 0 0, .bool true] 45)) : St w (w1.alloc (.cells #[.slice none 0 0] 28)) w.heap.size w1.heap.size [] := by
  have hb1 : Below w.heap.size w w1 := by rw [hw1]; exact (Below.refl _ w).alloc (Nat.le_refl _) _
  have hb2 : Below w1.heap.size w1 (w1.alloc (.cells #[.slice none 0 0] 28)) := (Below.refl _ w1).alloc (Nat.le_refl _) _
  exact ⟨_, _, [], [], ⟨hn1.below hb2, ⟨heap_alloc_at w1 _ _ rfl, Mq.nil _ _, hb1.size, by simp, fun z hz => by cases hz⟩, (fun k hk => by cases hk), hb1.trans (hb2.mono hb1.size)⟩, rfl, rfl⟩
theorem net_lives {w : World} (a0 : Option Addr) (N C0 : Nat) (hD : DosN w a0 N) (hN : N ≤ 3600000000000) :
    Calls Try.prog 3 #[.slice a0 N C0] w fun e w' => e = .returned (.bool true) ∧ Below w.heap.size w w' := by
  have hNew := n_new w w.heap.size (Nat.le_refl _)
  have HD : Hid (DosN w a0 N) := hD
  clear hD
  go_enter Try.func3, Try.ntmps3
  go_wp2_with (go_at_call 6; refine hNew.mono ?_; rintro e w1 ⟨rfl, hn1, hw1⟩; have H1 : Hid (St w (w1.alloc (.cells #[.slice none 0 0] 28)) w.heap.size w1.heap.size []) := st_new hn1 hw1; clear hn1 hw1)
  clear hNew
  generalize w1.heap.size = d at *
  have HF : Hid (∀ (wr : World) (ms : List (List Int)), St w wr w.heap.size d ms → ∃ ax nx cx, wr.drew.cell? ⟨d, 0, none⟩ = some (.slice ax nx cx) ∧ d < wr.heap.size ∧ Calls Try.prog 21 #[.pointer (some ⟨w.heap.size, 0, none⟩)] wr.drew fun e w2 => ∃ a1 n1 c1, e = .returned (.slice a1 n1 c1) ∧ w2.cell? ⟨d, 0, none⟩ = some (.slice ax nx cx) ∧ Hid (Calls Try.prog 20 #[.slice a1 n1 c1, .slice ax nx cx] w2 fun e w' => e = .returned (.bool true) ∧ w' = w2) ∧ Hid (St w w2 w.heap.size d ms)) := fun wr ms hs => by
    have hs' : St w wr.drew w.heap.size d ms := hs.below (blw_drewN 1 (Below.refl _ wr))
    obtain ⟨ax, nx, cx, h1, h2, h3⟩ := a_same hs'
    refine ⟨ax, nx, cx, h1, h2, h3.mono ?_⟩
    rintro e w2 ⟨a1, n1, c1, rfl, k1, k2, k3⟩
    exact ⟨a1, n1, c1, rfl, k1.out, k2, k3⟩
  go_loopw [22] (fun s wr => ∃ (i : Nat) (ms : List (List Int)), i ≤ N ∧ i ≤ 101 ∧ s = .int .i64 (i : Int) ∧ Hid (St w wr w.heap.size d ms)) (fun s _ => N - (intOf s).toNat)
  case atStart => exact ⟨0, [], Nat.zero_le _, Nat.zero_le _, rfl, H1⟩
  case round =>
    clear H1
    obtain ⟨i, ms, hi, hi2, rfl, HS⟩ := hrel
    by_cases hlt : i < N
    · obtain ⟨b, off, z0, z1, a, l, c, f, rfl, c0, c1, c2, hf, hl, hc⟩ := HD.out i hlt
      have hbel := HS.out.bel
      have e0 : wr.cell? ⟨b, off + i * 3, none⟩ = some (.int .i64 z0) := by rw [hbel.cell (World.block_lt_of_cell? w _ c0)]; exact c0
      have e1 : wr.cell? ⟨b, off + i * 3 + 1, none⟩ = some (.int .i64 z1) := by rw [hbel.cell (World.block_lt_of_cell? w _ c1)]; exact c1
      have e2 : wr.cell? ⟨b, off + i * 3 + 1 + 1, none⟩ = some (.slice a l c) := by rw [hbel.cell (World.block_lt_of_cell? w _ c2)]; exact c2
      have hfw : Hid (From w a l f) := hf
      have l1 : (i : Int) < (N : Int) := by omega
      have l2 : (0 : Int) ≤ (i : Int) := by omega
      clear c0 c1 c2 HD hbel
      by_cases h101 : i = 101
      · subst h101
        obtain ⟨wb, hwb⟩ : ∃ wb, wb = wr.alloc (.cells #[.int .i64 z0, .int .i64 z1, .slice a l c] 31) := ⟨_, rfl⟩
        have HSb : Hid (St w wb w.heap.size d ms) := HS.out.below (by rw [hwb]; exact (Below.refl _ _).alloc (Nat.le_refl _) _)
        obtain ⟨ax, nx, cx, d0, hd, hL⟩ := HF.out wb ms HSb.out
        clear HF HS hf hfw HSb
        go_wp2
        rw [← hwb]
        clear hwb
        go_region_law (first
          | (go_simp; go_at_call 21; refine hL.mono ?_; rintro e w2 ⟨a1, n1, c1, rfl, k1, k2, k3⟩)
          | (go_simp; go_at_call 20; refine k2.out.mono ?_; rintro e w3 ⟨rfl, hw⟩; rw [hw]; clear hw))
        all_goals
          go_wp2
          go_ret
          exact ⟨rfl, k3.out.bel⟩
      · have l3 : ¬ ((100 : Int) < (i : Int)) := by omega
        have l4 : decide ((100 : Int) < (i : Int)) = false := decide_eq_false l3
        obtain ⟨t, ht, et⟩ := mod6 z0
        obtain ⟨wb, hwb⟩ : ∃ wb, wb = wr.alloc (.cells #[.int .i64 z0, .int .i64 z1, .slice a l c] 31) := ⟨_, rfl⟩
        have HSb : Hid (St w wb w.heap.size d ms) := HS.out.below (by rw [hwb]; exact (Below.refl _ _).alloc (Nat.le_refl _) _)
        have hbk : Bk wb wr.heap.size z0 z1 a l c := ⟨by rw [hwb]; exact heap_alloc_at wr _ _ rfl⟩
        have hcl : Calls Try.prog 7 #[.slice a l c] wb fun e w2 => ∃ ag cg, e = .returned (.slice ag l cg) ∧ Hid (Bk w2 wr.heap.size z0 z1 a l c) ∧ w2.cell? ⟨wr.heap.size, 0, none⟩ = some (.int .i64 z0) ∧ Hid (St w w2 w.heap.size d ms) ∧ Hid (Below wb.heap.size wb w2) ∧ Hid (Own w2 wb.heap.size (.slice ag l cg) (lst f l)) := by
          refine (clone a l c f wb hl (hf.below HSb.out.bel (Nat.le_refl _))).mono ?_
          rintro e w2 ⟨u, rfl, ho, hb⟩
          obtain ⟨ag, cg, hu⟩ := ho.slice
          rw [lst_length] at hu
          subst hu
          have hk2 := hbk.below hb
          exact ⟨ag, cg, rfl, hk2, hk2.c.1, HSb.out.below hb, hb, ho⟩
        subst hwb
        clear hf HS hbk
        go_upto_block 2 with (go_at_call 7; refine hcl.mono ?_; rintro e w2 ⟨ag, cg, rfl, HK, hk0, HS2, HB2, HO2⟩)
        clear hcl et
        have hs2 : St w w2 w.heap.size d ms := HS2.out
        have hk2 := HK.out
        have hBd : Below w2.heap.size w2 w2.drew := blw_drewN 1 (Below.refl _ w2)
        go_cut [8] (fun ok wx => ok = .bool true ∧ Hid (∃ ms', St w wx w.heap.size d ms'))
        case first =>
          clear HF hk0
          rcases (by omega : (t = 0 ∨ t = 1) ∨ t = 2 ∨ t = 3 ∨ t = 4 ∨ t = 5) with h01 | h2 | h3 | h4 | h5
          · as_aux_lemma =>
            have hb01 : ((t : Int) == 0) = true ∨ (((t : Int) == 0) = false ∧ ((t : Int) == 1) = true) := by
              rcases h01 with e | e
              · exact .inl (by rw [e]; rfl)
              · exact .inr ⟨by rw [e]; rfl, by rw [e]; rfl⟩
            obtain ⟨ag', cg', hg, hS⟩ := a_send HSb.out (hk2.below hBd) (HB2.out.trans (hBd.mono HB2.out.size)) (HO2.out.below hBd (Nat.le_refl _)) hfw.out hl hc
            injection hg with hg1 _ hg2
            subst hg1
            subst hg2
            have hk20 := (hk2.below hBd).c
            obtain ⟨_, _, hk22, hk23⟩ := hk20
            clear h01 hs2 hk2 hBd HSb HS2 HB2 HO2 hfw HK
            generalize wr.heap.size = kb at *
            rcases hb01 with hq | ⟨hq, hq1⟩
            all_goals
              go_wp2_with fail
              go_region_law (first
                | (go_simp; go_at_call 8; refine hS.mono ?_; rintro e w3 ⟨rfl, HK3, H3⟩; obtain ⟨_, _, k3, k3b⟩ := HK3.out.c)
                | (go_simp; go_at_call 9; refine H3.out.mono ?_; rintro e w4 ⟨rfl, HK4, H4, H5⟩; obtain ⟨_, _, k4, k4b⟩ := HK4.out.c)
                | (go_simp; go_at_call 10; refine H4.out.mono ?_; rintro e w5 ⟨rfl, hw⟩; rw [hw]; clear hw))
              all_goals
                go_wp2_with (go_at_call 11; refine H5.out.mono ?_; rintro e w6 ⟨rfl, H6⟩)
                go_meet
                exact ⟨rfl, _, H6.out⟩
          · as_aux_lemma =>
            have hq0 : ((t : Int) == 0) = false := by rw [h2]; rfl
            have hq1 : ((t : Int) == 1) = false := by rw [h2]; rfl
            have hq2 : ((t : Int) == 2) = true := by rw [h2]; rfl
            have hS := a_drop (hs2.below hBd) (hk2.below hBd) z1
            obtain ⟨_, hk21, _, hk23⟩ := (hk2.below hBd).c
            clear h2 hs2 hk2 hBd HSb HS2 HB2 HO2 hfw HK
            generalize wr.heap.size = kb at *
            go_wp2_with fail
            go_region_law (first
              | (go_simp; go_at_call 12; refine hS.mono ?_; rintro e w3 ⟨rfl, HK3, H3⟩; obtain ⟨_, k3, _, k3b⟩ := HK3.out.c)
              | (go_simp; go_at_call 13; refine H3.out.mono ?_; rintro e w4 ⟨rfl, H4⟩))
            all_goals
              go_wp2
              go_meet
              exact ⟨rfl, _, H4.out⟩
          · as_aux_lemma =>
            have hq0 : ((t : Int) == 0) = false := by rw [h3]; rfl
            have hq1 : ((t : Int) == 1) = false := by rw [h3]; rfl
            have hq2 : ((t : Int) == 2) = false := by rw [h3]; rfl
            have hq3 : ((t : Int) == 3) = true := by rw [h3]; rfl
            have hS := a_twice (hs2.below hBd) (hk2.below hBd) z1
            obtain ⟨_, hk21, _, hk23⟩ := (hk2.below hBd).c
            clear h3 hs2 hk2 hBd HSb HS2 HB2 HO2 hfw HK
            generalize wr.heap.size = kb at *
            go_wp2_with fail
            go_region_law (first
              | (go_simp; go_at_call 14; refine hS.mono ?_; rintro e w3 ⟨rfl, HK3, H3⟩; obtain ⟨_, k3, _, k3b⟩ := HK3.out.c)
              | (go_simp; go_at_call 15; refine H3.out.mono ?_; rintro e w4 ⟨rfl, H4⟩))
            all_goals
              go_wp2
              go_meet
              exact ⟨rfl, _, H4.out⟩
          · as_aux_lemma =>
            have hq0 : ((t : Int) == 0) = false := by rw [h4]; rfl
            have hq1 : ((t : Int) == 1) = false := by rw [h4]; rfl
            have hq2 : ((t : Int) == 2) = false := by rw [h4]; rfl
            have hq3 : ((t : Int) == 3) = false := by rw [h4]; rfl
            have hq4 : ((t : Int) == 4) = true := by rw [h4]; rfl
            have hS := a_take hs2 hk2 z1
            obtain ⟨_, hk21, _, hk23⟩ := hk2.c
            clear h4 hs2 hk2 hBd HSb HS2 HB2 HO2 hfw HK
            generalize wr.heap.size = kb at *
            go_wp2_with (first
              | (go_at_call 16; refine hS.mono ?_; rintro e w3 ⟨a1, n1, c1, rfl, HK3, H3⟩; obtain ⟨_, k3, _, k3b⟩ := HK3.out.c)
              | (go_at_call 17; refine H3.out.mono ?_; rintro e w4 ⟨a2, n2, c2, rfl, H4, H5⟩)
              | (go_at_call 10; refine H4.out.mono ?_; rintro e w5 ⟨rfl, hw⟩; rw [hw]; clear hw))
            go_meet
            exact ⟨rfl, _, H5.out⟩
          · as_aux_lemma =>
            have hq0 : ((t : Int) == 0) = false := by rw [h5]; rfl
            have hq1 : ((t : Int) == 1) = false := by rw [h5]; rfl
            have hq2 : ((t : Int) == 2) = false := by rw [h5]; rfl
            have hq3 : ((t : Int) == 3) = false := by rw [h5]; rfl
            have hq4 : ((t : Int) == 4) = false := by rw [h5]; rfl
            have hS := a_look hs2 hk2 z1
            obtain ⟨_, hk21, _, hk23⟩ := hk2.c
            clear h5 hs2 hk2 hBd HSb HS2 HB2 HO2 hfw HK
            generalize wr.heap.size = kb at *
            go_wp2_with (first
              | (go_at_call 18; refine hS.mono ?_; rintro e w3 ⟨a1, n1, c1, rfl, HK3, H3⟩; obtain ⟨_, k3, _, k3b⟩ := HK3.out.c)
              | (go_at_call 19; refine H3.out.mono ?_; rintro e w4 ⟨a2, n2, c2, rfl, H4, H5⟩)
              | (go_at_call 10; refine H4.out.mono ?_; rintro e w5 ⟨rfl, hw⟩; rw [hw]; clear hw)
              | (go_at_call 11; refine H5.out.mono ?_; rintro e w6 ⟨rfl, H6⟩))
            go_meet
            exact ⟨rfl, _, H6.out⟩
        case rest =>
          obtain ⟨rfl, HX⟩ := hcut
          obtain ⟨ms', hsx⟩ := HX.out
          obtain ⟨ax, nx, cx, d0, hd, hL⟩ := HF.out _ ms' hsx
          clear HF HX hsx hs2 hk2 hBd HSb HS2 HB2 HO2 hfw HK
          go_wp2_with fail
          go_region_law (first
            | (go_simp; go_at_call 21; refine hL.mono ?_; rintro e w3 ⟨a1, n1, c1, rfl, k1, k2, k3⟩)
            | (go_simp; go_at_call 20; refine k2.out.mono ?_; rintro e w4 ⟨rfl, hw⟩; rw [hw]; clear hw))
          all_goals
            go_wp2
            go_roundw
            case rel => exact ⟨i + 1, ms', by omega, by omega, by go_num, k3⟩
            case measure => simp [intOf]; omega
    · obtain rfl : i = N := by omega
      have hlt' : ¬ (i : Int) < (i : Int) := by omega
      obtain ⟨ax, nx, cx, c0, hd, hL⟩ := HF.out wr ms HS.out
      clear HF HS HD
      go_wp2
      go_region_law (first
        | (go_simp; go_at_call 21; refine hL.mono ?_; rintro e w2 ⟨a1, n1, c1, rfl, k1, k2, k3⟩)
        | (go_simp; go_at_call 20; refine k2.out.mono ?_; rintro e w3 ⟨rfl, hw⟩; rw [hw]; clear hw))
      all_goals
        go_wp2
        go_ret
        exact ⟨rfl, k3.out.bel⟩
end Go.Proofs.Ytbpolfoagmehhaa
