/-
  PoolWritten: the law's walk.
-/
import Derived.Test.YtnaobkpncfbnaaaGreatDoorPwU
import Derived.Test.YtnaobkpncfbnaaaGreatDoorPwW
import Derived.Deep.DeepCutAuto
import Derived.Deep.RegionHeld2
namespace Go.Proofs.YtnaobkpncfbnaaaGreatDoor
open Go.RowKit
set_option linter.unusedVariables false

theorem Lz.bel {w0 w : World} {S D L bf mb ml k : Nat} (h : Lz w0 S D L bf mb ml k w) : Below w0.heap.size w0 w := by
  obtain ⟨P, n, X, M, e, ln, lo, fv, h, _⟩ := h
  exact h.lw.bel
theorem Lz.below {w0 w w' : World} {S D L bf mb ml k : Nat} (h : Lz w0 S D L bf mb ml k w) (hb : Below w.heap.size w w') : Lz w0 S D L bf mb ml k w' := by
  obtain ⟨P, n, X, M, e, ln, lo, fv, h, h2⟩ := h
  exact ⟨P, n, X, M, e, ln, lo, fv, h.below hb, h2⟩
/-- The state that the law begins with: two empty maps. -/
theorem Lz.new {w0 w : World} {S D L bf : Nat} (h : ∃ P e, Pw w0.heap.size False w P S 0 D L bf 0 X0 0 e 0 0 (fun _ => 0) (fun _ _ => 0) ∧ (∀ b, P b → w0.heap.size ≤ b) ∧ w0.heap.size ≤ S ∧ Below w0.heap.size w0 w) : Lz w0 S D L bf w.heap.size (w.heap.size + 1) 0 ((w.alloc (.map #[] 0)).alloc (.map #[] 0)) := by
  obtain ⟨P, e, k, low, hS, bel⟩ := h
  have hs := bel.size
  have b1 : Below w.heap.size w (w.alloc (.map #[] 0)) := (Below.refl _ w).alloc (Nat.le_refl _) _
  have b2 : Below (w.alloc (.map #[] 0)).heap.size (w.alloc (.map #[] 0)) ((w.alloc (.map #[] 0)).alloc (.map #[] 0)) := (Below.refl _ _).alloc (Nat.le_refl _) _
  have hz : (w.alloc (.map #[] 0)).heap.size = w.heap.size + 1 := by simp
  refine ⟨P, 0, X0, 0, e, _, _, fun _ => none, ⟨⟨(k.below b1).below b2, (bel.trans (b1.mono hs)).trans (b2.mono (by omega)), low, (Im.made w).part (Part.ofBelow (F := fun _ => False) b2) id, ⟨hs, fun h => by have := k.lt _ h; omega⟩, fun p hp => .inl ⟨rfl, rfl⟩⟩, ⟨?_, by omega, fun h => by have := k.lt _ h; omega⟩, by omega⟩, Nat.le_refl _⟩
  have := Im.made (w.alloc (.map #[] 0))
  rw [hz] at this
  exact this
set_option maxRecDepth 100000 in
set_option maxHeartbeats 8000000 in
theorem written_walk (z0 : Int) (a0 : Option Addr) (N c0 : Nat) (w : World) (hz : -9223372036854775808 ≤ z0 ∧ z0 ≤ 9223372036854775807) (hN : N ≤ 9223372036854775806) (hd : DosW w a0 N) (ht : Tab w) :
    Calls Tryz.prog 5 #[.int .i64 z0, .slice a0 N c0] w fun e w' => e = .returned (.bool true) ∧ Below w.heap.size w w' := by
  have HD : Hid (DosW w a0 N) := hd
  have hmm := @run_makeMap Tryz.prog
  have HN : Hid (Calls Tryz.prog 6 #[.int .i64 14] w fun r w' => ∃ D, r = .returned (.tuple #[.pointer (some ⟨D, 0, none⟩), .int .i64 0]) ∧ Hid (Sd w' D (fun k => w.heap.size ≤ k ∧ k < w'.heap.size) 14 0 (fun _ => 0) ∧ Below w.heap.size w w' ∧ Tab w' ∧ Tab w)) := n_disk w ht
  obtain ⟨t5, h5, e5, w5, x5⟩ := umod z0 5 (by decide) (by decide)
  have HE5 : Hid (((IntKind.u64.wrap z0).tmod 5 = (t5 : Int)) ∧ wrap64 (t5 : Int) = (t5 : Int) ∧ wrap64 (1 + (t5 : Int)) = ((t5 + 1 : Nat) : Int)) := ⟨e5, w5, x5⟩
  obtain ⟨bf, hbf⟩ : ∃ bf, t5 + 1 = bf := ⟨_, rfl⟩
  rw [hbf] at HE5
  have b1 : 1 ≤ bf := by omega
  have b5 : bf ≤ 5 := by omega
  clear hd e5 w5 x5 hbf h5 hz ht
  go_enter Tryz.func5, Tryz.ntmps5
  go_wp2_with fail
  refine HN.out.mono ?_
  rintro r w1 ⟨D, rfl, HF⟩
  go_wp2_with fail
  refine (n_log HF.out).mono ?_
  rintro r w2 ⟨L, vr, rfl, HG⟩
  clear HF HN
  go_wp2_with fail
  rw [HE5.out.1, HE5.out.2.1, HE5.out.2.2]
  clear HE5
  refine (n_pool False HG.out b1 b5).mono ?_
  rintro r w3 ⟨S, rfl, HW⟩
  clear HG
  have HL0 : Hid (Lz w S D L bf w3.heap.size (w3.heap.size + 1) 0 ((w3.alloc (.map #[] 0)).alloc (.map #[] 0))) := Lz.new HW.out
  clear HW
  have hmz : (w3.alloc (.map #[] 0)).heap.size = w3.heap.size + 1 := by simp
  go_wp2
  try rw [hmz]
  obtain ⟨mb, hmb⟩ : ∃ mb, w3.heap.size = mb := ⟨_, rfl⟩
  obtain ⟨ml, hml⟩ : ∃ ml, mb + 1 = ml := ⟨_, rfl⟩
  rw [hmb] at HL0 ⊢
  rw [hml] at HL0 ⊢
  generalize (w3.alloc (.map #[] 0)).alloc (.map #[] 0) = w4 at *
  clear hmb hml hmz hmm
  go_loopw [62] (fun s wr => ∃ k : Nat, k ≤ N ∧ k ≤ 31 ∧ s = .int .i64 (k : Int) ∧ Hid (Lz w S D L bf mb ml k wr)) (fun i _ => N - (intOf i).toNat)
  case atStart => exact ⟨0, Nat.zero_le _, by decide, rfl, HL0⟩
  case round =>
    clear HL0
    obtain ⟨k, hk, hk31, rfl, HB⟩ := hrel
    by_cases hlt : k < N
    · have hlt' : (k : Int) < (N : Int) := by omega
      have hk0 : (0 : Int) ≤ (k : Int) := by omega
      obtain ⟨b, off, rfl, op, z, l9, a, l, c, f, hdo⟩ := HD.out k hlt
      obtain ⟨q0, q1, q2, q3, q4, q5, q6, q7, q8⟩ := hdo.below HB.out.bel (Nat.le_refl _)
      obtain ⟨o, hO⟩ : ∃ o, Obj.cells #[.int .i64 op, .int .i64 z, .int .i64 l9, .slice a l c] 38 = o := ⟨_, rfl⟩
      have hsz : (wr.alloc o).heap.size = wr.heap.size + 1 := by simp
      have hbo : Below wr.heap.size wr (wr.alloc o) := (Below.refl _ wr).alloc (Nat.le_refl _) o
      by_cases h31 : k < 31
      · have h30 : (k : Int) ≤ 30 := by omega
        have kN : (wr.alloc o).cell? ⟨wr.heap.size, 1, none⟩ = some (.int .i64 z) := by rw [← hO, World.cell?_alloc_at _ _ _ _ rfl]; rfl
        have kB : (wr.alloc o).cell? ⟨wr.heap.size, 3, none⟩ = some (.slice a l c) := by rw [← hO, World.cell?_alloc_at _ _ _ _ rfl]; rfl
        have HI : Hid (∀ wq, Below (wr.heap.size + 1) (wr.alloc o).drew wq → wq.cell? ⟨wr.heap.size, 3, none⟩ = some (.slice a l c)) := fun wq hq => by
          rw [hq.cell (p := ⟨wr.heap.size, 3, none⟩) (by show wr.heap.size < wr.heap.size + 1; omega)]; exact kB
        obtain ⟨t10, h10, e10, w10, _⟩ := umod z 10 (by decide) (by decide)
        have HT10 : Hid ((IntKind.u64.wrap z).tmod 10 = (t10 : Int) ∧ wrap64 (t10 : Int) = (t10 : Int)) := ⟨e10, w10⟩
        clear w10
        have HF : Hid (∀ t, t ≤ l → From (wr.alloc o).drew a t f) := fun t ht => (q4.alloc o).short ht
        have HW : Hid (∀ (t : Nat) (wq : World) (v2 : Value), t ≤ 112 → Own wq (wr.heap.size + 1) v2 (lst f t ++ lst (fun _ => 0) (112 - t)) → Below (wr.heap.size + 1) (wr.alloc o).drew wq → ∃ g2 c2, v2 = .slice (some ⟨g2, 0, none⟩) 112 c2 ∧
            Hid (∀ x, x = (k : Int) + 1 → Calls Tryz.prog 11 #[.pointer (some ⟨S + 1, 0, none⟩), .int .i64 (t10 : Int), .int .i64 x, .slice (some ⟨g2, 0, none⟩) 112 c2] wq fun r w1 => r = .returned (.int .i64 0) ∧ ∃ w2 w3, (Instr.mapUpdate 35 (.map (some mb)) (.int .i64 (t10 : Int)) (.slice (some ⟨g2, 0, none⟩) 112 c2)).run Tryz.prog w1 = .ok () w2 ∧ (Instr.mapUpdate 60 (.map (some ml)) (.int .i64 (t10 : Int)) (.int .i64 x)).run Tryz.prog w2 = .ok () w3 ∧ Hid (Lz w S D L bf mb ml (k + 1) w3))) := fun t wq v2 ht ho hb2 => by
          rw [lst_app, show t + (112 - t) = 112 by omega] at ho
          obtain ⟨g2, c2, rfl, ho2, hg1, hg2, _, _⟩ := own_some ho (by omega)
          have hbq : Below wr.heap.size wr wq := hbo.trans ⟨hb2.os, hb2.tape, hb2.output, hb2.size, fun k hk => hb2.block k (by omega)⟩
          obtain ⟨P, n, X, M, e, ln, lo, fv, hy, hMk⟩ := HB.out
          have hbs := hy.lw.bel.size
          refine ⟨g2, c2, rfl, fun x hx => y_put (hy.below hbq) hMk (by omega) h10 (by omega) (f := fun k => if k < t then f k else 0) ⟨ho2.mono (by omega), fun hP => ?_⟩ (fun j => ?_) x hx⟩
          · have := hy.lw.pw.lt _ hP
            have := (World.ownsRow.lt ho2 g2 rfl).1
            omega
          · show 0 ≤ (if j < t then f j else 0) ∧ (if j < t then f j else 0) ≤ 255
            split
            · exact q5 j
            · decide
        clear HB hdo
        by_cases hl112 : l ≤ 112
        · have hl' : (l : Int) ≤ 112 := by omega
          have hlc : (l : Int) ≤ (c : Int) := by omega
          have e112 : (112 : Int) - (l : Int) = ((112 - l : Nat) : Int) := by omega
          have ew : IntKind.i64.wrap ((112 - l : Nat) : Int) = ((112 - l : Nat) : Int) := by rw [IntKind.wrap_i64]; omega
          have HX : Hid ((lst f l).length + (112 - l) ≤ 140737488355328) := (by rw [lst_length]; omega : (lst f l).length + (112 - l) ≤ 140737488355328)
          go_wp2
          have hl2 : ((112 : Int) < (l : Int)) = False := eq_false (by omega)
          go_region_held2 (fun wq => wq.cell? ⟨wr.heap.size, 3, none⟩ = some (.slice a l c))
            (first | exact HI.out _ (by assumption) | go_keep)
            (first
              | (refine step_zeros rfl _ _ rfl (wr.heap.size + 1) v1 (lst f l) (by go_simp) (by exact ho1) (112 - l) (by go_simp) HX.out (by omega) ?_; intro v2 w3 ho2 hb2; have hb3 := hb1.trans hb2; obtain ⟨g2, c2, hv2, HC3⟩ := HW.out l w3 v2 (by omega) ho2 hb3; subst hv2; clear ho2 ho1)
              | (go_at_call 10; refine (clone a l c f _ (by omega) (by exact HF.out l (by omega))).mono ?_; rintro e' w2 ⟨v1, rfl, ho1, hb1⟩; have ho1 := ho1.mono (B' := wr.heap.size + 1) (by simp); have hb1 := hb1.mono (B' := wr.heap.size + 1) (by simp); have hs2 : wr.heap.size + 1 ≤ w2.heap.size := by have := hb1.size; simp at this; omega))
          all_goals
            clear HF HW HX HI
            go_wp2_with fail
            rw [HT10.out.1, HT10.out.2]
            refine (HC3.out _ (by first | rfl | omega | (simp only [IntKind.wrap_i64]; omega))).mono ?_
            rintro r w5 ⟨rfl, w6, w7, r6, r7, HE⟩
            clear HC3
            go_wp2
            go_roundw
            case rel => exact ⟨k + 1, by omega, by omega, by go_num, HE⟩
            case measure => simp [intOf]; omega
        · have hl' : ¬ (l : Int) ≤ 112 := by omega
          have hl2 : (112 : Int) < (l : Int) := by omega
          have hc2 : (112 : Int) ≤ (c : Int) := by omega
          have ew : IntKind.i64.wrap 0 = 0 := rfl
          have HX : Hid ((lst f 112).length + (112 - 112) ≤ 140737488355328) := (by rw [lst_length]; omega : (lst f 112).length + (112 - 112) ≤ 140737488355328)
          go_wp2
          have hl3 : (112 : Int) < (l : Int) := by omega
          go_region_held2 (fun wq => wq.cell? ⟨wr.heap.size, 3, none⟩ = some (.slice a l c))
            (first | exact HI.out _ (by assumption) | go_keep)
            (first
              | (refine step_zeros rfl _ _ rfl (wr.heap.size + 1) v1 (lst f 112) (by go_simp) (by exact ho1) (112 - 112) (by go_simp) HX.out (by omega) ?_; intro v2 w3 ho2 hb2; have hb3 := hb1.trans hb2; obtain ⟨g2, c2, hv2, HC3⟩ := HW.out 112 w3 v2 (by omega) ho2 hb3; subst hv2; clear ho2 ho1)
              | (go_at_call 10; refine (clone a 112 c f _ (by omega) (by exact HF.out 112 (by omega))).mono ?_; rintro e' w2 ⟨v1, rfl, ho1, hb1⟩; have ho1 := ho1.mono (B' := wr.heap.size + 1) (by simp); have hb1 := hb1.mono (B' := wr.heap.size + 1) (by simp); have hs2 : wr.heap.size + 1 ≤ w2.heap.size := by have := hb1.size; simp at this; omega))
          all_goals
            clear HF HW HX HI
            go_wp2_with fail
            rw [HT10.out.1, HT10.out.2]
            refine (HC3.out _ (by first | rfl | omega | (simp only [IntKind.wrap_i64]; omega))).mono ?_
            rintro r w5 ⟨rfl, w6, w7, r6, r7, HE⟩
            clear HC3
            go_wp2
            go_roundw
            case rel => exact ⟨k + 1, by omega, by omega, by go_num, HE⟩
            case measure => simp [intOf]; omega
      · have h30 : (30 : Int) < (k : Int) := by omega
        have HB2 : Hid (Lz w S D L bf mb ml k (wr.alloc o)) := HB.out.below hbo
        clear HB hdo
        go_wp2_with fail
        try rw [hO]
        refine (y_all HB2.out (by omega)).mono ?_
        rintro r w5 ⟨rfl, HF⟩
        clear HB2
        go_wp2_with fail
        refine (y_pend HF.out).mono ?_
        rintro r w6 ⟨gp, rfl, HF6⟩
        clear HF
        obtain ⟨P, n, X, e, ln, lo, fv, hy, hpg⟩ := HF6.out
        have H6 : Hid (Ly w w6 P S D L bf n X 0 e ln lo mb ml k fv) := hy
        have HPg : Hid (∀ p, p < 10 → Pgs e p (ln p) (lo p)) := hpg
        clear hy hpg HF6
        go_wp2
        go_loopw [112] (fun s wr => ∃ p : Nat, p ≤ 10 ∧ s = .int .i64 (p : Int) ∧ Hid (Ly w wr P S D L bf n X 0 e ln lo mb ml k fv)) (fun i _ => 10 - (intOf i).toNat)
        case atStart => exact ⟨0, by decide, rfl, H6⟩
        case round =>
          clear H6
          obtain ⟨p, hp, rfl, HY⟩ := hrel
          by_cases hp10 : p < 10
          · have lk := HY.out.lw.ib.lookB hp10
            have p1 : (p : Int) < 10 := by omega
            have p0 : (0 : Int) ≤ (p : Int) := by omega
            rcases HY.out.lw.at_ p hp10 with ⟨h1, _⟩ | ⟨g, c, h1, h2, _⟩
            · rw [h1] at lk
              simp only [Option.getD_none, Option.isSome_none] at lk
              clear h1
              go_wp2
              go_roundw
              case rel => exact ⟨p + 1, by omega, by go_num, HY⟩
              case measure => simp [intOf]; omega
            · have HR : Hid (∀ t, t = 4 + (p : Int) → Calls Tryz.prog 13 #[.pointer (some ⟨D, 0, none⟩), .int .i64 t] wr fun r w1 => ∃ g c, r = .returned (.tuple #[.slice (some ⟨g, 0, none⟩) 128 c, .int .i64 0]) ∧ Hid (Calls Tryz.prog 27 #[.slice (some ⟨g, 0, none⟩) 128 c] w1 fun r w2 => ∃ g' c', r = .returned (.tuple #[.int .i64 (ln p : Int), .slice (some ⟨g', 0, none⟩) 112 c', .int .i64 0]) ∧ Hid (Ly w w2 P S D L bf n X 0 e ln lo mb ml k fv ∧ From w2 (some ⟨g', 0, none⟩) 112 (lo p)))) := fun t ht => y_read HY.out hp10 (HPg.out p hp10) t ht
              have HQ : Hid (∀ w2 g' c', Ly w w2 P S D L bf n X 0 e ln lo mb ml k fv ∧ From w2 (some ⟨g', 0, none⟩) 112 (lo p) → (Instr.lookup 60 (.map (some ml)) (.int .i64 (p : Int)) false).run Tryz.prog w2 = .ok (.int .i64 (ln p : Int)) w2 ∧ Hid (Calls Tryz.prog 16 #[.slice (some ⟨g', 0, none⟩) 112 c', .slice (some ⟨g, 0, none⟩) 112 c] w2 fun r w' => r = .returned (.bool true) ∧ w' = w2)) := fun w2 g' c' ⟨hy, hf⟩ => by
                have hl := hy.ls.il.lookI hp10
                simp only [if_neg (show ¬ ln p = 0 by omega), Option.getD_some] at hl
                refine ⟨hl, ?_⟩
                rcases hy.lw.at_ p hp10 with ⟨h3, _⟩ | ⟨g2, c2, h3, _, h4⟩
                · rw [h1] at h3; cases h3
                · rw [h1] at h3
                  injection h3 with h3
                  injection h3 with h3 _ h5
                  injection h3 with h3
                  injection h3 with h3
                  subst h3 h5
                  exact equal_yes _ _ 112 c' 112 c (lo p) (lo p) w2 hf h4.from_ rfl
              rw [h1] at lk
              simp only [Option.getD_some, Option.isSome_some] at lk
              clear h1 h2 HY
              go_wp2_with fail
              refine (HR.out _ (by first | rfl | (simp only [IntKind.wrap_i64]; omega))).mono ?_
              rintro r w7 ⟨g7, c7, rfl, HX⟩
              clear HR lk
              go_wp2_with fail
              refine HX.out.mono ?_
              rintro r w8 ⟨g8, c8, rfl, H8⟩
              clear HX
              obtain ⟨li, HEq⟩ := HQ.out w8 g8 c8 H8.out
              clear HQ
              go_wp2_with fail
              refine HEq.out.mono ?_
              rintro r w9 ⟨rfl, hw⟩
              obtain rfl : w8 = w9 := hw.symm
              clear hw
              go_wp2
              go_roundw
              case rel => exact ⟨p + 1, by omega, by go_num, H8.out.1⟩
              case measure => simp [intOf]; omega
          · obtain rfl : p = 10 := by omega
            go_wp2
            go_ret
            exact ⟨rfl, HY.out.lw.bel⟩
    · have hlt' : ¬ (k : Int) < (N : Int) := by omega
      go_wp2_with fail
      refine (y_all HB.out (by omega)).mono ?_
      rintro r w5 ⟨rfl, HF⟩
      clear HB
      go_wp2_with fail
      refine (y_pend HF.out).mono ?_
      rintro r w6 ⟨gp, rfl, HF6⟩
      clear HF
      obtain ⟨P, n, X, e, ln, lo, fv, hy, hpg⟩ := HF6.out
      have H6 : Hid (Ly w w6 P S D L bf n X 0 e ln lo mb ml k fv) := hy
      have HPg : Hid (∀ p, p < 10 → Pgs e p (ln p) (lo p)) := hpg
      clear hy hpg HF6
      go_wp2
      go_loopw [112] (fun s wr => ∃ p : Nat, p ≤ 10 ∧ s = .int .i64 (p : Int) ∧ Hid (Ly w wr P S D L bf n X 0 e ln lo mb ml k fv)) (fun i _ => 10 - (intOf i).toNat)
      case atStart => exact ⟨0, by decide, rfl, H6⟩
      case round =>
        clear H6
        obtain ⟨p, hp, rfl, HY⟩ := hrel
        by_cases hp10 : p < 10
        · have lk := HY.out.lw.ib.lookB hp10
          have p1 : (p : Int) < 10 := by omega
          have p0 : (0 : Int) ≤ (p : Int) := by omega
          rcases HY.out.lw.at_ p hp10 with ⟨h1, _⟩ | ⟨g, c, h1, h2, _⟩
          · rw [h1] at lk
            simp only [Option.getD_none, Option.isSome_none] at lk
            clear h1
            go_wp2
            go_roundw
            case rel => exact ⟨p + 1, by omega, by go_num, HY⟩
            case measure => simp [intOf]; omega
          · have HR : Hid (∀ t, t = 4 + (p : Int) → Calls Tryz.prog 13 #[.pointer (some ⟨D, 0, none⟩), .int .i64 t] wr fun r w1 => ∃ g c, r = .returned (.tuple #[.slice (some ⟨g, 0, none⟩) 128 c, .int .i64 0]) ∧ Hid (Calls Tryz.prog 27 #[.slice (some ⟨g, 0, none⟩) 128 c] w1 fun r w2 => ∃ g' c', r = .returned (.tuple #[.int .i64 (ln p : Int), .slice (some ⟨g', 0, none⟩) 112 c', .int .i64 0]) ∧ Hid (Ly w w2 P S D L bf n X 0 e ln lo mb ml k fv ∧ From w2 (some ⟨g', 0, none⟩) 112 (lo p)))) := fun t ht => y_read HY.out hp10 (HPg.out p hp10) t ht
            have HQ : Hid (∀ w2 g' c', Ly w w2 P S D L bf n X 0 e ln lo mb ml k fv ∧ From w2 (some ⟨g', 0, none⟩) 112 (lo p) → (Instr.lookup 60 (.map (some ml)) (.int .i64 (p : Int)) false).run Tryz.prog w2 = .ok (.int .i64 (ln p : Int)) w2 ∧ Hid (Calls Tryz.prog 16 #[.slice (some ⟨g', 0, none⟩) 112 c', .slice (some ⟨g, 0, none⟩) 112 c] w2 fun r w' => r = .returned (.bool true) ∧ w' = w2)) := fun w2 g' c' ⟨hy, hf⟩ => by
              have hl := hy.ls.il.lookI hp10
              simp only [if_neg (show ¬ ln p = 0 by omega), Option.getD_some] at hl
              refine ⟨hl, ?_⟩
              rcases hy.lw.at_ p hp10 with ⟨h3, _⟩ | ⟨g2, c2, h3, _, h4⟩
              · rw [h1] at h3; cases h3
              · rw [h1] at h3
                injection h3 with h3
                injection h3 with h3 _ h5
                injection h3 with h3
                injection h3 with h3
                subst h3 h5
                exact equal_yes _ _ 112 c' 112 c (lo p) (lo p) w2 hf h4.from_ rfl
            rw [h1] at lk
            simp only [Option.getD_some, Option.isSome_some] at lk
            clear h1 h2 HY
            go_wp2_with fail
            refine (HR.out _ (by first | rfl | (simp only [IntKind.wrap_i64]; omega))).mono ?_
            rintro r w7 ⟨g7, c7, rfl, HX⟩
            clear HR lk
            go_wp2_with fail
            refine HX.out.mono ?_
            rintro r w8 ⟨g8, c8, rfl, H8⟩
            clear HX
            obtain ⟨li, HEq⟩ := HQ.out w8 g8 c8 H8.out
            clear HQ
            go_wp2_with fail
            refine HEq.out.mono ?_
            rintro r w9 ⟨rfl, hw⟩
            obtain rfl : w8 = w9 := hw.symm
            clear hw
            go_wp2
            go_roundw
            case rel => exact ⟨p + 1, by omega, by go_num, H8.out.1⟩
            case measure => simp [intOf]; omega
        · obtain rfl : p = 10 := by omega
          go_wp2
          go_ret
          exact ⟨rfl, HY.out.lw.bel⟩
end Go.Proofs.YtnaobkpncfbnaaaGreatDoor
