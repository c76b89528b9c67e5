/-
  PoolAhead: the law's walk.
-/
import Derived.Test.YtnaobkpncfbnaaaGreatDoorPxC
import Derived.Test.YtnaobkpncfbnaaaGreatDoorPwW
import Derived.Deep.DeepCutAuto
import Derived.Deep.RegionHeld2
namespace Go.Proofs.YtnaobkpncfbnaaaGreatDoor
open Go.RowKit
set_option linter.unusedVariables false

theorem or_zl (n : Nat) (h : n ≤ 255) : bits .or .i64 0 (n : Int) = (n : Int) := by
  have := Wm.i64_or_nat 0 n (by decide) (by omega)
  rw [Nat.zero_or] at this
  exact this
theorem or_zr (n : Nat) (h : n ≤ 255) : bits .or .i64 (n : Int) 0 = (n : Int) := by
  have := Wm.i64_or_nat n 0 (by omega) (by decide)
  rw [Nat.or_zero] at this
  exact this
/-- The state that the law begins with: an empty map. -/
theorem La.new {w0 w : World} {S D L bf : Nat} (h : ∃ P e, Pw w0.heap.size True w P S 0 D L bf 0 X0 0 e 0 0 (fun _ => 0) (fun _ _ => 0) ∧ (∀ b, P b → w0.heap.size ≤ b) ∧ w0.heap.size ≤ S ∧ Below w0.heap.size w0 w) : La w0 S D L bf w.heap.size 0 0 0 (w.alloc (.map #[] 0)) := by
  obtain ⟨P, e, k, low, hS, bel⟩ := h
  have hs := bel.size
  have b1 : Below w.heap.size w (w.alloc (.map #[] 0)) := (Below.refl _ w).alloc (Nat.le_refl _) _
  exact ⟨_, _, fun _ => none, P, 0, X0, 0, e, 0, ⟨k.below b1, bel.trans (b1.mono hs), low, Im.made w, ⟨hs, fun h => by have := k.lt _ h; omega⟩, fun p hp => .inl ⟨rfl, rfl⟩⟩, Nat.le_refl _⟩
set_option maxRecDepth 100000 in
set_option maxHeartbeats 8000000 in
theorem ahead_walk (z0 : Int) (a0 : Option Addr) (N c0 : Nat) (w : World) (hz : -9223372036854775808 ≤ z0 ∧ z0 ≤ 9223372036854775807) (hN : N ≤ 9223372036854775806) (hd : DosW w a0 N) (ht : Tab w) :
    Calls Tryz.prog 3 #[.int .i64 z0, .slice a0 N c0] w fun e w' => e = .returned (.bool true) ∧ Below w.heap.size w w' := by
  have HD : Hid (DosW w a0 N) := hd
  have hmm := @run_makeMap Tryz.prog
  have HN : Hid (Calls Tryz.prog 6 #[.int .i64 14] w fun r w' => ∃ D, r = .returned (.tuple #[.pointer (some ⟨D, 0, none⟩), .int .i64 0]) ∧ Hid (Sd w' D (fun k => w.heap.size ≤ k ∧ k < w'.heap.size) 14 0 (fun _ => 0) ∧ Below w.heap.size w w' ∧ Tab w' ∧ Tab w)) := n_disk w ht
  obtain ⟨t5, h5, e5, w5, x5⟩ := umod z0 4 (by decide) (by decide)
  have HE5 : Hid (((IntKind.u64.wrap z0).tmod 4 = (t5 : Int)) ∧ wrap64 (t5 : Int) = (t5 : Int) ∧ wrap64 (1 + (t5 : Int)) = ((t5 + 1 : Nat) : Int)) := ⟨e5, w5, x5⟩
  obtain ⟨bf, hbf⟩ : ∃ bf, t5 + 1 = bf := ⟨_, rfl⟩
  rw [hbf] at HE5
  have b1 : 1 ≤ bf := by omega
  have b5 : bf ≤ 5 := by omega
  clear hd e5 w5 x5 hbf h5 hz ht
  go_enter Tryz.func3, Tryz.ntmps3
  go_wp2_with fail
  refine HN.out.mono ?_
  rintro r w1 ⟨D, rfl, HF⟩
  go_wp2_with fail
  refine (n_log HF.out).mono ?_
  rintro r w2 ⟨L, vr, rfl, HG⟩
  clear HF HN
  go_wp2_with fail
  rw [HE5.out.1, HE5.out.2.1, HE5.out.2.2]
  clear HE5
  refine (n_pool True HG.out b1 b5).mono ?_
  rintro r w3 ⟨S, rfl, HW⟩
  clear HG
  have HL0 : Hid (La w S D L bf w3.heap.size 0 0 0 (w3.alloc (.map #[] 0))) := La.new HW.out
  clear HW
  go_wp2
  obtain ⟨mb, hmb⟩ : ∃ mb, w3.heap.size = mb := ⟨_, rfl⟩
  rw [hmb] at HL0 ⊢
  generalize w3.alloc (.map #[] 0) = w4 at *
  clear hmb hmm
  go_loopw [64] (fun s wr => ∃ k : Nat, k ≤ N ∧ k ≤ 41 ∧ s = .int .i64 (k : Int) ∧ Hid (La w S D L bf mb k k (2 * k) wr)) (fun i _ => N - (intOf i).toNat)
  case atStart => exact ⟨0, Nat.zero_le _, by decide, rfl, HL0⟩
  case round =>
    clear HL0
    obtain ⟨k, hk, hk41, rfl, HB⟩ := hrel
    by_cases hlt : k < N
    · have hlt' : (k : Int) < (N : Int) := by omega
      have hk0 : (0 : Int) ≤ (k : Int) := by omega
      obtain ⟨b, off, rfl, op, z, l9, a, l, c, f, hdo⟩ := HD.out k hlt
      obtain ⟨q0, q1, q2, q3, q4, q5, q6, q7, q8⟩ := hdo.below HB.out.bel (Nat.le_refl _)
      obtain ⟨o, hO⟩ : ∃ o, Obj.cells #[.int .i64 op, .int .i64 z, .int .i64 l9, .slice a l c] 38 = o := ⟨_, rfl⟩
      have hsz : (wr.alloc o).heap.size = wr.heap.size + 1 := by simp
      have hbo : Below wr.heap.size wr (wr.alloc o) := (Below.refl _ wr).alloc (Nat.le_refl _) o
      by_cases h41 : k < 41
      · have h40 : (k : Int) ≤ 40 := by omega
        have hbx : (wr.alloc o).heap[wr.heap.size]? = some (.cells #[.int .i64 op, .int .i64 z, .int .i64 l9, .slice a l c] 38 (0, 0)) := by rw [← hO]; exact heap_alloc_at _ _ _ rfl
        have kN : (wr.alloc o).cell? ⟨wr.heap.size, 1, none⟩ = some (.int .i64 z) := by rw [cells_at hbx 1]; rfl
        obtain ⟨t10, h10, e10, w10, _⟩ := umod z 10 (by decide) (by decide)
        have HT10 : Hid ((IntKind.u64.wrap z).tmod 10 = (t10 : Int) ∧ wrap64 (t10 : Int) = (t10 : Int)) := ⟨e10, w10⟩
        clear w10
        have HAp : Hid (∀ o2 g, o2 = Obj.cells #[.int .u8 1] 5 → g = wr.heap.size + 1 → Calls Tryz.prog 9 #[.pointer (some ⟨L, 0, none⟩), .slice (some ⟨g, 0, none⟩) 1 1] ((wr.alloc o).alloc o2) fun r w' => (r = .returned (.tuple #[.int .i64 0, .int .i64 4]) ∧ Hid (Below w.heap.size w w')) ∨ (∃ x, x = (k : Int) + 1 ∧ r = .returned (.tuple #[.int .i64 x, .int .i64 0]) ∧ Hid (Lb w S D L bf mb (k + 1) k (2 * k) wr.heap.size #[.int .i64 op, .int .i64 z, .int .i64 l9, .slice a l c] w'))) := fun o2 g ho2 hg => by
          subst ho2 hg
          have hb2 : Below (wr.alloc o).heap.size (wr.alloc o) ((wr.alloc o).alloc (.cells #[.int .u8 1] 5)) := (Below.refl _ _).alloc (Nat.le_refl _) _
          exact a_append HB.out (by omega) (hbo.trans (hb2.mono hbo.size)) wr.heap.size _ (Nat.le_refl _) ((hb2.block _ (by omega)).trans hbx) (wr.heap.size + 1) 1 (by omega) (by rw [cells_at (heap_alloc_at (wr.alloc o) _ _ hsz.symm) 0]; rfl)
        have HDo : Hid (DoW w b (off + k * 4) op z l9 a l c f) := hdo
        clear HB hdo hbx q4 hsz hbo
        go_wp2_with fail
        try rw [hO]
        clear q0 q1 q2 q3 kN
        refine (HAp.out _ _ rfl (by first | rfl | simp)).mono ?_
        rintro r w2 (⟨rfl, HZ⟩ | ⟨x, hx, rfl, HL⟩)
        · clear HAp HDo
          go_wp2
          go_ret
          exact ⟨rfl, HZ.out⟩
        · have bx := HL.out.box
          obtain ⟨r0, r1, r2, r3, r4, _⟩ := HDo.out.below HL.out.la.bel (Nat.le_refl _)
          have kB : w2.cell? ⟨wr.heap.size, 3, none⟩ = some (.slice a l c) := by rw [cells_at bx 3]; rfl
          have hxl : wr.heap.size < w2.heap.size := (Array.getElem?_eq_some_iff.1 bx).1
          have HI : Hid (∀ wq, Below w2.heap.size w2.drew wq → wq.cell? ⟨wr.heap.size, 3, none⟩ = some (.slice a l c)) := fun wq hq => by
            rw [hq.cell (p := ⟨wr.heap.size, 3, none⟩) hxl]; exact kB
          have HF : Hid (∀ t, t ≤ l → From w2.drew a t f) := fun t ht => (r4.below (B := w2.heap.size) (blw_drewN 1 (Below.refl _ _)) (Nat.le_refl _)).short ht
          have HW : Hid (∀ (t : Nat) (wq : World) (v2 : Value), t ≤ 112 → Own wq w2.heap.size v2 (lst f t ++ lst (fun _ => 0) (112 - t)) → Below w2.heap.size w2.drew wq → ∃ g2 c2, v2 = .slice (some ⟨g2, 0, none⟩) 112 c2 ∧
              Hid (∀ x, x = (k : Int) + 1 → Calls Tryz.prog 11 #[.pointer (some ⟨S + 1, 0, none⟩), .int .i64 (t10 : Int), .int .i64 x, .slice (some ⟨g2, 0, none⟩) 112 c2] wq fun r w1 => r = .returned (.int .i64 0) ∧ ∃ w2, (Instr.mapUpdate 35 (.map (some mb)) (.int .i64 (t10 : Int)) (.slice (some ⟨g2, 0, none⟩) 112 c2)).run Tryz.prog w1 = .ok () w2 ∧ Hid (Lb w S D L bf mb (k + 1) (k + 1) (2 * k + 1) wr.heap.size #[.int .i64 op, .int .i64 z, .int .i64 l9, .slice a l c] w2))) := fun t wq v2 ht ho hb2 => by
            rw [lst_app, show t + (112 - t) = 112 by omega] at ho
            obtain ⟨g2, c2, rfl, ho2, _⟩ := own_some ho (by omega)
            have hbq : Below w2.heap.size w2 wq := (blw_drewN 1 (Below.refl _ w2)).trans hb2
            refine ⟨g2, c2, rfl, fun x hx => a_put HL.out (by omega) (by omega) hbq h10 (by omega) (f := fun k => if k < t then f k else 0) ho2 (fun j => ?_) x hx⟩
            show 0 ≤ (if j < t then f j else 0) ∧ (if j < t then f j else 0) ≤ 255
            split
            · exact q5 j
            · decide
          clear HAp HDo HL bx r0 r1 r2 r3 r4
          subst hx
          go_upto_region 15 with fail
          go_cut [18] (fun s18 wc => ∃ g2 c2, s18 = .slice (some ⟨g2, 0, none⟩) 112 c2 ∧ Hid (∀ x, x = (k : Int) + 1 → Calls Tryz.prog 11 #[.pointer (some ⟨S + 1, 0, none⟩), .int .i64 (t10 : Int), .int .i64 x, .slice (some ⟨g2, 0, none⟩) 112 c2] wc fun r w1 => r = .returned (.int .i64 0) ∧ ∃ w2, (Instr.mapUpdate 35 (.map (some mb)) (.int .i64 (t10 : Int)) (.slice (some ⟨g2, 0, none⟩) 112 c2)).run Tryz.prog w1 = .ok () w2 ∧ Hid (Lb w S D L bf mb (k + 1) (k + 1) (2 * k + 1) wr.heap.size #[.int .i64 op, .int .i64 z, .int .i64 l9, .slice a l c] w2)))
          case first =>
            by_cases hl112 : l ≤ 112
            · have hl' : (l : Int) ≤ 112 := by omega
              have hlc : (l : Int) ≤ (c : Int) := by omega
              have e112 : (112 : Int) - (l : Int) = ((112 - l : Nat) : Int) := by omega
              have ew : IntKind.i64.wrap ((112 - l : Nat) : Int) = ((112 - l : Nat) : Int) := by rw [IntKind.wrap_i64]; omega
              have HX : Hid ((lst f l).length + (112 - l) ≤ 140737488355328) := (by rw [lst_length]; omega : (lst f l).length + (112 - l) ≤ 140737488355328)
              go_wp2
              have hl2 : ((112 : Int) < (l : Int)) = False := eq_false (by omega)
              go_region_held2 (fun wq => wq.cell? ⟨wr.heap.size, 3, none⟩ = some (.slice a l c))
                (first | exact HI.out _ (by assumption) | go_keep)
                (first
                  | (refine step_zeros rfl _ _ rfl w2.heap.size v1 (lst f l) (by go_simp) (by exact ho1) (112 - l) (by go_simp) HX.out (by omega) ?_; intro v2 w3 ho2 hb2; have hb3 := hb1.trans hb2; obtain ⟨g2, c2, hv2, HC3⟩ := HW.out l w3 v2 (by omega) ho2 hb3; subst hv2; clear ho2 ho1)
                  | (go_at_call 10; refine (clone a l c f _ (by omega) (by exact HF.out l (by omega))).mono ?_; rintro e' w3 ⟨v1, rfl, ho1, hb1⟩; have hs3 : w2.heap.size ≤ w3.heap.size := by have := hb1.size; simp at this; omega))
              all_goals
                go_wp2_with fail
                go_meet
                exact ⟨g2, c2, rfl, HC3⟩
            · have hl' : ¬ (l : Int) ≤ 112 := by omega
              have hl2 : (112 : Int) < (l : Int) := by omega
              have hc2 : (112 : Int) ≤ (c : Int) := by omega
              have ew : IntKind.i64.wrap 0 = 0 := rfl
              have HX : Hid ((lst f 112).length + (112 - 112) ≤ 140737488355328) := (by rw [lst_length]; omega : (lst f 112).length + (112 - 112) ≤ 140737488355328)
              go_wp2
              have hl3 : (112 : Int) < (l : Int) := by omega
              go_region_held2 (fun wq => wq.cell? ⟨wr.heap.size, 3, none⟩ = some (.slice a l c))
                (first | exact HI.out _ (by assumption) | go_keep)
                (first
                  | (refine step_zeros rfl _ _ rfl w2.heap.size v1 (lst f 112) (by go_simp) (by exact ho1) (112 - 112) (by go_simp) HX.out (by omega) ?_; intro v2 w3 ho2 hb2; have hb3 := hb1.trans hb2; obtain ⟨g2, c2, hv2, HC3⟩ := HW.out 112 w3 v2 (by omega) ho2 hb3; subst hv2; clear ho2 ho1)
                  | (go_at_call 10; refine (clone a 112 c f _ (by omega) (by exact HF.out 112 (by omega))).mono ?_; rintro e' w3 ⟨v1, rfl, ho1, hb1⟩; have hs3 : w2.heap.size ≤ w3.heap.size := by have := hb1.size; simp at this; omega))
              all_goals
                go_wp2_with fail
                go_meet
                exact ⟨g2, c2, rfl, HC3⟩
          case rest =>
            obtain ⟨g2, c2, rfl, HC3⟩ := hcut
            clear HF HW HI kB
            go_wp2_with fail
            rw [HT10.out.1, HT10.out.2]
            refine (HC3.out _ (by first | rfl | omega | (simp only [IntKind.wrap_i64]; omega))).mono ?_
            rintro r w5 ⟨rfl, w6, r6, HE⟩
            clear HC3
            go_upto_region 19 with fail
            have kO : w6.cell? ⟨wr.heap.size, 0, none⟩ = some (.int .i64 op) := by rw [cells_at HE.out.box 0]; rfl
            go_cut [118] (fun s wc => s = .bool false ∧ Hid (La w S D L bf mb (k + 1) (k + 1) (2 * (k + 1)) wc))
            case first =>
              by_cases hop : op.tmod 3 = 0
              · have HFl : Hid (Calls Tryz.prog 12 #[.pointer (some ⟨S + 1, 0, none⟩), .int .i64 (t10 : Int)] w6 fun r w' => r = .returned (.int .i64 0) ∧ Hid (La w S D L bf mb (k + 1) (k + 1) (2 * (k + 1)) w')) := (a_flush HE.out.la (by omega) h10).mono fun r w' ⟨hr, h⟩ => ⟨hr, h.out⟩
                go_wp2_with fail
                refine HFl.out.mono ?_
                rintro r w7 ⟨rfl, HG⟩
                go_wp2_with fail
                go_meet
                exact ⟨rfl, HG⟩
              · have HG : Hid (La w S D L bf mb (k + 1) (k + 1) (2 * (k + 1)) w6) := HE.out.la.more (by omega)
                go_wp2_with fail
                go_meet
                exact ⟨rfl, HG⟩
            case rest =>
              obtain ⟨rfl, HG⟩ := hcut
              clear HE kO
              go_wp2
              go_loopw [119] (fun s wr => ∃ p : Nat, p ≤ 10 ∧ s = .int .i64 (p : Int) ∧ Hid (La w S D L bf mb (k + 1) (k + 1) (2 * (k + 1)) wr)) (fun i _ => 10 - (intOf i).toNat)
              case atStart => exact ⟨0, by decide, rfl, HG⟩
              case round =>
                clear HG
                obtain ⟨p, hp, rfl, HY⟩ := hrel
                by_cases hp10 : p < 10
                · have p1 : (p : Int) < 10 := by omega
                  have p0 : (0 : Int) ≤ (p : Int) := by omega
                  go_wp2_with fail
                  refine (a_read HY.out (by omega) (by omega) hp10 _ (by first | rfl | (simp only [IntKind.wrap_i64]; omega))).mono ?_
                  rintro r w7 ⟨g7, c7, l7, fo, rfl, hlf, hfo, hc7, HCl, HFo, HZ⟩
                  clear HY
                  go_wp2
                  go_loopw [22, 136] (fun on j wq => ∃ i : Nat, i ≤ 8 ∧ j = .int .i64 (i : Int) ∧ on = .int .i64 (if i = 0 then 0 else (l7 : Int)) ∧ wq = w7) (fun _ j _ => 8 - (intOf j).toNat)
                  case atStart => exact ⟨0, by decide, rfl, rfl, rfl⟩
                  case round =>
                    obtain ⟨i, hi, rfl, rfl, hw⟩ := hrel
                    obtain rfl : w7 = wr := hw.symm
                    clear hw
                    by_cases hi8 : i < 8
                    · have e1 : i = 0 ∨ i = 1 ∨ i = 2 ∨ i = 3 ∨ i = 4 ∨ i = 5 ∨ i = 6 ∨ i = 7 := by omega
                      have l0 : (0 : Int) ≤ (l7 : Int) := by omega
                      have l1 : (l7 : Int) ≤ 255 := by omega
                      rcases e1 with rfl | rfl | rfl | rfl | rfl | rfl | rfl | rfl
                      · have hc : w7.cell? ⟨g7, 4, none⟩ = some (.int .u8 (l7 : Int)) := HCl.out 0 (by decide)
                        rw [if_pos rfl]
                        go_wp2
                        go_roundw
                        case rel => exact ⟨1, by decide, by go_num, by rw [or_zl l7 (by omega)]; rfl, trivial⟩
                        case measure => simp [intOf]
                      · have hc : w7.cell? ⟨g7, 5, none⟩ = some (.int .u8 0) := HCl.out 1 (by decide)
                        rw [if_neg (by decide)]
                        go_wp2
                        go_roundw
                        case rel => exact ⟨2, by decide, by go_num, by rw [or_zr l7 (by omega)]; rfl, trivial⟩
                        case measure => simp [intOf]
                      · have hc : w7.cell? ⟨g7, 6, none⟩ = some (.int .u8 0) := HCl.out 2 (by decide)
                        rw [if_neg (by decide)]
                        go_wp2
                        go_roundw
                        case rel => exact ⟨3, by decide, by go_num, by rw [or_zr l7 (by omega)]; rfl, trivial⟩
                        case measure => simp [intOf]
                      · have hc : w7.cell? ⟨g7, 7, none⟩ = some (.int .u8 0) := HCl.out 3 (by decide)
                        rw [if_neg (by decide)]
                        go_wp2
                        go_roundw
                        case rel => exact ⟨4, by decide, by go_num, by rw [or_zr l7 (by omega)]; rfl, trivial⟩
                        case measure => simp [intOf]
                      · have hc : w7.cell? ⟨g7, 8, none⟩ = some (.int .u8 0) := HCl.out 4 (by decide)
                        rw [if_neg (by decide)]
                        go_wp2
                        go_roundw
                        case rel => exact ⟨5, by decide, by go_num, by rw [or_zr l7 (by omega)]; rfl, trivial⟩
                        case measure => simp [intOf]
                      · have hc : w7.cell? ⟨g7, 9, none⟩ = some (.int .u8 0) := HCl.out 5 (by decide)
                        rw [if_neg (by decide)]
                        go_wp2
                        go_roundw
                        case rel => exact ⟨6, by decide, by go_num, by rw [or_zr l7 (by omega)]; rfl, trivial⟩
                        case measure => simp [intOf]
                      · have hc : w7.cell? ⟨g7, 10, none⟩ = some (.int .u8 0) := HCl.out 6 (by decide)
                        rw [if_neg (by decide)]
                        go_wp2
                        go_roundw
                        case rel => exact ⟨7, by decide, by go_num, by rw [or_zr l7 (by omega)]; rfl, trivial⟩
                        case measure => simp [intOf]
                      · have hc : w7.cell? ⟨g7, 11, none⟩ = some (.int .u8 0) := HCl.out 7 (by decide)
                        rw [if_neg (by decide)]
                        go_wp2
                        go_roundw
                        case rel => exact ⟨8, by decide, by go_num, by rw [or_zr l7 (by omega)]; rfl, trivial⟩
                        case measure => simp [intOf]
                    · obtain rfl : i = 8 := by omega
                      have hlf' : ¬ (fo : Int) < (l7 : Int) := by omega
                      have HF0 : Hid (Calls Tryz.prog 14 #[.pointer (some ⟨L, 0, none⟩)] w7 fun r w2 => r = .returned (.int .i64 (fo : Int)) ∧ w2 = w7) := HFo.out 0
                      rw [if_neg (by decide)]
                      clear HFo HCl
                      go_wp2_with fail
                      refine HF0.out.mono ?_
                      rintro r w9 ⟨rfl, hw⟩
                      obtain rfl : w7 = w9 := hw.symm
                      clear hw HF0
                      go_wp2
                      go_roundw
                      case rel => exact ⟨p + 1, by omega, by go_num, HZ⟩
                      case measure => simp [intOf]; omega
                · obtain rfl : p = 10 := by omega
                  go_wp2
                  go_roundw
                  case rel => exact ⟨k + 1, by omega, by omega, by go_num, HY⟩
                  case measure => simp [intOf]; omega
      · have h40 : (40 : Int) < (k : Int) := by omega
        have HB2 : Hid (La w S D L bf mb k k (2 * k) (wr.alloc o)) := HB.out.below hbo
        clear HB hdo
        go_wp2_with fail
        try rw [hO]
        obtain ⟨ln, lo, fv, hL⟩ := HB2.out
        have H6 : Hid (Lc w S D L bf mb k k (2 * k) ln lo fv _) := hL
        clear HB2 hL
        go_wp2
        go_loopw [157] (fun s wr => ∃ p : Nat, p ≤ 10 ∧ s = .int .i64 (p : Int) ∧ Hid (Lc w S D L bf mb k k (2 * k + p) ln lo fv wr)) (fun i _ => 10 - (intOf i).toNat)
        case atStart => exact ⟨0, by decide, rfl, H6⟩
        case round =>
          clear H6
          obtain ⟨p, hp, rfl, HY⟩ := hrel
          by_cases hp10 : p < 10
          · obtain ⟨lk, hv⟩ := HY.out.look hp10
            have p1 : (p : Int) < 10 := by omega
            have p0 : (0 : Int) ≤ (p : Int) := by omega
            rcases hv with h1 | ⟨g, c, h1⟩
            · rw [h1] at lk
              simp only [Option.getD_none, Option.isSome_none] at lk
              have HY2 : Hid (Lc w S D L bf mb k k (2 * k + (p + 1)) ln lo fv wr) := HY.out.more (by omega)
              clear h1 HY
              go_wp2
              go_roundw
              case rel => exact ⟨p + 1, by omega, by go_num, HY2⟩
              case measure => simp [intOf]; omega
            · have HG : Hid (Calls Tryz.prog 15 #[.pointer (some ⟨S + 1, 0, none⟩), .int .i64 (p : Int)] wr fun r w' => ∃ g' c', r = .returned (.tuple #[.slice (some ⟨g', 0, none⟩) 112 c', .int .i64 (ln p : Int), .int .i64 0]) ∧ Hid (Lc w S D L bf mb k k (2 * k + p + 1) ln lo fv w') ∧ Hid (Calls Tryz.prog 16 #[.slice (some ⟨g', 0, none⟩) 112 c', .slice (some ⟨g, 0, none⟩) 112 c] w' fun r w2 => r = .returned (.bool true) ∧ w2 = w')) := a_get HY.out (by omega) (by omega) hp10 h1
              rw [h1] at lk
              simp only [Option.getD_some, Option.isSome_some] at lk
              clear h1 HY
              go_wp2_with fail
              refine HG.out.mono ?_
              rintro r w7 ⟨g7, c7, rfl, HE, HEq⟩
              clear HG lk
              go_wp2_with fail
              refine HEq.out.mono ?_
              rintro r w9 ⟨rfl, hw⟩
              obtain rfl : w7 = w9 := hw.symm
              clear hw HEq
              go_wp2
              go_roundw
              case rel => exact ⟨p + 1, by omega, by go_num, HE⟩
              case measure => simp [intOf]; omega
          · obtain rfl : p = 10 := by omega
            go_wp2_with fail
            refine (a_all HY.out (by omega)).mono ?_
            rintro r w7 ⟨rfl, _, HT⟩
            clear HY
            go_wp2_with fail
            refine HT.out.mono ?_
            rintro r w8 ⟨rfl, HZ⟩
            go_wp2
            go_ret
            exact ⟨rfl, HZ.out⟩
    · have hlt' : ¬ (k : Int) < (N : Int) := by omega
      go_wp2_with fail
      obtain ⟨ln, lo, fv, hL⟩ := HB.out
      have H6 : Hid (Lc w S D L bf mb k k (2 * k) ln lo fv _) := hL
      clear HB hL
      go_wp2
      go_loopw [157] (fun s wr => ∃ p : Nat, p ≤ 10 ∧ s = .int .i64 (p : Int) ∧ Hid (Lc w S D L bf mb k k (2 * k + p) ln lo fv wr)) (fun i _ => 10 - (intOf i).toNat)
      case atStart => exact ⟨0, by decide, rfl, H6⟩
      case round =>
        clear H6
        obtain ⟨p, hp, rfl, HY⟩ := hrel
        by_cases hp10 : p < 10
        · obtain ⟨lk, hv⟩ := HY.out.look hp10
          have p1 : (p : Int) < 10 := by omega
          have p0 : (0 : Int) ≤ (p : Int) := by omega
          rcases hv with h1 | ⟨g, c, h1⟩
          · rw [h1] at lk
            simp only [Option.getD_none, Option.isSome_none] at lk
            have HY2 : Hid (Lc w S D L bf mb k k (2 * k + (p + 1)) ln lo fv wr) := HY.out.more (by omega)
            clear h1 HY
            go_wp2
            go_roundw
            case rel => exact ⟨p + 1, by omega, by go_num, HY2⟩
            case measure => simp [intOf]; omega
          · have HG : Hid (Calls Tryz.prog 15 #[.pointer (some ⟨S + 1, 0, none⟩), .int .i64 (p : Int)] wr fun r w' => ∃ g' c', r = .returned (.tuple #[.slice (some ⟨g', 0, none⟩) 112 c', .int .i64 (ln p : Int), .int .i64 0]) ∧ Hid (Lc w S D L bf mb k k (2 * k + p + 1) ln lo fv w') ∧ Hid (Calls Tryz.prog 16 #[.slice (some ⟨g', 0, none⟩) 112 c', .slice (some ⟨g, 0, none⟩) 112 c] w' fun r w2 => r = .returned (.bool true) ∧ w2 = w')) := a_get HY.out (by omega) (by omega) hp10 h1
            rw [h1] at lk
            simp only [Option.getD_some, Option.isSome_some] at lk
            clear h1 HY
            go_wp2_with fail
            refine HG.out.mono ?_
            rintro r w7 ⟨g7, c7, rfl, HE, HEq⟩
            clear HG lk
            go_wp2_with fail
            refine HEq.out.mono ?_
            rintro r w9 ⟨rfl, hw⟩
            obtain rfl : w7 = w9 := hw.symm
            clear hw HEq
            go_wp2
            go_roundw
            case rel => exact ⟨p + 1, by omega, by go_num, HE⟩
            case measure => simp [intOf]; omega
        · obtain rfl : p = 10 := by omega
          go_wp2_with fail
          refine (a_all HY.out (by omega)).mono ?_
          rintro r w7 ⟨rfl, _, HT⟩
          clear HY
          go_wp2_with fail
          refine HT.out.mono ?_
          rintro r w8 ⟨rfl, HZ⟩
          go_wp2
          go_ret
          exact ⟨rfl, HZ.out⟩
end Go.Proofs.YtnaobkpncfbnaaaGreatDoor
