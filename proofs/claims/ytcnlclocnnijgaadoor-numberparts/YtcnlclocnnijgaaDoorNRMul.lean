/-
  Contracts of the document's Mul. Condition: texts of at most 2^48 bytes.
-/
import Derived.Test.YtcnlclocnnijgaaDoorNRAdd
import Derived.Test.YtcnlclocnnijgaaDoorNumMul10
namespace Go.Proofs.YtcnlclocnnijgaaDoor
open Go.RowKit
set_option linter.unusedVariables false

theorem make_ints (n : Nat) (h : n ≤ 1000000) (w : World) : (Instr.makeSlice 49 (.int .i64 (n : Int)) (.int .i64 (n : Int))).run Tryd.prog w = .ok (.slice (some ⟨w.heap.size, 0, none⟩) n n) (w.alloc (.cells (madeCells #[.int .i64 0] n) 3)) :=
  run_make_row' (P := Tryd.prog) 49 3 (.int .i64 0) 8 Tryd.underlying49 info3 rfl .i64 .i64 n (by omega) (by omega) w

/-- Two stores into an own slice. -/
theorem OwN.set2 {w wr wf : World} {B L k : Nat} {f : Nat → Int} {a b : Int} (ho : OwN .i64 3 wr B (.slice (some ⟨B, 0, none⟩) L L) L f) (hb : Below B w wr) (hk : k + 1 < L)
    (e1 : wf.heap = ((wr.setCell ⟨B, k + 1, none⟩ (.int .i64 a)).setCell ⟨B, k, none⟩ (.int .i64 b)).heap) (e2 : wf.os = wr.os) (e3 : wf.tape = wr.tape) (e4 : wf.output = wr.output) :
    OwN .i64 3 wf B (.slice (some ⟨B, 0, none⟩) L L) L (fun i => if i = k then b else if i = k + 1 then a else f i) ∧ Below B w wf := by
  have q2 : Below B w ((wr.setCell ⟨B, k + 1, none⟩ (.int .i64 a)).setCell ⟨B, k, none⟩ (.int .i64 b)) := (hb.setCell (p := ⟨B, k + 1, none⟩) (Nat.le_refl _) _).setCell (p := ⟨B, k, none⟩) (Nat.le_refl _) _
  exact ⟨row_heap ((ho.set (k + 1) hk a).set k (by omega) b) e1, ⟨e2.trans q2.os, e3.trans q2.tape, e4.trans q2.output, by rw [e1]; exact q2.size, fun i hi => by rw [e1]; exact q2.block i hi⟩⟩

set_option maxRecDepth 100000 in
set_option maxHeartbeats 4000000 in
theorem rMul_ok {a b : ByteArray} {x y : Int} (ha : IsNum a x) (hb : IsNum b y) (w : World) :
    Calls Tryd.prog 20 #[.string a, .string b] w fun e w' => e = .returned (.tuple #[.string (resT (x * y)), .int .i64 (resE (x * y))]) ∧ Below w.heap.size w w' := by
  have HA : Hid (IsNum a x) := ha
  have HB : Hid (IsNum b y) := hb
  have HSg : Hid (sg (decide (x < 0) != decide (y < 0)) (x.natAbs * y.natAbs) = x * y) := sg_mul x y
  have ln1 : Lib.nDigits x.natAbs ≤ 200 := ha.2
  have ln2 : Lib.nDigits y.natAbs ≤ 200 := hb.2
  have lp1 := Lib.nDigits_pos x.natAbs
  have lp2 := Lib.nDigits_pos y.natAbs
  have hX9 := Lib.lt_pow_nDigits x.natAbs
  have hY9 := Lib.lt_pow_nDigits y.natAbs
  clear ha hb
  go_enter Tryd.func20, Tryd.ntmps20
  go_wp2_with fail
  refine (rCan_yes HA.out w).mono ?_
  rintro e w1 ⟨rfl, hw⟩
  obtain rfl : w = w1 := hw.symm
  clear hw
  go_wp2_with fail
  refine (rCan_yes HB.out w).mono ?_
  rintro e w1 ⟨rfl, hw⟩
  obtain rfl : w = w1 := hw.symm
  clear hw
  go_wp2_with fail
  refine (rOf HA.out w).mono ?_
  rintro e w1 ⟨gx, cx, rfl, _, hx, b1⟩
  go_wp2_with fail
  refine (rOf HB.out w1).mono ?_
  rintro e w2 ⟨gy, cy, rfl, _, hy, b2⟩
  have hx2 := hx.below b2 (Nat.le_refl _)
  have B2 : Below w.heap.size w w2 := b1.trans (b2.mono b1.size)
  generalize hu : x.natAbs = u at *
  generalize hv : y.natAbs = v at *
  generalize Lib.nDigits u = n at *
  generalize Lib.nDigits v = m at *
  generalize decide (x < 0) = bx at *
  generalize decide (y < 0) = by' at *
  obtain ⟨W0, hW0⟩ : ∃ W0, (w2.alloc (.cells #[.slice (some ⟨gx, 0, none⟩) n cx, .bool bx] 51)).alloc (.cells #[.slice (some ⟨gy, 0, none⟩) m cy, .bool by'] 51) = W0 := ⟨_, rfl⟩
  have hsz : W0.heap.size = w2.heap.size + 2 := by rw [← hW0]; simp
  have hk0 : Below w2.heap.size w2 W0 := by rw [← hW0]; exact ((Below.refl _ w2).alloc (Nat.le_refl _) _).alloc (by simp) _
  have hX0 : W0.heap[w2.heap.size]? = some (.cells #[.slice (some ⟨gx, 0, none⟩) n cx, .bool bx] 51 (0, 0)) := by
    rw [← hW0, Below.heap_alloc _ _ _ (by simp)]
    exact heap_alloc_at _ _ _ rfl
  have hX1 : W0.heap[w2.heap.size + 1]? = some (.cells #[.slice (some ⟨gy, 0, none⟩) m cy, .bool by'] 51 (0, 0)) := by
    rw [← hW0]
    exact heap_alloc_at _ _ _ (by simp)
  have HF : Hid (∀ wq, Below W0.heap.size W0 wq → Below w.heap.size w wq) := fun wq hq => B2.trans ((hk0.trans (hq.mono (by omega))).mono B2.size)
  have HS : Hid (∀ wq, Below W0.heap.size W0 wq → (wq.cell? ⟨w2.heap.size, 0, none⟩ = some (.slice (some ⟨gx, 0, none⟩) n cx) ∧ wq.cell? ⟨w2.heap.size, 1, none⟩ = some (.bool bx) ∧ wq.cell? ⟨w2.heap.size + 1, 0, none⟩ = some (.slice (some ⟨gy, 0, none⟩) m cy) ∧ wq.cell? ⟨w2.heap.size + 1, 1, none⟩ = some (.bool by')) ∧ (∀ i, i < n → wq.cell? ⟨gx, i, none⟩ = some (.int .i64 (dd u i : Int))) ∧ (∀ i, i < m → wq.cell? ⟨gy, i, none⟩ = some (.int .i64 (dd v i : Int)))) := fun wq hq => by
    have e0 : wq.heap[w2.heap.size]? = _ := (hq.block _ (by omega)).trans hX0
    have e1 : wq.heap[w2.heap.size + 1]? = _ := (hq.block _ (by omega)).trans hX1
    have k : Below w2.heap.size w2 wq := hk0.trans (hq.mono (by omega))
    refine ⟨⟨by rw [cells_at e0 0]; rfl, by rw [cells_at e0 1]; rfl, by rw [cells_at e1 0]; rfl, by rw [cells_at e1 1]; rfl⟩, fun i hi => ?_, fun i hi => ?_⟩
    · obtain ⟨_, _, e, _, _, hr⟩ := (hx2.below k (Nat.le_refl _)).1
      cases e
      rcases hr with h0 | ⟨g, e, hg⟩
      · omega
      · cases e; exact hg i hi
    · obtain ⟨_, _, e, _, _, hr⟩ := (hy.below k (Nat.le_refl _)).1
      cases e
      rcases hr with h0 | ⟨g, e, hg⟩
      · omega
      · cases e; exact hg i hi
  have hcx : n ≤ cx ∧ cx ≤ 9223372036854775807 := by obtain ⟨_, _, e, h1, h2, _⟩ := hx.1; cases e; exact ⟨h1, h2⟩
  have hcy : m ≤ cy ∧ cy ≤ 9223372036854775807 := by obtain ⟨_, _, e, h1, h2, _⟩ := hy.1; cases e; exact ⟨h1, h2⟩
  obtain ⟨M, hM⟩ : ∃ M, n + m = M := ⟨_, rfl⟩
  have hL2 : (n : Int) + (m : Int) + 1 = ((M + 1 : Nat) : Int) := by omega
  have hL3 : (n : Int) + (m : Int) = (M : Int) := by omega
  obtain ⟨MB, hMB⟩ : ∃ MB, madeCells #[.int .i64 0] (M + 1) = MB := ⟨_, rfl⟩
  have hmk : ∀ wq : World, (Instr.makeSlice 49 (.int .i64 ((M : Int) + 1)) (.int .i64 ((M : Int) + 1))).run Tryd.prog wq = .ok (.slice (some ⟨wq.heap.size, 0, none⟩) (M + 1) (M + 1)) (wq.alloc (.cells MB 3)) := fun wq => by
    have h := make_ints (M + 1) (by omega) wq
    rw [hMB, show ((M + 1 : Nat) : Int) = (M : Int) + 1 by omega] at h
    exact h
  have HM : Hid (OwN .i64 3 (W0.alloc (.cells MB 3)) W0.heap.size (.slice (some ⟨W0.heap.size, 0, none⟩) (M + 1) (M + 1)) (M + 1) (fun j => (dd (Vd u v 0) j : Int))) := by
    rw [← hMB]
    refine (own_makes .i64 3 (M + 1) (by omega) W0).ext fun j _ => ?_
    rw [Vd_zero]
    simp [dd]
  have HVf : Hid (Vd u v n = u * v) := Vd_full hX9
  have HVl : Hid (∀ i, i ≤ n → Vd u v i < 10 ^ M) := fun i hi => by rw [← hM]; exact Vd_lt hY9 hi
  have HVs : Hid (∀ i, Vd u v (i + 1) = Vd u v i + dd u i * (v * 10 ^ i)) := fun i => Vd_succ u v i
  have HY9 : Hid (v < 10 ^ m) := hY9
  obtain ⟨⟨g1, g2, g3, g4⟩, _⟩ := HS.out W0 (Below.refl _ _)
  have al : ∀ o, (W0.alloc o).cell? ⟨w2.heap.size, 0, none⟩ = some (.slice (some ⟨gx, 0, none⟩) n cx) := fun o => (HS.out (W0.alloc o) ((Below.refl _ _).alloc (Nat.le_refl _) o)).1.1
  have HFin : Hid (∀ wq, Below W0.heap.size W0 wq → OwN .i64 3 wq W0.heap.size (.slice (some ⟨W0.heap.size, 0, none⟩) (M + 1) (M + 1)) (M + 1) (fun j => (dd (Vd u v n) j : Int)) → Calls Tryd.prog 36 #[.agg #[.slice (some ⟨W0.heap.size, 0, none⟩) (M + 1) (M + 1), .bool (bx != by')]] wq fun e w' => e = .returned (.tuple #[.string (resT (x * y)), .int .i64 (resE (x * y))]) ∧ Below w.heap.size w w') := fun wq hq ho => by
    rw [HVf.out] at ho
    have hlt : u * v < 10 ^ (M + 1) := by
      have h1 := HVl.out n (Nat.le_refl _)
      rw [HVf.out] at h1
      exact Nat.lt_of_lt_of_le h1 (Nat.pow_le_pow_right (by decide) (by omega))
    have := rBText _ (bx != by') (M + 1) (u * v) wq ⟨_, _, rfl, ⟨ho.rd, hlt, by omega⟩, by omega⟩ (by omega)
    rw [HSg.out] at this
    have k := HF.out wq hq
    refine this.mono ?_
    rintro e w4 ⟨rfl, hb4⟩
    exact ⟨rfl, k.trans (hb4.mono k.size)⟩
  clear hMB hx hx2 hy hX0 hX1 hk0 b1 b2 B2 hX9 hY9 hsz hu hv
  go_wp2
  go_loopw [38] (fun i wr => ∃ k : Nat, k ≤ n ∧ i = .int .i64 (k : Int) ∧ Hid (OwN .i64 3 wr W0.heap.size (.slice (some ⟨W0.heap.size, 0, none⟩) (M + 1) (M + 1)) (M + 1) (fun j => (dd (Vd u v k) j : Int))) ∧ Below W0.heap.size W0 wr) (fun i _ => n - (intOf i).toNat)
  case atStart => exact ⟨0, Nat.zero_le _, rfl, HM, (Below.refl _ W0).alloc (Nat.le_refl _) _⟩
  case round =>
    obtain ⟨k, hk, rfl, ho, hb⟩ := hrel
    obtain ⟨⟨d1, d2, d3, d4⟩, d5, d6⟩ := HS.out wr hb
    by_cases hlt : k < n
    · have hlt' : (k : Int) < (n : Int) := by omega
      have hk0 : (0 : Int) ≤ (k : Int) := by omega
      have dk := d5 k hlt
      have hp := dd_lt u k
      have HVn : Hid (Vd u v (k + 1) = Vd u v k + dd u k * (v * 10 ^ k)) := HVs.out k
      have HVm : Hid (Vd u v (k + 1) < 10 ^ M) := HVl.out (k + 1) (by omega)
      obtain ⟨p, hpe⟩ : ∃ p, dd u k = p := ⟨_, rfl⟩
      obtain ⟨V, hVe⟩ : ∃ V, Vd u v k = V := ⟨_, rfl⟩
      rw [hpe] at dk hp HVn
      rw [hVe] at ho HVn
      clear d5 d6 hpe hVe
      go_wp2
      go_loopw [46] (fun i wq => ∃ j : Nat, j ≤ m ∧ i = .int .i64 (j : Int) ∧ Hid (OwN .i64 3 wq W0.heap.size (.slice (some ⟨W0.heap.size, 0, none⟩) (M + 1) (M + 1)) (M + 1) (fun t => (Ak V p v k j t : Int))) ∧ Below W0.heap.size W0 wq) (fun i _ => m - (intOf i).toNat)
      case atStart => exact ⟨0, Nat.zero_le _, rfl, ho.out.ext (fun t _ => by rw [Ak_zero]), hb⟩
      case round =>
        obtain ⟨j, hj, rfl, ho2, hb2⟩ := hrel
        by_cases hjl : j < m
        · have hjl' : (j : Int) < (m : Int) := by omega
          have hj0 : (0 : Int) ≤ (j : Int) := by omega
          have hkj0 : (0 : Int) ≤ (k : Int) + (j : Int) := by omega
          have hkj1 : (k : Int) + (j : Int) < (M : Int) + 1 := by omega
          have hcy := (HS.out wr hb2).2.2 j hjl
          have hcell := ho2.out.cellF (k + j) (by omega)
          rw [Ak_at] at hcell
          have hfree := ho2.out.freeF (k + j)
          have hX := dd_lt V (k + j)
          have hY := dd_lt v j
          have hPm := Nat.mul_le_mul (show p ≤ 9 by omega) (show dd v j ≤ 9 by omega)
          obtain ⟨P, hP⟩ : ∃ P, p * dd v j = P := ⟨_, rfl⟩
          have hPi : (p : Int) * (dd v j : Int) = (P : Int) := by rw [← hP]; simp
          have HN : Hid (∀ wf : World, wf = wr.setCell ⟨W0.heap.size, k + j, none⟩ (.int .i64 ((dd V (k + j) : Int) + (P : Int))) → OwN .i64 3 wf W0.heap.size (.slice (some ⟨W0.heap.size, 0, none⟩) (M + 1) (M + 1)) (M + 1) (fun t => (Ak V p v k (j + 1) t : Int)) ∧ Below W0.heap.size W0 wf) := fun wf e => by
            subst e
            refine ⟨(ho2.out.set (k + j) (by omega) _).ext fun t ht => ?_, hb2.setCell (p := ⟨W0.heap.size, k + j, none⟩) (Nat.le_refl _) _⟩
            rw [← Ak_next, hP]
            by_cases e : t = k + j
            · rw [if_pos e, if_pos e]; simp
            · rw [if_neg e, if_neg e]
          rw [hP] at hPm
          clear ho2 hP
          go_wp2
          go_roundw
          case rel => exact ⟨j + 1, by omega, by go_num, (HN.out _ rfl).1, (HN.out _ rfl).2⟩
          case measure => simp [intOf]; omega
        · obtain rfl : j = m := by omega
          have HO3 : Hid (OwN .i64 3 wr W0.heap.size (.slice (some ⟨W0.heap.size, 0, none⟩) (M + 1) (M + 1)) (M + 1) (fun t => (Br V p (v * 10 ^ k) t : Int))) := ho2.out.ext (fun t _ => by rw [Ak_all HY9.out])
          obtain ⟨Y, hYe⟩ : ∃ Y, v * 10 ^ k = Y := ⟨_, rfl⟩
          rw [hYe] at HO3 HVn
          clear ho2 hYe
          go_wp2
          go_loopw [66] (fun i wq => ∃ t c : Nat, t ≤ M ∧ i = .int .i64 (t : Int) ∧ c ≤ 10 ∧ Hid (c + V / 10 ^ t + p * (Y / 10 ^ t) = (V + p * Y) / 10 ^ t) ∧ Hid (OwN .i64 3 wq W0.heap.size (.slice (some ⟨W0.heap.size, 0, none⟩) (M + 1) (M + 1)) (M + 1) (fun q => (Ck V p Y c t q : Int))) ∧ Below W0.heap.size W0 wq) (fun i _ => M - (intOf i).toNat)
          case atStart => exact ⟨0, 0, Nat.zero_le _, rfl, by omega, by show _ = _; simp, HO3.out.ext (fun q _ => by rw [Ck_zero]), hb2⟩
          case round =>
            obtain ⟨t, c, ht, rfl, hc, hq, ho3, hb3⟩ := hrel
            by_cases htl : t < M
            · have htl' : (t : Int) < (M : Int) := by omega
              have ht0 : (0 : Int) ≤ (t : Int) := by omega
              have ht1 : (t : Int) + 1 < (M : Int) + 1 := by omega
              have ht2 : (0 : Int) ≤ (t : Int) + 1 := by omega
              have ht3 : (t : Int) < (M : Int) + 1 := by omega
              have hc1 := ho3.out.cellF t (by omega)
              have hc2 := ho3.out.cellF (t + 1) (by omega)
              rw [Ck_here] at hc1
              rw [Ck_there] at hc2
              have hf1 := ho3.out.freeF t
              have hf2 := ho3.out.freeF (t + 1)
              obtain ⟨p1, p2⟩ := carry_step hq.out
              have hS9 := Br_le (V := V) (Y := Y) (t := t) hp
              have hT9 := Br_le (V := V) (Y := Y) (t := t + 1) hp
              have hnx := Ck_next (c := c) p1
              obtain ⟨S, hSe⟩ : ∃ S, c + Br V p Y t = S := ⟨_, rfl⟩
              obtain ⟨T, hTe⟩ : ∃ T, Br V p Y (t + 1) = T := ⟨_, rfl⟩
              have hS10 : S ≤ 100 := by omega
              rw [hSe] at hc1 p1 p2 hnx
              rw [hTe] at hc2 hT9 hnx
              have HQ : Hid (S / 10 + V / 10 ^ (t + 1) + p * (Y / 10 ^ (t + 1)) = (V + p * Y) / 10 ^ (t + 1)) := p2
              have hc3 : ∀ z, (wr.setCell ⟨W0.heap.size, t + 1, none⟩ z).cell? ⟨W0.heap.size, t, none⟩ = some (.int .i64 (S : Int)) := fun z => by rw [World.cell?_setCell_other _ _ _ _ (by simp)]; exact hc1
              have hf3 : ∀ z, (wr.setCell ⟨W0.heap.size, t + 1, none⟩ z).frozen? ⟨W0.heap.size, t, none⟩ = false := fun z => by rw [World.frozen?_setCell]; exact hf1
              have HN : Hid (∀ wf : World, wf.heap = ((wr.setCell ⟨W0.heap.size, t + 1, none⟩ (.int .i64 ((T : Int) + (S : Int) / 10))).setCell ⟨W0.heap.size, t, none⟩ (.int .i64 ((S : Int) % 10))).heap → wf.os = wr.os → wf.tape = wr.tape → wf.output = wr.output → OwN .i64 3 wf W0.heap.size (.slice (some ⟨W0.heap.size, 0, none⟩) (M + 1) (M + 1)) (M + 1) (fun q => (Ck V p Y (S / 10) (t + 1) q : Int)) ∧ Below W0.heap.size W0 wf) := fun wf e1 e2 e3 e4 => by
                obtain ⟨o1, o2⟩ := ho3.out.set2 hb3 (by omega) e1 e2 e3 e4
                refine ⟨o1.ext fun q _ => ?_, o2⟩
                rw [← hnx q]
                by_cases r1 : q = t
                · rw [if_pos r1, if_pos r1]; omega
                · rw [if_neg r1, if_neg r1]
                  by_cases r2 : q = t + 1
                  · rw [if_pos r2, if_pos r2]; omega
                  · rw [if_neg r2, if_neg r2]
              clear ho3 hq p1 p2 hnx hSe hTe
              go_wp2_with fail
              go_region
              all_goals
                go_wp2
                go_roundw
                case rel => exact ⟨t + 1, S / 10, by omega, by go_num, by omega, HQ, HN.out _ (by rfl) (by rfl) (by rfl) (by rfl)⟩
                case measure => simp [intOf]; omega
            · obtain rfl : t = M := by omega
              have HO4 : Hid (OwN .i64 3 wr W0.heap.size (.slice (some ⟨W0.heap.size, 0, none⟩) (t + 1) (t + 1)) (t + 1) (fun q => (dd (Vd u v (k + 1)) q : Int))) := ho3.out.ext (fun q hq2 => by rw [HVn.out, Ck_end hq.out (by rw [← HVn.out]; exact HVm.out) hq2])
              clear ho3 hq
              go_wp2
              go_roundw
              case rel => exact ⟨k + 1, by omega, by go_num, HO4, hb3⟩
              case measure => simp [intOf]; omega
    · obtain rfl : k = n := by omega
      have HZ := HFin.out wr hb ho.out
      clear ho d5 d6
      go_wp2_with fail
      refine HZ.mono ?_
      rintro e w4 ⟨rfl, b4⟩
      go_wp2
      go_ret2
      exact ⟨rfl, b4⟩
set_option maxRecDepth 100000 in
theorem rMul_no {a b : ByteArray} (h : ¬ ((∃ x, IsNum a x) ∧ ∃ y, IsNum b y)) (hsa : a.size ≤ 281474976710656) (hsb : b.size ≤ 281474976710656) (w : World) :
    Calls Tryd.prog 20 #[.string a, .string b] w fun e w' => e = .returned (.tuple #[.string ⟨#[]⟩, .int .i64 90]) ∧ Below w.heap.size w w' := by
  by_cases ha : ∃ x, IsNum a x
  · have hb : ¬ ∃ y, IsNum b y := fun hb => h ⟨ha, hb⟩
    obtain ⟨x, ha⟩ := ha
    have HA : Hid (IsNum a x) := ha
    have HB : Hid (¬ ∃ y, IsNum b y) := hb
    clear h ha hb
    go_enter Tryd.func20, Tryd.ntmps20
    go_wp2_with fail
    refine (rCan_yes HA.out w).mono ?_
    rintro e w1 ⟨rfl, hw⟩
    obtain rfl : w = w1 := hw.symm
    clear hw
    go_wp2_with fail
    refine (rCan_no HB.out w hsb).mono ?_
    rintro e w1 ⟨rfl, hw⟩
    obtain rfl : w = w1 := hw.symm
    clear hw
    go_wp2
    go_ret2
    exact ⟨rfl, Below.refl _ _⟩
  · have HA : Hid (¬ ∃ y, IsNum a y) := ha
    clear h ha
    go_enter Tryd.func20, Tryd.ntmps20
    go_wp2_with fail
    refine (rCan_no HA.out w hsa).mono ?_
    rintro e w1 ⟨rfl, hw⟩
    obtain rfl : w = w1 := hw.symm
    clear hw
    go_wp2
    go_ret2
    exact ⟨rfl, Below.refl _ _⟩
end Go.Proofs.YtcnlclocnnijgaaDoor
