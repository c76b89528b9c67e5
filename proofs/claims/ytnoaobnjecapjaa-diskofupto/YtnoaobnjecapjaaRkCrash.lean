/-
  Contract of the document's Crash over Rk.
-/
import Derived.Test.YtnoaobnjecapjaaRkFlush
namespace Go.Proofs.Ytnoaobnjecapjaa
open Go.RowKit
set_option linter.unusedVariables false

theorem RkK.start {w : World} {X gB cB : Nat} {vP : Value} {rb rc pb pc : Nat → Nat} {F : Nat → Prop} {n : Nat} {dur : Nat → Int} {m : Nat} {tf : Nat → Nat} {ld : Nat → Int} (st : Nat → Bool) (h : RkAt w X gB cB vP rb rc pb pc F n dur m tf ld) : RkK w w X gB cB vP pb pc F n dur m tf ld st 0 :=
  ⟨rb, rc, { h with FX := .inl h.FX, FB := .inl h.FB, FP := fun k hk => .inl (h.FP k hk), Fr := fun i hi => .inl (h.Fr i hi), Fp := fun j hj => .inl (h.Fp j hj), lt := fun q hq => hq.elim (h.lt q) (fun hq => hq.2) }, Part.refl _ _⟩

set_option maxRecDepth 100000 in
set_option maxHeartbeats 2000000 in
theorem rkCrash (X n m : Nat) (F : Nat → Prop) (dur : Nat → Int) (tf : Nat → Nat) (ld : Nat → Int) (ak : Option Addr) (K ck : Nat) (kf : Nat → Int) (w : World) (h : Rk w X F n dur m tf ld) (hm : m ≤ 549755813887) (hK : K ≤ 9223372036854775807) (hk : FromI w ak K kf) (hr : ∀ j, j < K → -9223372036854775808 ≤ kf j ∧ kf j ≤ 9223372036854775807) :
    Calls Try.prog 24 #[.pointer (some ⟨X, 0, none⟩), .slice ak K ck] w fun e w' => (Good kf m K ∧ e = .returned (.int .i64 0) ∧ Rk w' X (fun k => F k ∨ (w.heap.size ≤ k ∧ k < w'.heap.size)) n (setl dur tf ld (named kf K) m) 0 tf ld ∧ Part F w w') ∨ (¬ Good kf m K ∧ e = .returned (.int .i64 20) ∧ Below w.heap.size w w') := by
  obtain ⟨gB, cB, vP, rb, rc, pb, pc, h⟩ := h
  have k0 : w.cell? ⟨X, 0, none⟩ = some (.slice (some ⟨gB, 0, none⟩) n cB) := cells_at h.hX 0
  have k1 : w.cell? ⟨X, 1, none⟩ = some vP := cells_at h.hX 1
  obtain ⟨aP, cP, rfl⟩ : ∃ aP cP, vP = .slice aP m cP := by
    rcases h.oP.2 with ⟨rfl, h0⟩ | ⟨g, cap, cur, rfl, _⟩
    · rw [h0]; exact ⟨none, 0, rfl⟩
    · exact ⟨_, cap, rfl⟩
  have HFX : Hid (F X) := h.FX
  have HFl : Hid (∀ k, F k → k < w.heap.size) := h.lt
  have hXl := h.lt _ h.FX
  have HA : Hid (RkAt w X gB cB (.slice aP m cP) rb rc pb pc F n dur m tf ld) := h
  clear h
  obtain ⟨MS, hMS⟩ : ∃ MS, madeCells #[.bool false] m = MS := ⟨_, rfl⟩
  have hms : ∀ w : World, (Instr.makeSlice 80 (.int .i64 (m : Int)) (.int .i64 (m : Int))).run Try.prog w = .ok (.slice (some ⟨w.heap.size, 0, none⟩) m m) (w.alloc (.cells MS 4)) := fun w => by
    rw [← hMS]
    exact run_make_row' (P := Try.prog) 80 4 (.bool false) 1 Try.underlying80 info4 rfl .i64 .i64 m (by omega) (by omega) w
  have HMS : Hid (∀ i, i < m → MS[i]? = some (.bool false)) := fun i hi => by
    rw [← hMS]
    simp [madeCells, hi]
    rw [Nat.mod_one]
    rfl
  obtain ⟨o, hO⟩ : ∃ o, Obj.cells MS 4 = o := ⟨_, rfl⟩
  have H0 : Hid (Bls (w.alloc o) w.heap.size m (named kf 0)) := fun j hj => by
    rw [← hO]
    exact ⟨by rw [World.cell?_alloc_at _ _ _ _ rfl]; exact HMS.out j hj, by simp only [World.frozen?_alloc_new]⟩
  have HKr : Hid (∀ wr : World, Only w.heap.size (w.alloc o) wr → (∀ k, k < K → ∃ b off, ak = some ⟨b, off, none⟩ ∧ wr.cell? ⟨b, off + k, none⟩ = some (.int .i64 (kf k))) ∧ wr.cell? ⟨X, 1, none⟩ = some (.slice aP m cP)) := fun wr hon => by
    refine ⟨fun k hlt => ?_, ?_⟩
    · obtain ⟨b, off, e, hc⟩ := hk k hlt
      have hb : b < w.heap.size := World.block_lt_of_cell? w _ hc
      refine ⟨b, off, e, ?_⟩
      rw [hon.cell (p := ⟨b, off + k, none⟩) (by show b ≠ w.heap.size; omega), World.cell?_alloc_past _ _ _ hb]
      exact hc
    · rw [hon.cell (p := ⟨X, 1, none⟩) (by show X ≠ w.heap.size; omega), World.cell?_alloc_past _ _ _ hXl]
      exact k1
  have HBl : Hid (∀ wr : World, Only w.heap.size (w.alloc o) wr → Below w.heap.size w wr ∧ w.heap.size < wr.heap.size) := fun wr hon => by
    have hsz : wr.heap.size = w.heap.size + 1 := by rw [hon.size]; simp
    exact ⟨((Below.refl _ w).alloc (Nat.le_refl _) o).trans (hon.below (Nat.le_refl _)), by omega⟩
  have HR : Hid (∀ j, j < K → -9223372036854775808 ≤ kf j ∧ kf j ≤ 9223372036854775807) := hr
  clear hMS hr hk
  go_enter Try.func24, Try.ntmps24
  go_wp2
  try rw [hO]
  go_loopw [18] (fun i wr => ∃ k : Nat, k ≤ K ∧ i = .int .i64 (k : Int) ∧ Only w.heap.size (w.alloc o) wr ∧ Bls wr w.heap.size m (named kf k) ∧ Hid (Good kf m k)) (fun i _ => K - (intOf i).toNat)
  case atStart => exact ⟨0, Nat.zero_le _, rfl, Only.refl _ _, H0.out, fun j hj => by omega⟩
  case round =>
    obtain ⟨k, hkK, rfl, hon, hbl, hgd⟩ := hrel
    obtain ⟨hB, hlt0⟩ := HBl.out wr hon
    obtain ⟨hKc, kX1⟩ := HKr.out wr hon
    by_cases hlt : k < K
    · have hlt' : (k : Int) < (K : Int) := by omega
      have hk0 : (0 : Int) ≤ (k : Int) := by omega
      obtain ⟨b, off, rfl, hc⟩ := hKc k hlt
      clear hKc
      obtain ⟨r1, r2⟩ := HR.out k hlt
      have HNo : Hid (¬ (0 ≤ kf k ∧ kf k < m ∧ ∀ i, i < k → kf i ≠ kf k) → ¬ Good kf m K) := fun h hg => h (hg k hlt)
      by_cases c1 : kf k < 0
      · have HF : Hid (¬ Good kf m K) := HNo.out (fun h => by omega)
        generalize kf k = z at *
        go_wp2
        go_ret
        exact .inr ⟨HF.out, rfl, hB⟩
      · by_cases c2 : (m : Int) ≤ kf k
        · have HF : Hid (¬ Good kf m K) := HNo.out (fun h => by omega)
          generalize kf k = z at *
          go_wp2
          go_ret
          exact .inr ⟨HF.out, rfl, hB⟩
        · obtain ⟨p, hp⟩ := Int.eq_ofNat_of_zero_le (show 0 ≤ kf k by omega)
          have hpm : p < m := by omega
          have hpm' : (p : Int) < (m : Int) := by omega
          have hpm2 : ¬ (m : Int) ≤ (p : Int) := by omega
          have hp0 : ¬ (p : Int) < 0 := by omega
          have hcell := (hbl p hpm).1
          have hfz := (hbl p hpm).2
          rw [hp] at hc
          cases hn : named kf k p with
          | true =>
            rw [hn] at hcell
            have HF : Hid (¬ Good kf m K) := HNo.out (fun h => by
              obtain ⟨j, j1, j2⟩ := named_iff.1 hn
              exact h.2.2 j j1 (by rw [j2, hp]))
            clear c1 c2 hp hbl hgd hn
            go_wp2
            go_ret
            exact .inr ⟨HF.out, rfl, hB⟩
          | false =>
            rw [hn] at hcell
            have HG : Hid (Good kf m (k + 1)) := fun j hj => by
              by_cases e : j = k
              · subst e
                refine ⟨by omega, by omega, fun i hi e2 => ?_⟩
                have : named kf j p = true := named_iff.2 ⟨i, hi, by rw [e2, hp]⟩
                rw [hn] at this
                cases this
              · exact hgd.out j (by omega)
            have HX : Hid (Only w.heap.size (w.alloc o) (wr.setCell ⟨w.heap.size, p, none⟩ (.bool true))) := hon.setCell (p := ⟨w.heap.size, p, none⟩) rfl _
            have HS : Hid (Bls (wr.setCell ⟨w.heap.size, p, none⟩ (.bool true)) w.heap.size m (named kf (k + 1))) := fun q hq => by
              refine ⟨?_, by rw [World.frozen?_setCell]; exact (hbl q hq).2⟩
              by_cases e : q = p
              · subst e
                rw [World.cell?_setCell_same _ _ _ (hbl q hq).1, named, if_pos hp.symm]
              · rw [World.cell?_setCell_other _ _ _ _ (fun e2 => e (congrArg Addr.off e2).symm), (hbl q hq).1, named, if_neg (by rw [hp]; omega)]
            clear c1 c2 hp hbl hgd hn hon
            go_wp2
            go_roundw
            case rel => exact ⟨k + 1, by omega, by go_num, HX.out, HS.out, HG⟩
            case measure => simp [intOf]; omega
    · obtain rfl : k = K := by omega
      have HG := hgd
      obtain ⟨v0, rfl⟩ : ∃ v0, v0 = wr := ⟨_, rfl⟩
      have HB0 : Hid (Bls v0 w.heap.size m (named kf k)) := hbl
      have HA0 : Hid (RkAt v0 X gB cB (.slice aP m cP) rb rc pb pc F n dur m tf ld) := HA.out.part (Part.ofBelow (F := fun _ => False) hB) (fun _ _ h => h)
      clear hgd hKc hbl hon HA
      have HBa : Hid (∀ wq : World, Part F v0 wq → ∀ p, p < m → wq.cell? ⟨w.heap.size, p, none⟩ = some (.bool (named kf k p))) := fun wq hq p hp =>
        hq.cell (p := ⟨w.heap.size, p, none⟩) (fun e => by have := HFl.out _ e; have e2 : w.heap.size < w.heap.size := this; omega) (HB0.out p hp).1
      have H00 : Hid (RkK v0 v0 X gB cB (.slice aP m cP) pb pc F n dur m tf ld (named kf k) 0) := RkK.start _ HA0.out
      clear HB0 HA0 H0 HKr HBl HR HMS
      have hsv := hB.size
      go_wp2
      go_loopw [48] (fun i wr => ∃ t : Nat, t ≤ m ∧ i = .int .i64 (t : Int) ∧ RkK v0 wr X gB cB (.slice aP m cP) pb pc F n dur m tf ld (named kf k) t) (fun i _ => m - (intOf i).toNat)
      case atStart => exact ⟨0, Nat.zero_le _, rfl, H00.out⟩
      case round =>
        obtain ⟨t, ht, rfl, hR⟩ := hrel
        have HRr : Hid (RkK v0 wr X gB cB (.slice aP m cP) pb pc F n dur m tf ld (named kf k) t) := hR
        obtain ⟨b1, b2, b3, b4, b5⟩ := hR.sees
        have hpr : Part F v0 wr := by
          obtain ⟨_, _, _, hp⟩ := hR
          exact hp
        clear hR
        by_cases hlt2 : t < m
        · have hlt2' : (t : Int) < (m : Int) := by omega
          have ht0 : (0 : Int) ≤ (t : Int) := by omega
          have hst := HBa.out wr hpr t hlt2
          have hgl : w.heap.size < wr.heap.size := World.block_lt_of_cell? wr _ hst
          have hsta : ∀ o, (wr.alloc o).cell? ⟨w.heap.size, t, none⟩ = some (.bool (named kf k t)) := fun o => (World.cell?_alloc_past (w := wr) o w.heap.size t hgl).trans hst
          obtain ⟨gP, rfl, p1, p2, p3, p4, p5⟩ := b5 t hlt2
          obtain ⟨ob, hOb⟩ : ∃ ob, Obj.cells #[.int .i64 (tf t : Int), .slice (some ⟨pb t, 0, none⟩) 128 (pc t)] 75 = ob := ⟨_, rfl⟩
          have hob0 : (wr.alloc ob).cell? ⟨wr.heap.size, 0, none⟩ = some (.int .i64 (tf t : Int)) := by rw [← hOb, World.cell?_alloc_at _ _ _ _ rfl]; rfl
          have hob1 : (wr.alloc ob).cell? ⟨wr.heap.size, 1, none⟩ = some (.slice (some ⟨pb t, 0, none⟩) 128 (pc t)) := by rw [← hOb, World.cell?_alloc_at _ _ _ _ rfl]; rfl
          have HBo : Hid (∀ wq, Below (wr.heap.size + 1) (wr.alloc ob).drew wq → Below wr.heap.size wr wq) := fun wq hq =>
            ((Below.refl _ wr).alloc (Nat.le_refl _) ob).trans ⟨hq.os, hq.tape, hq.output, hq.size, fun q hh => hq.block q (by omega)⟩
          have HS : Hid (∀ wq, Below (wr.heap.size + 1) (wr.alloc ob).drew wq → wq.cell? ⟨wr.heap.size, 0, none⟩ = some (.int .i64 (tf t : Int)) ∧ wq.cell? ⟨wr.heap.size, 1, none⟩ = some (.slice (some ⟨pb t, 0, none⟩) 128 (pc t)) ∧ wq.cell? ⟨X, 0, none⟩ = some (.slice (some ⟨gB, 0, none⟩) n cB) ∧ ∃ v, wq.cell? ⟨gB, tf t, none⟩ = some v ∧ wq.frozen? ⟨gB, tf t, none⟩ = false) := fun wq hq =>
            ⟨by rw [hq.cell (p := ⟨wr.heap.size, 0, none⟩) (by show wr.heap.size < wr.heap.size + 1; omega)]; exact hob0, by rw [hq.cell (p := ⟨wr.heap.size, 1, none⟩) (by show wr.heap.size < wr.heap.size + 1; omega)]; exact hob1, p5 wq (HBo.out wq hq)⟩
          have aX : ∀ o, (wr.alloc o).cell? ⟨X, 0, none⟩ = some (.slice (some ⟨gB, 0, none⟩) n cB) := fun o => (World.cell?_alloc_past (w := wr) o X 0 b4).trans b1
          have HF3 : Hid (From (wr.alloc ob).drew (some ⟨pb t, 0, none⟩) 128 (sh ld (t * 128))) := p3.alloc ob
          have p4' : (tf t : Int) < (n : Int) := by omega
          have p40 : (0 : Int) ≤ (tf t : Int) := by omega
          clear b5 p5 p3 hpr
          cases hnm : named kf k t with
          | true =>
            rw [hnm] at hst
            simp only [hnm] at hsta
            have HT : Hid (named kf k t = true) := hnm
            clear hnm
            go_wp2
            go_region_law (go_simp; go_at_call 36; refine (copiedR (some ⟨pb t, 0, none⟩) 128 (pc t) (sh ld (t * 128)) _ (by omega) (by exact HF3.out) (fun h => by cases h)).mono ?_; rintro e' w1 ⟨v1, rfl, ho1, hb1⟩; obtain ⟨g, c1, hv1, ho1, _, _, _, _⟩ := own_some ho1 (by omega); subst hv1; have hb2 : Below (wr.heap.size + 1) (wr.alloc ob).drew w1 := hb1.mono (by simp); obtain ⟨y1, y2, y3, yv, y4, y5⟩ := HS.out w1 hb2)
            all_goals
              have HN : Hid (RkK v0 ((w1.setCell ⟨gB, tf t, none⟩ (.slice (some ⟨g, 0, none⟩) 128 c1))) X gB cB (.slice (some ⟨gP, 0, none⟩) m cP) pb pc F n dur m tf ld (named kf k) (t + 1)) := HRr.out.put HT.out hlt2 (HBo.out w1 hb2) (ho1.mono (by simp)) rfl rfl rfl rfl
              go_wp2
              go_roundw
              case rel => exact ⟨t + 1, by omega, by go_num, HN.out⟩
              case measure => simp [intOf]; omega
          | false =>
            rw [hnm] at hst
            simp only [hnm] at hsta
            have HN : Hid (RkK v0 (wr.alloc ob) X gB cB (.slice (some ⟨gP, 0, none⟩) m cP) pb pc F n dur m tf ld (named kf k) (t + 1)) := HRr.out.skip hnm ((Below.refl _ wr).alloc (Nat.le_refl _) ob)
            clear hnm
            go_wp2
            go_roundw
            case rel => exact ⟨t + 1, by omega, by go_num, HN.out⟩
            case measure => simp [intOf]; omega
        · obtain rfl : t = m := by omega
          clear b5
          have HZ : Hid (∀ wf : World, wf.heap = (wr.setCell ⟨X, 1, none⟩ (.slice none 0 0)).heap → wf.os = wr.os → wf.tape = wr.tape → wf.output = wr.output → Rk wf X (fun q => F q ∨ (w.heap.size ≤ q ∧ q < wf.heap.size)) n (setl dur tf ld (named kf k) t) 0 tf ld ∧ Part F w wf) := fun wf e1 e2 e3 e4 => by
            obtain ⟨z1, z2⟩ := HRr.out.clear HFX.out e1 e2 e3 e4
            have s2 := z2.size
            refine ⟨z1.grow (fun q hq => hq.imp id (fun h => ⟨by omega, h.2⟩)) (fun q hq => hq.elim (fun h => by have := HFl.out q h; omega) (fun h => h.2)), (Part.ofBelow (F := F) hB).trans z2 (fun _ _ h => h)⟩
          go_wp2
          go_ret
          exact .inl ⟨HG.out, rfl, HZ.out _ (by rfl) (by rfl) (by rfl) (by rfl)⟩
end Go.Proofs.Ytnoaobnjecapjaa
