/-
  Contract of a disk's Write over Dk: the walk. Condition: at most 2^46 bytes are pending.
-/
import Derived.Test.YthfokciijcmhbaaGreatDoorGad
import Derived.Deep.DeepCutAuto
namespace Go.Proofs.YthfokciijcmhbaaGreatDoor
open Go.RowKit
set_option linter.unusedVariables false

set_option maxRecDepth 100000 in
set_option maxHeartbeats 2000000 in
theorem dkWrite (D i n m : Nat) (F : Nat → Prop) (dur : Nat → Int) (tf : Nat → Nat) (ld : Nat → Int) (g off c : Nat) (f : Nat → Int) (w : World) (h : Dk w D F n dur m tf ld) (hi : i < n) (hm : m ≤ 549755813887) (hf : From w (some ⟨g, off, none⟩) 128 f) (hby : ∀ j, 0 ≤ f j ∧ f j ≤ 255) (hg : ¬ F g) :
    Calls Tryz.prog 141 #[.pointer (some ⟨D, 0, none⟩), .int .i64 (i : Int), .slice (some ⟨g, off, none⟩) 128 c] w fun e w' => e = .returned (.int .i64 0) ∧ Dk w' D (fun k => F k ∨ (w.heap.size ≤ k ∧ k < w'.heap.size)) n dur (m + 1) (fun j => if j = m then i else tf j) (fun k => if k < m * 128 then ld k else f (k - m * 128)) ∧ Part F w w' := by
  obtain ⟨S, Bd, Bl, cD, cL, vT, vL, h⟩ := h
  obtain ⟨i0, hi0, hz0, hz1, hz2⟩ := info_parts info3
  obtain ⟨j0, hj0, hy0, hy1, hy2⟩ := info_parts info5
  have H : Hid (DkAt w D S Bd Bl cD cL vT vL F n dur m tf ld) := h
  have sp := h.sep
  have k1 : w.cell? ⟨D, 0, none⟩ = some (.pointer (some ⟨S, 0, none⟩)) := cells_at h.hD 0
  have k2 : w.cell? ⟨S, 1, none⟩ = some (.slice (some ⟨Bl, 0, none⟩) n cL) := cells_at h.hS 1
  have k3 : w.cell? ⟨S, 2, none⟩ = some vT := cells_at h.hS 2
  have HOT : Hid (∀ o, (w.alloc o).ownsRow 0 3 1 vT m ((lst (fun j => (tf j : Int)) m).map (Value.int .i64))) := fun o => by
    have := h.ot
    unfold OwnI at this
    rw [lst_length] at this
    exact World.ownsRow.alloc this o
  have hSB := sp.SBl
  have hDS := sp.DS
  have hDB := sp.DBl
  have HF : Hid (From w (some ⟨g, off, none⟩) 128 f) := hf
  have lD := h.lt _ h.FD
  have lS := h.lt _ h.FS
  have lB := h.lt _ h.FBl
  have aD : ∀ o, (w.alloc o).cell? ⟨D, 0, none⟩ = some (.pointer (some ⟨S, 0, none⟩)) := fun o => (World.cell?_alloc_past (w := w) o D 0 lD).trans k1
  have aS : ∀ o, (w.alloc o).cell? ⟨S, 2, none⟩ = some vT := fun o => (World.cell?_alloc_past (w := w) o S 2 lS).trans k3
  have HK1 : Hid (∀ (o : Obj) (v1 : Value) (w1 : World), w1.ownsRow 0 3 1 v1 (m + 1) ((lst (fun j => (tf j : Int)) m).map (Value.int .i64) ++ [.int .i64 (i : Int)]) → (w.drew.alloc o).grownBy w1 vT.ownBlock → (v1.ownBlock = vT.ownBlock ∨ v1.ownBlock = some (w.drew.alloc o).heap.size) → (∃ g1 c1, v1 = .slice (some ⟨g1, 0, none⟩) (m + 1) c1) ∧ Heads w1 D S Bd Bl n cD cL vT vL ∧ (w1.setCell ⟨S, 2, none⟩ v1).drew.ownsRow 0 5 1 vL (m * 128) ((lst ld (m * 128)).map (Value.int .u8)) ∧ ∀ j u, ((lst f 128).map (Value.int .u8))[j]? = some u → (w1.setCell ⟨S, 2, none⟩ v1).drew.cell? ((⟨g, off, none⟩ : Addr).add j) = some u) := fun o v1 w1 ho1 hg1 ha1 => by
    have ho1' : OwnI w1 0 v1 (lst (fun j => (tf j : Int)) m ++ [(i : Int)]) := by
      refine OwnI.one ?_
      rw [lst_length]
      exact ho1
    have b1 : ∀ k, k < w.heap.size → vT.ownBlock ≠ some k → w1.heap[k]? = w.heap[k]? := fun k hk hn => by rw [hg1.block k (by simp; omega) (fun e => hn e.symm), heap_alloc_past _ _ _ (by exact hk)]; rfl
    obtain ⟨g1, c1, e1, _⟩ := row_some ho1 (by omega)
    have nS : ∀ k, v1.ownBlock = some k → k ≠ S := fun k hk e => by
      subst e
      rcases ha1 with e2 | e2
      · exact (sp.T k (by rw [← e2]; exact hk)).2.1 rfl
      · rw [e2] at hk
        have : (w.drew.alloc o).heap.size = k := Option.some.inj hk
        simp at this
        omega
    refine ⟨⟨g1, c1, e1⟩, heads ((b1 D lD (fun e => (sp.T D e).1 rfl)).trans h.hD) ((b1 S lS (fun e => (sp.T S e).2.1 rfl)).trans h.hS), ?_, fun j u hj => ?_⟩
    · have h9 := h.oo
      unfold Own at h9
      rw [lst_length] at h9
      refine row_heap (row_set (row_grown (World.ownsRow.alloc (row_heap h9 (w' := w.drew) rfl) o) hg1 (fun k hk e => (sp.L k hk).2.2.2.2 e)) (fun e => (sp.L S e).2.1 rfl) 2 v1) rfl
    · have hjm : j < 128 := by
        have := (List.getElem?_eq_some_iff.1 hj).1
        simpa [lst_length] using this
      rw [List.getElem?_map, lst_get f 128 j hjm] at hj
      have hu : Value.int .u8 (f j) = u := by simpa using hj
      subst hu
      rcases HF.out with ⟨h1, _⟩ | ⟨x, h1, h2⟩
      · cases h1
      · cases h1
        have h3 := h2 j hjm
        rw [Addr.add_lit] at h3 ⊢
        have hgl : g < w.heap.size := World.block_lt_of_cell? w _ h3
        show (w1.setCell ⟨S, 2, none⟩ v1).cell? _ = _
        rw [World.cell?_setCell_other _ _ _ _ (fun e => hg (by have : S = g := congrArg Addr.block e; rw [← this]; exact h.FS)), World.cell?_of_block (w := w) (b1 g hgl (fun e => hg (h.FT g e)))]
        exact h3
  have HK2 : Hid (∀ (o : Obj) (v1 v2 : Value) (w1 w2 : World), w1.ownsRow 0 3 1 v1 (m + 1) ((lst (fun j => (tf j : Int)) m).map (Value.int .i64) ++ [.int .i64 (i : Int)]) → (w.drew.alloc o).grownBy w1 vT.ownBlock → (v1.ownBlock = vT.ownBlock ∨ v1.ownBlock = some (w.drew.alloc o).heap.size) →
      w2.ownsRow 0 5 1 v2 (m * 128 + 128) ((lst ld (m * 128)).map (Value.int .u8) ++ (lst f 128).map (Value.int .u8)) → (w1.setCell ⟨S, 2, none⟩ v1).drew.grownBy w2 vL.ownBlock → (v2.ownBlock = vL.ownBlock ∨ v2.ownBlock = some (w1.setCell ⟨S, 2, none⟩ v1).drew.heap.size) →
      (∃ g2 c2, v2 = .slice (some ⟨g2, 0, none⟩) (m * 128 + 128) c2) ∧ Heads w2 D S Bd Bl n cD cL v1 vL ∧ w2.cell? ⟨Bl, i, none⟩ = some (.int .i64 (lastAt tf m i)) ∧ w2.frozen? ⟨Bl, i, none⟩ = false ∧
      ∀ wf : World, wf.heap = ((w2.setCell ⟨S, 3, none⟩ v2).setCell ⟨Bl, i, none⟩ (.int .i64 ((m + 1 : Nat) : Int))).heap → wf.os = w2.os → wf.tape = w2.tape → wf.output = w2.output →
        Dk wf D (fun k => F k ∨ (w.heap.size ≤ k ∧ k < wf.heap.size)) n dur (m + 1) (fun j => if j = m then i else tf j) (fun k => if k < m * 128 then ld k else f (k - m * 128)) ∧ Part F w wf) := fun o v1 v2 w1 w2 ho1 hg1 ha1 ho2 hg2 ha2 => by
    have ho1' : OwnI w1 0 v1 (lst (fun j => (tf j : Int)) m ++ [(i : Int)]) := by
      refine OwnI.one ?_
      rw [lst_length]
      exact ho1
    have ho2' : Own w2 0 v2 (lst ld (m * 128) ++ lst f 128) := by
      unfold Own
      rw [List.length_append, lst_length, lst_length, List.map_append]
      exact ho2
    obtain ⟨g2, c2, e2, _⟩ := row_some ho2 (by omega)
    obtain ⟨⟨w3, e3, q1, q2⟩, r1, r2, r3, r4, r5⟩ := DkAt.written (w := w.drew) (h.heap rfl) i hi hby o ho1' hg1 ha1 ho2' (grown_drew hg2) ha2
    refine ⟨⟨g2, c2, e2⟩, heads r3 r4, OwnI.cellF r5 i hi, OwnI.freeF r5 i, fun wf a1 a2 a3 a4 => ?_⟩
    have ew : wf.heap = w3.heap := by rw [e3]; exact a1
    refine ⟨⟨S, Bd, Bl, cD, cL, v1, v2, ?_⟩, ?_⟩
    · have := q1.heap ew
      rw [← ew] at this
      exact this
    · have q3 : Part F w w3 := ⟨q2.os, q2.tape, q2.output, q2.size, q2.block⟩
      exact q3.heap ew (by rw [e3]; exact a2) (by rw [e3]; exact a3) (by rw [e3]; exact a4)
  clear h hf sp
  go_enter Tryz.func141, Tryz.ntmps141
  go_wp2_with fail
  refine (dMissing D S w k1).mono ?_
  rintro e w1 ⟨rfl, hw⟩
  obtain rfl : w = w1 := hw.symm
  clear hw
  go_wp2_with fail
  refine (dHas S n i (some ⟨Bl, 0, none⟩) cL hi w k2).mono ?_
  rintro e w1 ⟨rfl, hw⟩
  obtain rfl : w = w1 := hw.symm
  clear hw
  go_wp2_with fail
  go_cut [] (fun wx => ∃ (o : Obj) (g1 c1 : Nat) (w1 : World), wx = w1.setCell ⟨S, 2, none⟩ (.slice (some ⟨g1, 0, none⟩) (m + 1) c1) ∧ w1.ownsRow 0 3 1 (.slice (some ⟨g1, 0, none⟩) (m + 1) c1) (m + 1) ((lst (fun j => (tf j : Int)) m).map (Value.int .i64) ++ [.int .i64 (i : Int)]) ∧ (w.drew.alloc o).grownBy w1 vT.ownBlock ∧ ((Value.slice (some ⟨g1, 0, none⟩) (m + 1) c1).ownBlock = vT.ownBlock ∨ (Value.slice (some ⟨g1, 0, none⟩) (m + 1) c1).ownBlock = some (w.drew.alloc o).heap.size))
  case first =>
    go_region_law (refine step_append_own_at rfl _ _ 26 rfl 0 3 i0 (.int .i64 0) 1 8 Tryz.underlying26 hi0 hz0 hz1 hz2 rfl (by decide) vT m ((lst (fun j => (tf j : Int)) m).map (Value.int .i64)) (by simp [Act.eval]) (by exact HOT.out _) ⟨w.heap.size, 0, none⟩ 1 1 [.int .i64 (i : Int)] (by simp [Act.eval]) rfl (by exact cell_one_new _ _ _) (by intro u hu; simp at hu; subst hu; rfl) (by unfold maxLen; omega) (by omega) (Nat.zero_le _) ?_; intro v1 w1 ho1 hg1 ha1; obtain ⟨⟨g1, c1, hv1⟩, hh1, hq1, hq2⟩ := HK1.out _ v1 w1 ho1 hg1 ha1; subst hv1; obtain ⟨d0, s0, s1, s2, s3, fz⟩ := hh1; have fz2 := fz 2)
    all_goals (go_wp2_with fail; go_meet; exact ⟨_, g1, c1, w1, rfl, ho1, hg1, ha1⟩)
  case rest =>
  obtain ⟨o, g1, c1, w1, rfl, ho1, hg1, ha1⟩ := hcut
  obtain ⟨_, hh1, hq1, hq2⟩ := HK1.out _ _ w1 ho1 hg1 ha1
  obtain ⟨d0, s0, s1, s2, s3, fz⟩ := hh1
  go_wp2_with fail
  go_cut [] (fun wx => ∃ (g2 c2 : Nat) (w2 : World), wx = w2.setCell ⟨S, 3, none⟩ (.slice (some ⟨g2, 0, none⟩) (m * 128 + 128) c2) ∧ w2.ownsRow 0 5 1 (.slice (some ⟨g2, 0, none⟩) (m * 128 + 128) c2) (m * 128 + 128) ((lst ld (m * 128)).map (Value.int .u8) ++ (lst f 128).map (Value.int .u8)) ∧ (w1.setCell ⟨S, 2, none⟩ (.slice (some ⟨g1, 0, none⟩) (m + 1) c1)).drew.grownBy w2 vL.ownBlock ∧ ((Value.slice (some ⟨g2, 0, none⟩) (m * 128 + 128) c2).ownBlock = vL.ownBlock ∨ (Value.slice (some ⟨g2, 0, none⟩) (m * 128 + 128) c2).ownBlock = some (w1.setCell ⟨S, 2, none⟩ (.slice (some ⟨g1, 0, none⟩) (m + 1) c1)).drew.heap.size))
  case first =>
    go_region_law (refine step_append_own_at rfl _ _ 47 rfl 0 5 j0 (.int .u8 0) 1 1 Tryz.underlying47 hj0 hy0 hy1 hy2 rfl (by decide) vL (m * 128) ((lst ld (m * 128)).map (Value.int .u8)) (by simp [Act.eval]) (by exact hq1) ⟨g, off, none⟩ 128 c ((lst f 128).map (Value.int .u8)) (by simp [Act.eval]) (by simp [lst_length]) (by exact hq2) (by intro u hu; obtain ⟨y, _, rfl⟩ := List.mem_map.1 hu; rfl) (by unfold maxLen; omega) (by omega) (Nat.zero_le _) ?_; intro v2 w2 ho2 hg2 ha2; obtain ⟨⟨g2, c2, hv2⟩, hh2, r1, r2, _⟩ := HK2.out _ _ v2 w1 w2 ho1 hg1 ha1 ho2 hg2 ha2; subst hv2; obtain ⟨d02, s02, s12, s22, s32, fzz⟩ := hh2; have fz2 := fzz 3)
    all_goals (go_wp2_with fail; go_meet; exact ⟨g2, c2, w2, rfl, ho2, hg2, ha2⟩)
  case rest =>
  obtain ⟨g2, c2, w2, rfl, ho2, hg2, ha2⟩ := hcut
  obtain ⟨_, hh2, r1, r2, HF2⟩ := HK2.out _ _ _ w1 w2 ho1 hg1 ha1 ho2 hg2 ha2
  obtain ⟨d02, s02, s12, s22, s32, fzz⟩ := hh2
  have HF3 : Hid _ := HF2
  clear HF2 ho1 hg1 ha1 ho2 hg2 ha2 hq1 hq2 HK1 HK2 HOT HF H d0 s0 s1 s2 s3 fz
  have hi' : (i : Int) < (n : Int) := by omega
  have hi2 : (0 : Int) ≤ (i : Int) := by omega
  go_wp2_with fail
  have hSB2 := Ne.symm hSB
  go_region
  all_goals
    have e9 : ((m : Int) + 1) = ((m + 1 : Nat) : Int) := by omega
    go_wp2
    go_ret
    rw [e9]
    exact ⟨rfl, HF3.out _ (by rfl) (by rfl) (by rfl) (by rfl)⟩
end Go.Proofs.YthfokciijcmhbaaGreatDoor
