/-
  Contract of the document's New over Rk.
-/
import Derived.Test.YtnoaobnjecapjaaRkImage
namespace Go.Proofs.Ytnoaobnjecapjaa
open Go.RowKit
set_option linter.unusedVariables false

/-- New behind k rounds. -/
def NewK (w : World) (X B k : Nat) (vB : Value) : Prop := ∃ qb qc, w.heap[X]? = some (.cells #[vB, .slice none 0 0] 58 (0, 0)) ∧ Mine w B vB k qb qc (fun _ _ => 0)
theorem NewK.step {w w1 w2 wf : World} {X B k : Nat} {vB v2 : Value} {qb qc : Nat → Nat} (hX : w.heap[X]? = some (.cells #[vB, .slice none 0 0] 58 (0, 0))) (h : Mine w B vB k qb qc (fun _ _ => 0)) (hb1 : Below w.heap.size w w1) (hB : B ≤ w.heap.size) {g c1 : Nat} (ho : Own w1 w.heap.size (.slice (some ⟨g, 0, none⟩) 128 c1) (lst (fun _ => 0) 128)) (o : Obj)
    (h2 : w2.ownsRow B 27 1 v2 (k + 1) (rowL k qb qc ++ [.slice (some ⟨g, 0, none⟩) 128 c1])) (hg2 : (w1.alloc o).grownBy w2 vB.ownBlock) :
    w2.heap[X]? = some (.cells #[vB, .slice none 0 0] 58 (0, 0)) ∧ (wf.heap = (w2.setCell ⟨X, 0, none⟩ v2).heap → NewK wf X B (k + 1) v2) := by
  have hs1 := hb1.size
  have hXl : X < w.heap.size := (Array.getElem?_eq_some_iff.1 hX).1
  have hsz : (w1.alloc o).heap.size = w1.heap.size + 1 := by simp
  have nX : vB.ownBlock ≠ some X := fun e => by
    obtain ⟨c3, k3⟩ := row_block h.own e
    exact two_types hX k3 (by decide) rfl
  have hX2 : w2.heap[X]? = some (.cells #[vB, .slice none 0 0] 58 (0, 0)) := by
    rw [hg2.block X (by omega) (fun e => nX e.symm), heap_alloc_past _ _ _ (by omega), hb1.block X hXl]
    exact hX
  have hM := h.snoc hb1 hB ho o h2 hg2
  refine ⟨hX2, fun e1 => ⟨fun j => if j = k then g else qb j, fun j => if j = k then c1 else qc j, ?_, ?_⟩⟩
  · rw [e1, heap_set_same hX2]; rfl
  · have n2 : v2.ownBlock ≠ some X := fun e => by
      obtain ⟨c3, k3⟩ := row_block h2 e
      exact two_types hX2 k3 (by decide) rfl
    have nq : ∀ j, j < k + 1 → (if j = k then g else qb j) ≠ X := fun j hj e => by
      obtain ⟨c4, k4⟩ := hM.ty j hj
      exact two_types k4 hX2 (by decide) e
    have r1 : (w2.setCell ⟨X, 0, none⟩ v2).ownsRow B 27 1 v2 (k + 1) _ := row_set hM.own n2 _ _
    refine ⟨row_heap r1 e1, fun j hj => ?_, fun j hj => ?_, hM.ge⟩
    · rcases hM.from_ j hj with ⟨e, _⟩ | ⟨x, e, hh⟩
      · cases e
      · cases e
        refine .inr ⟨_, rfl, fun q hq => ?_⟩
        have h9 := hh q hq
        rw [Addr.add_lit] at h9 ⊢
        rw [World.cell?_of_block (w := w2) (by rw [e1]; exact heap_set_other _ (nq j hj) _ _)]
        exact h9
    · rw [e1, heap_set_other _ (nq j hj)]
      exact hM.ty j hj
theorem NewK.rk {w wf : World} {X n : Nat} {vB : Value} (h : NewK wf X w.heap.size n vB) (hX : w.heap.size ≤ X) (n1 : 1 ≤ n) (n2 : n ≤ 4096) : Rk wf X (fun k => w.heap.size ≤ k ∧ k < wf.heap.size) n (fun _ => 0) 0 (fun _ => 0) (fun _ => 0) := by
  obtain ⟨qb, qc, hX1, hM⟩ := h
  obtain ⟨g, c, e, hgl, _⟩ := row_some hM.own (by omega)
  subst e
  have hXl : X < wf.heap.size := (Array.getElem?_eq_some_iff.1 hX1).1
  exact ⟨g, c, .slice none 0 0, qb, qc, fun _ => 0, fun _ => 0, ⟨hX1, row_block hM.own rfl, hM.rws, World.ownsRow_nil _ _ _ _, fun j hj => by omega, ⟨hX, hXl⟩, ⟨(World.ownsRow.lt hM.own g rfl).1, hgl⟩, (fun k hk => by cases hk), fun i hi => ⟨hM.ge i hi, hM.lt i hi⟩, fun j hj => by omega, hM.ty, fun j hj => by omega, fun k hk => hk.2, fun j hj => by omega, fun _ => by decide, fun _ => by decide, n1, n2⟩⟩

set_option maxRecDepth 100000 in
set_option maxHeartbeats 2000000 in
theorem rkNew (n : Nat) (h1 : 1 ≤ n) (h2 : n ≤ 4096) (w : World) :
    Calls Try.prog 12 #[.int .i64 (n : Int)] w fun e w' => ∃ X, e = .returned (.tuple #[.pointer (some ⟨X, 0, none⟩), .int .i64 0]) ∧ Rk w' X (fun k => w.heap.size ≤ k ∧ k < w'.heap.size) n (fun _ => 0) 0 (fun _ => 0) (fun _ => 0) ∧ Below w.heap.size w w' := by
  obtain ⟨i0, hi0, hz0, hz1, hz2⟩ := info_parts infoB
  obtain ⟨MB, hMB⟩ : ∃ MB, madeCells #[.int .u8 0] 128 = MB := ⟨_, rfl⟩
  have hmb : ∀ w : World, (Instr.makeSlice 27 (.int .i64 128) (.int .i64 128)).run Try.prog w = .ok (.slice (some ⟨w.heap.size, 0, none⟩) 128 128) (w.alloc (.cells MB 5)) := fun w => by
    rw [← hMB]
    exact run_make_row' (P := Try.prog) 27 5 (.int .u8 0) 1 Try.underlying27 info5 rfl .i64 .i64 128 (by omega) (by omega) w
  have g1 : (1 : Int) ≤ (n : Int) := by omega
  have g2 : (n : Int) ≤ 4096 := by omega
  have g3 : ¬ (n : Int) < 1 := by omega
  have g4 : ¬ (4096 : Int) < (n : Int) := by omega
  have HMO : Hid (∀ v : World, Own (v.alloc (.cells MB 5)) v.heap.size (.slice (some ⟨v.heap.size, 0, none⟩) 128 128) (lst (fun _ => 0) 128)) := fun v => by
    have h9 := World.ownsRow_lit (base := v.heap.size) (e := 5) (size := 1) v MB 128 (Nat.le_refl _) (by unfold maxLen; omega) (by rw [← hMB]; simp [madeCells])
    rw [← hMB, made_bytes, hMB] at h9
    unfold Own
    rw [lst_length]
    exact h9
  have H0 : Hid (NewK (w.alloc (.cells #[.slice none 0 0, .slice none 0 0] 58)) w.heap.size w.heap.size 0 (.slice none 0 0)) := ⟨fun _ => 0, fun _ => 0, heap_alloc_at _ _ _ rfl, World.ownsRow_nil _ _ _ _, fun j hj => by omega, fun j hj => by omega, fun j hj => by omega⟩
  have HB0 : Hid (Below w.heap.size w (w.alloc (.cells #[.slice none 0 0, .slice none 0 0] 58))) := (Below.refl _ w).alloc (Nat.le_refl _) _
  clear hMB
  go_enter Try.func12, Try.ntmps12
  go_wp2
  go_loopw [14] (fun i wr => ∃ (k : Nat) (vB : Value), k ≤ n ∧ i = .int .i64 (k : Int) ∧ NewK wr w.heap.size w.heap.size k vB ∧ Below w.heap.size w wr) (fun i _ => n - (intOf i).toNat)
  case atStart => exact ⟨0, _, Nat.zero_le _, rfl, H0.out, HB0.out⟩
  case round =>
    obtain ⟨k, vB, hk, rfl, hN, hb⟩ := hrel
    have HN : Hid (NewK wr w.heap.size w.heap.size k vB) := hN
    by_cases hlt : k < n
    · have hlt' : (k : Int) < (n : Int) := by omega
      obtain ⟨qb, qc, hX1, hM⟩ := hN
      have hs := hb.size
      have hXl : w.heap.size < wr.heap.size := (Array.getElem?_eq_some_iff.1 hX1).1
      obtain ⟨aB, cB, rfl⟩ : ∃ aB cB, vB = .slice aB k cB := by
        rcases hM.own.2 with ⟨rfl, h0⟩ | ⟨g, cap, cur, rfl, _⟩
        · rw [h0]; exact ⟨none, 0, rfl⟩
        · exact ⟨_, cap, rfl⟩
      have q0 : wr.cell? ⟨w.heap.size, 0, none⟩ = some (.slice aB k cB) := cells_at hX1 0
      have q1 : ∀ o, (wr.alloc o).cell? ⟨w.heap.size, 0, none⟩ = some (.slice aB k cB) := fun o => (World.cell?_alloc_past (w := wr) o w.heap.size 0 hXl).trans q0
      have q2 : ∀ o o', ((wr.alloc o).alloc o').cell? ⟨w.heap.size, 0, none⟩ = some (.slice aB k cB) := fun o o' => (World.cell?_alloc_past (w := wr.alloc o) o' w.heap.size 0 (by simp; omega)).trans (q1 o)
      have HRw : Hid ((((wr.drew).alloc (.cells MB 5)).alloc (.cells #[.slice (some ⟨wr.heap.size, 0, none⟩) 128 128] 27)).ownsRow w.heap.size 27 1 (.slice aB k cB) k (rowL k qb qc)) := World.ownsRow.alloc (World.ownsRow.alloc (row_heap hM.own rfl) _) _
      have HCe : Hid ((((wr.drew).alloc (.cells MB 5)).alloc (.cells #[.slice (some ⟨wr.heap.size, 0, none⟩) 128 128] 27)).cell? ⟨wr.heap.size + 1, 0, none⟩ = some (.slice (some ⟨wr.heap.size, 0, none⟩) 128 128)) := (by rw [World.cell?_alloc_at _ _ _ _ (by simp)]; rfl : (((wr.drew).alloc (.cells MB 5)).alloc (.cells #[.slice (some ⟨wr.heap.size, 0, none⟩) 128 128] 27)).cell? ⟨wr.heap.size + 1, 0, none⟩ = some (.slice (some ⟨wr.heap.size, 0, none⟩) 128 128))
      have HSz : Hid (w.heap.size ≤ (((wr.drew).alloc (.cells MB 5)).alloc (.cells #[.slice (some ⟨wr.heap.size, 0, none⟩) 128 128] 27)).heap.size) := (by simp; omega : w.heap.size ≤ (((wr.drew).alloc (.cells MB 5)).alloc (.cells #[.slice (some ⟨wr.heap.size, 0, none⟩) 128 128] 27)).heap.size)
      have HQ : Hid (∀ v2 w2, w2.ownsRow w.heap.size 27 1 v2 (k + 1) (rowL k qb qc ++ [.slice (some ⟨wr.heap.size, 0, none⟩) 128 128]) → (((wr.drew).alloc (.cells MB 5)).alloc (.cells #[.slice (some ⟨wr.heap.size, 0, none⟩) 128 128] 27)).grownBy w2 (Value.slice aB k cB).ownBlock →
          (∃ a2 c2, v2 = .slice a2 (k + 1) c2) ∧ w2.cell? ⟨w.heap.size, 0, none⟩ = some (.slice aB k cB) ∧ w2.frozen? ⟨w.heap.size, 0, none⟩ = false ∧ Hid (∀ wf : World, wf.heap = (w2.setCell ⟨w.heap.size, 0, none⟩ v2).heap → wf.os = w2.os → wf.tape = w2.tape → wf.output = w2.output → NewK wf w.heap.size w.heap.size (k + 1) v2 ∧ Below w.heap.size w wf)) := fun v2 w2 h2 hg2 => by
        have hb1 : Below wr.heap.size wr ((wr.drew).alloc (.cells MB 5)) := ((Below.refl wr.heap.size wr).drew).alloc (Nat.le_refl _) _
        have st := fun wf => NewK.step (wf := wf) hX1 hM hb1 hs (HMO.out wr.drew) _ h2 hg2
        obtain ⟨g2, c2, e2, _⟩ := row_some h2 (by omega)
        refine ⟨⟨_, c2, e2⟩, cells_at (st w2).1 0, cells_free (st w2).1 0, fun wf e1 e3 e4 e5 => ⟨(st wf).2 e1, ?_⟩⟩
        have b2 : Below w.heap.size w w2 := ((hb.trans (hb1.mono hs)).alloc (by simp; omega) _).grown hg2 HSz.out (fun q hq => (World.ownsRow.lt hM.own q hq).1)
        have b3 := b2.setCell (p := ⟨w.heap.size, 0, none⟩) (Nat.le_refl _) v2
        exact ⟨e3.trans b2.os, e4.trans b2.tape, e5.trans b2.output, by rw [e1]; exact b3.size, fun q hq => by rw [e1]; exact b3.block q hq⟩
      clear hX1 hM HN
      go_wp2
      go_region_law (refine step_append_own_at rfl _ _ 34 rfl w.heap.size 27 i0 (.slice none 0 0) 1 24 Try.underlying34 hi0 hz0 hz1 hz2 rfl (by decide) (.slice aB k cB) k (rowL k qb qc) (by go_simp) (by exact HRw.out) ⟨wr.heap.size + 1, 0, none⟩ 1 1 [.slice (some ⟨wr.heap.size, 0, none⟩) 128 128] (by go_simp) rfl (by intro j u hj; have hj0 : j = 0 := (by have := (List.getElem?_eq_some_iff.1 hj).1; simp at this; omega); subst hj0; rw [Addr.add_lit, Nat.zero_add]; refine Eq.trans (by exact HCe.out) ?_; simpa using hj) (by intro u hu; simp at hu; rw [hu]; rfl) (by unfold maxLen; omega) (by omega) (by exact HSz.out) ?_; intro v2 w2 ho2 hg2 ha2; obtain ⟨⟨a2, c2, hv2⟩, x1, x2, HE⟩ := HQ.out v2 w2 ho2 hg2; subst hv2; clear ho2 hg2 ha2)
      all_goals
        have HE2 := HE
        clear HE
        go_wp2
        go_roundw
        case rel =>
          obtain ⟨z1, z2⟩ := HE2.out _ (by rfl) (by rfl) (by rfl) (by rfl)
          exact ⟨k + 1, _, by omega, by go_num, z1, z2⟩
        case measure => simp [intOf]; omega
    · obtain rfl : k = n := by omega
      clear hN
      go_wp2
      go_ret2
      exact ⟨_, rfl, HN.out.rk (Nat.le_refl _) h1 h2, hb⟩
end Go.Proofs.Ytnoaobnjecapjaa
