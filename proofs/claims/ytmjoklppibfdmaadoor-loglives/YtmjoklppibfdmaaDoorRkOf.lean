/-
  Contract of the document's Of over slices of bytes.
-/
import Derived.Test.YtmjoklppibfdmaaDoorGh
import Derived.Test.YtmjoklppibfdmaaDoorRkNew
import Derived.Test.YtmjoklppibfdmaaDoorGj
namespace Go.Proofs.YtmjoklppibfdmaaDoor
open Go.RowKit
set_option linter.unusedVariables false

/-- Of behind k rounds. -/
def OfK (w : World) (X B k : Nat) (vB : Value) (f : Nat → Nat → Int) : Prop := ∃ qb qc, w.heap[X]? = some (.cells #[vB, .slice none 0 0] 106 (0, 0)) ∧ Mine w B vB k qb qc f
theorem OfK.step {w w1 w2 wf : World} {X B k : Nat} {vB v2 : Value} {qb qc : Nat → Nat} {f : Nat → Nat → Int} (hX : w.heap[X]? = some (.cells #[vB, .slice none 0 0] 106 (0, 0))) (h : Mine w B vB k qb qc f) (hb1 : Below w.heap.size w w1) (hB : B ≤ w.heap.size) {g c1 : Nat} (ho : Own w1 w.heap.size (.slice (some ⟨g, 0, none⟩) 128 c1) (lst (f k) 128)) (o : Obj)
    (h2 : w2.ownsRow B 34 1 v2 (k + 1) (rowL k qb qc ++ [.slice (some ⟨g, 0, none⟩) 128 c1])) (hg2 : (w1.alloc o).grownBy w2 vB.ownBlock) :
    w2.heap[X]? = some (.cells #[vB, .slice none 0 0] 106 (0, 0)) ∧ (wf.heap = (w2.setCell ⟨X, 0, none⟩ v2).heap → OfK wf X B (k + 1) v2 f) := by
  have hs1 := hb1.size
  have hXl : X < w.heap.size := (Array.getElem?_eq_some_iff.1 hX).1
  have hsz : (w1.alloc o).heap.size = w1.heap.size + 1 := by simp
  have nX : vB.ownBlock ≠ some X := fun e => by
    obtain ⟨c3, k3⟩ := row_block h.own e
    exact two_types hX k3 (by decide) rfl
  have hX2 : w2.heap[X]? = some (.cells #[vB, .slice none 0 0] 106 (0, 0)) := by
    rw [hg2.block X (by omega) (fun e => nX e.symm), heap_alloc_past _ _ _ (by omega), hb1.block X hXl]
    exact hX
  have hM := h.snoc hb1 hB ho o h2 hg2
  refine ⟨hX2, fun e1 => ⟨fun j => if j = k then g else qb j, fun j => if j = k then c1 else qc j, ?_, ?_⟩⟩
  · rw [e1, heap_set_same hX2]; rfl
  · have n2 : v2.ownBlock ≠ some X := fun e => by
      obtain ⟨c3, k3⟩ := row_block h2 e
      exact two_types hX2 k3 (by decide) rfl
    have nq : ∀ j, j < k + 1 → (if j = k then g else qb j) ≠ X := fun j hj e => by
      obtain ⟨c4, k4⟩ := hM.ty j hj
      exact two_types k4 hX2 (by decide) e
    have r1 : (w2.setCell ⟨X, 0, none⟩ v2).ownsRow B 34 1 v2 (k + 1) _ := row_set hM.own n2 _ _
    refine ⟨row_heap r1 e1, fun j hj => ?_, fun j hj => ?_, hM.ge⟩
    · rcases hM.from_ j hj with ⟨e, _⟩ | ⟨x, e, hh⟩
      · cases e
      · cases e
        refine .inr ⟨_, rfl, fun q hq => ?_⟩
        have h9 := hh q hq
        rw [Addr.add_lit] at h9 ⊢
        rw [World.cell?_of_block (w := w2) (by rw [e1]; exact heap_set_other _ (nq j hj) _ _)]
        exact h9
    · rw [e1, heap_set_other _ (nq j hj)]
      exact hM.ty j hj
theorem flat_sh (f : Nat → Nat → Int) (i q : Nat) (hq : q < 128) : sh (flat f) (i * 128) q = f i q := by
  show f ((i * 128 + q) / 128) ((i * 128 + q) % 128) = f i q
  rw [show (i * 128 + q) / 128 = i by omega, show (i * 128 + q) % 128 = q by omega]
theorem OfK.rk {w wf : World} {X n : Nat} {vB : Value} {f : Nat → Nat → Int} (h : OfK wf X w.heap.size n vB f) (hX : w.heap.size ≤ X) (n1 : 1 ≤ n) (n2 : n ≤ 4096) (y : ∀ i, 0 ≤ flat f i ∧ flat f i ≤ 255) : Rk wf X (fun k => w.heap.size ≤ k ∧ k < wf.heap.size) n (flat f) 0 (fun _ => 0) (fun _ => 0) := by
  obtain ⟨qb, qc, hX1, hM⟩ := h
  obtain ⟨g, c, e, hgl, _⟩ := row_some hM.own (by omega)
  subst e
  have hXl : X < wf.heap.size := (Array.getElem?_eq_some_iff.1 hX1).1
  have hR := hM.rws
  have hR2 : Rws wf g n qb (fun _ => 0) qc (fun i => sh (flat f) (i * 128)) := ⟨hR.cell, hR.free, fun i hi => by
    rcases hR.from_ i hi with ⟨e, _⟩ | ⟨x, e, hh⟩
    · cases e
    · exact .inr ⟨x, e, fun q hq => by rw [flat_sh f i q hq]; exact hh q hq⟩⟩
  exact ⟨g, c, .slice none 0 0, qb, qc, fun _ => 0, fun _ => 0, ⟨hX1, row_block hM.own rfl, hR2, World.ownsRow_nil _ _ _ _, fun j hj => by omega, ⟨hX, hXl⟩, ⟨(World.ownsRow.lt hM.own g rfl).1, hgl⟩, (fun k hk => by cases hk), fun i hi => ⟨hM.ge i hi, hM.lt i hi⟩, fun j hj => by omega, hM.ty, fun j hj => by omega, fun k hk => hk.2, fun j hj => by omega, y, fun _ => by decide, n1, n2⟩⟩

set_option maxRecDepth 100000 in
set_option maxHeartbeats 2000000 in
theorem rOf_size (ag : Option Addr) (N cg : Nat) (w : World) (hN : N < 1 ∨ 4096 < N) :
    Calls Tryd.prog 30 #[.slice ag N cg] w fun e w' => e = .returned (.tuple #[.pointer none, .int .i64 1]) ∧ Below w.heap.size w w' := by
  by_cases h0 : N < 1
  · obtain rfl : N = 0 := by omega
    clear hN
    go_enter Tryd.func30, Tryd.ntmps30
    go_wp2
    go_ret2
    exact ⟨rfl, Below.refl _ _⟩
  · have h1 : ¬ (N : Int) < 1 := by omega
    have h2 : (4096 : Int) < (N : Int) := by omega
    clear hN
    go_enter Tryd.func30, Tryd.ntmps30
    go_wp2
    go_ret2
    exact ⟨rfl, Below.refl _ _⟩

set_option maxRecDepth 100000 in
set_option maxHeartbeats 4000000 in
theorem rOf_in (ag : Option Addr) (N cg : Nat) (A : Nat → Option Addr) (L C : Nat → Nat) (f : Nat → Nat → Int) (w : World) (h : Img w ag N A L C f) (n1 : 1 ≤ N) (n2 : N ≤ 4096) (hby : ∀ i j, 0 ≤ f i j ∧ f i j ≤ 255) :
    Calls Tryd.prog 30 #[.slice ag N cg] w fun e w' => ((∃ i, i < N ∧ L i ≠ 128) ∧ e = .returned (.tuple #[.pointer none, .int .i64 1]) ∧ Below w.heap.size w w') ∨ ((∀ i, i < N → L i = 128) ∧ ∃ X, e = .returned (.tuple #[.pointer (some ⟨X, 0, none⟩), .int .i64 0]) ∧ Rk w' X (fun k => w.heap.size ≤ k ∧ k < w'.heap.size) N (flat f) 0 (fun _ => 0) (fun _ => 0) ∧ Below w.heap.size w w') := by
  obtain ⟨i0, hi0, hz0, hz1, hz2⟩ := info_parts infoB
  have H : Hid (∀ wq, Below w.heap.size w wq → Img wq ag N A L C f) := fun wq hq => h.below hq
  have g3 : ¬ (N : Int) < 1 := by omega
  have g4 : ¬ (4096 : Int) < (N : Int) := by omega
  have HBy : Hid (∀ i, 0 ≤ flat f i ∧ flat f i ≤ 255) := fun i => hby _ _
  have H0 : Hid (OfK (w.alloc (.cells #[.slice none 0 0, .slice none 0 0] 106)) w.heap.size w.heap.size 0 (.slice none 0 0) f) := ⟨fun _ => 0, fun _ => 0, heap_alloc_at _ _ _ rfl, World.ownsRow_nil _ _ _ _, fun j hj => by omega, fun j hj => by omega, fun j hj => by omega⟩
  have HB0 : Hid (Below w.heap.size w (w.alloc (.cells #[.slice none 0 0, .slice none 0 0] 106))) := (Below.refl _ w).alloc (Nat.le_refl _) _
  clear h hby
  go_enter Tryd.func30, Tryd.ntmps30
  go_wp2
  go_loopw [19] (fun i wr => ∃ (k : Nat) (vB : Value), k ≤ N ∧ i = .int .i64 (k : Int) ∧ (∀ j, j < k → L j = 128) ∧ OfK wr w.heap.size w.heap.size k vB f ∧ Below w.heap.size w wr) (fun i _ => N - (intOf i).toNat)
  case atStart => exact ⟨0, _, Nat.zero_le _, rfl, fun j hj => by omega, H0.out, HB0.out⟩
  case round =>
    obtain ⟨k, vB, hk, rfl, hA, hN, hb⟩ := hrel
    have HN : Hid (OfK wr w.heap.size w.heap.size k vB f) := hN
    have HA : Hid (∀ j, j < k → L j = 128) := hA
    clear hA
    by_cases hlt : k < N
    · have hlt' : (k : Int) < (N : Int) := by omega
      have hk0 : (0 : Int) ≤ (k : Int) := by omega
      obtain ⟨b, off, rfl, p1, p2, p3⟩ := H.out wr hb k hlt
      by_cases hL : L k = 128
      · rw [hL] at p1 p2
        have HA2 : Hid (∀ j, j < k + 1 → L j = 128) := fun j hj => by
          by_cases e : j = k
          · rw [e]; exact hL
          · exact HA.out j (by omega)
        obtain ⟨qb, qc, hX1, hM⟩ := hN
        have hs := hb.size
        have hXl : w.heap.size < wr.heap.size := (Array.getElem?_eq_some_iff.1 hX1).1
        obtain ⟨aB, cB, rfl⟩ : ∃ aB cB, vB = .slice aB k cB := by
          rcases hM.own.2 with ⟨rfl, h0⟩ | ⟨g, cap, cur, rfl, _⟩
          · rw [h0]; exact ⟨none, 0, rfl⟩
          · exact ⟨_, cap, rfl⟩
        have q0 : wr.cell? ⟨w.heap.size, 0, none⟩ = some (.slice aB k cB) := cells_at hX1 0
        have HF3 : Hid (From wr.drew (A k) 128 (f k)) := p2
        have HX : Hid (∀ wq, Below wr.heap.size wr.drew wq → wq.cell? ⟨w.heap.size, 0, none⟩ = some (.slice aB k cB) ∧ w.heap.size < wq.heap.size ∧ (∀ o, (wq.alloc o).cell? ⟨w.heap.size, 0, none⟩ = some (.slice aB k cB)) ∧ (∀ o, (wq.alloc o).ownsRow w.heap.size 34 1 (.slice aB k cB) k (rowL k qb qc)) ∧ ∀ o, w.heap.size ≤ (wq.alloc o).heap.size) := fun wq hq => by
          have hs9 : wr.heap.size ≤ wq.heap.size := hq.size
          have e : wq.cell? ⟨w.heap.size, 0, none⟩ = some (.slice aB k cB) := by rw [hq.cell (p := ⟨w.heap.size, 0, none⟩) hXl]; exact q0
          have hrow : wq.ownsRow w.heap.size 34 1 (.slice aB k cB) k (rowL k qb qc) := Part.row (F := fun _ => False) (Part.ofBelow (w := wr.drew) hq) (row_heap hM.own rfl) (fun _ _ h => h)
          exact ⟨e, by omega, fun o => (World.cell?_alloc_past (w := wq) o w.heap.size 0 (by omega)).trans e, fun o => World.ownsRow.alloc hrow o, fun o => by simp; omega⟩
        have HQ : Hid (∀ (wa w2 : World) (g c1 : Nat) (o : Obj) (v2 : Value), Below wr.heap.size wr.drew wa → Own wa wr.heap.size (.slice (some ⟨g, 0, none⟩) 128 c1) (lst (f k) 128) → w2.ownsRow w.heap.size 34 1 v2 (k + 1) (rowL k qb qc ++ [.slice (some ⟨g, 0, none⟩) 128 c1]) → (wa.alloc o).grownBy w2 (Value.slice aB k cB).ownBlock →
            (∃ a2 c2, v2 = .slice a2 (k + 1) c2) ∧ w2.cell? ⟨w.heap.size, 0, none⟩ = some (.slice aB k cB) ∧ w2.frozen? ⟨w.heap.size, 0, none⟩ = false ∧ Hid (∀ wf : World, wf.heap = (w2.setCell ⟨w.heap.size, 0, none⟩ v2).heap → wf.os = w2.os → wf.tape = w2.tape → wf.output = w2.output → OfK wf w.heap.size w.heap.size (k + 1) v2 f ∧ Below w.heap.size w wf)) := fun wa w2 g c1 o v2 hba hoa h2 hg2 => by
          have hb1 : Below wr.heap.size wr wa := ⟨hba.os, hba.tape, hba.output, hba.size, hba.block⟩
          have st := fun wf => OfK.step (wf := wf) hX1 hM hb1 hs hoa o h2 hg2
          obtain ⟨g2, c2, e2, _⟩ := row_some h2 (by omega)
          refine ⟨⟨_, c2, e2⟩, cells_at (st w2).1 0, cells_free (st w2).1 0, fun wf e1 e3 e4 e5 => ⟨(st wf).2 e1, ?_⟩⟩
          have b2 : Below w.heap.size w w2 := ((hb.trans (hb1.mono hs)).alloc (by have := hb1.size; omega) _).grown hg2 (by have := hb1.size; simp; omega) (fun q hq => (World.ownsRow.lt hM.own q hq).1)
          have b3 := b2.setCell (p := ⟨w.heap.size, 0, none⟩) (Nat.le_refl _) v2
          exact ⟨e3.trans b2.os, e4.trans b2.tape, e5.trans b2.output, by rw [e1]; exact b3.size, fun q hq => by rw [e1]; exact b3.block q hq⟩
        have hbD : Below wr.heap.size wr.drew wr.drew := Below.refl _ _
        obtain ⟨y1, y2, y3, _⟩ := HX.out _ hbD
        clear hX1 hM HN p2
        go_wp2
        go_region_law (first
          | (refine step_append_own_at rfl _ _ 22 rfl w.heap.size 34 i0 (.slice none 0 0) 1 24 Tryd.underlying22 hi0 hz0 hz1 hz2 rfl (by decide) (.slice aB k cB) k (rowL k qb qc) (by go_simp) (by exact (HX.out wa hba).2.2.2.1 _) ⟨wa.heap.size, 0, none⟩ 1 1 [.slice (some ⟨g2, 0, none⟩) 128 c2] (by go_simp) rfl (by intro j u hj; rw [Addr.add_lit, Nat.zero_add, World.cell?_alloc_at _ _ _ _ rfl]; simpa using hj) (by intro u hu; simp at hu; rw [hu]; rfl) (by unfold maxLen; omega) (by omega) (by exact (HX.out wa hba).2.2.2.2 _) ?_; intro v2 w2 ho2 hg2 ha2; obtain ⟨⟨a2, c3, hv2⟩, x1, x2, HE⟩ := HQ.out wa w2 g2 c2 _ v2 hba hoa ho2 hg2; subst hv2; clear ho2 hg2 ha2)
          | (go_simp; go_at_call 61; refine (copiedR (A k) 128 (C k) (f k) _ (by omega) (by exact HF3.out) p3).mono ?_; rintro e' wa ⟨v1, rfl, hoa, hba⟩; obtain ⟨g2, c2, hv1, hoa, _, _, _, _⟩ := own_some hoa (by omega); subst hv1; have hoa := hoa.mono (B' := wr.heap.size) (by simp); have hba := hba.mono (B' := wr.heap.size) (by simp); obtain ⟨t1, t2, t3, _⟩ := HX.out wa hba))
        all_goals
          have HE2 := HE
          clear HE
          go_wp2
          go_roundw
          case rel =>
            obtain ⟨z1, z2⟩ := HE2.out _ (by rfl) (by rfl) (by rfl) (by rfl)
            exact ⟨k + 1, _, by omega, by go_num, HA2.out, z1, z2⟩
          case measure => simp [intOf]; omega
      · have hL' : ¬ (L k : Int) = 128 := by omega
        have hL2 : ((L k : Int) == 128) = false := beq_eq_false_iff_ne.2 hL'
        have HNo : Hid (∃ i, i < N ∧ L i ≠ 128) := ⟨k, hlt, hL⟩
        clear hN p2
        go_wp2
        go_ret2
        exact .inl ⟨HNo.out, rfl, hb⟩
    · obtain rfl : k = N := by omega
      clear hN
      go_wp2
      go_ret2
      exact .inr ⟨HA.out, _, rfl, HN.out.rk (Nat.le_refl _) n1 n2 HBy.out, hb⟩
end Go.Proofs.YtmjoklppibfdmaaDoor
