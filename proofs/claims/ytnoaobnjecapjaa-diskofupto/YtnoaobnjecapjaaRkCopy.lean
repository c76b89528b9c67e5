/-
  Contract of the document's Copy over Rk.
-/
import Derived.Test.YtnoaobnjecapjaaRkImageM
import Derived.Test.YtnoaobnjecapjaaRkWrite
namespace Go.Proofs.Ytnoaobnjecapjaa
open Go.RowKit
set_option linter.unusedVariables false

/-- Rows of one's own and a struct over them: a disk of the document's without writes. -/
theorem Mine.rk {w w1 : World} {n g c : Nat} {qb qc : Nat → Nat} {dur : Nat → Int} (h : Mine w1 w.heap.size (.slice (some ⟨g, 0, none⟩) n c) n qb qc (fun i => sh dur (i * 128))) (hb : Below w.heap.size w w1) (n1 : 1 ≤ n) (n2 : n ≤ 4096) (y1 : ∀ i, 0 ≤ dur i ∧ dur i ≤ 255) (tf : Nat → Nat) (ld : Nat → Int) (y2 : ∀ i, 0 ≤ ld i ∧ ld i ≤ 255) :
    Rk (w1.alloc (.cells #[.slice (some ⟨g, 0, none⟩) n c, .slice none 0 0] 58)) w1.heap.size (fun k => w.heap.size ≤ k ∧ k < (w1.alloc (.cells #[.slice (some ⟨g, 0, none⟩) n c, .slice none 0 0] 58)).heap.size) n dur 0 tf ld := by
  have hs := hb.size
  have hsz : (w1.alloc (.cells #[.slice (some ⟨g, 0, none⟩) n c, .slice none 0 0] 58)).heap.size = w1.heap.size + 1 := by simp
  have hpt : Part (fun _ => False) w1 (w1.alloc (.cells #[.slice (some ⟨g, 0, none⟩) n c, .slice none 0 0] 58)) := (Part.refl _ w1).alloc _
  obtain ⟨hg0, hgl⟩ := World.ownsRow.lt h.own g rfl
  refine ⟨g, c, .slice none 0 0, qb, qc, fun _ => 0, fun _ => 0, ?_⟩
  exact ⟨heap_alloc_at _ _ _ rfl, by rw [heap_alloc_past _ _ _ hgl]; exact row_block h.own rfl, h.rws.part hpt (fun h => h) hgl (fun _ _ h => h), World.ownsRow_nil _ _ _ _, fun j hj => by omega, ⟨by omega, by omega⟩, ⟨hg0, by omega⟩, (fun k hk => by cases hk), fun i hi => ⟨h.ge i hi, by have := h.lt i hi; omega⟩, fun j hj => by omega, fun i hi => by rw [heap_alloc_past _ _ _ (h.lt i hi)]; exact h.ty i hi, fun j hj => by omega, fun k hk => hk.2, fun j hj => by omega, y1, y2, n1, n2⟩

set_option maxRecDepth 100000 in
set_option maxHeartbeats 2000000 in
theorem rkCopy (X n m : Nat) (F : Nat → Prop) (dur : Nat → Int) (tf : Nat → Nat) (ld : Nat → Int) (w : World) (h : Rk w X F n dur m tf ld) (hm : m ≤ 549755813887) :
    Calls Try.prog 10 #[.pointer (some ⟨X, 0, none⟩)] w fun e w' => ∃ X', e = .returned (.pointer (some ⟨X', 0, none⟩)) ∧ Rk w' X' (fun k => w.heap.size ≤ k ∧ k < w'.heap.size) n dur m tf ld ∧ Below w.heap.size w w' := by
  have H0 : Hid (Rk w X F n dur m tf ld) := h
  obtain ⟨gB, cB, vP, rb, rc, pb, pc, h⟩ := h
  obtain ⟨i0, hi0, hz0, hz1, hz2⟩ := info_parts infoSent
  obtain ⟨aP, cP, rfl⟩ : ∃ aP cP, vP = .slice aP m cP := by
    rcases h.oP.2 with ⟨rfl, h0⟩ | ⟨g, cap, cur, rfl, _⟩
    · rw [h0]; exact ⟨none, 0, rfl⟩
    · exact ⟨_, cap, rfl⟩
  have HM : Hid ((∀ j, j < m → tf j < n) ∧ (∀ i, 0 ≤ dur i ∧ dur i ≤ 255) ∧ (∀ i, 0 ≤ ld i ∧ ld i ≤ 255) ∧ 1 ≤ n ∧ n ≤ 4096) := ⟨h.tn, h.by1, h.by2, h.n1, h.n2⟩
  have HL : Hid (∀ wq, Below w.heap.size w wq → wq.cell? ⟨X, 1, none⟩ = some (.slice aP m cP) ∧ ∀ j, j < m → ∃ gP, aP = some ⟨gP, 0, none⟩ ∧ wq.cell? ⟨gP, j * 2, none⟩ = some (.int .i64 (tf j : Int)) ∧ wq.cell? ⟨gP, j * 2 + 1, none⟩ = some (.slice (some ⟨pb j, 0, none⟩) 128 (pc j)) ∧ From wq (some ⟨pb j, 0, none⟩) 128 (sh ld (j * 128))) := fun wq hq => by
    have h9 := h.part (Part.ofBelow (F := fun _ => False) hq) (fun _ _ h => h)
    refine ⟨cells_at h9.hX 1, fun j hj => ?_⟩
    rcases h9.oP.2 with ⟨_, h0⟩ | ⟨g, cap, cur, e, _⟩
    · omega
    · injection e with x1 x2 x3
      subst x1
      refine ⟨g, rfl, ?_, ?_, h9.pf j hj⟩
      · rw [World.ownsRow.cellAt h9.oP (j * 2) (by omega)]; exact (sentL_get m tf pb pc j hj).1
      · rw [World.ownsRow.cellAt h9.oP (j * 2 + 1) (by omega)]; exact (sentL_get m tf pb pc j hj).2
  clear h
  go_enter Try.func10, Try.ntmps10
  go_wp2_with fail
  refine (rkImageM X n m F dur tf ld w H0.out).mono ?_
  rintro e w1 ⟨g, c, qb, qc, rfl, hMi, hb1⟩
  obtain ⟨oc, hOc⟩ : ∃ oc, Obj.cells #[.slice (some ⟨g, 0, none⟩) n c, .slice none 0 0] 58 = oc := ⟨_, rfl⟩
  have HK0 : Hid (Rk (w1.alloc oc) w1.heap.size (fun k => w.heap.size ≤ k ∧ k < (w1.alloc oc).heap.size) n dur 0 tf ld) := by
    rw [← hOc]
    exact hMi.rk hb1 HM.out.2.2.2.1 HM.out.2.2.2.2 HM.out.2.1 tf ld HM.out.2.2.1
  have hb2 : Below w.heap.size w (w1.alloc oc) := hb1.alloc hb1.size oc
  have q1 := (HL.out _ hb2).1
  have HB2 : Hid (Below w.heap.size w (w1.alloc oc)) := hb2
  clear hMi hb1 hb2 H0
  go_wp2_with fail
  try rw [hOc]
  go_loopw [15] (fun i wr => ∃ k : Nat, k ≤ m ∧ i = .int .i64 (k : Int) ∧ Rk wr w1.heap.size (fun q => w.heap.size ≤ q ∧ q < wr.heap.size) n dur k tf ld ∧ Below w.heap.size w wr) (fun i _ => m - (intOf i).toNat)
  case atStart => exact ⟨0, Nat.zero_le _, rfl, HK0.out, HB2.out⟩
  case round =>
    obtain ⟨k, hk, rfl, hR, hb⟩ := hrel
    have HR : Hid (Rk wr w1.heap.size (fun q => w.heap.size ≤ q ∧ q < wr.heap.size) n dur k tf ld) := hR
    have hs := hb.size
    by_cases hlt : k < m
    · have hlt' : (k : Int) < (m : Int) := by omega
      have hk0 : (0 : Int) ≤ (k : Int) := by omega
      obtain ⟨gP, rfl, p1, p2, p3⟩ := (HL.out wr hb).2 k hlt
      obtain ⟨ob, hO⟩ : ∃ ob, Obj.cells #[.int .i64 (tf k : Int), .slice (some ⟨pb k, 0, none⟩) 128 (pc k)] 75 = ob := ⟨_, rfl⟩
      have hsz : (wr.alloc ob).heap.size = wr.heap.size + 1 := by simp
      have hbo : Below wr.heap.size wr (wr.alloc ob) := (Below.refl _ wr).alloc (Nat.le_refl _) ob
      obtain ⟨gc, cc, vQ, rb', rc', pb', pc', h⟩ := hR
      have ho := h.part (Part.ofBelow (F := fun _ => False) hbo) (fun _ _ h => h)
      have lX := h.lt _ h.FX
      obtain ⟨aQ, cQ, rfl⟩ : ∃ aQ cQ, vQ = .slice aQ k cQ := by
        rcases h.oP.2 with ⟨rfl, h0⟩ | ⟨g, cap, cur, rfl, _⟩
        · rw [h0]; exact ⟨none, 0, rfl⟩
        · exact ⟨_, cap, rfl⟩
      have hob0 : (wr.alloc ob).cell? ⟨wr.heap.size, 0, none⟩ = some (.int .i64 (tf k : Int)) := by rw [← hO, World.cell?_alloc_at _ _ _ _ rfl]; rfl
      have hob1 : (wr.alloc ob).cell? ⟨wr.heap.size, 1, none⟩ = some (.slice (some ⟨pb k, 0, none⟩) 128 (pc k)) := by rw [← hO, World.cell?_alloc_at _ _ _ _ rfl]; rfl
      have hq1 : (wr.alloc ob).cell? ⟨w1.heap.size, 1, none⟩ = some (.slice aQ k cQ) := cells_at ho.hX 1
      have HX : Hid (∀ wq, Below (wr.heap.size + 1) (wr.alloc ob).drew wq → wq.cell? ⟨w1.heap.size, 1, none⟩ = some (.slice aQ k cQ) ∧ wq.cell? ⟨wr.heap.size, 0, none⟩ = some (.int .i64 (tf k : Int)) ∧ w1.heap.size < wq.heap.size ∧ (∀ o, (wq.alloc o).cell? ⟨w1.heap.size, 1, none⟩ = some (.slice aQ k cQ)) ∧ (∀ o, (wq.alloc o).ownsRow 0 75 2 (.slice aQ k cQ) k (sentL k tf pb' pc'))) := fun wq hq => by
        have hs : wr.heap.size + 1 ≤ wq.heap.size := by have := hq.size; simp at this; omega
        have e : wq.cell? ⟨w1.heap.size, 1, none⟩ = some (.slice aQ k cQ) := by rw [hq.cell (p := ⟨w1.heap.size, 1, none⟩) (by show w1.heap.size < wr.heap.size + 1; omega)]; exact hq1
        have hrow : wq.ownsRow 0 75 2 (.slice aQ k cQ) k (sentL k tf pb' pc') := Part.row (F := fun _ => False) (Part.ofBelow (w := (wr.alloc ob).drew) (hq.mono (by simp))) (row_heap ho.oP rfl) (fun _ _ h => h)
        exact ⟨e, by rw [hq.cell (p := ⟨wr.heap.size, 0, none⟩) (by show wr.heap.size < wr.heap.size + 1; omega)]; exact hob0, by omega, fun o => (World.cell?_alloc_past (w := wq) o w1.heap.size 1 (by omega)).trans e, fun o => World.ownsRow.alloc hrow o⟩
      have HF3 : Hid (From (wr.alloc ob).drew (some ⟨pb k, 0, none⟩) 128 (sh ld (k * 128))) := p3.alloc ob
      have HW : Hid (∀ (wa w2 : World) (g c1 : Nat) (o : Obj) (v2 : Value), Below (wr.heap.size + 1) (wr.alloc ob).drew wa → Own wa (wr.heap.size + 1) (.slice (some ⟨g, 0, none⟩) 128 c1) (lst (sh ld (k * 128)) 128) → w2.ownsRow 0 75 2 v2 (k + 1) (sentL k tf pb' pc' ++ [.int .i64 (tf k : Int), .slice (some ⟨g, 0, none⟩) 128 c1]) → (wa.alloc o).grownBy w2 (Value.slice aQ k cQ).ownBlock → (v2.ownBlock = (Value.slice aQ k cQ).ownBlock ∨ v2.ownBlock = some (wa.alloc o).heap.size) →
          (∃ g2 c2, v2 = .slice (some ⟨g2, 0, none⟩) (k + 1) c2) ∧ w2.cell? ⟨w1.heap.size, 1, none⟩ = some (.slice aQ k cQ) ∧ w2.frozen? ⟨w1.heap.size, 1, none⟩ = false ∧ Hid (∀ wf : World, wf.heap = (w2.setCell ⟨w1.heap.size, 1, none⟩ v2).heap → wf.os = w2.os → wf.tape = w2.tape → wf.output = w2.output →
          Rk wf w1.heap.size (fun q => w.heap.size ≤ q ∧ q < wf.heap.size) n dur (k + 1) tf ld ∧ Below w.heap.size w wf)) := fun wa w2 g c1 o v2 hba hoa h2 hg2 ha => by
        have hb' : Below (wr.alloc ob).heap.size (wr.alloc ob) wa := ⟨hba.os, hba.tape, hba.output, hba.size, fun q hq => hba.block q (by omega)⟩
        obtain ⟨r1, r2⟩ := ho.written (tf k) (HM.out.1 k hlt) (sh_by HM.out.2.2.1 (k * 128)) hb' (hoa.mono (by omega)) o h2 hg2 ha
        obtain ⟨g2, c2, e2, _⟩ := row_some h2 (by omega)
        refine ⟨⟨g2, c2, e2⟩, cells_at r1 1, cells_free r1 1, fun wf e1 e3 e4 e5 => ?_⟩
        obtain ⟨z1, z2⟩ := r2 wf e1 e3 e4 e5
        have zs := z2.size
        have et : (fun j => if j = k then tf k else tf j) = tf := by
          funext j
          by_cases e : j = k
          · rw [if_pos e, e]
          · rw [if_neg e]
        have el : (fun q => if q < k * 128 then ld q else sh ld (k * 128) (q - k * 128)) = ld := by
          funext q
          by_cases e : q < k * 128
          · rw [if_pos e]
          · rw [if_neg e]
            unfold sh
            congr 1
            omega
        rw [et, el] at z1
        refine ⟨z1.grow (fun q hq => ?_) (fun q hq => hq.2), (hb.trans (hbo.mono hs)).trans (z2.below (fun q hq => hq.1) (by omega))⟩
        rcases hq with hq | hq
        · exact ⟨hq.1, by omega⟩
        · exact ⟨by omega, hq.2⟩
      have hbD : Below (wr.heap.size + 1) (wr.alloc ob).drew (wr.alloc ob).drew := Below.refl _ _
      obtain ⟨y1, y2, y3, y4, _⟩ := HX.out _ hbD
      clear h ho p3 HR hbo hq1
      go_wp2
      go_region_law (first
        | (refine step_append_own_at rfl _ _ 56 rfl 0 75 i0 (.agg #[.int .i64 0, .slice none 0 0]) 2 32 Try.underlying56 hi0 hz0 hz1 hz2 rfl (by decide) (.slice aQ k cQ) k (sentL k tf pb' pc') (by go_simp) (by exact (HX.out wa hba).2.2.2.2 _) ⟨wa.heap.size, 0, none⟩ 1 1 [.int .i64 (tf k : Int), .slice (some ⟨g2, 0, none⟩) 128 c2] (by go_simp) rfl (by intro j u hj; rw [Addr.add_lit, Nat.zero_add, World.cell?_alloc_at _ _ _ _ rfl]; simpa using hj) (by intro u hu; simp at hu; rcases hu with rfl | rfl <;> rfl) (by unfold maxLen; omega) (by omega) (Nat.zero_le _) ?_; intro v2 w2 ho2 hg2 ha2; obtain ⟨⟨gx, cx, hv2⟩, x1, x2, HE⟩ := HW.out wa w2 g2 c2 _ v2 hba hoa ho2 hg2 ha2; subst hv2)
        | (go_simp; go_at_call 36; refine (copiedR (some ⟨pb k, 0, none⟩) 128 (pc k) (sh ld (k * 128)) _ (by omega) (by exact HF3.out) (fun h => by cases h)).mono ?_; rintro e' wa ⟨v1, rfl, hoa, hba⟩; obtain ⟨g2, c2, hv1, hoa, _, _, _, _⟩ := own_some hoa (by omega); subst hv1; have hoa := hoa.mono (B' := wr.heap.size + 1) (by simp); have hba := hba.mono (B' := wr.heap.size + 1) (by simp); obtain ⟨v1, v2, v3, v4, _⟩ := HX.out wa hba))
      all_goals
        have HE2 := HE
        clear HE
        go_wp2
        go_roundw
        case rel =>
          obtain ⟨z1, z2⟩ := HE2.out _ (by rfl) (by rfl) (by rfl) (by rfl)
          exact ⟨k + 1, by omega, by go_num, z1, z2⟩
        case measure => simp [intOf]; omega
    · obtain rfl : k = m := by omega
      clear hR
      go_wp2
      go_ret
      exact ⟨_, rfl, HR.out, hb⟩
end Go.Proofs.Ytnoaobnjecapjaa
