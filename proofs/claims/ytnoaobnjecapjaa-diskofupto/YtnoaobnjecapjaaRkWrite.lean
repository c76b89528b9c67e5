/-
  Contract of the document's Write over Rk.
-/
import Derived.Test.YtnoaobnjecapjaaRk
import Derived.Deep.DeepCutAuto
import Derived.StillTailTactics
namespace Go.Proofs.Ytnoaobnjecapjaa
open Go.RowKit
set_option linter.unusedVariables false

theorem from_own {w : World} {B g n c : Nat} {f : Nat → Int} (h : Own w B (.slice (some ⟨g, 0, none⟩) n c) (lst f n)) : From w (some ⟨g, 0, none⟩) n f := .inr ⟨_, rfl, fun i hi => by rw [Addr.add_lit, Nat.zero_add]; exact Own.cellF h i hi⟩
/-- What Write has made of the document's disk. -/
theorem RkAt.written {w w1 w2 : World} {X gB cB : Nat} {vP : Value} {rb rc pb pc : Nat → Nat} {F : Nat → Prop} {n : Nat} {dur : Nat → Int} {m : Nat} {tf : Nat → Nat} {ld f : Nat → Int} (h : RkAt w X gB cB vP rb rc pb pc F n dur m tf ld) (i : Nat) (hi : i < n) (hby : ∀ j, 0 ≤ f j ∧ f j ≤ 255)
    (hb1 : Below w.heap.size w w1) {g c1 : Nat} (ho : Own w1 w.heap.size (.slice (some ⟨g, 0, none⟩) 128 c1) (lst f 128)) (o : Obj) {v2 : Value}
    (h2 : w2.ownsRow 0 75 2 v2 (m + 1) (sentL m tf pb pc ++ [.int .i64 (i : Int), .slice (some ⟨g, 0, none⟩) 128 c1])) (hg2 : (w1.alloc o).grownBy w2 vP.ownBlock) (ha : v2.ownBlock = vP.ownBlock ∨ v2.ownBlock = some (w1.alloc o).heap.size) :
    w2.heap[X]? = some (.cells #[.slice (some ⟨gB, 0, none⟩) n cB, vP] 58 (0, 0)) ∧ ∀ wf : World, wf.heap = (w2.setCell ⟨X, 1, none⟩ v2).heap → wf.os = w2.os → wf.tape = w2.tape → wf.output = w2.output →
      Rk wf X (fun k => F k ∨ (w.heap.size ≤ k ∧ k < wf.heap.size)) n dur (m + 1) (fun j => if j = m then i else tf j) (fun k => if k < m * 128 then ld k else f (k - m * 128)) ∧ Part F w wf := by
  have sp := h.sep
  have hs1 := hb1.size
  have hsz : (w1.alloc o).heap.size = w1.heap.size + 1 := by simp
  have hs2 : w1.heap.size + 1 ≤ w2.heap.size := by have := hg2.size; omega
  have bl : ∀ k, k < w1.heap.size → vP.ownBlock ≠ some k → w2.heap[k]? = w1.heap[k]? := fun k hk hn => by rw [hg2.block k (by omega) (fun e => hn e.symm), heap_alloc_past _ _ _ hk]
  have blw : ∀ k, k < w.heap.size → vP.ownBlock ≠ some k → w2.heap[k]? = w.heap[k]? := fun k hk hn => by rw [bl k (by omega) hn, hb1.block k hk]
  obtain ⟨hg0, hgl⟩ := World.ownsRow.lt ho g rfl
  have hX2 : w2.heap[X]? = _ := (blw X (h.lt _ h.FX) (fun e => (sp.P X e).1 rfl)).trans h.hX
  refine ⟨hX2, fun wf e1 e2 e3 e4 => ?_⟩
  have hp : Part F w (w2.setCell ⟨X, 1, none⟩ v2) := (((Part.ofBelow (F := F) hb1).alloc o).grown hg2 (fun k hk _ => h.FP k hk)).setCell (p := ⟨X, 1, none⟩) (fun _ => h.FX) v2
  have tv : ∀ k, v2.ownBlock = some k → vP.ownBlock = some k ∨ k = w1.heap.size + 1 := fun k hk => by
    rcases ha with e | e
    · exact .inl (by rw [← e]; exact hk)
    · rw [e, hsz] at hk; cases hk; exact .inr rfl
  have nX : v2.ownBlock ≠ some X := fun e => by
    rcases tv X e with e2 | e2
    · exact (sp.P X e2).1 rfl
    · have := h.lt _ h.FX; omega
  have hgn : vP.ownBlock ≠ some g := fun e => by have := h.lt _ (h.FP g e); omega
  have hgX : g ≠ X := by have := h.lt _ h.FX; omega
  have keepF : ∀ (b : Nat) (ff : Nat → Int), b < w1.heap.size → vP.ownBlock ≠ some b → b ≠ X → From w1 (some ⟨b, 0, none⟩) 128 ff → From (w2.setCell ⟨X, 1, none⟩ v2) (some ⟨b, 0, none⟩) 128 ff := fun b ff hb hn hx hff => by
    rcases hff with ⟨e, _⟩ | ⟨x, e, hh⟩
    · cases e
    · cases e
      refine .inr ⟨_, rfl, fun j hj => ?_⟩
      have h9 := hh j hj
      rw [Addr.add_lit] at h9 ⊢
      rw [World.cell?_setCell_other _ _ _ _ (fun e2 => hx (congrArg Addr.block e2).symm), World.cell?_of_block (w := w1) (bl b hb hn)]
      exact h9
  have key : RkAt (w2.setCell ⟨X, 1, none⟩ v2) X gB cB v2 rb rc (fun j => if j = m then g else pb j) (fun j => if j = m then c1 else pc j) (fun k => F k ∨ (w.heap.size ≤ k ∧ k < (w2.setCell ⟨X, 1, none⟩ v2).heap.size)) n dur (m + 1) (fun j => if j = m then i else tf j) (fun k => if k < m * 128 then ld k else f (k - m * 128)) := by
    have hsf : (w2.setCell ⟨X, 1, none⟩ v2).heap.size = w2.heap.size := by simp [World.setCell]
    refine ⟨?_, ?_, ?_, ?_, fun j hj => ?_, .inl h.FX, .inl h.FB, fun k hk => ?_, fun q hq => .inl (h.Fr q hq), fun j hj => ?_, fun q hq => ?_, fun j hj => ?_, fun k hk => ?_, fun j hj => ?_, h.by1, fun k => ?_, h.n1, h.n2⟩
    · rw [heap_set_same hX2]; rfl
    · rw [heap_set_other _ (Ne.symm sp.XB), blw gB (h.lt _ h.FB) (fun e => (sp.P gB e).2.1 rfl)]; exact h.hB
    · have hR1 := h.rows.part (Part.ofBelow (F := fun _ => False) hb1) (fun h => h) (h.lt _ h.FB) (fun _ _ h => h)
      have hB1 : gB < w1.heap.size := by have := h.lt _ h.FB; omega
      have hBp : vP.ownBlock ≠ some gB := fun e => (sp.P gB e).2.1 rfl
      refine ⟨fun q hq => ?_, fun q hq => ?_, fun q hq => keepF _ _ (by have := h.lt _ (h.Fr q hq); omega) (fun e => (sp.P _ e).2.2.1 q hq rfl) (sp.r q hq).1 (hR1.from_ q hq)⟩
      · rw [World.cell?_setCell_other _ _ _ _ (fun e2 => sp.XB (congrArg Addr.block e2)), World.cell?_of_block (w := w1) (bl gB hB1 hBp)]
        exact hR1.cell q hq
      · rw [World.frozen?_setCell, World.frozen?_of_block (w := w1) (bl gB hB1 hBp)]
        exact hR1.free q hq
    · rw [← sentL_snoc]
      exact row_set h2 nX _ _
    · by_cases e : j = m
      · subst e
        rw [if_pos rfl]
        have h9 := keepF g f hgl hgn hgX (from_own ho)
        rcases h9 with ⟨e, _⟩ | ⟨x, e, hh⟩
        · cases e
        · cases e
          refine .inr ⟨_, rfl, fun q hq => ?_⟩
          rw [hh q hq]
          show _ = some (Value.int .u8 (if j * 128 + q < j * 128 then ld (j * 128 + q) else f (j * 128 + q - j * 128)))
          rw [if_neg (by omega), show j * 128 + q - j * 128 = q by omega]
      · rw [if_neg e]
        have hjm : j < m := by omega
        have hF1 : From w1 (some ⟨pb j, 0, none⟩) 128 (sh ld (j * 128)) := (h.pf j hjm).below hb1 (Nat.le_refl _)
        have h9 := keepF (pb j) _ (by have := h.lt _ (h.Fp j hjm); omega) (fun e => (sp.P _ e).2.2.2 j hjm rfl) (sp.p j hjm).1 hF1
        rcases h9 with ⟨e, _⟩ | ⟨x, e, hh⟩
        · cases e
        · cases e
          refine .inr ⟨_, rfl, fun q hq => ?_⟩
          rw [hh q hq]
          show some (Value.int .u8 (ld (j * 128 + q))) = some (Value.int .u8 (if j * 128 + q < m * 128 then ld (j * 128 + q) else f (j * 128 + q - m * 128)))
          rw [if_pos (by omega)]
    · rcases tv k hk with e | e
      · exact .inl (h.FP k e)
      · have := (World.ownsRow.lt h2 k hk).2
        exact .inr ⟨by omega, by omega⟩
    · show F (if j = m then g else pb j) ∨ _
      by_cases e : j = m
      · rw [if_pos e]; exact .inr ⟨hg0, by omega⟩
      · rw [if_neg e]; exact .inl (h.Fp j (by omega))
    · rw [heap_set_other _ (sp.r q hq).1, blw _ (h.lt _ (h.Fr q hq)) (fun e => (sp.P _ e).2.2.1 q hq rfl)]; exact h.rt q hq
    · by_cases e : j = m
      · rw [if_pos e, heap_set_other _ hgX, bl g hgl hgn]
        exact row_block ho rfl
      · rw [if_neg e, heap_set_other _ (sp.p j (by omega)).1, blw _ (h.lt _ (h.Fp j (by omega))) (fun e => (sp.P _ e).2.2.2 j (by omega) rfl)]
        exact h.pt j (by omega)
    · rcases hk with e | e
      · have := h.lt k e; omega
      · exact e.2
    · show (if j = m then i else tf j) < n
      split
      · exact hi
      · exact h.tn j (by omega)
    · show 0 ≤ (if k < m * 128 then ld k else f (k - m * 128)) ∧ _
      split
      · exact h.by2 k
      · exact hby _
  have e5 := hp.heap e1 (by rw [e2]; rfl) (by rw [e3]; rfl) (by rw [e4]; rfl)
  have e6 := key.heap e1 (by rw [e2]; rfl) (by rw [e3]; rfl) (by rw [e4]; rfl)
  rw [← e1] at e6
  exact ⟨⟨gB, cB, v2, rb, rc, _, _, e6⟩, e5⟩

set_option maxRecDepth 100000 in
set_option maxHeartbeats 2000000 in
theorem rkWrite (X i n m : Nat) (F : Nat → Prop) (dur : Nat → Int) (tf : Nat → Nat) (ld : Nat → Int) (a0 : Option Addr) (c : Nat) (f : Nat → Int) (w : World) (h : Rk w X F n dur m tf ld) (hi : i < n) (hm : m ≤ 549755813887) (hf : From w a0 128 f) (hc0 : a0 = none → c = 0) (hby : ∀ j, 0 ≤ f j ∧ f j ≤ 255) :
    Calls Try.prog 16 #[.pointer (some ⟨X, 0, none⟩), .int .i64 (i : Int), .slice a0 128 c] w fun e w' => e = .returned (.int .i64 0) ∧ Rk w' X (fun k => F k ∨ (w.heap.size ≤ k ∧ k < w'.heap.size)) n dur (m + 1) (fun j => if j = m then i else tf j) (fun k => if k < m * 128 then ld k else f (k - m * 128)) ∧ Part F w w' := by
  obtain ⟨gB, cB, vP, rb, rc, pb, pc, h⟩ := h
  obtain ⟨i0, hi0, hz0, hz1, hz2⟩ := info_parts infoSent
  have k0 : w.cell? ⟨X, 0, none⟩ = some (.slice (some ⟨gB, 0, none⟩) n cB) := cells_at h.hX 0
  have k1 : w.cell? ⟨X, 1, none⟩ = some vP := cells_at h.hX 1
  have lX := h.lt _ h.FX
  have HX : Hid (∀ wq, Below w.heap.size w.drew wq → wq.cell? ⟨X, 1, none⟩ = some vP ∧ X < wq.heap.size ∧ (∀ o, (wq.alloc o).cell? ⟨X, 1, none⟩ = some vP) ∧ (∀ o, (wq.alloc o).ownsRow 0 75 2 vP m (sentL m tf pb pc))) := fun wq hq => by
    have hs : w.heap.size ≤ wq.heap.size := hq.size
    have e : wq.cell? ⟨X, 1, none⟩ = some vP := by rw [hq.cell (p := ⟨X, 1, none⟩) lX]; exact k1
    have hrow : wq.ownsRow 0 75 2 vP m (sentL m tf pb pc) := Part.row (F := fun _ => False) (Part.ofBelow (w := w.drew) hq) (row_heap h.oP rfl) (fun _ _ h => h)
    exact ⟨e, by omega, fun o => (World.cell?_alloc_past (w := wq) o X 1 (by omega)).trans e, fun o => World.ownsRow.alloc hrow o⟩
  have H : Hid (RkAt w X gB cB vP rb rc pb pc F n dur m tf ld) := h
  have HF : Hid (From w.drew a0 128 f) := hf
  have HW : Hid (∀ (w1 w2 : World) (g c1 : Nat) (o : Obj) (v2 : Value), Below w.heap.size w.drew w1 → Own w1 w.heap.size (.slice (some ⟨g, 0, none⟩) 128 c1) (lst f 128) → w2.ownsRow 0 75 2 v2 (m + 1) (sentL m tf pb pc ++ [.int .i64 (i : Int), .slice (some ⟨g, 0, none⟩) 128 c1]) → (w1.alloc o).grownBy w2 vP.ownBlock → (v2.ownBlock = vP.ownBlock ∨ v2.ownBlock = some (w1.alloc o).heap.size) →
      (∃ g2 c2, v2 = .slice (some ⟨g2, 0, none⟩) (m + 1) c2) ∧ w2.cell? ⟨X, 1, none⟩ = some vP ∧ w2.frozen? ⟨X, 1, none⟩ = false ∧ Hid (∀ wf : World, wf.heap = (w2.setCell ⟨X, 1, none⟩ v2).heap → wf.os = w2.os → wf.tape = w2.tape → wf.output = w2.output →
      Rk wf X (fun k => F k ∨ (w.heap.size ≤ k ∧ k < wf.heap.size)) n dur (m + 1) (fun j => if j = m then i else tf j) (fun k => if k < m * 128 then ld k else f (k - m * 128)) ∧ Part F w wf)) := fun w1 w2 g c1 o v2 hb ho h2 hg2 ha => by
    have hb' : Below w.heap.size w w1 := ⟨hb.os, hb.tape, hb.output, hb.size, hb.block⟩
    obtain ⟨r1, r2⟩ := H.out.written i hi hby hb' ho o h2 hg2 ha
    obtain ⟨g2, c2, e2, _⟩ := row_some h2 (by omega)
    exact ⟨⟨g2, c2, e2⟩, cells_at r1 1, cells_free r1 1, r2⟩
  have g1 : ¬ (i : Int) < 0 := by omega
  have g2 : ¬ (n : Int) ≤ (i : Int) := by omega
  clear h hf
  go_enter Try.func16, Try.ntmps16
  go_wp2_with fail
  go_cut [] (fun wx => ∃ (w2 : World) (v2 : Value), wx = w2.setCell ⟨X, 1, none⟩ v2 ∧ Hid (∀ wf : World, wf.heap = (w2.setCell ⟨X, 1, none⟩ v2).heap → wf.os = w2.os → wf.tape = w2.tape → wf.output = w2.output →
      Rk wf X (fun k => F k ∨ (w.heap.size ≤ k ∧ k < wf.heap.size)) n dur (m + 1) (fun j => if j = m then i else tf j) (fun k => if k < m * 128 then ld k else f (k - m * 128)) ∧ Part F w wf))
  case first =>
    go_region_law (first
      | (refine step_append_own_at rfl _ _ 56 rfl 0 75 i0 (.agg #[.int .i64 0, .slice none 0 0]) 2 32 Try.underlying56 hi0 hz0 hz1 hz2 rfl (by decide) vP m (sentL m tf pb pc) (by go_simp) (by exact (HX.out w1 hb1).2.2.2 _) ⟨w1.heap.size, 0, none⟩ 1 1 [.int .i64 (i : Int), .slice (some ⟨g, 0, none⟩) 128 c1] (by go_simp) rfl (by intro j u hj; rw [Addr.add_lit, Nat.zero_add, World.cell?_alloc_at _ _ _ _ rfl]; simpa using hj) (by intro u hu; simp at hu; rcases hu with rfl | rfl <;> rfl) (by unfold maxLen; omega) (by omega) (Nat.zero_le _) ?_; intro v2 w2 ho2 hg2 ha2; obtain ⟨⟨gx, cx, hv2⟩, x1, x2, HE⟩ := HW.out w1 w2 g c1 _ v2 hb1 ho1 ho2 hg2 ha2; subst hv2)
      | (go_simp; go_at_call 36; refine (copiedR a0 128 c f _ (by omega) (by exact HF.out) hc0).mono ?_; rintro e' w1 ⟨v1, rfl, ho1, hb1⟩; obtain ⟨g, c1, hv1, ho1, _, _, _, _⟩ := own_some ho1 (by omega); subst hv1; obtain ⟨y1, y2, y3, _⟩ := HX.out w1 hb1))
    all_goals (go_wp2_with fail; go_meet; exact ⟨w2, _, rfl, HE⟩)
  case rest =>
  obtain ⟨w2, v2, rfl, HE⟩ := hcut
  go_wp2
  go_ret
  exact ⟨rfl, HE.out _ (by rfl) (by rfl) (by rfl) (by rfl)⟩
end Go.Proofs.Ytnoaobnjecapjaa
