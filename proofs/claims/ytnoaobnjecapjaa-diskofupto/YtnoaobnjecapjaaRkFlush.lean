/-
  Contracts of the document's Flush and Crash over Rk.
-/
import Derived.Test.YtnoaobnjecapjaaRkWrite
import Derived.Test.YtnoaobnjecapjaaDkCrash2
namespace Go.Proofs.Ytnoaobnjecapjaa
open Go.RowKit
set_option linter.unusedVariables false

/-- A sector gets bytes of its own. -/
theorem RkAt.put {w w1 : World} {X gB cB : Nat} {vP : Value} {rb rc pb pc : Nat → Nat} {F : Nat → Prop} {n : Nat} {dur : Nat → Int} {m : Nat} {tf : Nat → Nat} {ld f : Nat → Int} (h : RkAt w X gB cB vP rb rc pb pc F n dur m tf ld) (i : Nat) (hi : i < n) (hby : ∀ j, 0 ≤ f j ∧ f j ≤ 255)
    (hb1 : Below w.heap.size w w1) {g c1 : Nat} (ho : Own w1 w.heap.size (.slice (some ⟨g, 0, none⟩) 128 c1) (lst f 128)) :
    RkAt (w1.setCell ⟨gB, i, none⟩ (.slice (some ⟨g, 0, none⟩) 128 c1)) X gB cB vP (fun q => if q = i then g else rb q) (fun q => if q = i then c1 else rc q) pb pc (fun k => F k ∨ (w.heap.size ≤ k ∧ k < (w1.setCell ⟨gB, i, none⟩ (.slice (some ⟨g, 0, none⟩) 128 c1)).heap.size)) n (ov dur (i * 128) 128 f) m tf ld := by
  have sp := h.sep
  have hs1 := hb1.size
  obtain ⟨hg0, hgl⟩ := World.ownsRow.lt ho g rfl
  have h1 := h.part (Part.ofBelow (F := fun _ => False) hb1) (fun _ _ h => h)
  have lB := h.lt _ h.FB
  have hgB : g ≠ gB := by omega
  have hsf : (w1.setCell ⟨gB, i, none⟩ (.slice (some ⟨g, 0, none⟩) 128 c1)).heap.size = w1.heap.size := by simp [World.setCell]
  have keepF : ∀ (b : Nat) (ff : Nat → Int), b ≠ gB → From w1 (some ⟨b, 0, none⟩) 128 ff → From (w1.setCell ⟨gB, i, none⟩ (.slice (some ⟨g, 0, none⟩) 128 c1)) (some ⟨b, 0, none⟩) 128 ff := fun b ff hx hff => by
    rcases hff with ⟨e, _⟩ | ⟨x, e, hh⟩
    · cases e
    · cases e
      refine .inr ⟨_, rfl, fun j hj => ?_⟩
      have h9 := hh j hj
      rw [Addr.add_lit] at h9 ⊢
      rw [World.cell?_setCell_other _ _ _ _ (fun e2 => hx (congrArg Addr.block e2).symm)]
      exact h9
  refine ⟨?_, ?_, ⟨fun q hq => ?_, fun q hq => ?_, fun q hq => ?_⟩, ?_, fun j hj => keepF _ _ (sp.p j hj).2 (h1.pf j hj), .inl h.FX, .inl h.FB, fun k hk => .inl (h.FP k hk), fun q hq => ?_, fun j hj => .inl (h.Fp j hj), fun q hq => ?_, fun j hj => ?_, fun k hk => ?_, h.tn, ov_by h.by1 hby, h.by2, h.n1, h.n2⟩
  · rw [heap_set_other _ sp.XB]; exact h1.hX
  · obtain ⟨cur, hc⟩ := h1.hB
    exact ⟨_, heap_set_same hc _ _⟩
  · by_cases e : q = i
    · subst e
      rw [World.cell?_setCell_same _ _ _ (h1.rows.cell q hq), if_pos rfl, if_pos rfl]
    · rw [World.cell?_setCell_other _ _ _ _ (fun e2 => e (congrArg Addr.off e2).symm), if_neg e, if_neg e]
      exact h1.rows.cell q hq
  · rw [World.frozen?_setCell]; exact h1.rows.free q hq
  · by_cases e : q = i
    · subst e
      rw [if_pos rfl]
      have h9 := keepF g f hgB (from_own ho)
      rcases h9 with ⟨e, _⟩ | ⟨x, e, hh⟩
      · cases e
      · cases e
        refine .inr ⟨_, rfl, fun j hj => ?_⟩
        rw [hh j hj]
        show _ = some (Value.int .u8 (if q * 128 ≤ q * 128 + j ∧ q * 128 + j < q * 128 + 128 then f (q * 128 + j - q * 128) else dur (q * 128 + j)))
        rw [if_pos (by omega), show q * 128 + j - q * 128 = j by omega]
    · rw [if_neg e]
      have h9 := keepF (rb q) _ (sp.r q hq).2 (h1.rows.from_ q hq)
      rcases h9 with ⟨e, _⟩ | ⟨x, e, hh⟩
      · cases e
      · cases e
        refine .inr ⟨_, rfl, fun j hj => ?_⟩
        rw [hh j hj]
        show some (Value.int .u8 (dur (q * 128 + j))) = some (Value.int .u8 (if i * 128 ≤ q * 128 + j ∧ q * 128 + j < i * 128 + 128 then f (q * 128 + j - i * 128) else dur (q * 128 + j)))
        rw [if_neg (by omega)]
  · exact row_set h1.oP (fun e => (sp.P gB e).2.1 rfl) _ _
  · show F (if q = i then g else rb q) ∨ _
    by_cases e : q = i
    · rw [if_pos e]; exact .inr ⟨hg0, by omega⟩
    · rw [if_neg e]; exact .inl (h.Fr q hq)
  · by_cases e : q = i
    · rw [if_pos e, heap_set_other _ hgB]
      exact row_block ho rfl
    · rw [if_neg e, heap_set_other _ (sp.r q hq).2]
      exact h1.rt q hq
  · rw [heap_set_other _ (sp.p j hj).2]; exact h1.pt j hj
  · rcases hk with e | e
    · have := h.lt k e; omega
    · exact e.2
/-- Nothing is pending any more. -/
theorem RkAt.clear {w : World} {X gB cB : Nat} {vP : Value} {rb rc pb pc : Nat → Nat} {F : Nat → Prop} {n : Nat} {dur : Nat → Int} {m : Nat} {tf : Nat → Nat} {ld : Nat → Int} (h : RkAt w X gB cB vP rb rc pb pc F n dur m tf ld) :
    RkAt (w.setCell ⟨X, 1, none⟩ (.slice none 0 0)) X gB cB (.slice none 0 0) rb rc pb pc F n dur 0 tf ld := by
  have sp := h.sep
  have hp : Part (fun k => k = X) w (w.setCell ⟨X, 1, none⟩ (.slice none 0 0)) := (Part.refl (fun k => k = X) w).setCell (p := ⟨X, 1, none⟩) (fun _ => rfl) _
  refine ⟨?_, ?_, h.rows.part hp (Ne.symm sp.XB) (h.lt _ h.FB) (fun i hi => (sp.r i hi).1), World.ownsRow_nil _ _ _ _, fun j hj => by omega, h.FX, h.FB, fun k hk => (by cases hk), h.Fr, fun j hj => by omega, fun q hq => ?_, fun j hj => by omega, fun k hk => ?_, fun j hj => by omega, h.by1, h.by2, h.n1, h.n2⟩
  · rw [heap_set_same h.hX]; rfl
  · rw [heap_set_other _ (Ne.symm sp.XB)]; exact h.hB
  · rw [heap_set_other _ (sp.r q hq).1]; exact h.rt q hq
  · have := h.lt k hk
    simpa [World.setCell] using this

/-- The document's disk behind the first k places, of which those stay that st names; vP is what its list of writes was. -/
def RkK (w wr : World) (X gB cB : Nat) (vP : Value) (pb pc : Nat → Nat) (F : Nat → Prop) (n : Nat) (dur : Nat → Int) (m : Nat) (tf : Nat → Nat) (ld : Nat → Int) (st : Nat → Bool) (k : Nat) : Prop :=
  ∃ rb rc, RkAt wr X gB cB vP rb rc pb pc (fun q => F q ∨ (w.heap.size ≤ q ∧ q < wr.heap.size)) n (setl dur tf ld st k) m tf ld ∧ Part F w wr
theorem RkK.skip {w wr w1 : World} {X gB cB : Nat} {vP : Value} {pb pc : Nat → Nat} {F : Nat → Prop} {n : Nat} {dur : Nat → Int} {m : Nat} {tf : Nat → Nat} {ld : Nat → Int} {st : Nat → Bool} {k : Nat} (h : RkK w wr X gB cB vP pb pc F n dur m tf ld st k) (hs : st k = false) (hb : Below wr.heap.size wr w1) : RkK w w1 X gB cB vP pb pc F n dur m tf ld st (k + 1) := by
  obtain ⟨rb, rc, h, hp⟩ := h
  have h1 := h.part (Part.ofBelow (F := fun _ => False) hb) (fun _ _ h => h)
  have hsz := hb.size
  have hlt : ∀ q, F q → q < w1.heap.size := fun q hq => h1.lt q (.inl hq)
  refine ⟨rb, rc, ?_, hp.trans (Part.ofBelow (F := fun _ => False) hb) (fun _ _ h => h.elim)⟩
  have e : setl dur tf ld st (k + 1) = setl dur tf ld st k := by rw [setl, hs]; simp
  rw [e]
  have mv : ∀ q, (F q ∨ (w.heap.size ≤ q ∧ q < wr.heap.size)) → (F q ∨ (w.heap.size ≤ q ∧ q < w1.heap.size)) := fun q hq => hq.imp id (fun hq => ⟨hq.1, by omega⟩)
  exact { h1 with FX := mv _ h1.FX, FB := mv _ h1.FB, FP := fun k hk => mv _ (h1.FP k hk), Fr := fun i hi => mv _ (h1.Fr i hi), Fp := fun j hj => mv _ (h1.Fp j hj), lt := fun q hq => hq.elim (hlt q) (fun hq => hq.2) }
theorem RkK.put {w wr w1 wf : World} {X gB cB : Nat} {vP : Value} {pb pc : Nat → Nat} {F : Nat → Prop} {n : Nat} {dur : Nat → Int} {m : Nat} {tf : Nat → Nat} {ld : Nat → Int} {st : Nat → Bool} {k : Nat} (h : RkK w wr X gB cB vP pb pc F n dur m tf ld st k) (hs : st k = true) (hk : k < m) (hb : Below wr.heap.size wr w1) {g c1 : Nat} (ho : Own w1 wr.heap.size (.slice (some ⟨g, 0, none⟩) 128 c1) (lst (sh ld (k * 128)) 128))
    (e1 : wf.heap = (w1.setCell ⟨gB, tf k, none⟩ (.slice (some ⟨g, 0, none⟩) 128 c1)).heap) (e2 : wf.os = w1.os) (e3 : wf.tape = w1.tape) (e4 : wf.output = w1.output) : RkK w wf X gB cB vP pb pc F n dur m tf ld st (k + 1) := by
  obtain ⟨rb, rc, h, hp⟩ := h
  have h1 := h.put (tf k) (h.tn k hk) (sh_by h.by2 _) hb ho
  have hsz := hb.size
  have hsw := hp.size
  have h2 := h1.heap (w' := wf) e1 (by rw [e2]; rfl) (by rw [e3]; rfl) (by rw [e4]; rfl)
  have esz : wf.heap.size = w1.heap.size := by rw [e1]; simp [World.setCell]
  refine ⟨fun q => if q = tf k then g else rb q, fun q => if q = tf k then c1 else rc q, ?_, ?_⟩
  · rw [setl, hs, if_pos rfl]
    have mv : ∀ q, ((F q ∨ (w.heap.size ≤ q ∧ q < wr.heap.size)) ∨ (wr.heap.size ≤ q ∧ q < (w1.setCell ⟨gB, tf k, none⟩ (.slice (some ⟨g, 0, none⟩) 128 c1)).heap.size)) → (F q ∨ (w.heap.size ≤ q ∧ q < wf.heap.size)) := fun q hq => by
      have e9 : (w1.setCell ⟨gB, tf k, none⟩ (.slice (some ⟨g, 0, none⟩) 128 c1)).heap.size = w1.heap.size := by simp [World.setCell]
      rcases hq with (hq | hq) | hq
      · exact .inl hq
      · exact .inr ⟨hq.1, by omega⟩
      · exact .inr ⟨by omega, by omega⟩
    exact { h2 with FX := mv _ h2.FX, FB := mv _ h2.FB, FP := fun k hk => mv _ (h2.FP k hk), Fr := fun i hi => mv _ (h2.Fr i hi), Fp := fun j hj => mv _ (h2.Fp j hj), lt := fun q hq => hq.elim (fun hq => h2.lt q (.inl (.inl hq))) (fun hq => hq.2) }
  · have hp1 : Part F w (w1.setCell ⟨gB, tf k, none⟩ (.slice (some ⟨g, 0, none⟩) 128 c1)) := (hp.trans (Part.ofBelow (F := fun _ => False) hb) (fun _ _ h => h.elim)).setCell (p := ⟨gB, tf k, none⟩) (fun hl => by
      rcases h.FB with h9 | h9
      · exact h9
      · have : gB < w.heap.size := hl
        omega) _
    exact hp1.heap e1 (by rw [e2]; rfl) (by rw [e3]; rfl) (by rw [e4]; rfl)
theorem RkK.clear {w wr wf : World} {X gB cB : Nat} {vP : Value} {pb pc : Nat → Nat} {F : Nat → Prop} {n : Nat} {dur : Nat → Int} {m : Nat} {tf : Nat → Nat} {ld : Nat → Int} {st : Nat → Bool} {k : Nat} (h : RkK w wr X gB cB vP pb pc F n dur m tf ld st k) (hFX : F X) (e1 : wf.heap = (wr.setCell ⟨X, 1, none⟩ (.slice none 0 0)).heap) (e2 : wf.os = wr.os) (e3 : wf.tape = wr.tape) (e4 : wf.output = wr.output) :
    Rk wf X (fun q => F q ∨ (w.heap.size ≤ q ∧ q < wf.heap.size)) n (setl dur tf ld st k) 0 tf ld ∧ Part F w wf := by
  obtain ⟨rb, rc, h, hp⟩ := h
  have h2 := h.clear.heap (w' := wf) e1 (by rw [e2]; rfl) (by rw [e3]; rfl) (by rw [e4]; rfl)
  have esz : wf.heap.size = wr.heap.size := by rw [e1]; simp [World.setCell]
  refine ⟨⟨gB, cB, .slice none 0 0, rb, rc, pb, pc, ?_⟩, (hp.setCell (p := ⟨X, 1, none⟩) (fun _ => hFX) _).heap e1 (by rw [e2]; rfl) (by rw [e3]; rfl) (by rw [e4]; rfl)⟩
  rw [esz]
  exact h2
/-- What a round looks at. -/
theorem RkK.sees {w wr : World} {X gB cB : Nat} {aP : Option Addr} {cP : Nat} {pb pc : Nat → Nat} {F : Nat → Prop} {n : Nat} {dur : Nat → Int} {m : Nat} {tf : Nat → Nat} {ld : Nat → Int} {st : Nat → Bool} {k : Nat} (h : RkK w wr X gB cB (.slice aP m cP) pb pc F n dur m tf ld st k) :
    wr.cell? ⟨X, 0, none⟩ = some (.slice (some ⟨gB, 0, none⟩) n cB) ∧ wr.cell? ⟨X, 1, none⟩ = some (.slice aP m cP) ∧ wr.frozen? ⟨X, 1, none⟩ = false ∧ X < wr.heap.size ∧
    ∀ j, j < m → ∃ gP, aP = some ⟨gP, 0, none⟩ ∧ wr.cell? ⟨gP, j * 2, none⟩ = some (.int .i64 (tf j : Int)) ∧ wr.cell? ⟨gP, j * 2 + 1, none⟩ = some (.slice (some ⟨pb j, 0, none⟩) 128 (pc j)) ∧ From wr (some ⟨pb j, 0, none⟩) 128 (sh ld (j * 128)) ∧ tf j < n ∧
      (∀ w1, Below wr.heap.size wr w1 → w1.cell? ⟨X, 0, none⟩ = some (.slice (some ⟨gB, 0, none⟩) n cB) ∧ ∃ v, w1.cell? ⟨gB, tf j, none⟩ = some v ∧ w1.frozen? ⟨gB, tf j, none⟩ = false) := by
  obtain ⟨rb, rc, h, hp⟩ := h
  have kX : wr.cell? ⟨X, 0, none⟩ = some (.slice (some ⟨gB, 0, none⟩) n cB) := cells_at h.hX 0
  refine ⟨kX, cells_at h.hX 1, cells_free h.hX 1, h.lt _ h.FX, fun j hj => ?_⟩
  rcases h.oP.2 with ⟨_, h0⟩ | ⟨g, cap, cur, e, _⟩
  · omega
  · injection e with x1 x2 x3
    subst x1
    refine ⟨g, rfl, ?_, ?_, h.pf j hj, h.tn j hj, fun w1 hb => ⟨by rw [hb.cell (p := ⟨X, 0, none⟩) (h.lt _ h.FX)]; exact kX, _, by rw [hb.cell (p := ⟨gB, tf j, none⟩) (h.lt _ h.FB)]; exact h.rows.cell _ (h.tn j hj), by rw [hb.frozen (p := ⟨gB, tf j, none⟩) (h.lt _ h.FB)]; exact h.rows.free _ (h.tn j hj)⟩⟩
    · rw [World.ownsRow.cellAt h.oP (j * 2) (by omega)]; exact (sentL_get m tf pb pc j hj).1
    · rw [World.ownsRow.cellAt h.oP (j * 2 + 1) (by omega)]; exact (sentL_get m tf pb pc j hj).2

set_option maxRecDepth 100000 in
set_option maxHeartbeats 2000000 in
theorem rkFlush (X n m : Nat) (F : Nat → Prop) (dur : Nat → Int) (tf : Nat → Nat) (ld : Nat → Int) (w : World) (h : Rk w X F n dur m tf ld) (hm : m ≤ 549755813887) :
    Calls Try.prog 22 #[.pointer (some ⟨X, 0, none⟩)] w fun e w' => e = .returned (.int .i64 0) ∧ Rk w' X (fun k => F k ∨ (w.heap.size ≤ k ∧ k < w'.heap.size)) n (setl dur tf ld (fun _ => true) m) 0 tf ld ∧ Part F w w' := by
  obtain ⟨gB, cB, vP, rb, rc, pb, pc, h⟩ := h
  have k0 : w.cell? ⟨X, 0, none⟩ = some (.slice (some ⟨gB, 0, none⟩) n cB) := cells_at h.hX 0
  have k1 : w.cell? ⟨X, 1, none⟩ = some vP := cells_at h.hX 1
  obtain ⟨aP, cP, rfl⟩ : ∃ aP cP, vP = .slice aP m cP := by
    rcases h.oP.2 with ⟨rfl, h0⟩ | ⟨g, cap, cur, rfl, _⟩
    · rw [h0]; exact ⟨none, 0, rfl⟩
    · exact ⟨_, cap, rfl⟩
  have HFX : Hid (F X) := h.FX
  have H0 : Hid (RkK w w X gB cB (.slice aP m cP) pb pc F n dur m tf ld (fun _ => true) 0) := ⟨rb, rc, { h with FX := .inl h.FX, FB := .inl h.FB, FP := fun k hk => .inl (h.FP k hk), Fr := fun i hi => .inl (h.Fr i hi), Fp := fun j hj => .inl (h.Fp j hj), lt := fun q hq => hq.elim (h.lt q) (fun hq => hq.2) }, Part.refl _ _⟩
  clear h
  go_enter Try.func22, Try.ntmps22
  go_wp2
  go_loopw [10] (fun i wr => ∃ k : Nat, k ≤ m ∧ i = .int .i64 (k : Int) ∧ RkK w wr X gB cB (.slice aP m cP) pb pc F n dur m tf ld (fun _ => true) k) (fun i _ => m - (intOf i).toNat)
  case atStart => exact ⟨0, Nat.zero_le _, rfl, H0.out⟩
  case round =>
    obtain ⟨k, hk, rfl, hR⟩ := hrel
    have HR : Hid (RkK w wr X gB cB (.slice aP m cP) pb pc F n dur m tf ld (fun _ => true) k) := hR
    obtain ⟨b1, b2, b3, b4, b5⟩ := hR.sees
    clear hR
    by_cases hlt : k < m
    · have hlt' : (k : Int) < (m : Int) := by omega
      have hk0 : (0 : Int) ≤ (k : Int) := by omega
      obtain ⟨gP, rfl, p1, p2, p3, p4, p5⟩ := b5 k hlt
      obtain ⟨ob, hO⟩ : ∃ ob, Obj.cells #[.int .i64 (tf k : Int), .slice (some ⟨pb k, 0, none⟩) 128 (pc k)] 75 = ob := ⟨_, rfl⟩
      have hob0 : (wr.alloc ob).cell? ⟨wr.heap.size, 0, none⟩ = some (.int .i64 (tf k : Int)) := by rw [← hO, World.cell?_alloc_at _ _ _ _ rfl]; rfl
      have hob1 : (wr.alloc ob).cell? ⟨wr.heap.size, 1, none⟩ = some (.slice (some ⟨pb k, 0, none⟩) 128 (pc k)) := by rw [← hO, World.cell?_alloc_at _ _ _ _ rfl]; rfl
      have HBo : Hid (∀ wq, Below (wr.heap.size + 1) (wr.alloc ob).drew wq → Below wr.heap.size wr wq) := fun wq hq =>
        ((Below.refl _ wr).alloc (Nat.le_refl _) ob).trans ⟨hq.os, hq.tape, hq.output, hq.size, fun q hh => hq.block q (by omega)⟩
      have HS : Hid (∀ wq, Below (wr.heap.size + 1) (wr.alloc ob).drew wq → wq.cell? ⟨wr.heap.size, 0, none⟩ = some (.int .i64 (tf k : Int)) ∧ wq.cell? ⟨wr.heap.size, 1, none⟩ = some (.slice (some ⟨pb k, 0, none⟩) 128 (pc k)) ∧ wq.cell? ⟨X, 0, none⟩ = some (.slice (some ⟨gB, 0, none⟩) n cB) ∧ ∃ v, wq.cell? ⟨gB, tf k, none⟩ = some v ∧ wq.frozen? ⟨gB, tf k, none⟩ = false) := fun wq hq =>
        ⟨by rw [hq.cell (p := ⟨wr.heap.size, 0, none⟩) (by show wr.heap.size < wr.heap.size + 1; omega)]; exact hob0, by rw [hq.cell (p := ⟨wr.heap.size, 1, none⟩) (by show wr.heap.size < wr.heap.size + 1; omega)]; exact hob1, p5 wq (HBo.out wq hq)⟩
      have aX : ∀ o, (wr.alloc o).cell? ⟨X, 0, none⟩ = some (.slice (some ⟨gB, 0, none⟩) n cB) := fun o => (World.cell?_alloc_past (w := wr) o X 0 b4).trans b1
      have HF3 : Hid (From (wr.alloc ob).drew (some ⟨pb k, 0, none⟩) 128 (sh ld (k * 128))) := p3.alloc ob
      have p4' : (tf k : Int) < (n : Int) := by omega
      have p40 : (0 : Int) ≤ (tf k : Int) := by omega
      clear b5 p5 p3
      go_wp2
      go_region_law (go_simp; go_at_call 36; refine (copiedR (some ⟨pb k, 0, none⟩) 128 (pc k) (sh ld (k * 128)) _ (by omega) (by exact HF3.out) (fun h => by cases h)).mono ?_; rintro e' w1 ⟨v1, rfl, ho1, hb1⟩; obtain ⟨g, c1, hv1, ho1, _, _, _, _⟩ := own_some ho1 (by omega); subst hv1; have hb2 : Below (wr.heap.size + 1) (wr.alloc ob).drew w1 := hb1.mono (by simp); obtain ⟨y1, y2, y3, yv, y4, y5⟩ := HS.out w1 hb2)
      all_goals
        have HN : Hid (RkK w ((w1.setCell ⟨gB, tf k, none⟩ (.slice (some ⟨g, 0, none⟩) 128 c1))) X gB cB (.slice (some ⟨gP, 0, none⟩) m cP) pb pc F n dur m tf ld (fun _ => true) (k + 1)) := HR.out.put rfl hlt (HBo.out w1 hb2) (ho1.mono (by simp)) rfl rfl rfl rfl
        go_wp2
        go_roundw
        case rel => exact ⟨k + 1, by omega, by go_num, HN.out⟩
        case measure => simp [intOf]; omega
    · obtain rfl : k = m := by omega
      clear b5
      go_wp2
      go_ret
      exact ⟨rfl, HR.out.clear HFX.out (by rfl) (by rfl) (by rfl) (by rfl)⟩
end Go.Proofs.Ytnoaobnjecapjaa
