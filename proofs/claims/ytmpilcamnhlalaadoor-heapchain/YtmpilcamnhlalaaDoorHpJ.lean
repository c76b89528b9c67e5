/-
  A heap's mover: what it has while objects of a list are moved (Mv); contracts of newMover and of object.
-/
import Derived.Test.YtmpilcamnhlalaaDoorHpR
namespace Go.Proofs.YtmpilcamnhlalaaDoor
open Go.RowKit
set_option linter.unusedVariables false

/-- The new words of from's objects, when c of those that y tells are moved. -/
def mvd (no : Nat) (y : Nat → Nat) : Nat → Nat → Int
  | 0, _ => 0
  | c + 1, i => if y c = i then 2 * ((no + c : Nat) : Int) + 2 else mvd no y c i
theorem mvd_in {no : Nat} {y : Nat → Nat} : ∀ {c s : Nat}, (∀ a b, a < c → b < c → y a = y b → a = b) → s < c → mvd no y c (y s) = 2 * ((no + s : Nat) : Int) + 2
  | 0, s, _, h => by omega
  | c + 1, s, hy, h => by
    rw [mvd]
    by_cases e : s = c
    · rw [e, if_pos rfl]
    · rw [if_neg (fun e2 => e (hy c s (by omega) (by omega) e2).symm), mvd_in (fun a b ha hb => hy a b (by omega) (by omega)) (by omega)]
theorem mvd_out {no : Nat} {y : Nat → Nat} {i : Nat} : ∀ {c : Nat}, (∀ s, s < c → y s ≠ i) → mvd no y c i = 0
  | 0, _ => rfl
  | c + 1, h => by rw [mvd, if_neg (h c (by omega)), mvd_out (fun s hs => h s (by omega))]
/-- A table behind the moves. -/
def mK (f : Nat → Nat) (no : Nat) (y : Nat → Nat) (j : Nat) : Nat := if j < no then f j else f (no + y (j - no))
structure Mv (w : World) (mb no ny c oc : Nat) (sy vm vto : Value) (K FB FL : Nat → Nat) (y : Nat → Nat) : Prop where
  hm : w.heap[mb]? = some (.cells #[sy, .int .i64 (no : Int), vm, vto, .int .i64 ((oc + 3 * c : Nat) : Int), .int .i64 1000] 75 (0, 0))
  rs : w.ownsRow 0 60 4 sy ny (objL K FB FL no ny)
  rm : w.ownsRow 0 28 1 vm ny (lstW (mvd no y c) ny)
  rt : w.ownsRow 0 60 4 vto (no + c) (objL (mK K no y) (mK FB no y) (mK FL no y) 0 (no + c))
  d1 : ∀ k, vto.ownBlock = some k → sy.ownBlock ≠ some k
theorem Mv.part {w w' : World} {G : Nat → Prop} {mb no ny c oc : Nat} {sy vm vto : Value} {K FB FL : Nat → Nat} {y : Nat → Nat} (h : Mv w mb no ny c oc sy vm vto K FB FL y) (hp : Part G w w') (h1 : ¬ G mb) (h2 : ∀ k, sy.ownBlock = some k → ¬ G k) (h3 : ∀ k, vm.ownBlock = some k → ¬ G k) (h4 : ∀ k, vto.ownBlock = some k → ¬ G k) : Mv w' mb no ny c oc sy vm vto K FB FL y :=
  ⟨hp.pair h.hm h1, hp.row h.rs h2, hp.row h.rm h3, hp.row h.rt h4, h.d1⟩
theorem Mv.below {w w' : World} {mb no ny c oc : Nat} {sy vm vto : Value} {K FB FL : Nat → Nat} {y : Nat → Nat} (h : Mv w mb no ny c oc sy vm vto K FB FL y) (hb : Below w.heap.size w w') : Mv w' mb no ny c oc sy vm vto K FB FL y := h.part (Part.ofBelow (F := fun _ => False) hb) (fun h => h) (fun _ _ h => h) (fun _ _ h => h) (fun _ _ h => h)
theorem objL_mk (K FB FL : Nat → Nat) (no : Nat) (y : Nat → Nat) : objL (mK K no y) (mK FB no y) (mK FL no y) 0 no = objL K FB FL 0 no := objL_ext (fun j _ h => by unfold mK; rw [if_pos (by omega), if_pos (by omega), if_pos (by omega)]; exact ⟨rfl, rfl, rfl⟩)
theorem objL_mk1 (K FB FL : Nat → Nat) (no c : Nat) (y : Nat → Nat) : objL (mK K no y) (mK FB no y) (mK FL no y) 0 (no + c) ++ obj4 (K (no + y c) : Int) (FB (no + y c)) (FL (no + y c)) = objL (mK K no y) (mK FB no y) (mK FL no y) 0 (no + (c + 1)) := by
  rw [← Nat.add_assoc, objL]
  congr 1
  unfold objC obj4 mK
  rw [if_neg (by omega), if_neg (by omega), if_neg (by omega), show 0 + (no + c) - no = c by omega]

set_option maxRecDepth 100000 in
set_option maxHeartbeats 2000000 in
theorem h_mover {w : World} {no ny co cy oc : Nat} {ao ay : Option Addr} {K FB FL : Nat → Nat} {y : Nat → Nat} (k2 : w.ownsRow 0 60 4 (.slice ao no co) no (objL K FB FL 0 no)) (k3 : w.ownsRow 0 60 4 (.slice ay ny cy) ny (objL K FB FL no ny)) (k5 : ∀ k, (Value.slice ao no co).ownBlock = some k → (Value.slice ay ny cy).ownBlock ≠ some k) (hny : ny ≤ 1000) :
    Calls Tryd.prog 42 #[.slice ay ny cy, .agg #[.slice ao no co, .int .i64 (oc : Int), .int .i64 1000]] w fun r w' => ∃ mb vm, r = .returned (.pointer (some ⟨mb, 0, none⟩)) ∧ Hid (Mv w' mb no ny 0 oc (.slice ay ny cy) vm (.slice ao no co) K FB FL y ∧ Below w.heap.size w w' ∧ w.heap.size ≤ mb ∧ ∀ k, vm.ownBlock = some k → w.heap.size ≤ k) := by
  obtain ⟨o1, ho1⟩ : ∃ o, Obj.cells #[.slice ao no co, .int .i64 (oc : Int), .int .i64 1000] 40 = o := ⟨_, rfl⟩
  obtain ⟨o2, ho2⟩ : ∃ o, Obj.cells (wrow (fun _ => 0) ny) 28 = o := ⟨_, rfl⟩
  have hmk : ∀ w : World, (Instr.makeSlice 33 (.int .i64 (ny : Int)) (.int .i64 (ny : Int))).run Tryd.prog w = .ok (.slice (some ⟨w.heap.size, 0, none⟩) ny ny) (w.alloc o2) := fun w => by
    rw [← ho2, ← made_words]
    exact run_make_row' (P := Tryd.prog) 33 28 (.int .i64 0) 8 Tryd.underlying33 infoWord rfl .i64 .i64 ny (by omega) (by omega) w
  have hb1 : (w.alloc o1).heap[w.heap.size]? = some (.cells #[.slice ao no co, .int .i64 (oc : Int), .int .i64 1000] 40 (0, 0)) := by rw [← ho1]; exact heap_alloc_at _ _ _ rfl
  have HC : Hid (∀ wq : World, wq.heap[w.heap.size]? = some (.cells #[.slice ao no co, .int .i64 (oc : Int), .int .i64 1000] 40 (0, 0)) → wq.cell? ⟨w.heap.size, 0, none⟩ = some (.slice ao no co) ∧ wq.cell? ⟨w.heap.size, 1, none⟩ = some (.int .i64 (oc : Int)) ∧ wq.cell? ⟨w.heap.size, 2, none⟩ = some (.int .i64 1000)) := fun wq hq => ⟨by rw [cells_at hq 0]; rfl, by rw [cells_at hq 1]; rfl, by rw [cells_at hq 2]; rfl⟩
  obtain ⟨c0, c1, c2⟩ := HC.out _ hb1
  have hb2 : ((w.alloc o1).alloc o2).heap[w.heap.size]? = some (.cells #[.slice ao no co, .int .i64 (oc : Int), .int .i64 1000] 40 (0, 0)) := (Below.heap_alloc (w.alloc o1) o2 w.heap.size (by simp)).trans hb1
  obtain ⟨d0, d1, d2⟩ := HC.out _ hb2
  have HE : Hid (∀ (W : World), W.heap = (((w.alloc o1).alloc o2).alloc (.cells #[.slice ay ny cy, .int .i64 (no : Int), .slice (some ⟨w.heap.size + 1, 0, none⟩) ny ny, .slice ao no co, .int .i64 (oc : Int), .int .i64 1000] 75)).heap → W.os = w.os → W.tape = w.tape → W.output = w.output → Mv W (w.heap.size + 1 + 1) no ny 0 oc (.slice ay ny cy) (.slice (some ⟨w.heap.size + 1, 0, none⟩) ny ny) (.slice ao no co) K FB FL y ∧ Below w.heap.size w W) := fun W hW e1 e2 e3 => by
    have s1 : (w.alloc o1).heap.size = w.heap.size + 1 := by simp
    have s2 : ((w.alloc o1).alloc o2).heap.size = w.heap.size + 1 + 1 := by simp
    have b3 : Below w.heap.size w (((w.alloc o1).alloc o2).alloc (.cells #[.slice ay ny cy, .int .i64 (no : Int), .slice (some ⟨w.heap.size + 1, 0, none⟩) ny ny, .slice ao no co, .int .i64 (oc : Int), .int .i64 1000] 75)) := (((Below.refl _ w).alloc (Nat.le_refl _) o1).alloc (by omega) o2).alloc (by omega) _
    have bW : Below w.heap.size w W := ⟨e1, e2, e3, by rw [hW]; exact b3.size, fun k hk => by rw [hW]; exact b3.block k hk⟩
    have hmv : W.heap[w.heap.size + 1 + 1]? = some (.cells #[.slice ay ny cy, .int .i64 (no : Int), .slice (some ⟨w.heap.size + 1, 0, none⟩) ny ny, .slice ao no co, .int .i64 (oc : Int), .int .i64 1000] 75 (0, 0)) := by
      rw [hW]; exact heap_alloc_at _ _ _ s2.symm
    have hm2 : W.heap[w.heap.size + 1]? = some (.cells (wrow (fun _ => 0) ny) 28 (0, 0)) := by
      rw [hW, Below.heap_alloc _ _ _ (by omega), ← ho2]
      exact heap_alloc_at _ _ _ s1.symm
    refine ⟨⟨hmv, (Part.ofBelow (F := fun _ => False) bW).row k3 (fun _ _ h => h), ⟨by rw [lstW_length]; omega, .inr ⟨_, ny, _, rfl, Nat.zero_le _, hm2, Nat.le_refl _, by unfold maxLen; omega, by simp [wrow], ?_⟩⟩, ?_, k5⟩, bW⟩
    · simp [wrow, lstW, mvd]
      exact List.take_of_length_le (by simp)
    · show W.ownsRow 0 60 4 _ no (objL _ _ _ 0 no)
      rw [objL_mk]
      exact (Part.ofBelow (F := fun _ => False) bW).row k2 (fun _ _ h => h)
  have hny' : (ny : Int) ≤ 1000 := by omega
  clear k2 k3 k5 hb1 hb2 HC
  go_enter Tryd.func42, Tryd.ntmps42
  go_wp2_with fail
  try rw [ho1]
  go_region
  all_goals
    obtain ⟨h1, h2⟩ := HE.out ((((w.alloc o1).alloc o2).alloc (.cells #[.slice ay ny cy, .int .i64 (no : Int), .slice (some ⟨w.heap.size + 1, 0, none⟩) ny ny, .slice ao no co, .int .i64 (oc : Int), .int .i64 1000] 75)).drew) rfl rfl rfl rfl
    have H1 : Hid (Mv ((((w.alloc o1).alloc o2).alloc (.cells #[.slice ay ny cy, .int .i64 (no : Int), .slice (some ⟨w.heap.size + 1, 0, none⟩) ny ny, .slice ao no co, .int .i64 (oc : Int), .int .i64 1000] 75)).drew) (w.heap.size + 1 + 1) no ny 0 oc (.slice ay ny cy) (.slice (some ⟨w.heap.size + 1, 0, none⟩) ny ny) (.slice ao no co) K FB FL y) := h1
    have H2 : Hid (Below w.heap.size w ((((w.alloc o1).alloc o2).alloc (.cells #[.slice ay ny cy, .int .i64 (no : Int), .slice (some ⟨w.heap.size + 1, 0, none⟩) ny ny, .slice ao no co, .int .i64 (oc : Int), .int .i64 1000] 75)).drew)) := h2
    clear HE h1 h2 c0 c1 c2 d0 d1 d2 hmk
    go_wp2
    go_ret
    exact ⟨_, _, rfl, H1.out, H2.out, by omega, fun k hk => by cases hk; show w.heap.size ≤ w.heap.size + 1; omega⟩
/-- What a mover leaves behind one more move. -/
def Moved (w w' : World) (mb no ny c oc : Nat) (sy vm vto : Value) (K FB FL : Nat → Nat) (y : Nat → Nat) : Prop := ∃ v', Mv w' mb no ny (c + 1) oc sy vm v' K FB FL y ∧ Part (fun k => k = mb ∨ vm.ownBlock = some k ∨ vto.ownBlock = some k) w w' ∧ (v'.ownBlock = vto.ownBlock ∨ ∃ k, v'.ownBlock = some k ∧ w.heap.size ≤ k)
theorem h_object_had {w : World} {mb no ny c oc : Nat} {sy vm vto : Value} {K FB FL : Nat → Nat} {y : Nat → Nat} (h : Mv w mb no ny c oc sy vm vto K FB FL y) (s : Nat) (hs : s < c) (hyn : y s < ny) (hy : ∀ a b, a < c → b < c → y a = y b → a = b) : Calls Tryd.prog 47 #[.pointer (some ⟨mb, 0, none⟩), .int .i64 (y s : Int)] w fun r w' => r = .returned (.int .i64 (2 * ((no + s : Nat) : Int) + 2)) ∧ w' = w := by
  obtain ⟨a, cm, rfl⟩ := row_slice h.rm
  obtain ⟨g, rfl⟩ : ∃ g, a = some ⟨g, 0, none⟩ := by
    rcases h.rm.2 with ⟨e0, h0⟩ | ⟨g', cap, cur, e0, _⟩
    · omega
    · cases e0; exact ⟨g', rfl⟩
  have c2 : w.cell? ⟨mb, 2, none⟩ = some (.slice (some ⟨g, 0, none⟩) ny cm) := by rw [cells_at h.hm 2]; rfl
  have cc := row_cell h.rm (y s) hyn
  rw [mvd_in hy hs] at cc
  have l1 : (y s : Int) < (ny : Int) := by omega
  have l2 : (0 : Int) ≤ (y s : Int) := by omega
  obtain ⟨z, hz⟩ : ∃ z : Int, 2 * ((no + s : Nat) : Int) + 2 = z := ⟨_, rfl⟩
  have hz0 : (z == 0) = false := by rw [beq_eq_false_iff_ne]; omega
  rw [hz] at cc ⊢
  clear h hz
  generalize y s = q at *
  go_enter Tryd.func47, Tryd.ntmps47
  go_wp2
  go_ret
  exact ⟨rfl, rfl⟩

set_option maxRecDepth 100000 in
set_option maxHeartbeats 2000000 in
theorem h_object {w : World} {mb no ny c oc : Nat} {sy vm vto : Value} {K FB FL : Nat → Nat} {y : Nat → Nat} (h : Mv w mb no ny c oc sy vm vto K FB FL y) (hyn : y c < ny) (hy : ∀ s, s < c → y s ≠ y c) (hfl : FL (no + y c) = 2) (hn : no + c ≤ 1000) (hoc : oc ≤ 1000) (hny : ny ≤ 1000) : Calls Tryd.prog 47 #[.pointer (some ⟨mb, 0, none⟩), .int .i64 (y c : Int)] w fun r w' => r = .returned (.int .i64 (2 * ((no + c : Nat) : Int) + 2)) ∧ Hid (Moved w w' mb no ny c oc sy vm vto K FB FL y) := by
  obtain ⟨a, cm, rfl⟩ := row_slice h.rm
  obtain ⟨g, rfl⟩ : ∃ g, a = some ⟨g, 0, none⟩ := by
    rcases h.rm.2 with ⟨e0, h0⟩ | ⟨g', cap, cur, e0, _⟩
    · omega
    · cases e0; exact ⟨g', rfl⟩
  obtain ⟨a2, cs, rfl⟩ := row_slice h.rs
  obtain ⟨gs, rfl⟩ : ∃ g, a2 = some ⟨g, 0, none⟩ := by
    rcases h.rs.2 with ⟨e0, h0⟩ | ⟨g', cap, cur, e0, _⟩
    · omega
    · cases e0; exact ⟨g', rfl⟩
  obtain ⟨at_, ct, rfl⟩ := row_slice h.rt
  have c0 : w.cell? ⟨mb, 0, none⟩ = some (.slice (some ⟨gs, 0, none⟩) ny cs) := by rw [cells_at h.hm 0]; rfl
  have c2 : w.cell? ⟨mb, 2, none⟩ = some (.slice (some ⟨g, 0, none⟩) ny cm) := by rw [cells_at h.hm 2]; rfl
  have cc := row_cell h.rm (y c) hyn
  rw [mvd_out hy] at cc
  have hcell := fun q u (hu : (objC K FB FL (no + y c))[q]? = some u) (hq : q < 4) => World.ownsRow.cells (g := gs) h.rs rfl (y c * 4 + q) u (by rw [objL_get _ _ _ _ _ _ _ hyn hq]; exact hu)
  have e0 : w.cell? ⟨gs, y c * 4, none⟩ = some (.int .i64 (K (no + y c) : Int)) := by
    have := hcell 0 _ rfl (by decide)
    rw [Addr.add_lit, Nat.zero_add] at this
    exact this
  have e1 : w.cell? ⟨gs, y c * 4 + 1, none⟩ = some (.slice (some ⟨FB (no + y c), 0, none⟩) 2 2) := by
    have := hcell 1 _ rfl (by decide)
    rw [Addr.add_lit, Nat.zero_add, hfl] at this
    exact this
  have e2 : w.cell? ⟨gs, y c * 4 + 2, none⟩ = some (.string ⟨#[]⟩) := by
    have := hcell 2 _ rfl (by decide)
    rw [Addr.add_lit, Nat.zero_add] at this
    exact this
  have e3 : w.cell? ⟨gs, y c * 4 + 3, none⟩ = some (.bool false) := by
    have := hcell 3 _ rfl (by decide)
    rw [Addr.add_lit, Nat.zero_add] at this
    exact this
  obtain ⟨o, ho⟩ : ∃ o, Obj.cells #[.int .i64 (K (no + y c) : Int), .slice (some ⟨FB (no + y c), 0, none⟩) 2 2, .string ⟨#[]⟩, .bool false] 60 = o := ⟨_, rfl⟩
  have hmbl : mb < w.heap.size := (Array.getElem?_eq_some_iff.1 h.hm).1
  have HPA : Hid (Calls Tryd.prog 36 #[.pointer (some ⟨mb, 3, none⟩), .slice (some ⟨w.heap.size, 0, none⟩) 1 1] (w.alloc o).drew fun r w2 => r = .returned (.tuple #[]) ∧ ∃ v', (∃ ax cx, v' = .slice ax (no + c + 1) cx) ∧ Hid (∀ wq, Dr w2 wq → wq.cell? ⟨mb, 2, none⟩ = some (.slice (some ⟨g, 0, none⟩) ny cm) ∧ wq.cell? ⟨mb, 3, none⟩ = some v' ∧ wq.frozen? ⟨g, y c, none⟩ = false ∧ (∃ u, wq.cell? ⟨g, y c, none⟩ = some u) ∧ Hid (Moved w (wq.setCell ⟨g, y c, none⟩ (.int .i64 (2 * ((no + c : Nat) : Int) + 2))) mb no ny c oc (.slice (some ⟨gs, 0, none⟩) ny cs) (.slice (some ⟨g, 0, none⟩) ny cm) (.slice at_ (no + c) ct) K FB FL y ∧ (wq.setCell ⟨g, y c, none⟩ (.int .i64 (2 * ((no + c : Nat) : Int) + 2))).cell? ⟨mb, 2, none⟩ = some (.slice (some ⟨g, 0, none⟩) ny cm) ∧ (wq.setCell ⟨g, y c, none⟩ (.int .i64 (2 * ((no + c : Nat) : Int) + 2))).cell? ⟨g, y c, none⟩ = some (.int .i64 (2 * ((no + c : Nat) : Int) + 2))))) := by
    have bo : Below w.heap.size w (w.alloc o).drew := ((Below.refl _ w).alloc (Nat.le_refl _) o).drew
    have hq := h.below bo
    have hl : (w.alloc o).drew.heap[w.heap.size]? = some (.cells (obj4 (K (no + y c) : Int) (FB (no + y c)) 2).toArray 60 (0, 0)) := by rw [← ho]; exact heap_alloc_at _ _ _ rfl
    refine (h_partAdd (w := (w.alloc o).drew) (b := mb) (p := 3) (v := .slice at_ (no + c) ct) (n := no + c) (lb := w.heap.size) (fb := FB (no + y c)) (m := 2) (yc := oc + 3 * c) (kd := (K (no + y c) : Int)) hq.hm rfl rfl hq.rt (row_ne hq.rt hq.hm (by decide)) (fun e => by have := (World.ownsRow.lt h.rt _ e).2; omega) hl (by omega) (by decide) (by omega) (by omega)).mono ?_
    rintro r w2 ⟨v', rfl, z1, z2, z3, z4⟩
    refine ⟨rfl, v', row_slice z2, fun wq hwq => ?_⟩
    obtain ⟨q, rfl⟩ := hwq
    have hgm : g ≠ mb := fun e => row_ne h.rm h.hm (by decide) (by rw [← e]; rfl)
    have hgt : (Value.slice at_ (no + c) ct).ownBlock ≠ some g := fun e => by
      rcases h.rm.2 with ⟨e0, _⟩ | ⟨g', cap, cur, e0, _, h3, _⟩
      · cases e0
      · cases e0; exact row_ne h.rt h3 (by decide) e
    have hgl : g < w.heap.size := (World.ownsRow.lt h.rm g rfl).2
    have rm2 : (w2.drewN q).ownsRow 0 28 1 (.slice (some ⟨g, 0, none⟩) ny cm) ny (lstW (mvd no y c) ny) := row_heap (z3.row hq.rm (fun k hk e => by
      cases hk
      rcases e with e | e
      · exact hgm e
      · exact hgt e.symm)) rfl
    have z1' : (w2.drewN q).heap[mb]? = some (.cells #[.slice (some ⟨gs, 0, none⟩) ny cs, .int .i64 (no : Int), .slice (some ⟨g, 0, none⟩) ny cm, v', .int .i64 ((oc + 3 * (c + 1) : Nat) : Int), .int .i64 1000] 75 (0, 0)) := by
      rw [show oc + 3 * (c + 1) = oc + 3 * c + (1 + 2) by omega]
      exact z1
    have hv'g : v'.ownBlock ≠ some g := fun e => by
      rcases z4 with a | ⟨k, a, b⟩
      · rw [a] at e; exact hgt e
      · rw [a] at e; cases e
        have := bo.size
        omega
    have z1s : ((w2.drewN q).setCell ⟨g, y c, none⟩ (.int .i64 (2 * ((no + c : Nat) : Int) + 2))).heap[mb]? = some (.cells #[.slice (some ⟨gs, 0, none⟩) ny cs, .int .i64 (no : Int), .slice (some ⟨g, 0, none⟩) ny cm, v', .int .i64 ((oc + 3 * (c + 1) : Nat) : Int), .int .i64 1000] 75 (0, 0)) := (heap_set_other _ (fun e => hgm e.symm) _ _).trans z1'
    have rmS := row_put rm2 (y c) hyn (.int .i64 (2 * ((no + c : Nat) : Int) + 2))
    rw [lstW_set] at rmS
    have rmS2 : ((w2.drewN q).setCell ⟨g, y c, none⟩ (.int .i64 (2 * ((no + c : Nat) : Int) + 2))).ownsRow 0 28 1 (.slice (some ⟨g, 0, none⟩) ny cm) ny (lstW (mvd no y (c + 1)) ny) := by
      rw [show lstW (mvd no y (c + 1)) ny = _ from lstW_ext (fun i hi => ?_)]
      · exact rmS
      · rw [mvd]
        by_cases e : i = y c
        · rw [if_pos e, if_pos e.symm]
        · rw [if_neg e, if_neg (fun e2 => e e2.symm)]
    refine ⟨by rw [cells_at z1' 2]; rfl, by rw [cells_at z1' 3]; rfl, row_free rm2 _, ⟨_, row_cell rm2 _ hyn⟩, ⟨v', ⟨z1s, ?_, rmS2, ?_, ?_⟩, ?_, ?_⟩, by rw [cells_at z1s 2]; rfl, ?_⟩
    · refine row_set (row_heap (z3.row hq.rs (fun k hk e => ?_)) rfl) (fun e => ?_) _ _
      · rcases e with e | e
        · exact row_ne h.rs h.hm (by decide) (by rw [← e]; exact hk)
        · exact h.d1 k e.symm hk
      · cases e
        rcases h.rm.2 with ⟨e0, _⟩ | ⟨g', cap, cur, e0, _, h3, _⟩
        · cases e0
        · cases e0; exact row_ne h.rs h3 (by decide) rfl
    · rw [← objL_mk1, hfl]
      exact row_set (row_heap z2 rfl) hv'g _ _
    · intro k hk e
      rcases z4 with a | ⟨k', a, b⟩
      · exact h.d1 k (by rw [← a]; exact hk) e
      · rw [a] at hk; cases hk
        have := (World.ownsRow.lt h.rs k e).2
        have := bo.size
        omega
    · have p0 : Part (fun k => k = mb ∨ (Value.slice (some ⟨g, 0, none⟩) ny cm).ownBlock = some k ∨ (Value.slice at_ (no + c) ct).ownBlock = some k) w w2 := (Part.ofBelow bo).trans z3 (fun k _ hk => hk.imp id (fun e => .inr e.symm))
      exact (p0.drewN q).setCell (p := ⟨g, y c, none⟩) (fun _ => .inr (.inl rfl)) _
    · rcases z4 with a | ⟨k', a, b⟩
      · exact .inl a
      · exact .inr ⟨k', a, by have := bo.size; omega⟩
    · have := row_cell rmS2 (y c) hyn
      rw [mvd, if_pos rfl] at this
      exact this
  have HWd : Hid (∀ wq, Calls Tryd.prog 33 #[.int .i64 ((no + c : Nat) : Int)] wq fun r w' => r = .returned (.int .i64 (2 * ((no + c : Nat) : Int) + 2)) ∧ w' = wq) := fun wq => h_word (no + c) wq (by omega)
  have l1 : (y c : Int) < (ny : Int) := by omega
  have l2 : (0 : Int) ≤ (y c : Int) := by omega
  have hN : ((no + c : Nat) : Int) ≤ 1000 := by omega
  have hN0 : (0 : Int) ≤ ((no + c : Nat) : Int) := by omega
  clear h hcell hmbl hfl hn hy
  generalize 2 * ((no + c : Nat) : Int) + 2 = z at *
  generalize no + c = N at *
  have hN2 : (N : Int) + 1 ≤ 1001 := by omega
  have hwN : IntKind.i64.wrap (N : Int) = (N : Int) := by rw [IntKind.wrap_i64]; omega
  go_enter Tryd.func47, Tryd.ntmps47
  go_wp2_with fail
  go_region_with (first
    | (go_at_call 36; refine HPA.out.mono ?_; rintro e' w2 ⟨rfl, v', ⟨ax, cx, rfl⟩, HW⟩))
  all_goals
    have HW0 := HW.out w2 (Dr.refl _)
    obtain ⟨y2, y3, y4, ⟨u, y5⟩, _⟩ := HW0
    have HW1 := (HW.out w2.drew (Dr.refl w2).drew).2.2.2.2
    clear HPA e0 e1 e2 e3 c0 c2 cc HW
    go_wp2_with fail
    go_region_with (first
      | (go_at_call 33; refine (HWd.out _).mono ?_; rintro e' w3 ⟨rfl, hw3⟩; subst hw3))
    all_goals
      obtain ⟨hM, x2, x3⟩ := HW1.out
      have HM : Hid (Moved w (w2.setCell ⟨g, y c, none⟩ (.int .i64 z)).drew mb no ny c oc (.slice (some ⟨gs, 0, none⟩) ny cs) (.slice (some ⟨g, 0, none⟩) ny cm) (.slice at_ N ct) K FB FL y) := hM
      have v2 : (w2.setCell ⟨g, y c, none⟩ (.int .i64 z)).drew.cell? ⟨mb, 2, none⟩ = some (.slice (some ⟨g, 0, none⟩) ny cm) := x2
      have v3 : (w2.setCell ⟨g, y c, none⟩ (.int .i64 z)).drew.cell? ⟨g, y c, none⟩ = some (.int .i64 z) := x3
      clear hM HW1 y2 y3 y4 y5 x2 x3
      generalize (w2.setCell ⟨g, y c, none⟩ (.int .i64 z)).drew = W at *
      go_wp2
      go_ret
      exact ⟨rfl, HM⟩
end Go.Proofs.YtmpilcamnhlalaaDoor
