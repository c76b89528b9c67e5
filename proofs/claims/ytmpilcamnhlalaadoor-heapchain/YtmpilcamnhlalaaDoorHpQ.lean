/-
  A heap's contract: settle, where there are young objects.
-/
import Derived.Test.YtmpilcamnhlalaaDoorHpP
import Derived.Lib.SliceRun
namespace Go.Proofs.YtmpilcamnhlalaaDoor
open Go.RowKit
set_option linter.unusedVariables false

theorem zeroObj (w : World) : (zeroValue 60).run Tryd.prog w = .ok (.agg #[.int .i64 0, .slice none 0 0, .string ⟨#[]⟩, .bool false]) w := by
  first | rfl | kernel_rfl
def zobj (n : Nat) : List Value := (Builtin.zeroCells #[.int .i64 0, .slice none 0 0, .string ⟨#[]⟩, .bool false] n).toList
theorem zobj_one (n : Nat) : ∀ v ∈ zobj n, v.oneCell' = true := by
  intro v hv
  unfold zobj Builtin.zeroCells at hv
  simp at hv
  obtain ⟨i, _, rfl⟩ := hv
  have : i % 4 = 0 ∨ i % 4 = 1 ∨ i % 4 = 2 ∨ i % 4 = 3 := by omega
  rcases this with h | h | h | h <;> rw [h] <;> rfl
theorem zobj_length (n : Nat) : (zobj n).length = n * 4 := by simp [zobj, Builtin.zeroCells]
theorem setCells_block (b : Nat) (t : TypeId) : ∀ (L : List Value) (o : Nat) (w : World) (cur : Array Value), w.heap[b]? = some (.cells cur t (0, 0)) → ∃ cur', (w.setCells b o L).heap[b]? = some (.cells cur' t (0, 0)) ∧ cur'.size = cur.size ∧ Part (fun k => k = b) w (w.setCells b o L)
  | [], o, w, cur, h => ⟨cur, h, rfl, Part.refl _ _⟩
  | v :: L, o, w, cur, h => by
    obtain ⟨cur', h1, h2, h3⟩ := setCells_block b t L (o + 1) (w.setCell ⟨b, o, none⟩ v) _ (heap_set_at h v)
    exact ⟨cur', h1, by rw [h2]; simp, ((Part.refl (fun k => k = b) w).setCell (p := ⟨b, o, none⟩) (fun _ => rfl) v).trans h3 (fun _ _ h => h)⟩
theorem run_clear_objs {W : World} {g ny cy : Nat} {cur : Array Value} (hn : 0 < ny) (hg : W.heap[g]? = some (.cells cur 60 (0, 0))) (hs : ny * 4 ≤ cur.size) (ty : TypeId) : (Builtin.clear_ #[38] ty #[.slice (some ⟨g, 0, none⟩) ny cy]).run Tryd.prog W = .ok (.tuple #[]) (W.setCells g 0 (zobj ny)) := by
  have hst := run_storeCells_cells (P := Tryd.prog) g 0 (zobj ny) 0 W (fun j hj => by
    rw [zobj_length] at hj
    rw [cells_at hg, Array.getElem?_eq_getElem (by omega)]; rfl) (fun j _ => cells_free hg _) (zobj_one ny)
  obtain ⟨m, rfl⟩ : ∃ m, ny = m + 1 := ⟨ny - 1, by omega⟩
  have hz : (Builtin.zeroCells (Value.agg #[.int .i64 0, .slice none 0 0, .string ⟨#[]⟩, .bool false]).cells (m + 1)).toList = zobj (m + 1) := rfl
  simp only [Nat.add_zero] at hst
  simp [Builtin.clear_, hz, hst]

set_option maxRecDepth 100000 in
set_option maxHeartbeats 1000000 in
theorem h_settle {w : World} {h no ny co cy g n2 ct : Nat} {ao at_ : Option Addr} {oc yc mi : Int} {sft oc2 : Nat} {sr : Value} {xs : List Value} (k1 : Hd w h (.slice ao no co) oc 1000 (.slice (some ⟨g, 0, none⟩) ny cy) yc 32 sr (.slice none 0 0) (sft : Int) mi 0 false) (k3 : w.ownsRow 0 60 4 (.slice (some ⟨g, 0, none⟩) ny cy) ny xs) (hny : 0 < ny) (h1 : no ≤ 1000) (h2 : ny ≤ 1000) (hs : sft ≤ 4000000) :
    Calls Tryd.prog 45 #[.pointer (some ⟨h, 0, none⟩), .agg #[.slice at_ n2 ct, .int .i64 (oc2 : Int), .int .i64 1000]] w fun r w' => r = .returned (.tuple #[]) ∧ Hid (Hd w' h (.slice at_ n2 ct) (oc2 : Int) 1000 (.slice (some ⟨g, 0, none⟩) 0 cy) 0 32 sr (.slice none 0 0) ((sft + 2 * (no + ny) : Nat) : Int) mi 0 false ∧ w'.ownsRow 0 60 4 (.slice (some ⟨g, 0, none⟩) 0 cy) 0 [] ∧ Part (fun k => k = h ∨ k = g) w w') := by
  have hhl : h < w.heap.size := (Array.getElem?_eq_some_iff.1 k1).1
  have hgh : g ≠ h := fun e => row_ne k3 k1 (by decide) (by rw [← e]; rfl)
  obtain ⟨cur, hcur, hcs, hcy, hcm⟩ : ∃ cur, w.heap[g]? = some (.cells cur 60 (0, 0)) ∧ cur.size = cy * 4 ∧ ny ≤ cy ∧ cy ≤ maxLen := by
    rcases k3.2 with ⟨e0, _⟩ | ⟨g', cap, cur, e0, _, h3, h4, h5, h6, _⟩
    · cases e0
    · cases e0; exact ⟨cur, h3, h6, h4, h5⟩
  obtain ⟨o, ho⟩ : ∃ o, Obj.cells #[.slice at_ n2 ct, .int .i64 (oc2 : Int), .int .i64 1000] 40 = o := ⟨_, rfl⟩
  have bo : Below w.heap.size w (w.alloc o) := (Below.refl _ w).alloc (Nat.le_refl _) o
  have hbox : (w.alloc o).heap[w.heap.size]? = some (.cells #[.slice at_ n2 ct, .int .i64 (oc2 : Int), .int .i64 1000] 40 (0, 0)) := by rw [← ho]; exact heap_alloc_at _ _ _ rfl
  have e1 : Hd (w.alloc o) h (.slice ao no co) oc 1000 (.slice (some ⟨g, 0, none⟩) ny cy) yc 32 sr (.slice none 0 0) (sft : Int) mi 0 false := (bo.block h hhl).trans k1
  have hgl : g < w.heap.size := (Array.getElem?_eq_some_iff.1 hcur).1
  have hg1 : (w.alloc o).heap[g]? = some (.cells cur 60 (0, 0)) := (bo.block g hgl).trans hcur
  have HCt : Hid (∀ wq, Dr (w.alloc o) wq → Calls Tryd.prog 34 #[.pointer (some ⟨h, 0, none⟩)] wq fun r w' => r = .returned (.int .i64 ((no + ny : Nat) : Int)) ∧ Dr (w.alloc o) w') := fun wq hq => by
    obtain ⟨q, rfl⟩ := hq
    exact (h_count (w := (w.alloc o).drewN q) e1 (by omega) (by omega)).mono fun r w' ⟨hr, hw⟩ => ⟨hr, (show Dr (w.alloc o) _ from ⟨q, rfl⟩).trans hw⟩
  obtain ⟨S2, hS2⟩ : ∃ z : Int, ((sft + 2 * (no + ny) : Nat) : Int) = z := ⟨_, rfl⟩
  have HA : Hid (∀ wq, Dr (w.alloc o) wq → wq.cell? ⟨h, 8, none⟩ = some (.int .i64 (sft : Int)) ∧ wq.frozen? ⟨h, 8, none⟩ = false) := fun wq hq => by
    obtain ⟨q, rfl⟩ := hq
    exact ⟨(hget e1).2.2.2.2.2.2.2.2.1, cells_free (w := (w.alloc o).drewN q) e1 8⟩
  -- behind the shift
  have HB : Hid (∀ wq, Dr (w.alloc o) wq → Hd (wq.setCell ⟨h, 8, none⟩ (.int .i64 S2)) h (.slice ao no co) oc 1000 (.slice (some ⟨g, 0, none⟩) ny cy) yc 32 sr (.slice none 0 0) S2 mi 0 false ∧ (wq.setCell ⟨h, 8, none⟩ (.int .i64 S2)).heap[w.heap.size]? = some (.cells #[.slice at_ n2 ct, .int .i64 (oc2 : Int), .int .i64 1000] 40 (0, 0)) ∧ (wq.setCell ⟨h, 8, none⟩ (.int .i64 S2)).heap[g]? = some (.cells cur 60 (0, 0)) ∧ Part (fun k => k = h ∨ k = g) w (wq.setCell ⟨h, 8, none⟩ (.int .i64 S2))) := fun wq hq => by
    obtain ⟨q, rfl⟩ := hq
    have e2 : Hd ((w.alloc o).drewN q) h _ _ _ _ _ _ _ _ _ _ _ _ := e1
    exact ⟨heap_set_at e2 _, (heap_set_other _ (by omega) _ _).trans hbox, (heap_set_other _ hgh _ _).trans hg1, ((Part.ofBelow (F := fun k => k = h ∨ k = g) bo).drewN q).setCell (p := ⟨h, 8, none⟩) (fun _ => .inl rfl) _⟩
  have HZ : Hid (∀ W, Hd W h (.slice ao no co) oc 1000 (.slice (some ⟨g, 0, none⟩) ny cy) yc 32 sr (.slice none 0 0) S2 mi 0 false → W.heap[g]? = some (.cells cur 60 (0, 0)) → Part (fun k => k = h ∨ k = g) w W → ∃ W2, ((W.setCell ⟨h, 0, none⟩ (.slice at_ n2 ct)).setCell ⟨h, 1, none⟩ (.int .i64 (oc2 : Int))).setCell ⟨h, 2, none⟩ (.int .i64 1000) = W2 ∧ Hd W2 h (.slice at_ n2 ct) (oc2 : Int) 1000 (.slice (some ⟨g, 0, none⟩) ny cy) yc 32 sr (.slice none 0 0) S2 mi 0 false ∧ (∀ ty, (Builtin.clear_ #[38] ty #[.slice (some ⟨g, 0, none⟩) ny cy]).run Tryd.prog W2 = .ok (.tuple #[]) (W2.setCells g 0 (zobj ny))) ∧ Hd (W2.setCells g 0 (zobj ny)) h (.slice at_ n2 ct) (oc2 : Int) 1000 (.slice (some ⟨g, 0, none⟩) ny cy) yc 32 sr (.slice none 0 0) S2 mi 0 false ∧ Hid (∀ W3, W3 = (((W2.setCells g 0 (zobj ny)).setCell ⟨h, 3, none⟩ (.slice (some ⟨g, 0, none⟩) 0 cy)).setCell ⟨h, 4, none⟩ (.int .i64 0)).setCell ⟨h, 7, none⟩ (.slice none 0 0) → Hd W3 h (.slice at_ n2 ct) (oc2 : Int) 1000 (.slice (some ⟨g, 0, none⟩) 0 cy) 0 32 sr (.slice none 0 0) S2 mi 0 false ∧ W3.ownsRow 0 60 4 (.slice (some ⟨g, 0, none⟩) 0 cy) 0 [] ∧ Part (fun k => k = h ∨ k = g) w W3)) := fun W a1 a2 a3 => by
    have b2 : Hd (((W.setCell ⟨h, 0, none⟩ (.slice at_ n2 ct)).setCell ⟨h, 1, none⟩ (.int .i64 (oc2 : Int))).setCell ⟨h, 2, none⟩ (.int .i64 1000)) h (.slice at_ n2 ct) (oc2 : Int) 1000 (.slice (some ⟨g, 0, none⟩) ny cy) yc 32 sr (.slice none 0 0) S2 mi 0 false := heap_set_at (heap_set_at (heap_set_at a1 _) _) _
    have b3 : (((W.setCell ⟨h, 0, none⟩ (.slice at_ n2 ct)).setCell ⟨h, 1, none⟩ (.int .i64 (oc2 : Int))).setCell ⟨h, 2, none⟩ (.int .i64 1000)).heap[g]? = some (.cells cur 60 (0, 0)) := (heap_set_other _ hgh _ _).trans ((heap_set_other _ hgh _ _).trans ((heap_set_other _ hgh _ _).trans a2))
    have b4 : Part (fun k => k = h ∨ k = g) w (((W.setCell ⟨h, 0, none⟩ (.slice at_ n2 ct)).setCell ⟨h, 1, none⟩ (.int .i64 (oc2 : Int))).setCell ⟨h, 2, none⟩ (.int .i64 1000)) := ((a3.setCell (p := ⟨h, 0, none⟩) (fun _ => .inl rfl) _).setCell (p := ⟨h, 1, none⟩) (fun _ => .inl rfl) _).setCell (p := ⟨h, 2, none⟩) (fun _ => .inl rfl) _
    generalize ((W.setCell ⟨h, 0, none⟩ (.slice at_ n2 ct)).setCell ⟨h, 1, none⟩ (.int .i64 (oc2 : Int))).setCell ⟨h, 2, none⟩ (.int .i64 1000) = W2 at *
    obtain ⟨cur', d1, d2, d3⟩ := setCells_block g 60 (zobj ny) 0 W2 cur b3
    have d4 : Hd (W2.setCells g 0 (zobj ny)) h (.slice at_ n2 ct) (oc2 : Int) 1000 (.slice (some ⟨g, 0, none⟩) ny cy) yc 32 sr (.slice none 0 0) S2 mi 0 false := d3.pair b2 (fun e => hgh e.symm)
    refine ⟨W2, rfl, b2, fun ty => run_clear_objs hny b3 (by omega) ty, d4, fun W3 hW3 => ?_⟩
    subst hW3
    refine ⟨heap_set_at (heap_set_at (heap_set_at d4 _) _) _, ⟨rfl, .inr ⟨g, cy, cur', rfl, Nat.zero_le _, (heap_set_other _ hgh _ _).trans ((heap_set_other _ hgh _ _).trans ((heap_set_other _ hgh _ _).trans d1)), Nat.zero_le _, hcm, by omega, by simp⟩⟩, (((b4.trans d3 (fun k _ e => .inr e)).setCell (p := ⟨h, 3, none⟩) (fun _ => .inl rfl) _).setCell (p := ⟨h, 4, none⟩) (fun _ => .inl rfl) _).setCell (p := ⟨h, 7, none⟩) (fun _ => .inl rfl) _⟩
  rw [hS2]
  have hcy' : (cy : Int) ≤ 9223372036854775807 := by unfold maxLen at hcm; omega
  have hnyc : (ny : Int) ≤ (cy : Int) := by omega
  obtain ⟨N, hN⟩ : ∃ N : Int, ((no + ny : Nat) : Int) = N := ⟨_, rfl⟩
  rw [hN] at HCt
  have hsum : (sft : Int) + 2 * N = S2 := by omega
  have hN1 : 0 ≤ N ∧ N ≤ 2000 := by omega
  have hwS : IntKind.i64.wrap S2 = S2 := by rw [IntKind.wrap_i64]; omega
  have hw2N : IntKind.i64.wrap (2 * N) = 2 * N := by rw [IntKind.wrap_i64]; omega
  have hbig : ¬ (1099507433472 : Int) < S2 := by omega
  have hbig2 : decide ((1099507433472 : Int) < S2) = false := decide_eq_false hbig
  have k0 : Dr (w.alloc o) (w.alloc o) := Dr.refl _
  obtain ⟨c8, f8⟩ := HA.out _ k0
  clear k1 k3 hcur bo hbox e1 hg1 hS2 hN hcs hhl hgl hcm
  go_enter Tryd.func45, Tryd.ntmps45
  go_wp2_with fail
  try rw [ho]
  go_region_with (first
    | (go_at_call 34; refine (HCt.out _ (by first | exact k0 | exact k0.drew)).mono ?_; rintro e' w3 ⟨rfl, q3⟩; obtain ⟨x8, y8⟩ := HA.out _ q3))
  all_goals
    obtain ⟨g1, g2, g3, g4⟩ := HB.out _ q3
    clear HB HA HCt x8 y8 q3 c8 f8
    generalize w3.setCell ⟨h, 8, none⟩ (.int .i64 S2) = W at *
    obtain ⟨c0, c1, c2, c3, c4, _, _, c7, c8, _, _, _⟩ := hget g1
    have p0 : W.cell? ⟨w.heap.size, 0, none⟩ = some (.slice at_ n2 ct) := by rw [cells_at g2 0]; rfl
    have p1 : W.cell? ⟨w.heap.size, 1, none⟩ = some (.int .i64 (oc2 : Int)) := by rw [cells_at g2 1]; rfl
    have p2 : W.cell? ⟨w.heap.size, 2, none⟩ = some (.int .i64 1000) := by rw [cells_at g2 2]; rfl
    have f0 := cells_free g1 0
    have f1 := cells_free g1 1
    have f2 := cells_free g1 2
    obtain ⟨W2, hW2, b2, hcl, d4, HF⟩ := HZ.out W g1 g3 g4
    obtain ⟨_, _, _, u3, _, _, _, _, _, _, _, _⟩ := hget b2
    obtain ⟨_, _, _, v3, v4, _, _, v7, _, _, _, _⟩ := hget d4
    have e3 := cells_free d4 3
    have e4 := cells_free d4 4
    have e7 := cells_free d4 7
    clear g1 g2 g3 g4 HZ b2 d4
    go_wp2
    go_end0
    exact ⟨rfl, HF.out _ rfl⟩
end Go.Proofs.YtmpilcamnhlalaaDoor
