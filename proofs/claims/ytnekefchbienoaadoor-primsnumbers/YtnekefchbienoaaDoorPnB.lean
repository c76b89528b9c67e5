/-
  An object with a text goes into a new heap: cells, part.add, add, Text.
-/
import Derived.Test.YtnekefchbienoaaDoorPnA
namespace Go.Proofs.YtnekefchbienoaaDoor
open Go.RowKit
set_option linter.unusedVariables false

theorem infoObj : (Tryd.prog.info? 64).map (fun i => (i.zero, i.size, i.bytes)) = some (some (.agg #[.int .i64 0, .slice none 0 0, .string ⟨#[]⟩, .bool false]), 4, 56) := by kernel_rfl
theorem row_slice {w : World} {B : Nat} {e : TypeId} {s : Nat} {v : Value} {n : Nat} {xs : List Value} (h : w.ownsRow B e s v n xs) : ∃ a c, v = .slice a n c := by
  rcases h.2 with ⟨rfl, rfl⟩ | ⟨g, cap, cur, rfl, _⟩
  · exact ⟨none, 0, rfl⟩
  · exact ⟨_, cap, rfl⟩
/-- The cells of an object with a text. -/
def tcells (s : ByteArray) : Nat := 1 + (s.size + 7) / 8
theorem t_cells {w : World} {g off : Nat} {s : ByteArray} (c1 : w.cell? ⟨g, off + 1, none⟩ = some (.slice none 0 0)) (c2 : w.cell? ⟨g, off + 2, none⟩ = some (.string s)) (hs : s.size ≤ 4000) : Calls Tryd.prog 45 #[.pointer (some ⟨g, off, none⟩)] w fun r w' => r = .returned (.int .i64 (tcells s : Int)) ∧ Dr w w' := by
  have e1 : ((s.size : Int) + 7).tdiv 8 = ((s.size + 7) / 8 : Nat) := by rw [Int.tdiv_eq_ediv_of_nonneg (by omega)]; omega
  have e0 : (s.size : Int) + 8 - 1 = (s.size : Int) + 7 := by omega
  have b1 : (s.size : Int) ≤ 4000 := by omega
  have b2 : (((s.size + 7) / 8 : Nat) : Int) ≤ 1000 := by omega
  go_enter Tryd.func45, Tryd.ntmps45
  go_wp2_with fail
  go_quiet (fail)
  go_wp2
  go_ret
  exact ⟨by simp [tcells], _, rfl⟩
set_option maxRecDepth 100000 in
set_option maxHeartbeats 2000000 in
theorem h_partAddG {w : World} {b p n lb cc : Nat} {ob : List Value} {v : Value} {xs : List Value} {cs : Array Value} {t : TypeId} {yc : Nat} (hb : w.heap[b]? = some (.cells cs t (0, 0))) (c0 : cs[p]? = some v) (c1 : cs[p + 1]? = some (.int .i64 (yc : Int))) (hv : w.ownsRow 0 64 4 v n xs) (hvb : v.ownBlock ≠ some b) (hvl : v.ownBlock ≠ some lb)
    (hl : w.heap[lb]? = some (.cells ob.toArray 64 (0, 0))) (hlb : lb ≠ b) (hob : ob.length = 4) (hob1 : ∀ u ∈ ob, u.oneCell' = true) (hcl : ∀ wq, wq.heap[lb]? = some (.cells ob.toArray 64 (0, 0)) → Calls Tryd.prog 45 #[.pointer (some ⟨lb, 0, none⟩)] wq fun r w' => r = .returned (.int .i64 (cc : Int)) ∧ Dr wq w') (hm : cc ≤ 1001) (hn : n ≤ 1000000) (hyc : yc ≤ 1000000) :
    Calls Tryd.prog 47 #[.pointer (some ⟨b, p, none⟩), .slice (some ⟨lb, 0, none⟩) 1 1] w fun r w' => ∃ v', r = .returned (.tuple #[]) ∧ w'.heap[b]? = some (.cells ((cs.setIfInBounds p v').setIfInBounds (p + 1) (.int .i64 ((yc + cc : Nat) : Int))) t (0, 0)) ∧ w'.ownsRow 0 64 4 v' (n + 1) (xs ++ ob) ∧ Part (fun k => k = b ∨ some k = v.ownBlock) w w' ∧ (v'.ownBlock = v.ownBlock ∨ ∃ k, v'.ownBlock = some k ∧ w.heap.size ≤ k) := by
  obtain ⟨i0, hi0, hz0, hz1, hz2⟩ := info_parts infoObj
  have x0 : w.cell? ⟨b, p, none⟩ = some v := by rw [cells_at hb p]; exact c0
  have hbl : b < w.heap.size := (Array.getElem?_eq_some_iff.1 hb).1
  have hll : lb < w.heap.size := (Array.getElem?_eq_some_iff.1 hl).1
  have hp1 : p + 1 < cs.size := (Array.getElem?_eq_some_iff.1 c1).1
  have HA : Hid (∀ v' w2, w2.ownsRow 0 64 4 v' (n + 1) (xs ++ ob) → w.grownBy w2 v.ownBlock → (v'.ownBlock = v.ownBlock ∨ v'.ownBlock = some w.heap.size) → ∃ W, w2.setCell ⟨b, p, none⟩ v' = W ∧ (∃ u, w2.cell? ⟨b, p, none⟩ = some u) ∧ w2.frozen? ⟨b, p, none⟩ = false ∧ Hid ((∀ wq, Dr W wq → wq.cell? ⟨b, p + 1, none⟩ = some (.int .i64 (yc : Int)) ∧ wq.frozen? ⟨b, p + 1, none⟩ = false ∧ Calls Tryd.prog 45 #[.pointer (some ⟨lb, 0, none⟩)] wq fun r w' => r = .returned (.int .i64 (cc : Int)) ∧ Dr W w') ∧ ∀ wq, Dr W wq → ∃ v', Hid ((wq.setCell ⟨b, p + 1, none⟩ (.int .i64 ((yc + cc : Nat) : Int))).heap[b]? = some (.cells ((cs.setIfInBounds p v').setIfInBounds (p + 1) (.int .i64 ((yc + cc : Nat) : Int))) t (0, 0)) ∧ (wq.setCell ⟨b, p + 1, none⟩ (.int .i64 ((yc + cc : Nat) : Int))).ownsRow 0 64 4 v' (n + 1) (xs ++ ob) ∧ Part (fun k => k = b ∨ some k = v.ownBlock) w (wq.setCell ⟨b, p + 1, none⟩ (.int .i64 ((yc + cc : Nat) : Int))) ∧ (v'.ownBlock = v.ownBlock ∨ ∃ k, v'.ownBlock = some k ∧ w.heap.size ≤ k)))) := fun v' w2 ho hg ha => by
    have hb2 : w2.heap[b]? = some (.cells cs t (0, 0)) := (hg.block b hbl (fun e => hvb e.symm)).trans hb
    have hl2 : w2.heap[lb]? = some (.cells (ob).toArray 64 (0, 0)) := (hg.block lb hll (fun e => hvl e.symm)).trans hl
    have hv'b : v'.ownBlock ≠ some b := fun e => by
      rcases ha with a | a
      · exact hvb (by rw [← a]; exact e)
      · rw [a] at e; cases e; omega
    refine ⟨_, rfl, ⟨_, by rw [cells_at hb2 p]; exact c0⟩, cells_free hb2 p, ?_⟩
    have hW : (w2.setCell ⟨b, p, none⟩ v').heap[b]? = some (.cells (cs.setIfInBounds p v') t (0, 0)) := heap_set_at hb2 v'
    have hWl : (w2.setCell ⟨b, p, none⟩ v').heap[lb]? = some (.cells (ob).toArray 64 (0, 0)) := (heap_set_other w2 hlb p v').trans hl2
    refine ⟨fun wq hq => ?_, fun wq hq => ?_⟩
    · obtain ⟨q, rfl⟩ := hq
      have e1 : ((w2.setCell ⟨b, p, none⟩ v').drewN q).heap[b]? = some (.cells (cs.setIfInBounds p v') t (0, 0)) := hW
      have e2 : ((w2.setCell ⟨b, p, none⟩ v').drewN q).heap[lb]? = some (.cells (ob).toArray 64 (0, 0)) := hWl
      refine ⟨?_, cells_free e1 _, ?_⟩
      · rw [cells_at e1 (p + 1), Array.getElem?_setIfInBounds_ne (by omega)]
        exact c1
      · exact (hcl _ e2).mono fun r w' ⟨hr, hw⟩ => ⟨hr, (show Dr _ _ from ⟨q, rfl⟩).trans hw⟩
    · obtain ⟨q, rfl⟩ := hq
      have e1 : ((w2.setCell ⟨b, p, none⟩ v').drewN q).heap[b]? = some (.cells (cs.setIfInBounds p v') t (0, 0)) := hW
      refine ⟨v', heap_set_at e1 _, ?_, ?_, ha.imp id (fun a => ⟨_, a, Nat.le_refl _⟩)⟩
      · exact row_set (row_heap (row_set ho hv'b p v') rfl) hv'b _ _
      · have p0 : Part (fun k => k = b ∨ some k = v.ownBlock) w w2 := (Part.refl _ w).grown hg (fun k hk _ => .inr hk.symm)
        exact ((p0.setCell (p := ⟨b, p, none⟩) (fun _ => .inl rfl) v').drewN q).setCell (p := ⟨b, p + 1, none⟩) (fun _ => .inl rfl) _
  have HL : Hid (∀ j u, (ob)[j]? = some u → w.cell? ((⟨lb, 0, none⟩ : Addr).add j) = some u) := fun j u hu => by
    rw [Addr.add_lit, Nat.zero_add, cells_at hl j]
    simpa using hu
  have hm' : (cc : Int) ≤ 1001 := by omega
  have hy' : (yc : Int) ≤ 1000000 := by omega
  have hv2 := hv
  have HO1 : Hid (∀ u ∈ ob, u.oneCell' = true) := hob1
  clear hb c0 c1 hl hvb hvl hlb hbl hll hp1 hcl hob1
  go_enter Tryd.func47, Tryd.ntmps47
  go_wp2_with (at_builtin; refine wpList_append_own_at _ rfl _ _ 66 rfl 0 64 i0 (.agg #[.int .i64 0, .slice none 0 0, .string ⟨#[]⟩, .bool false]) 4 56 Tryd.underlying66 hi0 hz0 hz1 hz2 rfl (by decide) v n xs rfl hv ⟨lb, 0, none⟩ 1 1 (ob) rfl hob ?q1 ?q2 ?q3 ?q4 (Nat.zero_le _) ?_)
  case q1 => exact HL.out
  case q2 => exact HO1.out
  case q3 => unfold maxLen; omega
  case q4 => omega
  intro v2 w2 ho2 hg2 _ hat
  obtain ⟨a2, c2, rfl⟩ := row_slice ho2
  obtain ⟨W, rfl, ⟨u, z0⟩, z1, HZ⟩ := HA.out _ w2 ho2 hg2 hat
  clear HA ho2 hg2 hat HL hv hv2
  go_wp2
  generalize w2.setCell ⟨b, p, none⟩ (.slice a2 (n + 1) c2) = W at *
  clear z0 z1
  have hZ1 := HZ.out.1
  have hZ2 := HZ.out.2
  have HZ1 : Hid (∀ wq, Dr W wq → wq.cell? ⟨b, p + 1, none⟩ = some (.int .i64 (yc : Int)) ∧ wq.frozen? ⟨b, p + 1, none⟩ = false ∧ Calls Tryd.prog 45 #[.pointer (some ⟨lb, 0, none⟩)] wq fun r w' => r = .returned (.int .i64 (cc : Int)) ∧ Dr W w') := hZ1
  clear hZ1 HZ
  go_loopw [16] (fun s16 wr => (s16 = .int .i64 0 ∧ wr = W) ∨ (s16 = .int .i64 1 ∧ ∃ v', Hid (wr.heap[b]? = some (.cells ((cs.setIfInBounds p v').setIfInBounds (p + 1) (.int .i64 ((yc + cc : Nat) : Int))) t (0, 0)) ∧ wr.ownsRow 0 64 4 v' (n + 1) (xs ++ ob) ∧ Part (fun k => k = b ∨ some k = v.ownBlock) w wr ∧ (v'.ownBlock = v.ownBlock ∨ ∃ k, v'.ownBlock = some k ∧ w.heap.size ≤ k)))) (fun i _ => 1 - (intOf i).toNat)
  case atStart => exact .inl ⟨rfl, rfl⟩
  case round =>
    rcases hrel with ⟨rfl, rfl⟩ | ⟨rfl, v', HE⟩
    · have k0 : Dr wr wr := Dr.refl wr
      obtain ⟨y1, y2, _⟩ := HZ1.out wr k0
      have HZ2 : Hid (∀ wq, Dr wr wq → ∃ v', Hid ((wq.setCell ⟨b, p + 1, none⟩ (.int .i64 ((yc + cc : Nat) : Int))).heap[b]? = some (.cells ((cs.setIfInBounds p v').setIfInBounds (p + 1) (.int .i64 ((yc + cc : Nat) : Int))) t (0, 0)) ∧ (wq.setCell ⟨b, p + 1, none⟩ (.int .i64 ((yc + cc : Nat) : Int))).ownsRow 0 64 4 v' (n + 1) (xs ++ ob) ∧ Part (fun k => k = b ∨ some k = v.ownBlock) w (wq.setCell ⟨b, p + 1, none⟩ (.int .i64 ((yc + cc : Nat) : Int))) ∧ (v'.ownBlock = v.ownBlock ∨ ∃ k, v'.ownBlock = some k ∧ w.heap.size ≤ k))) := hZ2
      clear hZ2
      go_wp2_with fail
      go_region_with (first
          | (go_at_call 45; refine ((HZ1.out _ (by first | exact k0 | exact k0.drew)).2.2).mono ?_; rintro e' w4 ⟨rfl, q4⟩; obtain ⟨y3, y4, _⟩ := HZ1.out _ q4))
      all_goals
        obtain ⟨v', HE⟩ := HZ2.out _ q4
        have hwp : IntKind.i64.wrap ((yc : Int) + (cc : Int)) = ((yc + cc : Nat) : Int) := by rw [IntKind.wrap_i64]; omega
        clear HZ1 HZ2 y1 y2 y3 y4 k0
        go_wp2
        go_roundw
        case rel => exact .inr ⟨by go_num, v', by first | exact HE | (rw [hwp]; exact HE)⟩
        case measure => simp [intOf]
    · clear HZ1 hZ2
      go_wp2
      go_end0
      exact ⟨v', rfl, HE.out⟩
end Go.Proofs.YtnekefchbienoaaDoor
