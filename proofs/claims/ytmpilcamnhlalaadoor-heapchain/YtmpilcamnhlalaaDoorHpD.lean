/-
  A heap's contracts: an object's cells, part.add.
-/
import Derived.Test.YtmpilcamnhlalaaDoorHpC
namespace Go.Proofs.YtmpilcamnhlalaaDoor
open Go.RowKit
set_option linter.unusedVariables false

theorem infoObj : (Tryd.prog.info? 60).map (fun i => (i.zero, i.size, i.bytes)) = some (some (.agg #[.int .i64 0, .slice none 0 0, .string ⟨#[]⟩, .bool false]), 4, 56) := by kernel_rfl
theorem h_cells {w : World} {g off m c : Nat} {a : Option Addr} (c1 : w.cell? ⟨g, off + 1, none⟩ = some (.slice a m c)) (c2 : w.cell? ⟨g, off + 2, none⟩ = some (.string ⟨#[]⟩)) (hm : m ≤ 1000) : Calls Tryd.prog 35 #[.pointer (some ⟨g, off, none⟩)] w fun r w' => r = .returned (.int .i64 ((1 + m : Nat) : Int)) ∧ Dr w w' := by
  have hm' : (m : Int) ≤ 1000 := by omega
  go_enter Tryd.func35, Tryd.ntmps35
  go_wp2_with fail
  go_quiet (fail)
  go_wp2
  go_ret
  exact ⟨by simp, _, rfl⟩
/-- An object's four cells. -/
def obj4 (kd : Int) (fb m : Nat) : List Value := [.int .i64 kd, .slice (some ⟨fb, 0, none⟩) m m, .string ⟨#[]⟩, .bool false]
theorem Part.pair {F : Nat → Prop} {w w' : World} (h : Part F w w') {k : Nat} {o : Obj} (hk : w.heap[k]? = some o) (hn : ¬ F k) : w'.heap[k]? = some o := (h.block k (Array.getElem?_eq_some_iff.1 hk).1 hn).trans hk

set_option maxRecDepth 100000 in
set_option maxHeartbeats 2000000 in
theorem h_partAdd {w : World} {b p n lb fb m : Nat} {v : Value} {xs : List Value} {cs : Array Value} {t : TypeId} {yc : Nat} {kd : Int} (hb : w.heap[b]? = some (.cells cs t (0, 0))) (c0 : cs[p]? = some v) (c1 : cs[p + 1]? = some (.int .i64 (yc : Int))) (hv : w.ownsRow 0 60 4 v n xs) (hvb : v.ownBlock ≠ some b) (hvl : v.ownBlock ≠ some lb)
    (hl : w.heap[lb]? = some (.cells (obj4 kd fb m).toArray 60 (0, 0))) (hlb : lb ≠ b) (hm : m ≤ 1000) (hn : n ≤ 1000000) (hyc : yc ≤ 1000000) :
    Calls Tryd.prog 36 #[.pointer (some ⟨b, p, none⟩), .slice (some ⟨lb, 0, none⟩) 1 1] w fun r w' => ∃ v', r = .returned (.tuple #[]) ∧ w'.heap[b]? = some (.cells ((cs.setIfInBounds p v').setIfInBounds (p + 1) (.int .i64 ((yc + (1 + m) : Nat) : Int))) t (0, 0)) ∧ w'.ownsRow 0 60 4 v' (n + 1) (xs ++ obj4 kd fb m) ∧ Part (fun k => k = b ∨ some k = v.ownBlock) w w' ∧ (v'.ownBlock = v.ownBlock ∨ ∃ k, v'.ownBlock = some k ∧ w.heap.size ≤ k) := by
  obtain ⟨i0, hi0, hz0, hz1, hz2⟩ := info_parts infoObj
  have x0 : w.cell? ⟨b, p, none⟩ = some v := by rw [cells_at hb p]; exact c0
  have hbl : b < w.heap.size := (Array.getElem?_eq_some_iff.1 hb).1
  have hll : lb < w.heap.size := (Array.getElem?_eq_some_iff.1 hl).1
  have hp1 : p + 1 < cs.size := (Array.getElem?_eq_some_iff.1 c1).1
  have HA : Hid (∀ v' w2, w2.ownsRow 0 60 4 v' (n + 1) (xs ++ obj4 kd fb m) → w.grownBy w2 v.ownBlock → (v'.ownBlock = v.ownBlock ∨ v'.ownBlock = some w.heap.size) → ∃ W, w2.setCell ⟨b, p, none⟩ v' = W ∧ (∃ u, w2.cell? ⟨b, p, none⟩ = some u) ∧ w2.frozen? ⟨b, p, none⟩ = false ∧ Hid ((∀ wq, Dr W wq → wq.cell? ⟨b, p + 1, none⟩ = some (.int .i64 (yc : Int)) ∧ wq.frozen? ⟨b, p + 1, none⟩ = false ∧ Calls Tryd.prog 35 #[.pointer (some ⟨lb, 0, none⟩)] wq fun r w' => r = .returned (.int .i64 ((1 + m : Nat) : Int)) ∧ Dr W w') ∧ ∀ wq, Dr W wq → ∃ v', Hid ((wq.setCell ⟨b, p + 1, none⟩ (.int .i64 ((yc + (1 + m) : Nat) : Int))).heap[b]? = some (.cells ((cs.setIfInBounds p v').setIfInBounds (p + 1) (.int .i64 ((yc + (1 + m) : Nat) : Int))) t (0, 0)) ∧ (wq.setCell ⟨b, p + 1, none⟩ (.int .i64 ((yc + (1 + m) : Nat) : Int))).ownsRow 0 60 4 v' (n + 1) (xs ++ obj4 kd fb m) ∧ Part (fun k => k = b ∨ some k = v.ownBlock) w (wq.setCell ⟨b, p + 1, none⟩ (.int .i64 ((yc + (1 + m) : Nat) : Int))) ∧ (v'.ownBlock = v.ownBlock ∨ ∃ k, v'.ownBlock = some k ∧ w.heap.size ≤ k)))) := fun v' w2 ho hg ha => by
    have hb2 : w2.heap[b]? = some (.cells cs t (0, 0)) := (hg.block b hbl (fun e => hvb e.symm)).trans hb
    have hl2 : w2.heap[lb]? = some (.cells (obj4 kd fb m).toArray 60 (0, 0)) := (hg.block lb hll (fun e => hvl e.symm)).trans hl
    have hv'b : v'.ownBlock ≠ some b := fun e => by
      rcases ha with a | a
      · exact hvb (by rw [← a]; exact e)
      · rw [a] at e; cases e; omega
    refine ⟨_, rfl, ⟨_, by rw [cells_at hb2 p]; exact c0⟩, cells_free hb2 p, ?_⟩
    have hW : (w2.setCell ⟨b, p, none⟩ v').heap[b]? = some (.cells (cs.setIfInBounds p v') t (0, 0)) := heap_set_at hb2 v'
    have hWl : (w2.setCell ⟨b, p, none⟩ v').heap[lb]? = some (.cells (obj4 kd fb m).toArray 60 (0, 0)) := (heap_set_other w2 hlb p v').trans hl2
    refine ⟨fun wq hq => ?_, fun wq hq => ?_⟩
    · obtain ⟨q, rfl⟩ := hq
      have e1 : ((w2.setCell ⟨b, p, none⟩ v').drewN q).heap[b]? = some (.cells (cs.setIfInBounds p v') t (0, 0)) := hW
      have e2 : ((w2.setCell ⟨b, p, none⟩ v').drewN q).heap[lb]? = some (.cells (obj4 kd fb m).toArray 60 (0, 0)) := hWl
      refine ⟨?_, cells_free e1 _, ?_⟩
      · rw [cells_at e1 (p + 1), Array.getElem?_setIfInBounds_ne (by omega)]
        exact c1
      · exact (h_cells (g := lb) (off := 0) (m := m) (c := m) (a := some ⟨fb, 0, none⟩) (by rw [cells_at e2 1]; rfl) (by rw [cells_at e2 2]; rfl) hm).mono fun r w' ⟨hr, hw⟩ => ⟨hr, (show Dr _ _ from ⟨q, rfl⟩).trans hw⟩
    · obtain ⟨q, rfl⟩ := hq
      have e1 : ((w2.setCell ⟨b, p, none⟩ v').drewN q).heap[b]? = some (.cells (cs.setIfInBounds p v') t (0, 0)) := hW
      refine ⟨v', heap_set_at e1 _, ?_, ?_, ha.imp id (fun a => ⟨_, a, Nat.le_refl _⟩)⟩
      · exact row_set (row_heap (row_set ho hv'b p v') rfl) hv'b _ _
      · have p0 : Part (fun k => k = b ∨ some k = v.ownBlock) w w2 := (Part.refl _ w).grown hg (fun k hk _ => .inr hk.symm)
        exact ((p0.setCell (p := ⟨b, p, none⟩) (fun _ => .inl rfl) v').drewN q).setCell (p := ⟨b, p + 1, none⟩) (fun _ => .inl rfl) _
  have HL : Hid (∀ j u, (obj4 kd fb m)[j]? = some u → w.cell? ((⟨lb, 0, none⟩ : Addr).add j) = some u) := fun j u hu => by
    rw [Addr.add_lit, Nat.zero_add, cells_at hl j]
    simpa using hu
  have hm' : (m : Int) ≤ 1000 := by omega
  have hy' : (yc : Int) ≤ 1000000 := by omega
  have hv2 := hv
  clear hb c0 c1 hl hvb hvl hlb hbl hll hp1
  go_enter Tryd.func36, Tryd.ntmps36
  go_wp2_with (at_builtin; refine wpList_append_own_at _ rfl _ _ 38 rfl 0 60 i0 (.agg #[.int .i64 0, .slice none 0 0, .string ⟨#[]⟩, .bool false]) 4 56 Tryd.underlying38 hi0 hz0 hz1 hz2 rfl (by decide) v n xs rfl hv ⟨lb, 0, none⟩ 1 1 (obj4 kd fb m) rfl rfl ?q1 ?q2 ?q3 ?q4 (Nat.zero_le _) ?_)
  case q1 => exact HL.out
  case q2 => intro u hu; simp [obj4] at hu; rcases hu with rfl | rfl | rfl | rfl <;> rfl
  case q3 => unfold maxLen; omega
  case q4 => omega
  intro v2 w2 ho2 hg2 _ hat
  obtain ⟨a2, c2, rfl⟩ := row_slice ho2
  obtain ⟨W, rfl, ⟨u, z0⟩, z1, HZ⟩ := HA.out _ w2 ho2 hg2 hat
  clear HA ho2 hg2 hat HL hv hv2
  go_wp2
  generalize w2.setCell ⟨b, p, none⟩ (.slice a2 (n + 1) c2) = W at *
  clear z0 z1
  have hZ1 := HZ.out.1
  have hZ2 := HZ.out.2
  have HZ1 : Hid (∀ wq, Dr W wq → wq.cell? ⟨b, p + 1, none⟩ = some (.int .i64 (yc : Int)) ∧ wq.frozen? ⟨b, p + 1, none⟩ = false ∧ Calls Tryd.prog 35 #[.pointer (some ⟨lb, 0, none⟩)] wq fun r w' => r = .returned (.int .i64 ((1 + m : Nat) : Int)) ∧ Dr W w') := hZ1
  clear hZ1 HZ
  go_loopw [16] (fun s16 wr => (s16 = .int .i64 0 ∧ wr = W) ∨ (s16 = .int .i64 1 ∧ ∃ v', Hid (wr.heap[b]? = some (.cells ((cs.setIfInBounds p v').setIfInBounds (p + 1) (.int .i64 ((yc + (1 + m) : Nat) : Int))) t (0, 0)) ∧ wr.ownsRow 0 60 4 v' (n + 1) (xs ++ obj4 kd fb m) ∧ Part (fun k => k = b ∨ some k = v.ownBlock) w wr ∧ (v'.ownBlock = v.ownBlock ∨ ∃ k, v'.ownBlock = some k ∧ w.heap.size ≤ k)))) (fun i _ => 1 - (intOf i).toNat)
  case atStart => exact .inl ⟨rfl, rfl⟩
  case round =>
    rcases hrel with ⟨rfl, rfl⟩ | ⟨rfl, v', HE⟩
    · have k0 : Dr wr wr := Dr.refl wr
      obtain ⟨y1, y2, _⟩ := HZ1.out wr k0
      have HZ2 : Hid (∀ wq, Dr wr wq → ∃ v', Hid ((wq.setCell ⟨b, p + 1, none⟩ (.int .i64 ((yc + (1 + m) : Nat) : Int))).heap[b]? = some (.cells ((cs.setIfInBounds p v').setIfInBounds (p + 1) (.int .i64 ((yc + (1 + m) : Nat) : Int))) t (0, 0)) ∧ (wq.setCell ⟨b, p + 1, none⟩ (.int .i64 ((yc + (1 + m) : Nat) : Int))).ownsRow 0 60 4 v' (n + 1) (xs ++ obj4 kd fb m) ∧ Part (fun k => k = b ∨ some k = v.ownBlock) w (wq.setCell ⟨b, p + 1, none⟩ (.int .i64 ((yc + (1 + m) : Nat) : Int))) ∧ (v'.ownBlock = v.ownBlock ∨ ∃ k, v'.ownBlock = some k ∧ w.heap.size ≤ k))) := hZ2
      clear hZ2
      go_wp2_with fail
      go_region_with (first
          | (go_at_call 35; refine ((HZ1.out _ (by first | exact k0 | exact k0.drew)).2.2).mono ?_; rintro e' w4 ⟨rfl, q4⟩; obtain ⟨y3, y4, _⟩ := HZ1.out _ q4))
      all_goals
        obtain ⟨v', HE⟩ := HZ2.out _ q4
        have hwp : IntKind.i64.wrap ((yc : Int) + (1 + (m : Int))) = ((yc + (1 + m) : Nat) : Int) := by rw [IntKind.wrap_i64]; omega
        clear HZ1 HZ2 y1 y2 y3 y4 k0
        go_wp2
        go_roundw
        case rel => exact .inr ⟨by go_num, v', by first | exact HE | (rw [hwp]; exact HE)⟩
        case measure => simp [intOf]
    · clear HZ1 hZ2
      go_wp2
      go_end0
      exact ⟨v', rfl, HE.out⟩
end Go.Proofs.YtmpilcamnhlalaaDoor
