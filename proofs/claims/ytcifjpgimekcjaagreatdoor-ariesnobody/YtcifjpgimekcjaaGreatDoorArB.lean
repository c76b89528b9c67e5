/-
  The copy of a disk of noughts that no call has written; pool.New over it; Force of a log without records.
-/
import Derived.Test.YtcifjpgimekcjaaGreatDoorArA
namespace Go.Proofs.YtcifjpgimekcjaaGreatDoor
open Go.RowKit
set_option linter.unusedVariables false
set_option maxRecDepth 100000
set_option maxHeartbeats 2000000

theorem cloneIz (b n c : Nat) (h1 : 1 ≤ n) (h2 : n ≤ 4096) (w : World) (hz : ∀ i, i < n → w.cell? ⟨b, i, none⟩ = some (.int .i64 0)) :
    Calls Tryz.prog 51 #[.slice (some ⟨b, 0, none⟩) n c] w fun e w' => ∃ g c', e = .returned (.slice (some ⟨g, 0, none⟩) n c') ∧ (∀ i, i < n → w'.cell? ⟨g, i, none⟩ = some (.int .i64 0)) ∧ Below w.heap.size w w' := by
  obtain ⟨i0, hi0, hz0, hz1, hz2⟩ := info_parts info3
  have hq : ∀ (w : World) (a : Option Addr) (n c n' c' : Nat), (binOp .eql 37 (.slice a n c) (.slice none n' c')).run Tryz.prog w = .ok (.bool a.isNone) w := fun w a n c n' c' => Lib.run_eql_slice_nil w _ _ a n c n' c' Tryz.underlying37
  have hb0 : Below w.heap.size w (w.alloc (.cells #[] 3)) := (Below.refl _ w).alloc (Nat.le_refl _) _
  have hmo : (w.alloc (.cells #[] 3)).ownsRow w.heap.size 3 1 (.slice (some ⟨w.heap.size, 0, none⟩) 0 0) 0 [] := World.ownsRow_made w #[] 0 (Nat.le_refl _) (Nat.zero_le _) rfl
  have HN : Hid (∀ j u, (List.replicate n (Value.int .i64 0))[j]? = some u → (w.alloc (.cells #[] 3)).cell? ((⟨b, 0, none⟩ : Addr).add j) = some u) := fun j u hu => by
    have hj : j < n := by
      have := (List.getElem?_eq_some_iff.1 hu).1
      simpa using this
    have hu : u = .int .i64 0 := by
      have := List.mem_of_getElem? hu
      exact List.eq_of_mem_replicate this
    subst hu
    rw [Addr.add_lit, Nat.zero_add, hb0.cell (p := ⟨b, j, none⟩) (World.block_lt_of_cell? w _ (hz j hj))]
    exact hz j hj
  have HB : Hid (Below w.heap.size w (w.alloc (.cells #[] 3))) := hb0
  clear hz hb0
  go_enter Tryz.func51, Tryz.ntmps51
  go_wp2_with (at_builtin; refine wpList_append_own _ rfl _ _ 37 rfl w.heap.size 3 i0 (.int .i64 0) 1 8 Tryz.underlying37 hi0 hz0 hz1 hz2 rfl (by decide) _ 0 [] rfl hmo ⟨b, 0, none⟩ n c (List.replicate n (.int .i64 0)) rfl (by simp) HN.out ?q2 ?q3 ?q4 ?q5 ?_)
  try (case q2 => intro u hu; obtain rfl := List.eq_of_mem_replicate hu; rfl)
  try (case q3 => unfold maxLen; omega)
  try (case q4 => omega)
  try (case q5 => simp)
  intro v' w' ho hg hnil
  have ho : w'.ownsRow w.heap.size 3 1 v' n (List.replicate n (Value.int .i64 0)) := by simpa using ho
  obtain ⟨g, cap, cur, rfl, hgb, hcur, hle, _, hlen, htk⟩ : ∃ g cap cur, v' = .slice (some ⟨g, 0, none⟩) n cap ∧ w.heap.size ≤ g ∧ w'.heap[g]? = some (.cells cur 3 (0, 0)) ∧ n ≤ cap ∧ cap ≤ maxLen ∧ cap * 1 ≤ cur.size ∧ cur.toList.take (n * 1) = List.replicate n (Value.int .i64 0) := by
    rcases ho.2 with ⟨h3, h4⟩ | ⟨g, cap, cur, h3, h4, h5, h6, h7, h8, h9⟩
    · omega
    · exact ⟨g, cap, cur, h3, h4, h5, h6, h7, by first | exact h8 | omega, h9⟩
  have HC : Hid (∀ i, i < n → w'.cell? ⟨g, i, none⟩ = some (.int .i64 0)) := fun i hi => by
    rw [cells_at hcur, ← Array.getElem?_toList]
    have h7 : (cur.toList.take (n * 1))[i]? = cur.toList[i]? := List.getElem?_take_of_lt (by omega)
    rw [← h7, htk, List.getElem?_replicate, if_pos hi]
  have HG : Hid (Below w.heap.size w w') := HB.out.grown hg (by simp) (fun k e => by
    have e : some w.heap.size = some k := e
    injection e with e
    omega)
  clear ho hg hnil hcur htk
  go_wp2
  go_ret
  exact ⟨g, cap, rfl, HC.out, HG.out⟩
theorem cloneNil (w : World) : Calls Tryz.prog 50 #[.slice none 0 0] w fun e w' => e = .returned (.slice none 0 0) ∧ w' = w := by
  have hq : ∀ (w : World) (a : Option Addr) (n c n' c' : Nat), (binOp .eql 30 (.slice a n c) (.slice none n' c')).run Tryz.prog w = .ok (.bool a.isNone) w := fun w a n c n' c' => Lib.run_eql_slice_nil w _ _ a n c n' c' Tryz.underlying30
  go_enter Tryz.func50, Tryz.ntmps50
  go_wp2
  go_ret
  exact ⟨rfl, rfl⟩
theorem cloneINil (w : World) : Calls Tryz.prog 51 #[.slice none 0 0] w fun e w' => e = .returned (.slice none 0 0) ∧ w' = w := by
  have hq : ∀ (w : World) (a : Option Addr) (n c n' c' : Nat), (binOp .eql 37 (.slice a n c) (.slice none n' c')).run Tryz.prog w = .ok (.bool a.isNone) w := fun w a n c n' c' => Lib.run_eql_slice_nil w _ _ a n c n' c' Tryz.underlying37
  go_enter Tryz.func51, Tryz.ntmps51
  go_wp2
  go_ret
  exact ⟨rfl, rfl⟩
theorem copyZ (D n : Nat) (h1 : 1 ≤ n) (h2 : n ≤ 4096) (w : World) (hF : Fresh w D n) :
    Calls Tryz.prog 28 #[.pointer (some ⟨D, 0, none⟩)] w fun e w' => ∃ D', e = .returned (.pointer (some ⟨D', 0, none⟩)) ∧ Fresh w' D' n ∧ Below w.heap.size w w' := by
  obtain ⟨S, Bd, Bl, cD, cL, k1, k2, k3, k4, k5, k6, k7, k8⟩ := hF
  have HS : Hid (∀ wq, Below w.heap.size w wq → wq.cell? ⟨D, 0, none⟩ = some (.pointer (some ⟨S, 0, none⟩)) ∧ wq.cell? ⟨S, 0, none⟩ = some (.slice (some ⟨Bd, 0, none⟩) (n * 128) cD) ∧ wq.cell? ⟨S, 1, none⟩ = some (.slice (some ⟨Bl, 0, none⟩) n cL) ∧ wq.cell? ⟨S, 2, none⟩ = some (.slice none 0 0) ∧ wq.cell? ⟨S, 3, none⟩ = some (.slice none 0 0)) := fun wq hb => by
    have k : ∀ (b i : Nat) (v : Value), w.cell? ⟨b, i, none⟩ = some v → wq.cell? ⟨b, i, none⟩ = some v := fun b i v hc => by
      rw [hb.cell (p := ⟨b, i, none⟩) (World.block_lt_of_cell? w _ hc)]; exact hc
    exact ⟨k _ _ _ k1, k _ _ _ k2, k _ _ _ k3, k _ _ _ k6, k _ _ _ k7⟩
  have HC1 : Hid (∀ wq, Below w.heap.size w wq → Calls Tryz.prog 50 #[.slice (some ⟨Bd, 0, none⟩) (n * 128) cD] wq fun e w' => ∃ g c, e = .returned (.slice (some ⟨g, 0, none⟩) (n * 128) c) ∧ Hid ((∀ i, i < n * 128 → w'.cell? ⟨g, i, none⟩ = some (.int .u8 0)) ∧ n * 128 ≤ c ∧ c ≤ 9223372036854775807) ∧ Below w.heap.size w w') := fun wq hb => by
    have hf : From wq (some ⟨Bd, 0, none⟩) (n * 128) (fun _ => 0) := .inr ⟨_, rfl, fun i hi => by
      rw [Addr.add_lit, Nat.zero_add, hb.cell (p := ⟨Bd, i, none⟩) (World.block_lt_of_cell? w _ (k4 i hi))]
      exact k4 i hi⟩
    refine (clone (some ⟨Bd, 0, none⟩) (n * 128) cD (fun _ => 0) wq (by omega) hf).mono ?_
    rintro e w' ⟨v', rfl, ho, hb'⟩
    obtain ⟨a, c, rfl, hF', _, hc1, hc2, hg⟩ := ho.open
    rw [lst_length] at hF' hc1 ⊢
    rcases hF' with ⟨_, h0⟩ | ⟨x, rfl, hx⟩
    · omega
    · obtain ⟨g, rfl, _⟩ := hg x rfl
      refine ⟨g, c, rfl, ⟨fun i hi => ?_, hc1, hc2⟩, hb.trans (hb'.mono hb.size)⟩
      have := hx i hi
      rw [Addr.add_lit, Nat.zero_add] at this
      rw [this, fn, lst_getD _ _ _ hi]
  have HC2 : Hid (∀ wq, Below w.heap.size w wq → Calls Tryz.prog 51 #[.slice (some ⟨Bl, 0, none⟩) n cL] wq fun e w' => ∃ g c, e = .returned (.slice (some ⟨g, 0, none⟩) n c) ∧ Hid ((∀ i, i < n → w'.cell? ⟨g, i, none⟩ = some (.int .i64 0)) ∧ Below wq.heap.size wq w') ∧ Below w.heap.size w w') := fun wq hb => by
    refine (cloneIz Bl n cL h1 h2 wq (fun i hi => by
      rw [hb.cell (p := ⟨Bl, i, none⟩) (World.block_lt_of_cell? w _ (k5 i hi))]
      exact k5 i hi)).mono ?_
    rintro e w' ⟨g, c, rfl, hz, hb'⟩
    exact ⟨g, c, rfl, ⟨hz, hb'⟩, hb.trans (hb'.mono hb.size)⟩
  clear k2 k3 k4 k5 k6 k7 k8
  go_enter Tryz.func28, Tryz.ntmps28
  go_wp2_with fail
  refine (dMissing D S w k1).mono ?_
  rintro e w1 ⟨rfl, hw⟩
  obtain rfl : w = w1 := hw.symm
  clear hw k1
  go_wp2_with fail
  have g0 : Below w.heap.size w w := Below.refl _ _
  have S0 := HS.out w g0
  go_region_held2 (fun wq => wq.cell? ⟨D, 0, none⟩ = some (.pointer (some ⟨S, 0, none⟩)) ∧ wq.cell? ⟨S, 0, none⟩ = some (.slice (some ⟨Bd, 0, none⟩) (n * 128) cD) ∧ wq.cell? ⟨S, 1, none⟩ = some (.slice (some ⟨Bl, 0, none⟩) n cL) ∧ wq.cell? ⟨S, 2, none⟩ = some (.slice none 0 0) ∧ wq.cell? ⟨S, 3, none⟩ = some (.slice none 0 0))
    (first | assumption | exact HS.out _ (by assumption) | exact HS.out _ (g2.alloc g2.size _) | exact HS.out _ ((g2.alloc g2.size _).alloc (Nat.le_trans g2.size (by rw [World.size_alloc]; omega)) _))
    (first
      | (go_at_call 50; refine (cloneNil _).mono ?_; rintro e u4 ⟨rfl, hw⟩; rw [hw]; clear hw)
      | (go_at_call 51; refine (cloneINil _).mono ?_; rintro e u3 ⟨rfl, hw⟩; rw [hw]; clear hw)
      | (go_at_call 51; refine (HC2.out _ (by first | exact g1 | exact blw_drewN 1 g1)).mono ?_; rintro e u2 ⟨b2, c2, rfl, z2, g2⟩)
      | (go_at_call 50; refine (HC1.out _ (by first | exact g0 | exact blw_drewN 1 g0)).mono ?_; rintro e u1 ⟨b1, c1, rfl, z1, g1⟩))
  have HZ : Hid (∀ wf, wf = (u2.alloc (.cells #[.slice (some ⟨b1, 0, none⟩) (n * 128) c1, .slice (some ⟨b2, 0, none⟩) n c2, .slice none 0 0, .slice none 0 0] 103)).alloc (.cells #[.pointer (some ⟨u2.heap.size, 0, none⟩)] 42) → Fresh wf (u2.heap.size + 1) n ∧ Below w.heap.size w wf) := fun wf hf => by
    subst hf
    have hb3 : Below u2.heap.size u2 ((u2.alloc (.cells #[.slice (some ⟨b1, 0, none⟩) (n * 128) c1, .slice (some ⟨b2, 0, none⟩) n c2, .slice none 0 0, .slice none 0 0] 103)).alloc (.cells #[.pointer (some ⟨u2.heap.size, 0, none⟩)] 42)) := ((Below.refl _ u2).alloc (Nat.le_refl _) _).alloc (by rw [World.size_alloc]; omega) _
    have y1 : ((u2.alloc (.cells #[.slice (some ⟨b1, 0, none⟩) (n * 128) c1, .slice (some ⟨b2, 0, none⟩) n c2, .slice none 0 0, .slice none 0 0] 103)).alloc (.cells #[.pointer (some ⟨u2.heap.size, 0, none⟩)] 42)).heap[u2.heap.size + 1]? = some (.cells #[.pointer (some ⟨u2.heap.size, 0, none⟩)] 42 (0, 0)) := heap_alloc_at _ _ _ (World.size_alloc ..).symm
    have y2 : ((u2.alloc (.cells #[.slice (some ⟨b1, 0, none⟩) (n * 128) c1, .slice (some ⟨b2, 0, none⟩) n c2, .slice none 0 0, .slice none 0 0] 103)).alloc (.cells #[.pointer (some ⟨u2.heap.size, 0, none⟩)] 42)).heap[u2.heap.size]? = some (.cells #[.slice (some ⟨b1, 0, none⟩) (n * 128) c1, .slice (some ⟨b2, 0, none⟩) n c2, .slice none 0 0, .slice none 0 0] 103 (0, 0)) := by
      rw [Below.heap_alloc _ _ _ (by rw [World.size_alloc]; omega)]
      exact heap_alloc_at _ _ _ rfl
    refine ⟨⟨u2.heap.size, b1, b2, c1, c2, cells_at y1 0, cells_at y2 0, cells_at y2 1, fun i hi => ?_, fun i hi => ?_, cells_at y2 2, cells_at y2 3, z1.out.2⟩, g2.trans (hb3.mono g2.size)⟩
    · have k1 := z1.out.1 i hi
      have k2 := (z2.out.2.cell (p := ⟨b1, i, none⟩) (World.block_lt_of_cell? _ _ k1)).trans k1
      exact (hb3.cell (p := ⟨b1, i, none⟩) (World.block_lt_of_cell? _ _ k2)).trans k2
    · have k2 := z2.out.1 i hi
      exact (hb3.cell (p := ⟨b2, i, none⟩) (World.block_lt_of_cell? _ _ k2)).trans k2
  clear z1 z2 g1 g2 HC1 HC2 HS S0 g0
  go_wp2
  go_ret
  obtain ⟨y1, y2⟩ := HZ.out _ rfl
  exact ⟨_, rfl, y1, y2⟩
/-- log.First and Force of a log that has no record. -/
theorem firstZ {w : World} {L T D : Nat} {a b c d e : Int} {v : Value} (h : LogAt w L T D a b 1 c d e v) : Calls Tryz.prog 26 #[.pointer (some ⟨L, 0, none⟩)] w fun r w' => r = .returned (.int .i64 1) ∧ w' = w := by
  have k1 := h.l
  have k2 := h.c3
  clear h
  go_enter Tryz.func26, Tryz.ntmps26
  go_wp2
  go_ret
  exact ⟨rfl, rfl⟩
end Go.Proofs.YtcifjpgimekcjaaGreatDoor
