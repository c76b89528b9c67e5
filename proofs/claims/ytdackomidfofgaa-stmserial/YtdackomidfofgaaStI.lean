/-
  Check, Begin, Put.
-/
import Derived.Test.YtdackomidfofgaaStH
import Derived.Deep.RegionHeld2
namespace Go.Proofs.Ytdackomidfofgaa
open Go.RowKit Go.Maps
set_option linter.unusedVariables false
set_option maxRecDepth 100000
set_option maxHeartbeats 2000000

theorem Txc.phase {w : World} {S : Sm} {T : Tm} (hS : Spc w S) (hT : Txc w S T) (p : Int) : Spc (w.setCell ⟨T.t, 4, none⟩ (.int .i64 p)) S ∧ Txc (w.setCell ⟨T.t, 4, none⟩ (.int .i64 p)) S { T with ph := p } ∧ Part (fun b => b = T.t) w (w.setCell ⟨T.t, 4, none⟩ (.int .i64 p)) := by
  obtain ⟨a3, a4, a5, a6, a7⟩ := Txc.apart hS hT
  have hpt : Part (fun b => b = T.t) w (w.setCell ⟨T.t, 4, none⟩ (.int .i64 p)) := (Part.refl (fun b => b = T.t) w).setCell (p := ⟨T.t, 4, none⟩) (fun _ => rfl) _
  have hself := heap_set_at (i := 4) hT.cel (.int .i64 p)
  refine ⟨hS.part hpt ⟨fun e => a5 e.symm, fun e => a3 e.symm, fun e => a4 e.symm⟩ (fun b cs hb _ => ?_), ⟨hself, hT.red.part hpt (fun e => a6 e.symm), hT.wri.part hpt (fun e => a7 e.symm), hT.ne⟩, hpt⟩
  have hb : b = T.t := hb
  rw [hb]
  exact ⟨_, hself⟩
theorem t_check {w : World} {S : Sm} {T : Tm} (hS : Spc w S) (hT : Txc w S T) (hl : T.writes.length ≤ 1099511627776) (hlr : T.reads.length ≤ 1099511627776) (hp0 : T.ph ∈ [(1 : Int), 2]) :
    Calls Try.prog 19 #[.pointer (some ⟨T.t, 0, none⟩)] w fun e w' => (stl S T = true → e = .returned (.int .i64 180) ∧ Hid (Ended w S T 4 w')) ∧ (stl S T = false → e = .returned (.int .i64 0) ∧ Hid (Spc w' S ∧ Txc w' S { T with ph := 2 } ∧ Part (fun b => b = T.t) w w')) := by
  have hB : Below w.heap.size w (w.alloc (.cells #[.int .i64 1, .int .i64 2] 3)) := (Below.refl _ w).alloc (Nat.le_refl _) _
  have HR := t_refuse (hT.below hB) w.heap.size 2 [1, 2] rfl (by decide) (fun j hj => cells_j (ps := [1, 2]) (World.alloc_heap_new w (.cells #[.int .i64 1, .int .i64 2] 3)) j hj)
  have e1 : rf T.ph [1, 2] = 0 := if_pos hp0
  rw [e1] at HR
  have HSt := t_stale (hS.below hB) (hT.below hB) hlr
  have HA : ∀ w2, Below (w.alloc (.cells #[.int .i64 1, .int .i64 2] 3)).heap.size (w.alloc (.cells #[.int .i64 1, .int .i64 2] 3)) w2 → Hid (Spc w2 S ∧ Txc w2 S T ∧ Below w.heap.size w w2) := fun w2 h => ⟨(hS.below hB).below h, (hT.below hB).below h, hB.trans (h.mono hB.size)⟩
  clear hS hT hB e1
  cases hst : stl S T with
  | true =>
    rw [hst] at HSt
    go_enter Try.func19, Try.ntmps19
    go_wp2_with (first | (go_at_call 38; refine HR.mono ?_; rintro e w' ⟨rfl, rfl⟩) | (go_at_call 39; refine HSt.mono ?_; rintro e w2 ⟨rfl, hb2⟩; obtain ⟨hS2, hT2, hB2⟩ := (HA w2 hb2).out; have HC := t_clash hS2 hT2 hl; clear hb2 hS2 hT2) | (go_at_call 37; refine HC.mono ?_; rintro e w3 ⟨rfl, hE⟩))
    go_ret
    exact ⟨fun _ => ⟨rfl, Ended.from hB2 hE.out⟩, fun h => (by cases h)⟩
  | false =>
    rw [hst] at HSt
    go_enter Try.func19, Try.ntmps19
    go_wp2_with (first | (go_at_call 38; refine HR.mono ?_; rintro e w' ⟨rfl, rfl⟩) | (go_at_call 39; refine HSt.mono ?_; rintro e w2 ⟨rfl, hb2⟩; obtain ⟨hS2, hT2, hB2⟩ := (HA w2 hb2).out; have c4 := hT2.c4; have f4 : w2.frozen? ⟨T.t, 4, none⟩ = false := cells_free hT2.cel 4; have HP : Hid (Spc (w2.setCell ⟨T.t, 4, none⟩ (.int .i64 2)) S ∧ Txc (w2.setCell ⟨T.t, 4, none⟩ (.int .i64 2)) S { T with ph := 2 } ∧ Part (fun b => b = T.t) w2 (w2.setCell ⟨T.t, 4, none⟩ (.int .i64 2))) := Txc.phase hS2 hT2 2; clear hb2 hS2 hT2))
    go_ret
    exact ⟨fun h => (by cases h), fun _ => ⟨rfl, HP.out.1, HP.out.2.1, (Part.ofBelow hB2).trans HP.out.2.2 (fun _ _ h => h)⟩⟩

theorem s_begin {w : World} {S : Sm} (hS : Spc w S) : Calls Try.prog 8 #[.pointer (some ⟨S.sp, 0, none⟩)] w fun e w' => ∃ t, e = .returned (.tuple #[.pointer (some ⟨t, 0, none⟩), .int .i64 0]) ∧ Hid (∃ rd wr, Txc w' S ⟨t, rd, wr, S.clock, [], [], 0⟩ ∧ Below w.heap.size w w' ∧ w.heap.size ≤ t ∧ w.heap.size ≤ rd ∧ w.heap.size ≤ wr) := by
  have hmm := @run_makeMap Try.prog
  have HM := s_missing hS
  have c0 := hS.c0
  have c0a := (hS.below ((Below.refl _ w).alloc (Nat.le_refl _) (.map #[] 0))).c0
  have hlt := hS.lts
  have HZ : Hid (Txc (((w.alloc (.map #[] 0)).alloc (.map #[] 0)).alloc (.cells #[.pointer (some ⟨S.sp, 0, none⟩), .int .i64 S.clock, .map (some w.heap.size), .map (some (w.heap.size + 1)), .int .i64 0] 67)) S ⟨w.heap.size + 2, w.heap.size, w.heap.size + 1, S.clock, [], [], 0⟩ ∧ Below w.heap.size w (((w.alloc (.map #[] 0)).alloc (.map #[] 0)).alloc (.cells #[.pointer (some ⟨S.sp, 0, none⟩), .int .i64 S.clock, .map (some w.heap.size), .map (some (w.heap.size + 1)), .int .i64 0] 67))) := by
    refine ⟨⟨?_, ?_, ?_, ⟨?_, ?_, ?_, ?_, ?_⟩⟩, (((Below.refl _ w).alloc (Nat.le_refl _) _).alloc (by simp) _).alloc (by simp; omega) _⟩
    · have := World.alloc_heap_new ((w.alloc (.map #[] 0)).alloc (.map #[] 0)) (.cells #[.pointer (some ⟨S.sp, 0, none⟩), .int .i64 S.clock, .map (some w.heap.size), .map (some (w.heap.size + 1)), .int .i64 0] 67)
      simpa using this
    · have h := Mp.made w
      exact ((h.heap (Below.heap_alloc _ _ _ (by simp))).heap (Below.heap_alloc _ _ _ (by simp; omega)))
    · have h := Mp.made (w.alloc (.map #[] 0))
      rw [World.size_alloc] at h
      exact h.heap (Below.heap_alloc _ _ _ (by simp))
    · show w.heap.size ≠ w.heap.size + 1; omega
    · show w.heap.size ≠ S.sl; omega
    · show w.heap.size ≠ S.lk; omega
    · show w.heap.size + 1 ≠ S.sl; omega
    · show w.heap.size + 1 ≠ S.lk; omega
  clear hS
  go_enter Try.func8, Try.ntmps8
  go_wp2_with (go_at_call 30; refine HM.mono ?_; rintro e w' ⟨rfl, rfl⟩)
  go_ret2
  exact ⟨w'.heap.size + 2, rfl, _, _, HZ.out.1, HZ.out.2, by omega, by omega, by omega⟩
end Go.Proofs.Ytdackomidfofgaa
