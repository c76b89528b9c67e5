/-
  Contract of a disk's Pending over Dk.
-/
import Derived.Test.YtnaobkpncfbnaaaGreatDoorDkSees
namespace Go.Proofs.YtnaobkpncfbnaaaGreatDoor
open Go.RowKit
set_option linter.unusedVariables false

theorem infoSent : (Tryz.prog.info? 119).map (fun i => (i.zero, i.size, i.bytes)) = some (some (.agg #[.int .i64 0, .slice none 0 0]), 2, 32) := by kernel_rfl

/-- The m writes at g: the j-th to sector tf j, of the bytes at (b, j * 128), which are ld's from j * 128 on. -/
structure Snts (w : World) (g m b : Nat) (tf : Nat → Nat) (ld : Nat → Int) : Prop where
  sec : ∀ j, j < m → w.cell? ⟨g, j * 2, none⟩ = some (.int .i64 (tf j : Int))
  row : ∀ j, j < m → w.cell? ⟨g, j * 2 + 1, none⟩ = some (.slice (some ⟨b, j * 128, none⟩) 128 128)
  from_ : ∀ j, j < m → From w (some ⟨b, j * 128, none⟩) 128 (sh ld (j * 128))
theorem Snts.part {w w' : World} {F : Nat → Prop} {g m b : Nat} {tf : Nat → Nat} {ld : Nat → Int} (h : Snts w g m b tf ld) (hp : Part F w w') (hg : ¬ F g) (hb : ¬ F b) : Snts w' g m b tf ld :=
  ⟨fun j hj => hp.cell hg (h.sec j hj), fun j hj => hp.cell hg (h.row j hj), fun j hj => hp.from (h.from_ j hj) hb⟩

set_option maxRecDepth 100000 in
set_option maxHeartbeats 1000000 in
theorem dkPending_some (D n m : Nat) (F : Nat → Prop) (dur : Nat → Int) (tf : Nat → Nat) (ld : Nat → Int) (w : World) (h : Dk w D F n dur m tf ld) (hm0 : 0 < m) (hm : m ≤ 549755813887) :
    Calls Tryz.prog 26 #[.pointer (some ⟨D, 0, none⟩)] w fun e w' => ∃ g b, e = .returned (.slice (some ⟨g, 0, none⟩) m m) ∧ Snts w' g m b tf ld ∧ w.heap.size ≤ g ∧ g < w'.heap.size ∧ w.heap.size ≤ b ∧ b < w'.heap.size ∧ Below w.heap.size w w' := by
  have HD : Hid (Dk w D F n dur m tf ld) := h
  obtain ⟨S, Bd, Bl, cD, cL, vT, vL, h⟩ := h
  obtain ⟨d0, s0, s1, s2, s3, _⟩ := heads h.hD h.hS
  obtain ⟨gT, cT, rfl, hoT, _, hgT, _, _⟩ := ownI_some h.ot hm0
  obtain ⟨gL, cV, rfl, hoL, _, hgL, _, _⟩ := own_some h.oo (show 0 < m * 128 by omega)
  have HZ : Hid (From w (some ⟨gL, 0, none⟩) (m * 128) ld) := .inr ⟨_, rfl, fun j hj => by
    rw [Addr.add_lit, Nat.zero_add]
    exact Own.cellF hoL j hj⟩
  have HT : Hid (∀ j, j < m → w.cell? ⟨gT, j, none⟩ = some (.int .i64 (tf j : Int))) := fun j hj => OwnI.cellF hoT j hj
  obtain ⟨i0, hi0, hz0, hz1, hz2⟩ := info_parts infoSent
  obtain ⟨MS, hMS⟩ : ∃ MS, madeCells #[.int .i64 0, .slice none 0 0] (m * 2) = MS := ⟨_, rfl⟩
  have hms : ∀ w : World, (Instr.makeSlice 61 (.int .i64 (m : Int)) (.int .i64 (m : Int))).run Tryz.prog w = .ok (.slice (some ⟨w.heap.size, 0, none⟩) m m) (w.alloc (.cells MS 119)) := fun w => by
    have := run_make (P := Tryz.prog) w 61 119 i0 _ Tryz.underlying61 hi0 hz0 .i64 .i64 (m : Int) (m : Int) (by omega) (by omega) (by rw [hz2]; omega) (by omega)
    rw [hz1, Int.toNat_natCast] at this
    rw [← hMS]
    exact this
  have HMS : Hid (∀ j, j < m → MS[j * 2]? = some (.int .i64 0) ∧ MS[j * 2 + 1]? = some (.slice none 0 0)) := fun j hj => by
    rw [← hMS]
    constructor
    · simp [madeCells, show j * 2 < m * 2 by omega]
    · simp [madeCells, show j * 2 + 1 < m * 2 by omega, show (j * 2 + 1) % 2 = 1 by omega]
  clear hMS h hoT hoL
  go_enter Tryz.func26, Tryz.ntmps26
  go_wp2_with fail
  refine (dMissing D S w d0).mono ?_
  rintro e w1 ⟨rfl, hw⟩
  obtain rfl : w = w1 := hw.symm
  clear hw
  go_wp2_with fail
  refine (clone (some ⟨gL, 0, none⟩) (m * 128) cV ld w (by omega) HZ.out).mono ?_
  rintro e w1 ⟨v, rfl, ho, hb⟩
  have hs1 := hb.size
  have lD : D < w.heap.size := World.block_lt_of_cell? w _ d0
  have lS : S < w.heap.size := World.block_lt_of_cell? w _ s2
  have d0' : w1.cell? ⟨D, 0, none⟩ = some (.pointer (some ⟨S, 0, none⟩)) := (hb.cell (p := ⟨D, 0, none⟩) lD).trans d0
  have s2' : w1.cell? ⟨S, 2, none⟩ = some (.slice (some ⟨gT, 0, none⟩) m cT) := (hb.cell (p := ⟨S, 2, none⟩) lS).trans s2
  have HT1 : Hid (∀ j, j < m → w1.cell? ⟨gT, j, none⟩ = some (.int .i64 (tf j : Int))) := fun j hj => (hb.cell (p := ⟨gT, j, none⟩) hgT).trans (HT.out j hj)
  obtain ⟨b, c, rfl, ho, hbw, hbl, hc1, hc2'⟩ := own_some ho (show 0 < m * 128 by omega)
  have HO : Hid (Own w1 w.heap.size (.slice (some ⟨b, 0, none⟩) (m * 128) c) (lst ld (m * 128))) := ho
  obtain ⟨o, hO⟩ : ∃ o, Obj.cells MS 119 = o := ⟨_, rfl⟩
  have lD1 : D < w1.heap.size := by omega
  have lS1 : S < w1.heap.size := by omega
  have lT1 : gT < w1.heap.size := by omega
  have nD1 : D ≠ w1.heap.size := by omega
  have nS1 : S ≠ w1.heap.size := by omega
  have HC : Hid (∀ j, j < m → (w1.alloc o).cell? ⟨w1.heap.size, j * 2, none⟩ = some (if j < 0 then .int .i64 (tf j : Int) else .int .i64 0) ∧ (w1.alloc o).cell? ⟨w1.heap.size, j * 2 + 1, none⟩ = some (if j < 0 then .slice (some ⟨b, j * 128, none⟩) 128 128 else .slice none 0 0)) := fun j hj => by
    rw [if_neg (by omega), if_neg (by omega), ← hO]
    exact ⟨by rw [World.cell?_alloc_at _ _ _ _ rfl]; exact (HMS.out j hj).1, by rw [World.cell?_alloc_at _ _ _ _ rfl]; exact (HMS.out j hj).2⟩
  have HFz : Hid (∀ wr : World, Only w1.heap.size (w1.alloc o) wr → ∀ (k : Nat) (cs : Array Value), True) := fun _ _ _ _ => trivial
  have HZ0 : Hid (∀ i, (w1.alloc o).frozen? ⟨w1.heap.size, i, none⟩ = false) := fun i => by rw [← hO]; simp only [World.frozen?_alloc_new]
  have HEnd : Hid (∀ wr : World, Only w1.heap.size (w1.alloc o) wr → (∀ j, j < m → wr.cell? ⟨w1.heap.size, j * 2, none⟩ = some (if j < m then .int .i64 (tf j : Int) else .int .i64 0) ∧ wr.cell? ⟨w1.heap.size, j * 2 + 1, none⟩ = some (if j < m then .slice (some ⟨b, j * 128, none⟩) 128 128 else .slice none 0 0)) →
      Snts wr w1.heap.size m b tf ld ∧ w1.heap.size < wr.heap.size ∧ b < wr.heap.size ∧ Below w.heap.size w wr) := fun wr hon hcs => by
    have hsz : wr.heap.size = w1.heap.size + 1 := by rw [hon.size]; simp
    refine ⟨⟨fun i hi => ?_, fun i hi => ?_, fun i hi => .inr ⟨_, rfl, fun j hj => ?_⟩⟩, by omega, by omega, ?_⟩
    · rw [(hcs i hi).1, if_pos hi]
    · rw [(hcs i hi).2, if_pos hi]
    · rw [Addr.add_lit, hon.cell (p := ⟨b, i * 128 + j, none⟩) (by show b ≠ w1.heap.size; omega), World.cell?_alloc_past _ _ _ hbl]
      exact HO.out.cellF (i * 128 + j) (by omega)
    · exact (hb.alloc hs1 o).trans (hon.below hs1)
  have HTr : Hid (∀ wr : World, Only w1.heap.size (w1.alloc o) wr → ∀ j, j < m → wr.cell? ⟨gT, j, none⟩ = some (.int .i64 (tf j : Int))) := fun wr hon j hj => by
    rw [hon.cell (p := ⟨gT, j, none⟩) (by show gT ≠ w1.heap.size; omega), World.cell?_alloc_past _ _ _ lT1]
    exact HT1.out j hj
  clear ho d0 s0 s1 s2 s3 HT HFz
  go_wp2
  try rw [hO]
  go_loopw [37] (fun i wr => ∃ k : Nat, k ≤ m ∧ i = .int .i64 (k : Int) ∧ Only w1.heap.size (w1.alloc o) wr ∧ (∀ i, wr.frozen? ⟨w1.heap.size, i, none⟩ = false) ∧ (∀ j, j < m → wr.cell? ⟨w1.heap.size, j * 2, none⟩ = some (if j < k then .int .i64 (tf j : Int) else .int .i64 0) ∧ wr.cell? ⟨w1.heap.size, j * 2 + 1, none⟩ = some (if j < k then .slice (some ⟨b, j * 128, none⟩) 128 128 else .slice none 0 0))) (fun i _ => m - (intOf i).toNat)
  case atStart => exact ⟨0, Nat.zero_le _, rfl, Only.refl _ _, HZ0.out, HC.out⟩
  case round =>
    obtain ⟨k, hk, rfl, hon, hfr, hcs⟩ := hrel
    by_cases hlt : k < m
    · have hlt' : (k : Int) < (m : Int) := by omega
      have hk0 : (0 : Int) ≤ (k : Int) := by omega
      have hc1 := (hcs k hlt).1
      rw [if_neg (by omega)] at hc1
      have hc2 := (hcs k hlt).2
      rw [if_neg (by omega)] at hc2
      have hf1 := hfr (k * 2)
      have hf2 := hfr (k * 2 + 1)
      have ht := HTr.out wr hon k hlt
      have HX : Hid (Only w1.heap.size (w1.alloc o) wr ∧ (∀ i, wr.frozen? ⟨w1.heap.size, i, none⟩ = false) ∧ (∀ j, j < m → wr.cell? ⟨w1.heap.size, j * 2, none⟩ = some (if j < k then .int .i64 (tf j : Int) else .int .i64 0) ∧ wr.cell? ⟨w1.heap.size, j * 2 + 1, none⟩ = some (if j < k then .slice (some ⟨b, j * 128, none⟩) 128 128 else .slice none 0 0))) := ⟨hon, hfr, hcs⟩
      have HN : Hid (Only w1.heap.size (w1.alloc o) ((wr.setCell ⟨w1.heap.size, k * 2, none⟩ (.int .i64 (tf k : Int))).setCell ⟨w1.heap.size, k * 2 + 1, none⟩ (.slice (some ⟨b, k * 128, none⟩) 128 128)) ∧
          (∀ i, ((wr.setCell ⟨w1.heap.size, k * 2, none⟩ (.int .i64 (tf k : Int))).setCell ⟨w1.heap.size, k * 2 + 1, none⟩ (.slice (some ⟨b, k * 128, none⟩) 128 128)).frozen? ⟨w1.heap.size, i, none⟩ = false) ∧
          (∀ j, j < m → ((wr.setCell ⟨w1.heap.size, k * 2, none⟩ (.int .i64 (tf k : Int))).setCell ⟨w1.heap.size, k * 2 + 1, none⟩ (.slice (some ⟨b, k * 128, none⟩) 128 128)).cell? ⟨w1.heap.size, j * 2, none⟩ = some (if j < k + 1 then .int .i64 (tf j : Int) else .int .i64 0) ∧
            ((wr.setCell ⟨w1.heap.size, k * 2, none⟩ (.int .i64 (tf k : Int))).setCell ⟨w1.heap.size, k * 2 + 1, none⟩ (.slice (some ⟨b, k * 128, none⟩) 128 128)).cell? ⟨w1.heap.size, j * 2 + 1, none⟩ = some (if j < k + 1 then .slice (some ⟨b, j * 128, none⟩) 128 128 else .slice none 0 0))) := by
        refine ⟨(hon.setCell (p := ⟨w1.heap.size, k * 2, none⟩) rfl _).setCell (p := ⟨w1.heap.size, k * 2 + 1, none⟩) rfl _, fun i => by rw [World.frozen?_setCell, World.frozen?_setCell]; exact hfr i, fun j hj => ⟨?_, ?_⟩⟩
        · rw [World.cell?_setCell_other _ _ _ _ (fun e2 => by have : k * 2 + 1 = j * 2 := congrArg Addr.off e2; omega)]
          by_cases e : j = k
          · subst e
            rw [World.cell?_setCell_same _ _ _ (hcs j hj).1, if_pos (by omega)]
          · rw [World.cell?_setCell_other _ _ _ _ (fun e2 => by have : k * 2 = j * 2 := congrArg Addr.off e2; omega), (hcs j hj).1]
            by_cases e2 : j < k
            · rw [if_pos e2, if_pos (by omega)]
            · rw [if_neg e2, if_neg (by omega)]
        · by_cases e : j = k
          · subst e
            rw [World.cell?_setCell_same (u := .slice none 0 0) _ _ _ (by rw [World.cell?_setCell_other _ _ _ _ (fun e2 => by have : j * 2 = j * 2 + 1 := congrArg Addr.off e2; omega)]; exact hc2), if_pos (by omega)]
          · rw [World.cell?_setCell_other _ _ _ _ (fun e2 => by have : k * 2 + 1 = j * 2 + 1 := congrArg Addr.off e2; omega), World.cell?_setCell_other _ _ _ _ (fun e2 => by have : k * 2 = j * 2 + 1 := congrArg Addr.off e2; omega), (hcs j hj).2]
            by_cases e2 : j < k
            · rw [if_pos e2, if_pos (by omega)]
            · rw [if_neg e2, if_neg (by omega)]
      clear hcs hon hfr HX
      go_wp2_with fail
      refine (cut_at b (m * 128) c k (by omega) hc2' wr).mono ?_
      rintro e w2 ⟨rfl, hw⟩
      obtain rfl : wr = w2 := hw.symm
      clear hw
      go_wp2
      go_roundw
      case rel => exact ⟨k + 1, by omega, by go_num, HN.out⟩
      case measure => simp [intOf]; omega
    · obtain rfl : k = m := by omega
      obtain ⟨p1, p2, p3, p4⟩ := HEnd.out wr hon hcs
      go_wp2
      go_ret
      exact ⟨_, b, rfl, p1, hs1, p2, hbw, p3, p4⟩

set_option maxRecDepth 100000 in
set_option maxHeartbeats 1000000 in
theorem dkPending_none (D n : Nat) (F : Nat → Prop) (dur : Nat → Int) (tf : Nat → Nat) (ld : Nat → Int) (w : World) (h : Dk w D F n dur 0 tf ld) :
    Calls Tryz.prog 26 #[.pointer (some ⟨D, 0, none⟩)] w fun e w' => ∃ g, e = .returned (.slice (some ⟨g, 0, none⟩) 0 0) ∧ w.heap.size ≤ g ∧ g < w'.heap.size ∧ Below w.heap.size w w' := by
  have HD : Hid (Dk w D F n dur 0 tf ld) := h
  obtain ⟨S, Bd, Bl, cD, cL, vT, vL, h⟩ := h
  obtain ⟨d0, s0, s1, s2, s3, _⟩ := heads h.hD h.hS
  obtain ⟨aT, cT, rfl⟩ := ownI_any h.ot
  obtain ⟨aL, cV, rfl, hfL, hcL⟩ := own_any h.oo
  have HZ : Hid (From w aL (0 * 128) ld) := hfL
  obtain ⟨i0, hi0, hz0, hz1, hz2⟩ := info_parts infoSent
  have hms : ∀ w : World, (Instr.makeSlice 61 (.int .i64 0) (.int .i64 0)).run Tryz.prog w = .ok (.slice (some ⟨w.heap.size, 0, none⟩) 0 0) (w.alloc (.cells #[] 119)) := fun w => by
    have := run_make (P := Tryz.prog) w 61 119 i0 _ Tryz.underlying61 hi0 hz0 .i64 .i64 0 0 (by omega) (by omega) (by omega) (by omega)
    rw [hz1] at this
    simp only [Int.toNat_zero, Nat.zero_mul] at this
    rw [show ∀ z, madeCells z 0 = #[] from fun z => by simp [madeCells]] at this
    exact this
  clear h hfL
  go_enter Tryz.func26, Tryz.ntmps26
  go_wp2_with fail
  refine (dMissing D S w d0).mono ?_
  rintro e w1 ⟨rfl, hw⟩
  obtain rfl : w = w1 := hw.symm
  clear hw
  go_wp2_with fail
  refine (clone aL (0 * 128) cV ld w (by omega) HZ.out).mono ?_
  rintro e w1 ⟨v, rfl, ho, hb⟩
  have hs1 := hb.size
  have lD : D < w.heap.size := World.block_lt_of_cell? w _ d0
  have lS : S < w.heap.size := World.block_lt_of_cell? w _ s2
  have d0' : w1.cell? ⟨D, 0, none⟩ = some (.pointer (some ⟨S, 0, none⟩)) := (hb.cell (p := ⟨D, 0, none⟩) lD).trans d0
  have s2' : w1.cell? ⟨S, 2, none⟩ = some (.slice aT 0 cT) := (hb.cell (p := ⟨S, 2, none⟩) lS).trans s2
  have lD1 : D < w1.heap.size := by omega
  have lS1 : S < w1.heap.size := by omega
  have nD1 : D ≠ w1.heap.size := by omega
  have nS1 : S ≠ w1.heap.size := by omega
  obtain ⟨av, cv, rfl, _, _⟩ := own_any ho
  clear ho d0 s0 s1 s2 s3
  go_wp2
  refine wp_loop_rounds 1 ?_
  rw [rounds_succ]
  go_wp2
  go_ret
  exact ⟨_, rfl, hs1, by simp, hb.alloc hs1 _⟩

/-- Pending: the writes that are not durable; of none of them nothing more is told than that. -/
theorem dkPending (D n m : Nat) (F : Nat → Prop) (dur : Nat → Int) (tf : Nat → Nat) (ld : Nat → Int) (w : World) (h : Dk w D F n dur m tf ld) (hm : m ≤ 549755813887) :
    Calls Tryz.prog 26 #[.pointer (some ⟨D, 0, none⟩)] w fun e w' => ∃ g b, e = .returned (.slice (some ⟨g, 0, none⟩) m m) ∧ Snts w' g m b tf ld ∧ w.heap.size ≤ g ∧ g < w'.heap.size ∧ w.heap.size ≤ b ∧ b < w'.heap.size ∧ Below w.heap.size w w' := by
  by_cases h0 : m = 0
  · subst h0
    refine (dkPending_none D n F dur tf ld w h).mono fun e w' ⟨g, h1, h2, h3, h4⟩ => ⟨g, g, h1, ⟨fun j hj => by omega, fun j hj => by omega, fun j hj => by omega⟩, h2, h3, h2, h3, h4⟩
  · exact dkPending_some D n m F dur tf ld w h (by omega) hm
end Go.Proofs.YtnaobkpncfbnaaaGreatDoor
