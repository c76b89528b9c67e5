/-
  Contract of a disk's Pending over Dk.
  The document's disk as it stands in memory (Rk): its durable sectors, and the writes that are pending; contracts of copied.
  Contract of the document's Write over Rk.
  Contracts of the document's Flush and Crash over Rk.
  Contract of the document's Crash over Rk.
  Contract of the document's Read over Rk.
  Contract of the document's Image over Rk.
-/
import Derived.Test.YtmjoklppibfdmaaDoorDkSees
import Derived.Deep.DeepCutAuto
import Derived.StillTailTactics
import Derived.Test.YtmjoklppibfdmaaDoorGd
namespace Go.Proofs.YtmjoklppibfdmaaDoor
open Go.RowKit
set_option linter.unusedVariables false

theorem infoSent : (Tryd.prog.info? 135).map (fun i => (i.zero, i.size, i.bytes)) = some (some (.agg #[.int .i64 0, .slice none 0 0]), 2, 32) := by kernel_rfl

/-- The m writes at g: the j-th to sector tf j, of the bytes at (b, j * 128), which are ld's from j * 128 on. -/
structure Snts (w : World) (g m b : Nat) (tf : Nat → Nat) (ld : Nat → Int) : Prop where
  sec : ∀ j, j < m → w.cell? ⟨g, j * 2, none⟩ = some (.int .i64 (tf j : Int))
  row : ∀ j, j < m → w.cell? ⟨g, j * 2 + 1, none⟩ = some (.slice (some ⟨b, j * 128, none⟩) 128 128)
  from_ : ∀ j, j < m → From w (some ⟨b, j * 128, none⟩) 128 (sh ld (j * 128))
theorem Snts.part {w w' : World} {F : Nat → Prop} {g m b : Nat} {tf : Nat → Nat} {ld : Nat → Int} (h : Snts w g m b tf ld) (hp : Part F w w') (hg : ¬ F g) (hb : ¬ F b) : Snts w' g m b tf ld :=
  ⟨fun j hj => hp.cell hg (h.sec j hj), fun j hj => hp.cell hg (h.row j hj), fun j hj => hp.from (h.from_ j hj) hb⟩

set_option maxRecDepth 100000 in
set_option maxHeartbeats 1000000 in
theorem dkPending_some (D n m : Nat) (F : Nat → Prop) (dur : Nat → Int) (tf : Nat → Nat) (ld : Nat → Int) (w : World) (h : Dk w D F n dur m tf ld) (hm0 : 0 < m) (hm : m ≤ 549755813887) :
    Calls Tryd.prog 72 #[.pointer (some ⟨D, 0, none⟩)] w fun e w' => ∃ g b, e = .returned (.slice (some ⟨g, 0, none⟩) m m) ∧ Snts w' g m b tf ld ∧ w.heap.size ≤ g ∧ g < w'.heap.size ∧ w.heap.size ≤ b ∧ b < w'.heap.size ∧ Below w.heap.size w w' := by
  have HD : Hid (Dk w D F n dur m tf ld) := h
  obtain ⟨S, Bd, Bl, cD, cL, vT, vL, h⟩ := h
  obtain ⟨d0, s0, s1, s2, s3, _⟩ := heads h.hD h.hS
  obtain ⟨gT, cT, rfl, hoT, _, hgT, _, _⟩ := ownI_some h.ot hm0
  obtain ⟨gL, cV, rfl, hoL, _, hgL, _, _⟩ := own_some h.oo (show 0 < m * 128 by omega)
  have HZ : Hid (From w (some ⟨gL, 0, none⟩) (m * 128) ld) := .inr ⟨_, rfl, fun j hj => by
    rw [Addr.add_lit, Nat.zero_add]
    exact Own.cellF hoL j hj⟩
  have HT : Hid (∀ j, j < m → w.cell? ⟨gT, j, none⟩ = some (.int .i64 (tf j : Int))) := fun j hj => OwnI.cellF hoT j hj
  obtain ⟨i0, hi0, hz0, hz1, hz2⟩ := info_parts infoSent
  obtain ⟨MS, hMS⟩ : ∃ MS, madeCells #[.int .i64 0, .slice none 0 0] (m * 2) = MS := ⟨_, rfl⟩
  have hms : ∀ w : World, (Instr.makeSlice 104 (.int .i64 (m : Int)) (.int .i64 (m : Int))).run Tryd.prog w = .ok (.slice (some ⟨w.heap.size, 0, none⟩) m m) (w.alloc (.cells MS 135)) := fun w => by
    have := run_make (P := Tryd.prog) w 104 135 i0 _ Tryd.underlying104 hi0 hz0 .i64 .i64 (m : Int) (m : Int) (by omega) (by omega) (by rw [hz2]; omega) (by omega)
    rw [hz1, Int.toNat_natCast] at this
    rw [← hMS]
    exact this
  have HMS : Hid (∀ j, j < m → MS[j * 2]? = some (.int .i64 0) ∧ MS[j * 2 + 1]? = some (.slice none 0 0)) := fun j hj => by
    rw [← hMS]
    constructor
    · simp [madeCells, show j * 2 < m * 2 by omega]
    · simp [madeCells, show j * 2 + 1 < m * 2 by omega, show (j * 2 + 1) % 2 = 1 by omega]
  clear hMS h hoT hoL
  go_enter Tryd.func72, Tryd.ntmps72
  go_wp2_with fail
  refine (dMissing D S w d0).mono ?_
  rintro e w1 ⟨rfl, hw⟩
  obtain rfl : w = w1 := hw.symm
  clear hw
  go_wp2_with fail
  refine (clone (some ⟨gL, 0, none⟩) (m * 128) cV ld w (by omega) HZ.out).mono ?_
  rintro e w1 ⟨v, rfl, ho, hb⟩
  have hs1 := hb.size
  have lD : D < w.heap.size := World.block_lt_of_cell? w _ d0
  have lS : S < w.heap.size := World.block_lt_of_cell? w _ s2
  have d0' : w1.cell? ⟨D, 0, none⟩ = some (.pointer (some ⟨S, 0, none⟩)) := (hb.cell (p := ⟨D, 0, none⟩) lD).trans d0
  have s2' : w1.cell? ⟨S, 2, none⟩ = some (.slice (some ⟨gT, 0, none⟩) m cT) := (hb.cell (p := ⟨S, 2, none⟩) lS).trans s2
  have HT1 : Hid (∀ j, j < m → w1.cell? ⟨gT, j, none⟩ = some (.int .i64 (tf j : Int))) := fun j hj => (hb.cell (p := ⟨gT, j, none⟩) hgT).trans (HT.out j hj)
  obtain ⟨b, c, rfl, ho, hbw, hbl, hc1, hc2'⟩ := own_some ho (show 0 < m * 128 by omega)
  have HO : Hid (Own w1 w.heap.size (.slice (some ⟨b, 0, none⟩) (m * 128) c) (lst ld (m * 128))) := ho
  obtain ⟨o, hO⟩ : ∃ o, Obj.cells MS 135 = o := ⟨_, rfl⟩
  have lD1 : D < w1.heap.size := by omega
  have lS1 : S < w1.heap.size := by omega
  have lT1 : gT < w1.heap.size := by omega
  have nD1 : D ≠ w1.heap.size := by omega
  have nS1 : S ≠ w1.heap.size := by omega
  have HC : Hid (∀ j, j < m → (w1.alloc o).cell? ⟨w1.heap.size, j * 2, none⟩ = some (if j < 0 then .int .i64 (tf j : Int) else .int .i64 0) ∧ (w1.alloc o).cell? ⟨w1.heap.size, j * 2 + 1, none⟩ = some (if j < 0 then .slice (some ⟨b, j * 128, none⟩) 128 128 else .slice none 0 0)) := fun j hj => by
    rw [if_neg (by omega), if_neg (by omega), ← hO]
    exact ⟨by rw [World.cell?_alloc_at _ _ _ _ rfl]; exact (HMS.out j hj).1, by rw [World.cell?_alloc_at _ _ _ _ rfl]; exact (HMS.out j hj).2⟩
  have HFz : Hid (∀ wr : World, Only w1.heap.size (w1.alloc o) wr → ∀ (k : Nat) (cs : Array Value), True) := fun _ _ _ _ => trivial
  have HZ0 : Hid (∀ i, (w1.alloc o).frozen? ⟨w1.heap.size, i, none⟩ = false) := fun i => by rw [← hO]; simp only [World.frozen?_alloc_new]
  have HEnd : Hid (∀ wr : World, Only w1.heap.size (w1.alloc o) wr → (∀ j, j < m → wr.cell? ⟨w1.heap.size, j * 2, none⟩ = some (if j < m then .int .i64 (tf j : Int) else .int .i64 0) ∧ wr.cell? ⟨w1.heap.size, j * 2 + 1, none⟩ = some (if j < m then .slice (some ⟨b, j * 128, none⟩) 128 128 else .slice none 0 0)) →
      Snts wr w1.heap.size m b tf ld ∧ w1.heap.size < wr.heap.size ∧ b < wr.heap.size ∧ Below w.heap.size w wr) := fun wr hon hcs => by
    have hsz : wr.heap.size = w1.heap.size + 1 := by rw [hon.size]; simp
    refine ⟨⟨fun i hi => ?_, fun i hi => ?_, fun i hi => .inr ⟨_, rfl, fun j hj => ?_⟩⟩, by omega, by omega, ?_⟩
    · rw [(hcs i hi).1, if_pos hi]
    · rw [(hcs i hi).2, if_pos hi]
    · rw [Addr.add_lit, hon.cell (p := ⟨b, i * 128 + j, none⟩) (by show b ≠ w1.heap.size; omega), World.cell?_alloc_past _ _ _ hbl]
      exact HO.out.cellF (i * 128 + j) (by omega)
    · exact (hb.alloc hs1 o).trans (hon.below hs1)
  have HTr : Hid (∀ wr : World, Only w1.heap.size (w1.alloc o) wr → ∀ j, j < m → wr.cell? ⟨gT, j, none⟩ = some (.int .i64 (tf j : Int))) := fun wr hon j hj => by
    rw [hon.cell (p := ⟨gT, j, none⟩) (by show gT ≠ w1.heap.size; omega), World.cell?_alloc_past _ _ _ lT1]
    exact HT1.out j hj
  clear ho d0 s0 s1 s2 s3 HT HFz
  go_wp2
  try rw [hO]
  go_loopw [37] (fun i wr => ∃ k : Nat, k ≤ m ∧ i = .int .i64 (k : Int) ∧ Only w1.heap.size (w1.alloc o) wr ∧ (∀ i, wr.frozen? ⟨w1.heap.size, i, none⟩ = false) ∧ (∀ j, j < m → wr.cell? ⟨w1.heap.size, j * 2, none⟩ = some (if j < k then .int .i64 (tf j : Int) else .int .i64 0) ∧ wr.cell? ⟨w1.heap.size, j * 2 + 1, none⟩ = some (if j < k then .slice (some ⟨b, j * 128, none⟩) 128 128 else .slice none 0 0))) (fun i _ => m - (intOf i).toNat)
  case atStart => exact ⟨0, Nat.zero_le _, rfl, Only.refl _ _, HZ0.out, HC.out⟩
  case round =>
    obtain ⟨k, hk, rfl, hon, hfr, hcs⟩ := hrel
    by_cases hlt : k < m
    · have hlt' : (k : Int) < (m : Int) := by omega
      have hk0 : (0 : Int) ≤ (k : Int) := by omega
      have hc1 := (hcs k hlt).1
      rw [if_neg (by omega)] at hc1
      have hc2 := (hcs k hlt).2
      rw [if_neg (by omega)] at hc2
      have hf1 := hfr (k * 2)
      have hf2 := hfr (k * 2 + 1)
      have ht := HTr.out wr hon k hlt
      have HX : Hid (Only w1.heap.size (w1.alloc o) wr ∧ (∀ i, wr.frozen? ⟨w1.heap.size, i, none⟩ = false) ∧ (∀ j, j < m → wr.cell? ⟨w1.heap.size, j * 2, none⟩ = some (if j < k then .int .i64 (tf j : Int) else .int .i64 0) ∧ wr.cell? ⟨w1.heap.size, j * 2 + 1, none⟩ = some (if j < k then .slice (some ⟨b, j * 128, none⟩) 128 128 else .slice none 0 0))) := ⟨hon, hfr, hcs⟩
      have HN : Hid (Only w1.heap.size (w1.alloc o) ((wr.setCell ⟨w1.heap.size, k * 2, none⟩ (.int .i64 (tf k : Int))).setCell ⟨w1.heap.size, k * 2 + 1, none⟩ (.slice (some ⟨b, k * 128, none⟩) 128 128)) ∧
          (∀ i, ((wr.setCell ⟨w1.heap.size, k * 2, none⟩ (.int .i64 (tf k : Int))).setCell ⟨w1.heap.size, k * 2 + 1, none⟩ (.slice (some ⟨b, k * 128, none⟩) 128 128)).frozen? ⟨w1.heap.size, i, none⟩ = false) ∧
          (∀ j, j < m → ((wr.setCell ⟨w1.heap.size, k * 2, none⟩ (.int .i64 (tf k : Int))).setCell ⟨w1.heap.size, k * 2 + 1, none⟩ (.slice (some ⟨b, k * 128, none⟩) 128 128)).cell? ⟨w1.heap.size, j * 2, none⟩ = some (if j < k + 1 then .int .i64 (tf j : Int) else .int .i64 0) ∧
            ((wr.setCell ⟨w1.heap.size, k * 2, none⟩ (.int .i64 (tf k : Int))).setCell ⟨w1.heap.size, k * 2 + 1, none⟩ (.slice (some ⟨b, k * 128, none⟩) 128 128)).cell? ⟨w1.heap.size, j * 2 + 1, none⟩ = some (if j < k + 1 then .slice (some ⟨b, j * 128, none⟩) 128 128 else .slice none 0 0))) := by
        refine ⟨(hon.setCell (p := ⟨w1.heap.size, k * 2, none⟩) rfl _).setCell (p := ⟨w1.heap.size, k * 2 + 1, none⟩) rfl _, fun i => by rw [World.frozen?_setCell, World.frozen?_setCell]; exact hfr i, fun j hj => ⟨?_, ?_⟩⟩
        · rw [World.cell?_setCell_other _ _ _ _ (fun e2 => by have : k * 2 + 1 = j * 2 := congrArg Addr.off e2; omega)]
          by_cases e : j = k
          · subst e
            rw [World.cell?_setCell_same _ _ _ (hcs j hj).1, if_pos (by omega)]
          · rw [World.cell?_setCell_other _ _ _ _ (fun e2 => by have : k * 2 = j * 2 := congrArg Addr.off e2; omega), (hcs j hj).1]
            by_cases e2 : j < k
            · rw [if_pos e2, if_pos (by omega)]
            · rw [if_neg e2, if_neg (by omega)]
        · by_cases e : j = k
          · subst e
            rw [World.cell?_setCell_same (u := .slice none 0 0) _ _ _ (by rw [World.cell?_setCell_other _ _ _ _ (fun e2 => by have : j * 2 = j * 2 + 1 := congrArg Addr.off e2; omega)]; exact hc2), if_pos (by omega)]
          · rw [World.cell?_setCell_other _ _ _ _ (fun e2 => by have : k * 2 + 1 = j * 2 + 1 := congrArg Addr.off e2; omega), World.cell?_setCell_other _ _ _ _ (fun e2 => by have : k * 2 = j * 2 + 1 := congrArg Addr.off e2; omega), (hcs j hj).2]
            by_cases e2 : j < k
            · rw [if_pos e2, if_pos (by omega)]
            · rw [if_neg e2, if_neg (by omega)]
      clear hcs hon hfr HX
      go_wp2_with fail
      refine (cut_at b (m * 128) c k (by omega) hc2' wr).mono ?_
      rintro e w2 ⟨rfl, hw⟩
      obtain rfl : wr = w2 := hw.symm
      clear hw
      go_wp2
      go_roundw
      case rel => exact ⟨k + 1, by omega, by go_num, HN.out⟩
      case measure => simp [intOf]; omega
    · obtain rfl : k = m := by omega
      obtain ⟨p1, p2, p3, p4⟩ := HEnd.out wr hon hcs
      go_wp2
      go_ret
      exact ⟨_, b, rfl, p1, hs1, p2, hbw, p3, p4⟩

set_option maxRecDepth 100000 in
set_option maxHeartbeats 1000000 in
theorem dkPending_none (D n : Nat) (F : Nat → Prop) (dur : Nat → Int) (tf : Nat → Nat) (ld : Nat → Int) (w : World) (h : Dk w D F n dur 0 tf ld) :
    Calls Tryd.prog 72 #[.pointer (some ⟨D, 0, none⟩)] w fun e w' => ∃ g, e = .returned (.slice (some ⟨g, 0, none⟩) 0 0) ∧ w.heap.size ≤ g ∧ g < w'.heap.size ∧ Below w.heap.size w w' := by
  have HD : Hid (Dk w D F n dur 0 tf ld) := h
  obtain ⟨S, Bd, Bl, cD, cL, vT, vL, h⟩ := h
  obtain ⟨d0, s0, s1, s2, s3, _⟩ := heads h.hD h.hS
  obtain ⟨aT, cT, rfl⟩ := ownI_any h.ot
  obtain ⟨aL, cV, rfl, hfL, hcL⟩ := own_any h.oo
  have HZ : Hid (From w aL (0 * 128) ld) := hfL
  obtain ⟨i0, hi0, hz0, hz1, hz2⟩ := info_parts infoSent
  have hms : ∀ w : World, (Instr.makeSlice 104 (.int .i64 0) (.int .i64 0)).run Tryd.prog w = .ok (.slice (some ⟨w.heap.size, 0, none⟩) 0 0) (w.alloc (.cells #[] 135)) := fun w => by
    have := run_make (P := Tryd.prog) w 104 135 i0 _ Tryd.underlying104 hi0 hz0 .i64 .i64 0 0 (by omega) (by omega) (by omega) (by omega)
    rw [hz1] at this
    simp only [Int.toNat_zero, Nat.zero_mul] at this
    rw [show ∀ z, madeCells z 0 = #[] from fun z => by simp [madeCells]] at this
    exact this
  clear h hfL
  go_enter Tryd.func72, Tryd.ntmps72
  go_wp2_with fail
  refine (dMissing D S w d0).mono ?_
  rintro e w1 ⟨rfl, hw⟩
  obtain rfl : w = w1 := hw.symm
  clear hw
  go_wp2_with fail
  refine (clone aL (0 * 128) cV ld w (by omega) HZ.out).mono ?_
  rintro e w1 ⟨v, rfl, ho, hb⟩
  have hs1 := hb.size
  have lD : D < w.heap.size := World.block_lt_of_cell? w _ d0
  have lS : S < w.heap.size := World.block_lt_of_cell? w _ s2
  have d0' : w1.cell? ⟨D, 0, none⟩ = some (.pointer (some ⟨S, 0, none⟩)) := (hb.cell (p := ⟨D, 0, none⟩) lD).trans d0
  have s2' : w1.cell? ⟨S, 2, none⟩ = some (.slice aT 0 cT) := (hb.cell (p := ⟨S, 2, none⟩) lS).trans s2
  have lD1 : D < w1.heap.size := by omega
  have lS1 : S < w1.heap.size := by omega
  have nD1 : D ≠ w1.heap.size := by omega
  have nS1 : S ≠ w1.heap.size := by omega
  obtain ⟨av, cv, rfl, _, _⟩ := own_any ho
  clear ho d0 s0 s1 s2 s3
  go_wp2
  refine wp_loop_rounds 1 ?_
  rw [rounds_succ]
  go_wp2
  go_ret
  exact ⟨_, rfl, hs1, by simp, hb.alloc hs1 _⟩

/-- Pending: the writes that are not durable; of none of them nothing more is told than that. -/
theorem dkPending (D n m : Nat) (F : Nat → Prop) (dur : Nat → Int) (tf : Nat → Nat) (ld : Nat → Int) (w : World) (h : Dk w D F n dur m tf ld) (hm : m ≤ 549755813887) :
    Calls Tryd.prog 72 #[.pointer (some ⟨D, 0, none⟩)] w fun e w' => ∃ g b, e = .returned (.slice (some ⟨g, 0, none⟩) m m) ∧ Snts w' g m b tf ld ∧ w.heap.size ≤ g ∧ g < w'.heap.size ∧ w.heap.size ≤ b ∧ b < w'.heap.size ∧ Below w.heap.size w w' := by
  by_cases h0 : m = 0
  · subst h0
    refine (dkPending_none D n F dur tf ld w h).mono fun e w' ⟨g, h1, h2, h3, h4⟩ => ⟨g, g, h1, ⟨fun j hj => by omega, fun j hj => by omega, fun j hj => by omega⟩, h2, h3, h2, h3, h4⟩
  · exact dkPending_some D n m F dur tf ld w h (by omega) hm
end Go.Proofs.YtmjoklppibfdmaaDoor

namespace Go.Proofs.YtmjoklppibfdmaaDoor
open Go.RowKit
set_option linter.unusedVariables false

/-- The cells of m writes: the j-th to sector tf j, of the bytes at (pb j, 0). -/
def sentL (m : Nat) (tf pb pc : Nat → Nat) : List Value := (List.range m).flatMap fun j => [.int .i64 (tf j : Int), .slice (some ⟨pb j, 0, none⟩) 128 (pc j)]
theorem sentL_length (m : Nat) (tf pb pc : Nat → Nat) : (sentL m tf pb pc).length = m * 2 := by
  induction m with
  | zero => rfl
  | succ m ih =>
    unfold sentL at ih ⊢
    rw [List.range_succ, List.flatMap_append, List.length_append, ih]
    simp
    omega
theorem sentL_snoc (m : Nat) (tf pb pc : Nat → Nat) (i b c : Nat) : sentL m tf pb pc ++ [.int .i64 (i : Int), .slice (some ⟨b, 0, none⟩) 128 c] = sentL (m + 1) (fun j => if j = m then i else tf j) (fun j => if j = m then b else pb j) (fun j => if j = m then c else pc j) := by
  unfold sentL
  rw [List.range_succ, List.flatMap_append]
  congr 1
  · rw [List.flatMap_def, List.flatMap_def]
    congr 1
    apply List.map_congr_left
    intro j hj
    have := List.mem_range.1 hj
    have e : j ≠ m := by omega
    simp only [if_neg e]
  · simp
theorem sentL_get (m : Nat) (tf pb pc : Nat → Nat) (j : Nat) (hj : j < m) : (sentL m tf pb pc)[j * 2]? = some (.int .i64 (tf j : Int)) ∧ (sentL m tf pb pc)[j * 2 + 1]? = some (.slice (some ⟨pb j, 0, none⟩) 128 (pc j)) := by
  induction m with
  | zero => omega
  | succ m ih =>
    have e : sentL (m + 1) tf pb pc = sentL m tf pb pc ++ [.int .i64 (tf m : Int), .slice (some ⟨pb m, 0, none⟩) 128 (pc m)] := by
      unfold sentL
      rw [List.range_succ, List.flatMap_append]
      simp
    rw [e]
    have hl := sentL_length m tf pb pc
    by_cases h : j < m
    · rw [List.getElem?_append_left (by omega), List.getElem?_append_left (by omega)]
      exact ih h
    · obtain rfl : j = m := by omega
      rw [List.getElem?_append_right (by omega), List.getElem?_append_right (by omega), hl]
      simp

structure RkAt (w : World) (X gB cB : Nat) (vP : Value) (rb rc pb pc : Nat → Nat) (F : Nat → Prop) (n : Nat) (dur : Nat → Int) (m : Nat) (tf : Nat → Nat) (ld : Nat → Int) : Prop where
  hX : w.heap[X]? = some (.cells #[.slice (some ⟨gB, 0, none⟩) n cB, vP] 106 (0, 0))
  hB : ∃ cur, w.heap[gB]? = some (.cells cur 34 (0, 0))
  rows : Rws w gB n rb (fun _ => 0) rc (fun i => sh dur (i * 128))
  oP : w.ownsRow 0 135 2 vP m (sentL m tf pb pc)
  pf : ∀ j, j < m → From w (some ⟨pb j, 0, none⟩) 128 (sh ld (j * 128))
  FX : F X
  FB : F gB
  FP : ∀ k, vP.ownBlock = some k → F k
  Fr : ∀ i, i < n → F (rb i)
  Fp : ∀ j, j < m → F (pb j)
  rt : ∀ i, i < n → ∃ cur, w.heap[rb i]? = some (.cells cur 5 (0, 0))
  pt : ∀ j, j < m → ∃ cur, w.heap[pb j]? = some (.cells cur 5 (0, 0))
  lt : ∀ k, F k → k < w.heap.size
  tn : ∀ j, j < m → tf j < n
  by1 : ∀ i, 0 ≤ dur i ∧ dur i ≤ 255
  by2 : ∀ i, 0 ≤ ld i ∧ ld i ≤ 255
  n1 : 1 ≤ n
  n2 : n ≤ 4096
/-- A disk of the document's of n sectors at X, whose blocks are F's: the durable bytes dur, m writes pending: the j-th to sector tf j, of the bytes of ld from j * 128 on. -/
def Rk (w : World) (X : Nat) (F : Nat → Prop) (n : Nat) (dur : Nat → Int) (m : Nat) (tf : Nat → Nat) (ld : Nat → Int) : Prop := ∃ gB cB vP rb rc pb pc, RkAt w X gB cB vP rb rc pb pc F n dur m tf ld

theorem RkAt.part {w w' : World} {X gB cB : Nat} {vP : Value} {rb rc pb pc : Nat → Nat} {F G : Nat → Prop} {n : Nat} {dur : Nat → Int} {m : Nat} {tf : Nat → Nat} {ld : Nat → Int} (h : RkAt w X gB cB vP rb rc pb pc F n dur m tf ld) (hp : Part G w w') (hn : ∀ k, F k → ¬ G k) : RkAt w' X gB cB vP rb rc pb pc F n dur m tf ld :=
  have bl : ∀ k, F k → w'.heap[k]? = w.heap[k]? := fun k hk => hp.block k (h.lt k hk) (hn k hk)
  { h with
    hX := by rw [bl _ h.FX]; exact h.hX
    hB := by rw [bl _ h.FB]; exact h.hB
    rows := h.rows.part hp (hn _ h.FB) (h.lt _ h.FB) (fun i hi => hn _ (h.Fr i hi))
    oP := hp.row h.oP (fun k hk => hn _ (h.FP k hk))
    pf := fun j hj => hp.from (h.pf j hj) (hn _ (h.Fp j hj))
    rt := fun i hi => by rw [bl _ (h.Fr i hi)]; exact h.rt i hi
    pt := fun j hj => by rw [bl _ (h.Fp j hj)]; exact h.pt j hj
    lt := fun k hk => Nat.lt_of_lt_of_le (h.lt k hk) hp.size }
theorem Rk.part {w w' : World} {X : Nat} {F G : Nat → Prop} {n : Nat} {dur : Nat → Int} {m : Nat} {tf : Nat → Nat} {ld : Nat → Int} (h : Rk w X F n dur m tf ld) (hp : Part G w w') (hn : ∀ k, F k → ¬ G k) : Rk w' X F n dur m tf ld := by
  obtain ⟨gB, cB, vP, rb, rc, pb, pc, h⟩ := h
  exact ⟨gB, cB, vP, rb, rc, pb, pc, h.part hp hn⟩
theorem Rk.below {w w' : World} {X : Nat} {F : Nat → Prop} {n : Nat} {dur : Nat → Int} {m : Nat} {tf : Nat → Nat} {ld : Nat → Int} (h : Rk w X F n dur m tf ld) (hb : Below w.heap.size w w') : Rk w' X F n dur m tf ld := h.part (Part.ofBelow (F := fun _ => False) hb) (fun _ _ h => h)
theorem RkAt.heap {w w' : World} {X gB cB : Nat} {vP : Value} {rb rc pb pc : Nat → Nat} {F : Nat → Prop} {n : Nat} {dur : Nat → Int} {m : Nat} {tf : Nat → Nat} {ld : Nat → Int} (h : RkAt w X gB cB vP rb rc pb pc F n dur m tf ld) (hh : w'.heap = w.heap) (h1 : w'.os = w.os) (h2 : w'.tape = w.tape) (h3 : w'.output = w.output) : RkAt w' X gB cB vP rb rc pb pc F n dur m tf ld :=
  h.part (G := fun _ => False) ((Part.refl _ w).heap hh h1 h2 h3) (fun _ _ h => h)
theorem Rk.grow {w : World} {X : Nat} {F G : Nat → Prop} {n : Nat} {dur : Nat → Int} {m : Nat} {tf : Nat → Nat} {ld : Nat → Int} (h : Rk w X F n dur m tf ld) (h1 : ∀ k, F k → G k) (h2 : ∀ k, G k → k < w.heap.size) : Rk w X G n dur m tf ld := by
  obtain ⟨gB, cB, vP, rb, rc, pb, pc, h⟩ := h
  exact ⟨gB, cB, vP, rb, rc, pb, pc, { h with FX := h1 _ h.FX, FB := h1 _ h.FB, FP := fun k hk => h1 _ (h.FP k hk), Fr := fun i hi => h1 _ (h.Fr i hi), Fp := fun j hj => h1 _ (h.Fp j hj), lt := h2 }⟩
/-- The blocks of the struct, of the sectors' list, of the pending writes are apart, and none is a sector's. -/
structure RSep (X gB : Nat) (vP : Value) (rb pb : Nat → Nat) (n m : Nat) : Prop where
  XB : X ≠ gB
  P : ∀ k, vP.ownBlock = some k → k ≠ X ∧ k ≠ gB ∧ (∀ i, i < n → rb i ≠ k) ∧ (∀ j, j < m → pb j ≠ k)
  r : ∀ i, i < n → rb i ≠ X ∧ rb i ≠ gB
  p : ∀ j, j < m → pb j ≠ X ∧ pb j ≠ gB
theorem RkAt.sep {w : World} {X gB cB : Nat} {vP : Value} {rb rc pb pc : Nat → Nat} {F : Nat → Prop} {n : Nat} {dur : Nat → Int} {m : Nat} {tf : Nat → Nat} {ld : Nat → Int} (h : RkAt w X gB cB vP rb rc pb pc F n dur m tf ld) : RSep X gB vP rb pb n m := by
  obtain ⟨cB', hB⟩ := h.hB
  refine ⟨two_types h.hX hB (by decide), fun k hk => ?_, fun i hi => ?_, fun j hj => ?_⟩
  · obtain ⟨c3, k3⟩ := row_block h.oP hk
    refine ⟨(two_types h.hX k3 (by decide)).symm, (two_types hB k3 (by decide)).symm, fun i hi => ?_, fun j hj => ?_⟩
    · obtain ⟨c4, k4⟩ := h.rt i hi
      exact two_types k4 k3 (by decide)
    · obtain ⟨c4, k4⟩ := h.pt j hj
      exact two_types k4 k3 (by decide)
  · obtain ⟨c4, k4⟩ := h.rt i hi
    exact ⟨two_types k4 h.hX (by decide), two_types k4 hB (by decide)⟩
  · obtain ⟨c4, k4⟩ := h.pt j hj
    exact ⟨two_types k4 h.hX (by decide), two_types k4 hB (by decide)⟩

set_option maxHeartbeats 400000 in
theorem copiedR (a0 : Option Addr) (n c : Nat) (f : Nat → Int) (w : World) (hbig : n ≤ 140737488355328) (hf : From w a0 n f) (hc0 : a0 = none → c = 0) :
    Calls Tryd.prog 61 #[.slice a0 n c] w fun e w' => ∃ v', e = .returned v' ∧ Own w' w.heap.size v' (lst f n) ∧ Below w.heap.size w w' := by
  have hm : Own (w.alloc (.cells #[] 5)) w.heap.size (.slice (some ⟨w.heap.size, 0, none⟩) 0 0) [] := World.ownsRow_made w #[] 0 (Nat.le_refl _) (Nat.zero_le _) rfl
  have hf2 := hf.alloc (.cells #[] 5)
  have HF : Hid (From (w.alloc (.cells #[] 5)) a0 n f) := hf2
  clear hf2
  go_enter Tryd.func61, Tryd.ntmps61
  go_wp2_with (at_builtin; refine wpList_app rfl _ _ rfl w.heap.size _ [] rfl hm a0 n c f rfl HF.out hc0 ?q2 ?q3 ?_)
  case q2 => simp; omega
  case q3 => simp
  intro v' w' ho hb
  go_wp2
  go_ret
  exact ⟨v', rfl, ho, ((Below.refl _ w).alloc (Nat.le_refl _) _).trans hb⟩
end Go.Proofs.YtmjoklppibfdmaaDoor

namespace Go.Proofs.YtmjoklppibfdmaaDoor
open Go.RowKit
set_option linter.unusedVariables false

theorem from_own {w : World} {B g n c : Nat} {f : Nat → Int} (h : Own w B (.slice (some ⟨g, 0, none⟩) n c) (lst f n)) : From w (some ⟨g, 0, none⟩) n f := .inr ⟨_, rfl, fun i hi => by rw [Addr.add_lit, Nat.zero_add]; exact Own.cellF h i hi⟩
/-- What Write has made of the document's disk. -/
theorem RkAt.written {w w1 w2 : World} {X gB cB : Nat} {vP : Value} {rb rc pb pc : Nat → Nat} {F : Nat → Prop} {n : Nat} {dur : Nat → Int} {m : Nat} {tf : Nat → Nat} {ld f : Nat → Int} (h : RkAt w X gB cB vP rb rc pb pc F n dur m tf ld) (i : Nat) (hi : i < n) (hby : ∀ j, 0 ≤ f j ∧ f j ≤ 255)
    (hb1 : Below w.heap.size w w1) {g c1 : Nat} (ho : Own w1 w.heap.size (.slice (some ⟨g, 0, none⟩) 128 c1) (lst f 128)) (o : Obj) {v2 : Value}
    (h2 : w2.ownsRow 0 135 2 v2 (m + 1) (sentL m tf pb pc ++ [.int .i64 (i : Int), .slice (some ⟨g, 0, none⟩) 128 c1])) (hg2 : (w1.alloc o).grownBy w2 vP.ownBlock) (ha : v2.ownBlock = vP.ownBlock ∨ v2.ownBlock = some (w1.alloc o).heap.size) :
    w2.heap[X]? = some (.cells #[.slice (some ⟨gB, 0, none⟩) n cB, vP] 106 (0, 0)) ∧ ∀ wf : World, wf.heap = (w2.setCell ⟨X, 1, none⟩ v2).heap → wf.os = w2.os → wf.tape = w2.tape → wf.output = w2.output →
      Rk wf X (fun k => F k ∨ (w.heap.size ≤ k ∧ k < wf.heap.size)) n dur (m + 1) (fun j => if j = m then i else tf j) (fun k => if k < m * 128 then ld k else f (k - m * 128)) ∧ Part F w wf := by
  have sp := h.sep
  have hs1 := hb1.size
  have hsz : (w1.alloc o).heap.size = w1.heap.size + 1 := by simp
  have hs2 : w1.heap.size + 1 ≤ w2.heap.size := by have := hg2.size; omega
  have bl : ∀ k, k < w1.heap.size → vP.ownBlock ≠ some k → w2.heap[k]? = w1.heap[k]? := fun k hk hn => by rw [hg2.block k (by omega) (fun e => hn e.symm), heap_alloc_past _ _ _ hk]
  have blw : ∀ k, k < w.heap.size → vP.ownBlock ≠ some k → w2.heap[k]? = w.heap[k]? := fun k hk hn => by rw [bl k (by omega) hn, hb1.block k hk]
  obtain ⟨hg0, hgl⟩ := World.ownsRow.lt ho g rfl
  have hX2 : w2.heap[X]? = _ := (blw X (h.lt _ h.FX) (fun e => (sp.P X e).1 rfl)).trans h.hX
  refine ⟨hX2, fun wf e1 e2 e3 e4 => ?_⟩
  have hp : Part F w (w2.setCell ⟨X, 1, none⟩ v2) := (((Part.ofBelow (F := F) hb1).alloc o).grown hg2 (fun k hk _ => h.FP k hk)).setCell (p := ⟨X, 1, none⟩) (fun _ => h.FX) v2
  have tv : ∀ k, v2.ownBlock = some k → vP.ownBlock = some k ∨ k = w1.heap.size + 1 := fun k hk => by
    rcases ha with e | e
    · exact .inl (by rw [← e]; exact hk)
    · rw [e, hsz] at hk; cases hk; exact .inr rfl
  have nX : v2.ownBlock ≠ some X := fun e => by
    rcases tv X e with e2 | e2
    · exact (sp.P X e2).1 rfl
    · have := h.lt _ h.FX; omega
  have hgn : vP.ownBlock ≠ some g := fun e => by have := h.lt _ (h.FP g e); omega
  have hgX : g ≠ X := by have := h.lt _ h.FX; omega
  have keepF : ∀ (b : Nat) (ff : Nat → Int), b < w1.heap.size → vP.ownBlock ≠ some b → b ≠ X → From w1 (some ⟨b, 0, none⟩) 128 ff → From (w2.setCell ⟨X, 1, none⟩ v2) (some ⟨b, 0, none⟩) 128 ff := fun b ff hb hn hx hff => by
    rcases hff with ⟨e, _⟩ | ⟨x, e, hh⟩
    · cases e
    · cases e
      refine .inr ⟨_, rfl, fun j hj => ?_⟩
      have h9 := hh j hj
      rw [Addr.add_lit] at h9 ⊢
      rw [World.cell?_setCell_other _ _ _ _ (fun e2 => hx (congrArg Addr.block e2).symm), World.cell?_of_block (w := w1) (bl b hb hn)]
      exact h9
  have key : RkAt (w2.setCell ⟨X, 1, none⟩ v2) X gB cB v2 rb rc (fun j => if j = m then g else pb j) (fun j => if j = m then c1 else pc j) (fun k => F k ∨ (w.heap.size ≤ k ∧ k < (w2.setCell ⟨X, 1, none⟩ v2).heap.size)) n dur (m + 1) (fun j => if j = m then i else tf j) (fun k => if k < m * 128 then ld k else f (k - m * 128)) := by
    have hsf : (w2.setCell ⟨X, 1, none⟩ v2).heap.size = w2.heap.size := by simp [World.setCell]
    refine ⟨?_, ?_, ?_, ?_, fun j hj => ?_, .inl h.FX, .inl h.FB, fun k hk => ?_, fun q hq => .inl (h.Fr q hq), fun j hj => ?_, fun q hq => ?_, fun j hj => ?_, fun k hk => ?_, fun j hj => ?_, h.by1, fun k => ?_, h.n1, h.n2⟩
    · rw [heap_set_same hX2]; rfl
    · rw [heap_set_other _ (Ne.symm sp.XB), blw gB (h.lt _ h.FB) (fun e => (sp.P gB e).2.1 rfl)]; exact h.hB
    · have hR1 := h.rows.part (Part.ofBelow (F := fun _ => False) hb1) (fun h => h) (h.lt _ h.FB) (fun _ _ h => h)
      have hB1 : gB < w1.heap.size := by have := h.lt _ h.FB; omega
      have hBp : vP.ownBlock ≠ some gB := fun e => (sp.P gB e).2.1 rfl
      refine ⟨fun q hq => ?_, fun q hq => ?_, fun q hq => keepF _ _ (by have := h.lt _ (h.Fr q hq); omega) (fun e => (sp.P _ e).2.2.1 q hq rfl) (sp.r q hq).1 (hR1.from_ q hq)⟩
      · rw [World.cell?_setCell_other _ _ _ _ (fun e2 => sp.XB (congrArg Addr.block e2)), World.cell?_of_block (w := w1) (bl gB hB1 hBp)]
        exact hR1.cell q hq
      · rw [World.frozen?_setCell, World.frozen?_of_block (w := w1) (bl gB hB1 hBp)]
        exact hR1.free q hq
    · rw [← sentL_snoc]
      exact row_set h2 nX _ _
    · by_cases e : j = m
      · subst e
        rw [if_pos rfl]
        have h9 := keepF g f hgl hgn hgX (from_own ho)
        rcases h9 with ⟨e, _⟩ | ⟨x, e, hh⟩
        · cases e
        · cases e
          refine .inr ⟨_, rfl, fun q hq => ?_⟩
          rw [hh q hq]
          show _ = some (Value.int .u8 (if j * 128 + q < j * 128 then ld (j * 128 + q) else f (j * 128 + q - j * 128)))
          rw [if_neg (by omega), show j * 128 + q - j * 128 = q by omega]
      · rw [if_neg e]
        have hjm : j < m := by omega
        have hF1 : From w1 (some ⟨pb j, 0, none⟩) 128 (sh ld (j * 128)) := (h.pf j hjm).below hb1 (Nat.le_refl _)
        have h9 := keepF (pb j) _ (by have := h.lt _ (h.Fp j hjm); omega) (fun e => (sp.P _ e).2.2.2 j hjm rfl) (sp.p j hjm).1 hF1
        rcases h9 with ⟨e, _⟩ | ⟨x, e, hh⟩
        · cases e
        · cases e
          refine .inr ⟨_, rfl, fun q hq => ?_⟩
          rw [hh q hq]
          show some (Value.int .u8 (ld (j * 128 + q))) = some (Value.int .u8 (if j * 128 + q < m * 128 then ld (j * 128 + q) else f (j * 128 + q - m * 128)))
          rw [if_pos (by omega)]
    · rcases tv k hk with e | e
      · exact .inl (h.FP k e)
      · have := (World.ownsRow.lt h2 k hk).2
        exact .inr ⟨by omega, by omega⟩
    · show F (if j = m then g else pb j) ∨ _
      by_cases e : j = m
      · rw [if_pos e]; exact .inr ⟨hg0, by omega⟩
      · rw [if_neg e]; exact .inl (h.Fp j (by omega))
    · rw [heap_set_other _ (sp.r q hq).1, blw _ (h.lt _ (h.Fr q hq)) (fun e => (sp.P _ e).2.2.1 q hq rfl)]; exact h.rt q hq
    · by_cases e : j = m
      · rw [if_pos e, heap_set_other _ hgX, bl g hgl hgn]
        exact row_block ho rfl
      · rw [if_neg e, heap_set_other _ (sp.p j (by omega)).1, blw _ (h.lt _ (h.Fp j (by omega))) (fun e => (sp.P _ e).2.2.2 j (by omega) rfl)]
        exact h.pt j (by omega)
    · rcases hk with e | e
      · have := h.lt k e; omega
      · exact e.2
    · show (if j = m then i else tf j) < n
      split
      · exact hi
      · exact h.tn j (by omega)
    · show 0 ≤ (if k < m * 128 then ld k else f (k - m * 128)) ∧ _
      split
      · exact h.by2 k
      · exact hby _
  have e5 := hp.heap e1 (by rw [e2]; rfl) (by rw [e3]; rfl) (by rw [e4]; rfl)
  have e6 := key.heap e1 (by rw [e2]; rfl) (by rw [e3]; rfl) (by rw [e4]; rfl)
  rw [← e1] at e6
  exact ⟨⟨gB, cB, v2, rb, rc, _, _, e6⟩, e5⟩

set_option maxRecDepth 100000 in
set_option maxHeartbeats 2000000 in
theorem rkWrite (X i n m : Nat) (F : Nat → Prop) (dur : Nat → Int) (tf : Nat → Nat) (ld : Nat → Int) (a0 : Option Addr) (c : Nat) (f : Nat → Int) (w : World) (h : Rk w X F n dur m tf ld) (hi : i < n) (hm : m ≤ 549755813887) (hf : From w a0 128 f) (hc0 : a0 = none → c = 0) (hby : ∀ j, 0 ≤ f j ∧ f j ≤ 255) :
    Calls Tryd.prog 74 #[.pointer (some ⟨X, 0, none⟩), .int .i64 (i : Int), .slice a0 128 c] w fun e w' => e = .returned (.int .i64 0) ∧ Rk w' X (fun k => F k ∨ (w.heap.size ≤ k ∧ k < w'.heap.size)) n dur (m + 1) (fun j => if j = m then i else tf j) (fun k => if k < m * 128 then ld k else f (k - m * 128)) ∧ Part F w w' := by
  obtain ⟨gB, cB, vP, rb, rc, pb, pc, h⟩ := h
  obtain ⟨i0, hi0, hz0, hz1, hz2⟩ := info_parts infoSent
  have k0 : w.cell? ⟨X, 0, none⟩ = some (.slice (some ⟨gB, 0, none⟩) n cB) := cells_at h.hX 0
  have k1 : w.cell? ⟨X, 1, none⟩ = some vP := cells_at h.hX 1
  have lX := h.lt _ h.FX
  have HX : Hid (∀ wq, Below w.heap.size w.drew wq → wq.cell? ⟨X, 1, none⟩ = some vP ∧ X < wq.heap.size ∧ (∀ o, (wq.alloc o).cell? ⟨X, 1, none⟩ = some vP) ∧ (∀ o, (wq.alloc o).ownsRow 0 135 2 vP m (sentL m tf pb pc))) := fun wq hq => by
    have hs : w.heap.size ≤ wq.heap.size := hq.size
    have e : wq.cell? ⟨X, 1, none⟩ = some vP := by rw [hq.cell (p := ⟨X, 1, none⟩) lX]; exact k1
    have hrow : wq.ownsRow 0 135 2 vP m (sentL m tf pb pc) := Part.row (F := fun _ => False) (Part.ofBelow (w := w.drew) hq) (row_heap h.oP rfl) (fun _ _ h => h)
    exact ⟨e, by omega, fun o => (World.cell?_alloc_past (w := wq) o X 1 (by omega)).trans e, fun o => World.ownsRow.alloc hrow o⟩
  have H : Hid (RkAt w X gB cB vP rb rc pb pc F n dur m tf ld) := h
  have HF : Hid (From w.drew a0 128 f) := hf
  have HW : Hid (∀ (w1 w2 : World) (g c1 : Nat) (o : Obj) (v2 : Value), Below w.heap.size w.drew w1 → Own w1 w.heap.size (.slice (some ⟨g, 0, none⟩) 128 c1) (lst f 128) → w2.ownsRow 0 135 2 v2 (m + 1) (sentL m tf pb pc ++ [.int .i64 (i : Int), .slice (some ⟨g, 0, none⟩) 128 c1]) → (w1.alloc o).grownBy w2 vP.ownBlock → (v2.ownBlock = vP.ownBlock ∨ v2.ownBlock = some (w1.alloc o).heap.size) →
      (∃ g2 c2, v2 = .slice (some ⟨g2, 0, none⟩) (m + 1) c2) ∧ w2.cell? ⟨X, 1, none⟩ = some vP ∧ w2.frozen? ⟨X, 1, none⟩ = false ∧ Hid (∀ wf : World, wf.heap = (w2.setCell ⟨X, 1, none⟩ v2).heap → wf.os = w2.os → wf.tape = w2.tape → wf.output = w2.output →
      Rk wf X (fun k => F k ∨ (w.heap.size ≤ k ∧ k < wf.heap.size)) n dur (m + 1) (fun j => if j = m then i else tf j) (fun k => if k < m * 128 then ld k else f (k - m * 128)) ∧ Part F w wf)) := fun w1 w2 g c1 o v2 hb ho h2 hg2 ha => by
    have hb' : Below w.heap.size w w1 := ⟨hb.os, hb.tape, hb.output, hb.size, hb.block⟩
    obtain ⟨r1, r2⟩ := H.out.written i hi hby hb' ho o h2 hg2 ha
    obtain ⟨g2, c2, e2, _⟩ := row_some h2 (by omega)
    exact ⟨⟨g2, c2, e2⟩, cells_at r1 1, cells_free r1 1, r2⟩
  have g1 : ¬ (i : Int) < 0 := by omega
  have g2 : ¬ (n : Int) ≤ (i : Int) := by omega
  clear h hf
  go_enter Tryd.func74, Tryd.ntmps74
  go_wp2_with fail
  go_cut [] (fun wx => ∃ (w2 : World) (v2 : Value), wx = w2.setCell ⟨X, 1, none⟩ v2 ∧ Hid (∀ wf : World, wf.heap = (w2.setCell ⟨X, 1, none⟩ v2).heap → wf.os = w2.os → wf.tape = w2.tape → wf.output = w2.output →
      Rk wf X (fun k => F k ∨ (w.heap.size ≤ k ∧ k < wf.heap.size)) n dur (m + 1) (fun j => if j = m then i else tf j) (fun k => if k < m * 128 then ld k else f (k - m * 128)) ∧ Part F w wf))
  case first =>
    go_region_law (first
      | (refine step_append_own_at rfl _ _ 104 rfl 0 135 i0 (.agg #[.int .i64 0, .slice none 0 0]) 2 32 Tryd.underlying104 hi0 hz0 hz1 hz2 rfl (by decide) vP m (sentL m tf pb pc) (by go_simp) (by exact (HX.out w1 hb1).2.2.2 _) ⟨w1.heap.size, 0, none⟩ 1 1 [.int .i64 (i : Int), .slice (some ⟨g, 0, none⟩) 128 c1] (by go_simp) rfl (by intro j u hj; rw [Addr.add_lit, Nat.zero_add, World.cell?_alloc_at _ _ _ _ rfl]; simpa using hj) (by intro u hu; simp at hu; rcases hu with rfl | rfl <;> rfl) (by unfold maxLen; omega) (by omega) (Nat.zero_le _) ?_; intro v2 w2 ho2 hg2 ha2; obtain ⟨⟨gx, cx, hv2⟩, x1, x2, HE⟩ := HW.out w1 w2 g c1 _ v2 hb1 ho1 ho2 hg2 ha2; subst hv2)
      | (go_simp; go_at_call 61; refine (copiedR a0 128 c f _ (by omega) (by exact HF.out) hc0).mono ?_; rintro e' w1 ⟨v1, rfl, ho1, hb1⟩; obtain ⟨g, c1, hv1, ho1, _, _, _, _⟩ := own_some ho1 (by omega); subst hv1; obtain ⟨y1, y2, y3, _⟩ := HX.out w1 hb1))
    all_goals (go_wp2_with fail; go_meet; exact ⟨w2, _, rfl, HE⟩)
  case rest =>
  obtain ⟨w2, v2, rfl, HE⟩ := hcut
  go_wp2
  go_ret
  exact ⟨rfl, HE.out _ (by rfl) (by rfl) (by rfl) (by rfl)⟩
end Go.Proofs.YtmjoklppibfdmaaDoor

namespace Go.Proofs.YtmjoklppibfdmaaDoor
open Go.RowKit
set_option linter.unusedVariables false

/-- A sector gets bytes of its own. -/
theorem RkAt.put {w w1 : World} {X gB cB : Nat} {vP : Value} {rb rc pb pc : Nat → Nat} {F : Nat → Prop} {n : Nat} {dur : Nat → Int} {m : Nat} {tf : Nat → Nat} {ld f : Nat → Int} (h : RkAt w X gB cB vP rb rc pb pc F n dur m tf ld) (i : Nat) (hi : i < n) (hby : ∀ j, 0 ≤ f j ∧ f j ≤ 255)
    (hb1 : Below w.heap.size w w1) {g c1 : Nat} (ho : Own w1 w.heap.size (.slice (some ⟨g, 0, none⟩) 128 c1) (lst f 128)) :
    RkAt (w1.setCell ⟨gB, i, none⟩ (.slice (some ⟨g, 0, none⟩) 128 c1)) X gB cB vP (fun q => if q = i then g else rb q) (fun q => if q = i then c1 else rc q) pb pc (fun k => F k ∨ (w.heap.size ≤ k ∧ k < (w1.setCell ⟨gB, i, none⟩ (.slice (some ⟨g, 0, none⟩) 128 c1)).heap.size)) n (ov dur (i * 128) 128 f) m tf ld := by
  have sp := h.sep
  have hs1 := hb1.size
  obtain ⟨hg0, hgl⟩ := World.ownsRow.lt ho g rfl
  have h1 := h.part (Part.ofBelow (F := fun _ => False) hb1) (fun _ _ h => h)
  have lB := h.lt _ h.FB
  have hgB : g ≠ gB := by omega
  have hsf : (w1.setCell ⟨gB, i, none⟩ (.slice (some ⟨g, 0, none⟩) 128 c1)).heap.size = w1.heap.size := by simp [World.setCell]
  have keepF : ∀ (b : Nat) (ff : Nat → Int), b ≠ gB → From w1 (some ⟨b, 0, none⟩) 128 ff → From (w1.setCell ⟨gB, i, none⟩ (.slice (some ⟨g, 0, none⟩) 128 c1)) (some ⟨b, 0, none⟩) 128 ff := fun b ff hx hff => by
    rcases hff with ⟨e, _⟩ | ⟨x, e, hh⟩
    · cases e
    · cases e
      refine .inr ⟨_, rfl, fun j hj => ?_⟩
      have h9 := hh j hj
      rw [Addr.add_lit] at h9 ⊢
      rw [World.cell?_setCell_other _ _ _ _ (fun e2 => hx (congrArg Addr.block e2).symm)]
      exact h9
  refine ⟨?_, ?_, ⟨fun q hq => ?_, fun q hq => ?_, fun q hq => ?_⟩, ?_, fun j hj => keepF _ _ (sp.p j hj).2 (h1.pf j hj), .inl h.FX, .inl h.FB, fun k hk => .inl (h.FP k hk), fun q hq => ?_, fun j hj => .inl (h.Fp j hj), fun q hq => ?_, fun j hj => ?_, fun k hk => ?_, h.tn, ov_byC h.by1 hby, h.by2, h.n1, h.n2⟩
  · rw [heap_set_other _ sp.XB]; exact h1.hX
  · obtain ⟨cur, hc⟩ := h1.hB
    exact ⟨_, heap_set_same hc _ _⟩
  · by_cases e : q = i
    · subst e
      rw [World.cell?_setCell_same _ _ _ (h1.rows.cell q hq), if_pos rfl, if_pos rfl]
    · rw [World.cell?_setCell_other _ _ _ _ (fun e2 => e (congrArg Addr.off e2).symm), if_neg e, if_neg e]
      exact h1.rows.cell q hq
  · rw [World.frozen?_setCell]; exact h1.rows.free q hq
  · by_cases e : q = i
    · subst e
      rw [if_pos rfl]
      have h9 := keepF g f hgB (from_own ho)
      rcases h9 with ⟨e, _⟩ | ⟨x, e, hh⟩
      · cases e
      · cases e
        refine .inr ⟨_, rfl, fun j hj => ?_⟩
        rw [hh j hj]
        show _ = some (Value.int .u8 (if q * 128 ≤ q * 128 + j ∧ q * 128 + j < q * 128 + 128 then f (q * 128 + j - q * 128) else dur (q * 128 + j)))
        rw [if_pos (by omega), show q * 128 + j - q * 128 = j by omega]
    · rw [if_neg e]
      have h9 := keepF (rb q) _ (sp.r q hq).2 (h1.rows.from_ q hq)
      rcases h9 with ⟨e, _⟩ | ⟨x, e, hh⟩
      · cases e
      · cases e
        refine .inr ⟨_, rfl, fun j hj => ?_⟩
        rw [hh j hj]
        show some (Value.int .u8 (dur (q * 128 + j))) = some (Value.int .u8 (if i * 128 ≤ q * 128 + j ∧ q * 128 + j < i * 128 + 128 then f (q * 128 + j - i * 128) else dur (q * 128 + j)))
        rw [if_neg (by omega)]
  · exact row_set h1.oP (fun e => (sp.P gB e).2.1 rfl) _ _
  · show F (if q = i then g else rb q) ∨ _
    by_cases e : q = i
    · rw [if_pos e]; exact .inr ⟨hg0, by omega⟩
    · rw [if_neg e]; exact .inl (h.Fr q hq)
  · by_cases e : q = i
    · rw [if_pos e, heap_set_other _ hgB]
      exact row_block ho rfl
    · rw [if_neg e, heap_set_other _ (sp.r q hq).2]
      exact h1.rt q hq
  · rw [heap_set_other _ (sp.p j hj).2]; exact h1.pt j hj
  · rcases hk with e | e
    · have := h.lt k e; omega
    · exact e.2
/-- Nothing is pending any more. -/
theorem RkAt.clear {w : World} {X gB cB : Nat} {vP : Value} {rb rc pb pc : Nat → Nat} {F : Nat → Prop} {n : Nat} {dur : Nat → Int} {m : Nat} {tf : Nat → Nat} {ld : Nat → Int} (h : RkAt w X gB cB vP rb rc pb pc F n dur m tf ld) :
    RkAt (w.setCell ⟨X, 1, none⟩ (.slice none 0 0)) X gB cB (.slice none 0 0) rb rc pb pc F n dur 0 tf ld := by
  have sp := h.sep
  have hp : Part (fun k => k = X) w (w.setCell ⟨X, 1, none⟩ (.slice none 0 0)) := (Part.refl (fun k => k = X) w).setCell (p := ⟨X, 1, none⟩) (fun _ => rfl) _
  refine ⟨?_, ?_, h.rows.part hp (Ne.symm sp.XB) (h.lt _ h.FB) (fun i hi => (sp.r i hi).1), World.ownsRow_nil _ _ _ _, fun j hj => by omega, h.FX, h.FB, fun k hk => (by cases hk), h.Fr, fun j hj => by omega, fun q hq => ?_, fun j hj => by omega, fun k hk => ?_, fun j hj => by omega, h.by1, h.by2, h.n1, h.n2⟩
  · rw [heap_set_same h.hX]; rfl
  · rw [heap_set_other _ (Ne.symm sp.XB)]; exact h.hB
  · rw [heap_set_other _ (sp.r q hq).1]; exact h.rt q hq
  · have := h.lt k hk
    simpa [World.setCell] using this

/-- The document's disk behind the first k places, of which those stay that st names; vP is what its list of writes was. -/
def RkK (w wr : World) (X gB cB : Nat) (vP : Value) (pb pc : Nat → Nat) (F : Nat → Prop) (n : Nat) (dur : Nat → Int) (m : Nat) (tf : Nat → Nat) (ld : Nat → Int) (st : Nat → Bool) (k : Nat) : Prop :=
  ∃ rb rc, RkAt wr X gB cB vP rb rc pb pc (fun q => F q ∨ (w.heap.size ≤ q ∧ q < wr.heap.size)) n (setl dur tf ld st k) m tf ld ∧ Part F w wr
theorem RkK.skip {w wr w1 : World} {X gB cB : Nat} {vP : Value} {pb pc : Nat → Nat} {F : Nat → Prop} {n : Nat} {dur : Nat → Int} {m : Nat} {tf : Nat → Nat} {ld : Nat → Int} {st : Nat → Bool} {k : Nat} (h : RkK w wr X gB cB vP pb pc F n dur m tf ld st k) (hs : st k = false) (hb : Below wr.heap.size wr w1) : RkK w w1 X gB cB vP pb pc F n dur m tf ld st (k + 1) := by
  obtain ⟨rb, rc, h, hp⟩ := h
  have h1 := h.part (Part.ofBelow (F := fun _ => False) hb) (fun _ _ h => h)
  have hsz := hb.size
  have hlt : ∀ q, F q → q < w1.heap.size := fun q hq => h1.lt q (.inl hq)
  refine ⟨rb, rc, ?_, hp.trans (Part.ofBelow (F := fun _ => False) hb) (fun _ _ h => h.elim)⟩
  have e : setl dur tf ld st (k + 1) = setl dur tf ld st k := by rw [setl, hs]; simp
  rw [e]
  have mv : ∀ q, (F q ∨ (w.heap.size ≤ q ∧ q < wr.heap.size)) → (F q ∨ (w.heap.size ≤ q ∧ q < w1.heap.size)) := fun q hq => hq.imp id (fun hq => ⟨hq.1, by omega⟩)
  exact { h1 with FX := mv _ h1.FX, FB := mv _ h1.FB, FP := fun k hk => mv _ (h1.FP k hk), Fr := fun i hi => mv _ (h1.Fr i hi), Fp := fun j hj => mv _ (h1.Fp j hj), lt := fun q hq => hq.elim (hlt q) (fun hq => hq.2) }
theorem RkK.put {w wr w1 wf : World} {X gB cB : Nat} {vP : Value} {pb pc : Nat → Nat} {F : Nat → Prop} {n : Nat} {dur : Nat → Int} {m : Nat} {tf : Nat → Nat} {ld : Nat → Int} {st : Nat → Bool} {k : Nat} (h : RkK w wr X gB cB vP pb pc F n dur m tf ld st k) (hs : st k = true) (hk : k < m) (hb : Below wr.heap.size wr w1) {g c1 : Nat} (ho : Own w1 wr.heap.size (.slice (some ⟨g, 0, none⟩) 128 c1) (lst (sh ld (k * 128)) 128))
    (e1 : wf.heap = (w1.setCell ⟨gB, tf k, none⟩ (.slice (some ⟨g, 0, none⟩) 128 c1)).heap) (e2 : wf.os = w1.os) (e3 : wf.tape = w1.tape) (e4 : wf.output = w1.output) : RkK w wf X gB cB vP pb pc F n dur m tf ld st (k + 1) := by
  obtain ⟨rb, rc, h, hp⟩ := h
  have h1 := h.put (tf k) (h.tn k hk) (sh_by h.by2 _) hb ho
  have hsz := hb.size
  have hsw := hp.size
  have h2 := h1.heap (w' := wf) e1 (by rw [e2]; rfl) (by rw [e3]; rfl) (by rw [e4]; rfl)
  have esz : wf.heap.size = w1.heap.size := by rw [e1]; simp [World.setCell]
  refine ⟨fun q => if q = tf k then g else rb q, fun q => if q = tf k then c1 else rc q, ?_, ?_⟩
  · rw [setl, hs, if_pos rfl]
    have mv : ∀ q, ((F q ∨ (w.heap.size ≤ q ∧ q < wr.heap.size)) ∨ (wr.heap.size ≤ q ∧ q < (w1.setCell ⟨gB, tf k, none⟩ (.slice (some ⟨g, 0, none⟩) 128 c1)).heap.size)) → (F q ∨ (w.heap.size ≤ q ∧ q < wf.heap.size)) := fun q hq => by
      have e9 : (w1.setCell ⟨gB, tf k, none⟩ (.slice (some ⟨g, 0, none⟩) 128 c1)).heap.size = w1.heap.size := by simp [World.setCell]
      rcases hq with (hq | hq) | hq
      · exact .inl hq
      · exact .inr ⟨hq.1, by omega⟩
      · exact .inr ⟨by omega, by omega⟩
    exact { h2 with FX := mv _ h2.FX, FB := mv _ h2.FB, FP := fun k hk => mv _ (h2.FP k hk), Fr := fun i hi => mv _ (h2.Fr i hi), Fp := fun j hj => mv _ (h2.Fp j hj), lt := fun q hq => hq.elim (fun hq => h2.lt q (.inl (.inl hq))) (fun hq => hq.2) }
  · have hp1 : Part F w (w1.setCell ⟨gB, tf k, none⟩ (.slice (some ⟨g, 0, none⟩) 128 c1)) := (hp.trans (Part.ofBelow (F := fun _ => False) hb) (fun _ _ h => h.elim)).setCell (p := ⟨gB, tf k, none⟩) (fun hl => by
      rcases h.FB with h9 | h9
      · exact h9
      · have : gB < w.heap.size := hl
        omega) _
    exact hp1.heap e1 (by rw [e2]; rfl) (by rw [e3]; rfl) (by rw [e4]; rfl)
theorem RkK.clear {w wr wf : World} {X gB cB : Nat} {vP : Value} {pb pc : Nat → Nat} {F : Nat → Prop} {n : Nat} {dur : Nat → Int} {m : Nat} {tf : Nat → Nat} {ld : Nat → Int} {st : Nat → Bool} {k : Nat} (h : RkK w wr X gB cB vP pb pc F n dur m tf ld st k) (hFX : F X) (e1 : wf.heap = (wr.setCell ⟨X, 1, none⟩ (.slice none 0 0)).heap) (e2 : wf.os = wr.os) (e3 : wf.tape = wr.tape) (e4 : wf.output = wr.output) :
    Rk wf X (fun q => F q ∨ (w.heap.size ≤ q ∧ q < wf.heap.size)) n (setl dur tf ld st k) 0 tf ld ∧ Part F w wf := by
  obtain ⟨rb, rc, h, hp⟩ := h
  have h2 := h.clear.heap (w' := wf) e1 (by rw [e2]; rfl) (by rw [e3]; rfl) (by rw [e4]; rfl)
  have esz : wf.heap.size = wr.heap.size := by rw [e1]; simp [World.setCell]
  refine ⟨⟨gB, cB, .slice none 0 0, rb, rc, pb, pc, ?_⟩, (hp.setCell (p := ⟨X, 1, none⟩) (fun _ => hFX) _).heap e1 (by rw [e2]; rfl) (by rw [e3]; rfl) (by rw [e4]; rfl)⟩
  rw [esz]
  exact h2
/-- What a round looks at. -/
theorem RkK.sees {w wr : World} {X gB cB : Nat} {aP : Option Addr} {cP : Nat} {pb pc : Nat → Nat} {F : Nat → Prop} {n : Nat} {dur : Nat → Int} {m : Nat} {tf : Nat → Nat} {ld : Nat → Int} {st : Nat → Bool} {k : Nat} (h : RkK w wr X gB cB (.slice aP m cP) pb pc F n dur m tf ld st k) :
    wr.cell? ⟨X, 0, none⟩ = some (.slice (some ⟨gB, 0, none⟩) n cB) ∧ wr.cell? ⟨X, 1, none⟩ = some (.slice aP m cP) ∧ wr.frozen? ⟨X, 1, none⟩ = false ∧ X < wr.heap.size ∧
    ∀ j, j < m → ∃ gP, aP = some ⟨gP, 0, none⟩ ∧ wr.cell? ⟨gP, j * 2, none⟩ = some (.int .i64 (tf j : Int)) ∧ wr.cell? ⟨gP, j * 2 + 1, none⟩ = some (.slice (some ⟨pb j, 0, none⟩) 128 (pc j)) ∧ From wr (some ⟨pb j, 0, none⟩) 128 (sh ld (j * 128)) ∧ tf j < n ∧
      (∀ w1, Below wr.heap.size wr w1 → w1.cell? ⟨X, 0, none⟩ = some (.slice (some ⟨gB, 0, none⟩) n cB) ∧ ∃ v, w1.cell? ⟨gB, tf j, none⟩ = some v ∧ w1.frozen? ⟨gB, tf j, none⟩ = false) := by
  obtain ⟨rb, rc, h, hp⟩ := h
  have kX : wr.cell? ⟨X, 0, none⟩ = some (.slice (some ⟨gB, 0, none⟩) n cB) := cells_at h.hX 0
  refine ⟨kX, cells_at h.hX 1, cells_free h.hX 1, h.lt _ h.FX, fun j hj => ?_⟩
  rcases h.oP.2 with ⟨_, h0⟩ | ⟨g, cap, cur, e, _⟩
  · omega
  · injection e with x1 x2 x3
    subst x1
    refine ⟨g, rfl, ?_, ?_, h.pf j hj, h.tn j hj, fun w1 hb => ⟨by rw [hb.cell (p := ⟨X, 0, none⟩) (h.lt _ h.FX)]; exact kX, _, by rw [hb.cell (p := ⟨gB, tf j, none⟩) (h.lt _ h.FB)]; exact h.rows.cell _ (h.tn j hj), by rw [hb.frozen (p := ⟨gB, tf j, none⟩) (h.lt _ h.FB)]; exact h.rows.free _ (h.tn j hj)⟩⟩
    · rw [World.ownsRow.cellAt h.oP (j * 2) (by omega)]; exact (sentL_get m tf pb pc j hj).1
    · rw [World.ownsRow.cellAt h.oP (j * 2 + 1) (by omega)]; exact (sentL_get m tf pb pc j hj).2

set_option maxRecDepth 100000 in
set_option maxHeartbeats 2000000 in
theorem rkFlush (X n m : Nat) (F : Nat → Prop) (dur : Nat → Int) (tf : Nat → Nat) (ld : Nat → Int) (w : World) (h : Rk w X F n dur m tf ld) (hm : m ≤ 549755813887) :
    Calls Tryd.prog 76 #[.pointer (some ⟨X, 0, none⟩)] w fun e w' => e = .returned (.int .i64 0) ∧ Rk w' X (fun k => F k ∨ (w.heap.size ≤ k ∧ k < w'.heap.size)) n (setl dur tf ld (fun _ => true) m) 0 tf ld ∧ Part F w w' := by
  obtain ⟨gB, cB, vP, rb, rc, pb, pc, h⟩ := h
  have k0 : w.cell? ⟨X, 0, none⟩ = some (.slice (some ⟨gB, 0, none⟩) n cB) := cells_at h.hX 0
  have k1 : w.cell? ⟨X, 1, none⟩ = some vP := cells_at h.hX 1
  obtain ⟨aP, cP, rfl⟩ : ∃ aP cP, vP = .slice aP m cP := by
    rcases h.oP.2 with ⟨rfl, h0⟩ | ⟨g, cap, cur, rfl, _⟩
    · rw [h0]; exact ⟨none, 0, rfl⟩
    · exact ⟨_, cap, rfl⟩
  have HFX : Hid (F X) := h.FX
  have H0 : Hid (RkK w w X gB cB (.slice aP m cP) pb pc F n dur m tf ld (fun _ => true) 0) := ⟨rb, rc, { h with FX := .inl h.FX, FB := .inl h.FB, FP := fun k hk => .inl (h.FP k hk), Fr := fun i hi => .inl (h.Fr i hi), Fp := fun j hj => .inl (h.Fp j hj), lt := fun q hq => hq.elim (h.lt q) (fun hq => hq.2) }, Part.refl _ _⟩
  clear h
  go_enter Tryd.func76, Tryd.ntmps76
  go_wp2
  go_loopw [10] (fun i wr => ∃ k : Nat, k ≤ m ∧ i = .int .i64 (k : Int) ∧ RkK w wr X gB cB (.slice aP m cP) pb pc F n dur m tf ld (fun _ => true) k) (fun i _ => m - (intOf i).toNat)
  case atStart => exact ⟨0, Nat.zero_le _, rfl, H0.out⟩
  case round =>
    obtain ⟨k, hk, rfl, hR⟩ := hrel
    have HR : Hid (RkK w wr X gB cB (.slice aP m cP) pb pc F n dur m tf ld (fun _ => true) k) := hR
    obtain ⟨b1, b2, b3, b4, b5⟩ := hR.sees
    clear hR
    by_cases hlt : k < m
    · have hlt' : (k : Int) < (m : Int) := by omega
      have hk0 : (0 : Int) ≤ (k : Int) := by omega
      obtain ⟨gP, rfl, p1, p2, p3, p4, p5⟩ := b5 k hlt
      obtain ⟨ob, hO⟩ : ∃ ob, Obj.cells #[.int .i64 (tf k : Int), .slice (some ⟨pb k, 0, none⟩) 128 (pc k)] 135 = ob := ⟨_, rfl⟩
      have hob0 : (wr.alloc ob).cell? ⟨wr.heap.size, 0, none⟩ = some (.int .i64 (tf k : Int)) := by rw [← hO, World.cell?_alloc_at _ _ _ _ rfl]; rfl
      have hob1 : (wr.alloc ob).cell? ⟨wr.heap.size, 1, none⟩ = some (.slice (some ⟨pb k, 0, none⟩) 128 (pc k)) := by rw [← hO, World.cell?_alloc_at _ _ _ _ rfl]; rfl
      have HBo : Hid (∀ wq, Below (wr.heap.size + 1) (wr.alloc ob).drew wq → Below wr.heap.size wr wq) := fun wq hq =>
        ((Below.refl _ wr).alloc (Nat.le_refl _) ob).trans ⟨hq.os, hq.tape, hq.output, hq.size, fun q hh => hq.block q (by omega)⟩
      have HS : Hid (∀ wq, Below (wr.heap.size + 1) (wr.alloc ob).drew wq → wq.cell? ⟨wr.heap.size, 0, none⟩ = some (.int .i64 (tf k : Int)) ∧ wq.cell? ⟨wr.heap.size, 1, none⟩ = some (.slice (some ⟨pb k, 0, none⟩) 128 (pc k)) ∧ wq.cell? ⟨X, 0, none⟩ = some (.slice (some ⟨gB, 0, none⟩) n cB) ∧ ∃ v, wq.cell? ⟨gB, tf k, none⟩ = some v ∧ wq.frozen? ⟨gB, tf k, none⟩ = false) := fun wq hq =>
        ⟨by rw [hq.cell (p := ⟨wr.heap.size, 0, none⟩) (by show wr.heap.size < wr.heap.size + 1; omega)]; exact hob0, by rw [hq.cell (p := ⟨wr.heap.size, 1, none⟩) (by show wr.heap.size < wr.heap.size + 1; omega)]; exact hob1, p5 wq (HBo.out wq hq)⟩
      have aX : ∀ o, (wr.alloc o).cell? ⟨X, 0, none⟩ = some (.slice (some ⟨gB, 0, none⟩) n cB) := fun o => (World.cell?_alloc_past (w := wr) o X 0 b4).trans b1
      have HF3 : Hid (From (wr.alloc ob).drew (some ⟨pb k, 0, none⟩) 128 (sh ld (k * 128))) := p3.alloc ob
      have p4' : (tf k : Int) < (n : Int) := by omega
      have p40 : (0 : Int) ≤ (tf k : Int) := by omega
      clear b5 p5 p3
      go_wp2
      go_region_law (go_simp; go_at_call 61; refine (copiedR (some ⟨pb k, 0, none⟩) 128 (pc k) (sh ld (k * 128)) _ (by omega) (by exact HF3.out) (fun h => by cases h)).mono ?_; rintro e' w1 ⟨v1, rfl, ho1, hb1⟩; obtain ⟨g, c1, hv1, ho1, _, _, _, _⟩ := own_some ho1 (by omega); subst hv1; have hb2 : Below (wr.heap.size + 1) (wr.alloc ob).drew w1 := hb1.mono (by simp); obtain ⟨y1, y2, y3, yv, y4, y5⟩ := HS.out w1 hb2)
      all_goals
        have HN : Hid (RkK w ((w1.setCell ⟨gB, tf k, none⟩ (.slice (some ⟨g, 0, none⟩) 128 c1))) X gB cB (.slice (some ⟨gP, 0, none⟩) m cP) pb pc F n dur m tf ld (fun _ => true) (k + 1)) := HR.out.put rfl hlt (HBo.out w1 hb2) (ho1.mono (by simp)) rfl rfl rfl rfl
        go_wp2
        go_roundw
        case rel => exact ⟨k + 1, by omega, by go_num, HN.out⟩
        case measure => simp [intOf]; omega
    · obtain rfl : k = m := by omega
      clear b5
      go_wp2
      go_ret
      exact ⟨rfl, HR.out.clear HFX.out (by rfl) (by rfl) (by rfl) (by rfl)⟩
end Go.Proofs.YtmjoklppibfdmaaDoor

namespace Go.Proofs.YtmjoklppibfdmaaDoor
open Go.RowKit
set_option linter.unusedVariables false

theorem RkK.start {w : World} {X gB cB : Nat} {vP : Value} {rb rc pb pc : Nat → Nat} {F : Nat → Prop} {n : Nat} {dur : Nat → Int} {m : Nat} {tf : Nat → Nat} {ld : Nat → Int} (st : Nat → Bool) (h : RkAt w X gB cB vP rb rc pb pc F n dur m tf ld) : RkK w w X gB cB vP pb pc F n dur m tf ld st 0 :=
  ⟨rb, rc, { h with FX := .inl h.FX, FB := .inl h.FB, FP := fun k hk => .inl (h.FP k hk), Fr := fun i hi => .inl (h.Fr i hi), Fp := fun j hj => .inl (h.Fp j hj), lt := fun q hq => hq.elim (h.lt q) (fun hq => hq.2) }, Part.refl _ _⟩

end Go.Proofs.YtmjoklppibfdmaaDoor

namespace Go.Proofs.YtmjoklppibfdmaaDoor
open Go.RowKit
set_option linter.unusedVariables false

theorem lastAt_from {tf : Nat → Nat} {i t : Nat} : ∀ {m : Nat}, t < m → tf t = i → (∀ j, t < j → j < m → tf j ≠ i) → lastAt tf m i = (t : Int) + 1
  | 0, h, _, _ => by omega
  | m + 1, h, h1, h2 => by
    rw [lastAt]
    by_cases e : t = m
    · subst e
      rw [if_pos h1]; omega
    · rw [if_neg (h2 m (by omega) (by omega))]
      exact lastAt_from (by omega) h1 (fun j a b => h2 j a (by omega))
/-- What Read looks at. -/
theorem RkAt.looks {w : World} {X gB cB : Nat} {aP : Option Addr} {cP : Nat} {rb rc pb pc : Nat → Nat} {F : Nat → Prop} {n : Nat} {dur : Nat → Int} {m : Nat} {tf : Nat → Nat} {ld : Nat → Int} (h : RkAt w X gB cB (.slice aP m cP) rb rc pb pc F n dur m tf ld) :
    w.cell? ⟨X, 0, none⟩ = some (.slice (some ⟨gB, 0, none⟩) n cB) ∧ w.cell? ⟨X, 1, none⟩ = some (.slice aP m cP) ∧ (∀ i, i < n → w.cell? ⟨gB, i, none⟩ = some (.slice (some ⟨rb i, 0, none⟩) 128 (rc i)) ∧ From w (some ⟨rb i, 0, none⟩) 128 (sh dur (i * 128))) ∧
    ∀ j, j < m → ∃ gP, aP = some ⟨gP, 0, none⟩ ∧ w.cell? ⟨gP, j * 2, none⟩ = some (.int .i64 (tf j : Int)) ∧ w.cell? ⟨gP, j * 2 + 1, none⟩ = some (.slice (some ⟨pb j, 0, none⟩) 128 (pc j)) ∧ From w (some ⟨pb j, 0, none⟩) 128 (sh ld (j * 128)) := by
  obtain ⟨a1, a2, _, _, a5⟩ := (RkK.start (fun _ => true) h).sees
  refine ⟨a1, a2, fun i hi => ⟨h.rows.cell i hi, h.rows.from_ i hi⟩, fun j hj => ?_⟩
  obtain ⟨gP, e, p1, p2, p3, _⟩ := a5 j hj
  exact ⟨gP, e, p1, p2, p3⟩

set_option maxRecDepth 100000 in
set_option maxHeartbeats 2000000 in
theorem rkRead (X i n m : Nat) (F : Nat → Prop) (dur : Nat → Int) (tf : Nat → Nat) (ld : Nat → Int) (w : World) (h : Rk w X F n dur m tf ld) (hi : i < n) (hm : m ≤ 549755813887) :
    Calls Tryd.prog 65 #[.pointer (some ⟨X, 0, none⟩), .int .i64 (i : Int)] w fun e w' => ∃ v', e = .returned (.tuple #[v', .int .i64 0]) ∧ Own w' w.heap.size v' (lst (seen dur m tf ld i) 128) ∧ Below w.heap.size w w' := by
  obtain ⟨gB, cB, vP, rb, rc, pb, pc, h⟩ := h
  obtain ⟨aP, cP, rfl⟩ : ∃ aP cP, vP = .slice aP m cP := by
    rcases h.oP.2 with ⟨rfl, h0⟩ | ⟨g, cap, cur, rfl, _⟩
    · rw [h0]; exact ⟨none, 0, rfl⟩
    · exact ⟨_, cap, rfl⟩
  have HL : Hid (∀ wq, Below w.heap.size w wq → RkAt wq X gB cB (.slice aP m cP) rb rc pb pc F n dur m tf ld) := fun wq hq => h.part (Part.ofBelow (F := fun _ => False) hq) (fun _ _ h => h)
  obtain ⟨k0, k1, k2, _⟩ := h.looks
  have hn2 := h.n2
  clear h
  have g1 : ¬ (i : Int) < 0 := by omega
  have g2 : ¬ (n : Int) ≤ (i : Int) := by omega
  obtain ⟨q1, q2⟩ := k2 i hi
  have HFq : Hid (From w (some ⟨rb i, 0, none⟩) 128 (sh dur (i * 128))) := q2
  clear k2 q2
  have hi0 : (0 : Int) ≤ (i : Int) := by omega
  have hin : (i : Int) < (n : Int) := by omega
  go_enter Tryd.func65, Tryd.ntmps65
  go_wp2
  go_loopw [6] (fun u wr => ∃ z : Int, u = .int .i64 z ∧ -1 ≤ z ∧ z < m ∧ wr = w ∧ Hid (∀ j : Nat, z < j → j < m → tf j ≠ i)) (fun u _ => (intOf u + 1).toNat)
  case atStart => exact ⟨(m : Int) - 1, rfl, by omega, by omega, rfl, fun j h1 h2 => by omega⟩
  case round =>
    obtain ⟨z, rfl, hz1, hz2, rfl, hno⟩ := hrel
    by_cases hz : z = -1
    · subst hz
      have HS : Hid (seen dur m tf ld i = sh dur (i * 128)) := if_pos (lastAt_none (fun j hj => hno.out j (by omega) hj))
      clear hno
      go_wp2_with fail
      refine (copiedR (some ⟨rb i, 0, none⟩) 128 (rc i) (sh dur (i * 128)) wr (by omega) HFq.out (fun h => by cases h)).mono ?_
      rintro e w1 ⟨v, rfl, ho, hb⟩
      go_wp2
      go_ret2
      exact ⟨v, rfl, by rw [HS.out]; exact ho, hb⟩
    · obtain ⟨t, ht⟩ := Int.eq_ofNat_of_zero_le (show 0 ≤ z by omega)
      subst ht
      have htm : t < m := by omega
      have ht0 : (0 : Int) ≤ (t : Int) := by omega
      obtain ⟨_, _, _, hall⟩ := (HL.out wr (Below.refl _ _)).looks
      obtain ⟨gP, rfl, p1, p2, p3⟩ := hall t htm
      have HP3 : Hid (From wr (some ⟨pb t, 0, none⟩) 128 (sh ld (t * 128))) := p3
      clear hall p3
      by_cases e : tf t = i
      · have ei : (tf t : Int) = (i : Int) := by omega
        have HS : Hid (seen dur m tf ld i = sh ld (t * 128)) := by
          have h9 := lastAt_from htm e (fun j h1 h2 => hno.out j (by omega) h2)
          refine (if_neg (by omega)).trans ?_
          rw [h9, show (t : Int) + 1 - 1 = (t : Int) by omega, Int.toNat_natCast]
        rw [ei] at p1
        clear hno e ei
        go_wp2_with fail
        refine (copiedR (some ⟨pb t, 0, none⟩) 128 (pc t) (sh ld (t * 128)) wr (by omega) HP3.out (fun h => by cases h)).mono ?_
        rintro e w1 ⟨v, rfl, ho, hb⟩
        go_wp2
        go_ret2
        exact ⟨v, rfl, by rw [HS.out]; exact ho, hb⟩
      · have HN : Hid (∀ j : Nat, (t : Int) - 1 < j → j < m → tf j ≠ i) := fun j h1 h2 => by
          by_cases e2 : j = t
          · subst e2; exact e
          · exact hno.out j (by omega) h2
        have ei : ¬ (tf t : Int) = (i : Int) := by omega
        clear hno
        go_wp2
        go_roundw
        case rel => exact ⟨(t : Int) - 1, by go_num, by omega, by omega, trivial, HN⟩
        case measure => simp [intOf]
end Go.Proofs.YtmjoklppibfdmaaDoor

namespace Go.Proofs.YtmjoklppibfdmaaDoor
open Go.RowKit
set_option linter.unusedVariables false

/-- The cells of k slices of 128 bytes: the j-th at (qb j, 0). -/
def rowL (k : Nat) (qb qc : Nat → Nat) : List Value := (List.range k).map fun j => .slice (some ⟨qb j, 0, none⟩) 128 (qc j)
theorem rowL_length (k : Nat) (qb qc : Nat → Nat) : (rowL k qb qc).length = k := by simp [rowL]
theorem rowL_snoc (k : Nat) (qb qc : Nat → Nat) (g c : Nat) : rowL k qb qc ++ [.slice (some ⟨g, 0, none⟩) 128 c] = rowL (k + 1) (fun j => if j = k then g else qb j) (fun j => if j = k then c else qc j) := by
  unfold rowL
  rw [List.range_succ, List.map_append]
  congr 1
  · apply List.map_congr_left
    intro j hj
    have := List.mem_range.1 hj
    have e : j ≠ k := by omega
    simp only [if_neg e]
  · simp
theorem rowL_get (k : Nat) (qb qc : Nat → Nat) (j : Nat) (hj : j < k) : (rowL k qb qc)[j]? = some (.slice (some ⟨qb j, 0, none⟩) 128 (qc j)) := by
  simp [rowL, hj]
/-- k slices of bytes of one's own, each with bytes of its own: f's. -/
structure Mine (w : World) (B : Nat) (v : Value) (k : Nat) (qb qc : Nat → Nat) (f : Nat → Nat → Int) : Prop where
  own : w.ownsRow B 34 1 v k (rowL k qb qc)
  from_ : ∀ j, j < k → From w (some ⟨qb j, 0, none⟩) 128 (f j)
  ty : ∀ j, j < k → ∃ cur, w.heap[qb j]? = some (.cells cur 5 (0, 0))
  ge : ∀ j, j < k → B ≤ qb j
theorem Mine.lt {w : World} {B : Nat} {v : Value} {k : Nat} {qb qc : Nat → Nat} {f : Nat → Nat → Int} (h : Mine w B v k qb qc f) (j : Nat) (hj : j < k) : qb j < w.heap.size := by
  obtain ⟨cur, hc⟩ := h.ty j hj
  exact (Array.getElem?_eq_some_iff.1 hc).1
/-- One more. -/
theorem Mine.snoc {w w1 w2 : World} {B : Nat} {v v2 : Value} {k : Nat} {qb qc : Nat → Nat} {f : Nat → Nat → Int} (h : Mine w B v k qb qc f) (hb1 : Below w.heap.size w w1) (hB : B ≤ w.heap.size) {g c1 : Nat} (ho : Own w1 w.heap.size (.slice (some ⟨g, 0, none⟩) 128 c1) (lst (f k) 128)) (o : Obj)
    (h2 : w2.ownsRow B 34 1 v2 (k + 1) (rowL k qb qc ++ [.slice (some ⟨g, 0, none⟩) 128 c1])) (hg2 : (w1.alloc o).grownBy w2 v.ownBlock) : Mine w2 B v2 (k + 1) (fun j => if j = k then g else qb j) (fun j => if j = k then c1 else qc j) f := by
  obtain ⟨hg0, hgl⟩ := World.ownsRow.lt ho g rfl
  have hs1 := hb1.size
  have hsz : (w1.alloc o).heap.size = w1.heap.size + 1 := by simp
  have bl : ∀ q, q < w1.heap.size → v.ownBlock ≠ some q → w2.heap[q]? = w1.heap[q]? := fun q hq hn => by rw [hg2.block q (by omega) (fun e => hn e.symm), heap_alloc_past _ _ _ hq]
  have hvl : ∀ q, v.ownBlock = some q → q < w.heap.size := fun q hq => (World.ownsRow.lt h.own q hq).2
  have nq : ∀ j, j < k → v.ownBlock ≠ some (qb j) := fun j hj e => by
    obtain ⟨c3, k3⟩ := row_block h.own e
    obtain ⟨c4, k4⟩ := h.ty j hj
    exact two_types k4 k3 (by decide) rfl
  have keepF : ∀ (b : Nat) (ff : Nat → Int), b < w1.heap.size → v.ownBlock ≠ some b → From w1 (some ⟨b, 0, none⟩) 128 ff → From w2 (some ⟨b, 0, none⟩) 128 ff := fun b ff hb hn hff => by
    rcases hff with ⟨e, _⟩ | ⟨x, e, hh⟩
    · cases e
    · cases e
      refine .inr ⟨_, rfl, fun j hj => ?_⟩
      have h9 := hh j hj
      rw [Addr.add_lit] at h9 ⊢
      rw [World.cell?_of_block (w := w1) (bl b hb hn)]
      exact h9
  have ng : v.ownBlock ≠ some g := fun e => by have := hvl g e; omega
  refine ⟨by rw [← rowL_snoc]; exact h2, fun j hj => ?_, fun j hj => ?_, fun j hj => ?_⟩
  · by_cases e : j = k
    · rw [if_pos e, e]; exact keepF g _ hgl ng (from_own ho)
    · rw [if_neg e]
      exact keepF _ _ (by have := h.lt j (by omega); omega) (nq j (by omega)) ((h.from_ j (by omega)).below hb1 (Nat.le_refl _))
  · by_cases e : j = k
    · rw [if_pos e, bl g hgl ng]; exact row_block ho rfl
    · rw [if_neg e, bl _ (by have := h.lt j (by omega); omega) (nq j (by omega)), hb1.block _ (h.lt j (by omega))]
      exact h.ty j (by omega)
  · show B ≤ (if j = k then g else qb j)
    split
    · omega
    · exact h.ge j (by omega)
theorem Mine.rws {w : World} {B g c k : Nat} {qb qc : Nat → Nat} {f : Nat → Nat → Int} (h : Mine w B (.slice (some ⟨g, 0, none⟩) k c) k qb qc f) : Rws w g k qb (fun _ => 0) qc f :=
  ⟨fun i hi => by rw [World.ownsRow.cellAt h.own i (by omega)]; exact rowL_get k qb qc i hi, fun i hi => by
    obtain ⟨cur, hc⟩ := row_block h.own rfl
    exact cells_free hc i, h.from_⟩

set_option maxRecDepth 100000 in
set_option maxHeartbeats 2000000 in
theorem rkImage (X n m : Nat) (F : Nat → Prop) (dur : Nat → Int) (tf : Nat → Nat) (ld : Nat → Int) (w : World) (h : Rk w X F n dur m tf ld) :
    Calls Tryd.prog 70 #[.pointer (some ⟨X, 0, none⟩)] w fun e w' => ∃ g c qb qc, e = .returned (.slice (some ⟨g, 0, none⟩) n c) ∧ Rws w' g n qb (fun _ => 0) qc (fun i => sh dur (i * 128)) ∧ w.heap.size ≤ g ∧ g < w'.heap.size ∧ (∀ i, i < n → w.heap.size ≤ qb i) ∧ Below w.heap.size w w' := by
  obtain ⟨gB, cB, vP, rb, rc, pb, pc, h⟩ := h
  obtain ⟨i0, hi0, hz0, hz1, hz2⟩ := info_parts infoB
  have k0 : w.cell? ⟨X, 0, none⟩ = some (.slice (some ⟨gB, 0, none⟩) n cB) := cells_at h.hX 0
  have hn1 := h.n1
  have hn2 := h.n2
  have HL : Hid (∀ wq, Below w.heap.size w wq → ∀ i, i < n → wq.cell? ⟨gB, i, none⟩ = some (.slice (some ⟨rb i, 0, none⟩) 128 (rc i)) ∧ From wq (some ⟨rb i, 0, none⟩) 128 (sh dur (i * 128))) := fun wq hq i hi =>
    have h9 := (h.part (Part.ofBelow (F := fun _ => False) hq) (fun _ _ h => h)).rows
    ⟨h9.cell i hi, h9.from_ i hi⟩
  clear h
  have H0 : Hid (Mine w w.heap.size (.slice none 0 0) 0 (fun _ => 0) (fun _ => 0) (fun i => sh dur (i * 128))) := ⟨World.ownsRow_nil _ _ _ _, fun j hj => by omega, fun j hj => by omega, fun j hj => by omega⟩
  go_enter Tryd.func70, Tryd.ntmps70
  go_wp2
  go_loopw [3, 11] (fun out i wr => ∃ (k : Nat) (qb qc : Nat → Nat), k ≤ n ∧ i = .int .i64 (k : Int) ∧ Mine wr w.heap.size out k qb qc (fun i => sh dur (i * 128)) ∧ Below w.heap.size w wr) (fun _ i _ => n - (intOf i).toNat)
  case atStart => exact ⟨0, _, _, Nat.zero_le _, rfl, H0.out, Below.refl _ _⟩
  case round =>
    obtain ⟨k, qb, qc, hk, rfl, hmi, hb⟩ := hrel
    have hs := hb.size
    have HMi : Hid (Mine wr w.heap.size u3 k qb qc (fun i => sh dur (i * 128))) := hmi
    clear hmi
    by_cases hlt : k < n
    · have hlt' : (k : Int) < (n : Int) := by omega
      have hk0 : (0 : Int) ≤ (k : Int) := by omega
      obtain ⟨p1, p2⟩ := HL.out wr hb k hlt
      have HF : Hid (From wr (some ⟨rb k, 0, none⟩) 128 (sh dur (k * 128))) := p2
      clear p2
      go_wp2_with fail
      refine (copiedR (some ⟨rb k, 0, none⟩) 128 (rc k) (sh dur (k * 128)) wr (by omega) HF.out (fun h => by cases h)).mono ?_
      rintro e w1 ⟨v1, rfl, ho1, hb1⟩
      obtain ⟨g, c1, rfl, ho1, _, _, _, _⟩ := own_some ho1 (by omega)
      have HO1 : Hid (Own w1 wr.heap.size (.slice (some ⟨g, 0, none⟩) 128 c1) (lst (sh dur (k * 128)) 128)) := ho1
      have hs1 := hb1.size
      have HRw : Hid ((w1.alloc (.cells #[.slice (some ⟨g, 0, none⟩) 128 c1] 34)).ownsRow w.heap.size 34 1 u3 k (rowL k qb qc)) := World.ownsRow.alloc (Part.row (F := fun _ => False) (Part.ofBelow hb1) HMi.out.own (fun _ _ h => h)) _
      have HCe : Hid ((w1.alloc (.cells #[.slice (some ⟨g, 0, none⟩) 128 c1] 34)).cell? ⟨w1.heap.size, 0, none⟩ = some (.slice (some ⟨g, 0, none⟩) 128 c1)) := (by rw [World.cell?_alloc_at _ _ _ _ rfl]; rfl : (w1.alloc (.cells #[.slice (some ⟨g, 0, none⟩) 128 c1] 34)).cell? ⟨w1.heap.size, 0, none⟩ = some (.slice (some ⟨g, 0, none⟩) 128 c1))
      have HSz : Hid (w.heap.size ≤ (w1.alloc (.cells #[.slice (some ⟨g, 0, none⟩) 128 c1] 34)).heap.size) := (by simp; omega : w.heap.size ≤ (w1.alloc (.cells #[.slice (some ⟨g, 0, none⟩) 128 c1] 34)).heap.size)
      have HNx : Hid (∀ v2 w2, w2.ownsRow w.heap.size 34 1 v2 (k + 1) (rowL k qb qc ++ [.slice (some ⟨g, 0, none⟩) 128 c1]) → (w1.alloc (.cells #[.slice (some ⟨g, 0, none⟩) 128 c1] 34)).grownBy w2 u3.ownBlock → Mine w2 w.heap.size v2 (k + 1) (fun j => if j = k then g else qb j) (fun j => if j = k then c1 else qc j) (fun i => sh dur (i * 128)) ∧ Below w.heap.size w w2) := fun v2 w2 h2 hg2 =>
        ⟨HMi.out.snoc hb1 hs HO1.out _ h2 hg2, ((hb.trans (hb1.mono hs)).alloc (by omega) _).grown hg2 HSz.out (fun q hq => (World.ownsRow.lt HMi.out.own q hq).1)⟩
      clear ho1 hb1
      go_wp2_with (at_builtin; refine wpList_append_own _ rfl _ _ 22 rfl w.heap.size 34 i0 (.slice none 0 0) 1 24 Tryd.underlying22 hi0 hz0 hz1 hz2 rfl (by decide) u3 k (rowL k qb qc) rfl HRw.out ⟨w1.heap.size, 0, none⟩ 1 1 [.slice (some ⟨g, 0, none⟩) 128 c1] rfl rfl ?q1 ?q2 ?q3 ?q4 HSz.out ?_)
      case q1 =>
        intro j u hj
        have hj0 : j = 0 := by
          have := (List.getElem?_eq_some_iff.1 hj).1
          simp at this
          omega
        subst hj0
        rw [Addr.add_lit, Nat.zero_add, HCe.out]
        simpa using hj
      case q2 =>
        intro u hu
        simp at hu
        rw [hu]
        rfl
      case q3 => unfold maxLen; omega
      case q4 => omega
      intro v2 w2 ho2 hg2 _
      obtain ⟨z1, z2⟩ := HNx.out v2 w2 ho2 hg2
      have HZ : Hid (Mine w2 w.heap.size v2 (k + 1) (fun j => if j = k then g else qb j) (fun j => if j = k then c1 else qc j) (fun i => sh dur (i * 128))) := z1
      clear z1 ho2 hg2
      go_wp2
      go_roundw
      case rel => exact ⟨k + 1, _, _, by omega, by go_num, HZ.out, z2⟩
      case measure => simp [intOf]; omega
    · obtain rfl : k = n := by omega
      obtain ⟨g, c, e, hgl, _⟩ := row_some HMi.out.own (by omega)
      subst e
      go_wp2
      go_ret
      exact ⟨g, c, qb, qc, rfl, HMi.out.rws, (World.ownsRow.lt HMi.out.own g rfl).1, hgl, HMi.out.ge, hb⟩
end Go.Proofs.YtmjoklppibfdmaaDoor
