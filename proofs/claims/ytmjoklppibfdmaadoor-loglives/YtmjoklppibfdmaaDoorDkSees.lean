/-
  Contracts of a disk's calls that only look, over Dk: Read, Image, Pending.
-/
import Derived.Test.YtmjoklppibfdmaaDoorDkWrite
import Derived.Deep.DeepCutAuto
namespace Go.Proofs.YtmjoklppibfdmaaDoor
open Go.RowKit
set_option linter.unusedVariables false

/-- The n rows at g are slices of 128 bytes: the i-th those at (b i, o i), f i's. -/
structure Rws (w : World) (g n : Nat) (b o c : Nat → Nat) (f : Nat → Nat → Int) : Prop where
  cell : ∀ i, i < n → w.cell? ⟨g, i, none⟩ = some (.slice (some ⟨b i, o i, none⟩) 128 (c i))
  free : ∀ i, i < n → w.frozen? ⟨g, i, none⟩ = false
  from_ : ∀ i, i < n → From w (some ⟨b i, o i, none⟩) 128 (f i)
theorem Rws.part {w w' : World} {F : Nat → Prop} {g n : Nat} {b o c : Nat → Nat} {f : Nat → Nat → Int} (h : Rws w g n b o c f) (hp : Part F w w') (hg : ¬ F g) (hl : g < w.heap.size) (hb : ∀ i, i < n → ¬ F (b i)) : Rws w' g n b o c f :=
  ⟨fun i hi => hp.cell hg (h.cell i hi), fun i hi => by rw [World.frozen?_of_block (w := w) (hp.block g hl hg)]; exact h.free i hi, fun i hi => hp.from (h.from_ i hi) (hb i hi)⟩

/-- What a read of sector i tells. -/
def seen (dur : Nat → Int) (m : Nat) (tf : Nat → Nat) (ld : Nat → Int) (i : Nat) : Nat → Int := if lastAt tf m i = 0 then sh dur (i * 128) else sh ld ((lastAt tf m i - 1).toNat * 128)
theorem lastAt_bd (tf : Nat → Nat) (i : Nat) : ∀ m, 0 ≤ lastAt tf m i ∧ lastAt tf m i ≤ m
  | 0 => by simp [lastAt]
  | m + 1 => by
    have := lastAt_bd tf i m
    rw [lastAt]
    split <;> omega

set_option maxRecDepth 100000 in
set_option maxHeartbeats 1000000 in
theorem dkRead (D i n m : Nat) (F : Nat → Prop) (dur : Nat → Int) (tf : Nat → Nat) (ld : Nat → Int) (w : World) (h : Dk w D F n dur m tf ld) (hi : i < n) (hm : m ≤ 549755813887) :
    Calls Tryd.prog 101 #[.pointer (some ⟨D, 0, none⟩), .int .i64 (i : Int)] w fun e w' => ∃ v', e = .returned (.tuple #[v', .int .i64 0]) ∧ Own w' w.heap.size v' (lst (seen dur m tf ld i) 128) ∧ Below w.heap.size w w' := by
  obtain ⟨S, Bd, Bl, cD, cL, vT, vL, h⟩ := h
  obtain ⟨d0, s0, s1, s2, s3, _⟩ := heads h.hD h.hS
  have kl := OwnI.cellF h.ol i hi
  have hbd := lastAt_bd tf i m
  have hi' : (i : Int) < (n : Int) := by omega
  have hi2 : (0 : Int) ≤ (i : Int) := by omega
  by_cases h0 : lastAt tf m i = 0
  · have HZ : Hid (From w (some ⟨Bd, i * 128, none⟩) 128 (sh dur (i * 128))) := .inr ⟨_, rfl, fun j hj => by
      rw [Addr.add_lit]
      exact h.ob.cellF (i * 128 + j) (by omega)⟩
    have HS : Hid (seen dur m tf ld i = sh dur (i * 128)) := if_pos h0
    have hC : (i + 1) * 128 ≤ cD ∧ cD ≤ 9223372036854775807 := by
      obtain ⟨a1, a2, _⟩ := h.ob
      omega
    rw [h0] at kl
    clear h
    go_enter Tryd.func101, Tryd.ntmps101
    go_wp2_with fail
    refine (dMissing D S w d0).mono ?_
    rintro e w1 ⟨rfl, hw⟩
    obtain rfl : w = w1 := hw.symm
    clear hw
    go_wp2_with fail
    refine (dHas S n i (some ⟨Bl, 0, none⟩) cL hi w s1).mono ?_
    rintro e w1 ⟨rfl, hw⟩
    obtain rfl : w = w1 := hw.symm
    clear hw
    go_wp2_with fail
    refine (cut_at Bd (n * 128) cD i hC.1 hC.2 w).mono ?_
    rintro e w1 ⟨rfl, hw⟩
    obtain rfl : w = w1 := hw.symm
    clear hw
    go_wp2_with fail
    refine (clone (some ⟨Bd, i * 128, none⟩) 128 128 (sh dur (i * 128)) w (by omega) HZ.out).mono ?_
    rintro e w1 ⟨v, rfl, ho, hb⟩
    go_wp2
    go_ret2
    exact ⟨v, rfl, by rw [HS.out]; exact ho, hb⟩
  · obtain ⟨p, hp⟩ := Int.eq_ofNat_of_zero_le (show 0 ≤ lastAt tf m i - 1 by omega)
    have hpm : p < m := by omega
    have e1 : lastAt tf m i = (p : Int) + 1 := by omega
    obtain ⟨gL, cV, rfl, _, hcV1, hcV2⟩ := row_some h.oo (by rw [lst_length]; omega)
    rw [lst_length] at s3 hcV1
    have ho3 := h.oo
    rw [lst_length] at ho3
    have HZ : Hid (From w (some ⟨gL, p * 128, none⟩) 128 (sh ld (p * 128))) := .inr ⟨_, rfl, fun j hj => by
      rw [Addr.add_lit]
      exact Own.cellF ho3 (p * 128 + j) (by omega)⟩
    have HS : Hid (seen dur m tf ld i = sh ld (p * 128)) := by
      refine (if_neg h0).trans ?_
      rw [hp, Int.toNat_natCast]
    have hC : (p + 1) * 128 ≤ cV ∧ cV ≤ 9223372036854775807 := ⟨by omega, hcV2⟩
    rw [e1] at kl
    have q1 : (0 : Int) < (p : Int) + 1 := by omega
    have q2 : p ≤ 549755813887 := by omega
    clear h ho3 h0 hp hbd e1
    go_enter Tryd.func101, Tryd.ntmps101
    go_wp2_with fail
    refine (dMissing D S w d0).mono ?_
    rintro e w1 ⟨rfl, hw⟩
    obtain rfl : w = w1 := hw.symm
    clear hw
    go_wp2_with fail
    refine (dHas S n i (some ⟨Bl, 0, none⟩) cL hi w s1).mono ?_
    rintro e w1 ⟨rfl, hw⟩
    obtain rfl : w = w1 := hw.symm
    clear hw
    go_wp2_with fail
    refine (cut_at gL (m * 128) cV p hC.1 hC.2 w).mono ?_
    rintro e w1 ⟨rfl, hw⟩
    obtain rfl : w = w1 := hw.symm
    clear hw
    go_wp2_with fail
    refine (clone (some ⟨gL, p * 128, none⟩) 128 128 (sh ld (p * 128)) w (by omega) HZ.out).mono ?_
    rintro e w1 ⟨v, rfl, ho, hb⟩
    go_wp2
    go_ret2
    exact ⟨v, rfl, by rw [HS.out]; exact ho, hb⟩

theorem infoB : (Tryd.prog.info? 34).map (fun i => (i.zero, i.size, i.bytes)) = some (some (.slice none 0 0), 1, 24) := by kernel_rfl

set_option maxRecDepth 100000 in
set_option maxHeartbeats 1000000 in
theorem dkImage (D n m : Nat) (F : Nat → Prop) (dur : Nat → Int) (tf : Nat → Nat) (ld : Nat → Int) (w : World) (h : Dk w D F n dur m tf ld) :
    Calls Tryd.prog 22 #[.pointer (some ⟨D, 0, none⟩)] w fun e w' => ∃ g b, e = .returned (.slice (some ⟨g, 0, none⟩) n n) ∧ Rws w' g n (fun _ => b) (fun i => i * 128) (fun _ => 128) (fun i => sh dur (i * 128)) ∧ w.heap.size ≤ g ∧ g < w'.heap.size ∧ w.heap.size ≤ b ∧ b < w'.heap.size ∧ Below w.heap.size w w' := by
  have HD : Hid (Dk w D F n dur m tf ld) := h
  obtain ⟨S, Bd, Bl, cD, cL, vT, vL, h⟩ := h
  obtain ⟨d0, s0, s1, s2, s3, _⟩ := heads h.hD h.hS
  have n1 := h.n1
  have n2 := h.n2
  have HZ : Hid (From w (some ⟨Bd, 0, none⟩) (n * 128) dur) := .inr ⟨_, rfl, fun j hj => by
    rw [Addr.add_lit, Nat.zero_add]
    exact h.ob.cellF j hj⟩
  obtain ⟨MS, hMS⟩ : ∃ MS, madeCells #[.slice none 0 0] n = MS := ⟨_, rfl⟩
  have hms : ∀ w : World, (Instr.makeSlice 22 (.int .i64 (n : Int)) (.int .i64 (n : Int))).run Tryd.prog w = .ok (.slice (some ⟨w.heap.size, 0, none⟩) n n) (w.alloc (.cells MS 34)) := fun w => by
    rw [← hMS]
    exact run_make_row' (P := Tryd.prog) 22 34 (.slice none 0 0) 24 Tryd.underlying22 infoB rfl .i64 .i64 n (by omega) (by omega) w
  have HMS : Hid (∀ i, i < n → MS[i]? = some (.slice none 0 0)) := fun i hi => by
    rw [← hMS]
    simp [madeCells, hi]
    rw [Nat.mod_one]
    rfl
  clear hMS h
  go_enter Tryd.func22, Tryd.ntmps22
  go_wp2_with fail
  refine (dMissing D S w d0).mono ?_
  rintro e w1 ⟨rfl, hw⟩
  obtain rfl : w = w1 := hw.symm
  clear hw
  go_wp2_with fail
  refine (clone (some ⟨Bd, 0, none⟩) (n * 128) cD dur w (by omega) HZ.out).mono ?_
  rintro e w1 ⟨v, rfl, ho, hb⟩
  have hs1 := hb.size
  obtain ⟨S', Bd', Bl', cD', cL', vT', vL', h'⟩ := HD.out.below hb
  obtain ⟨d0', s0', s1', s2', s3', _⟩ := heads h'.hD h'.hS
  clear h'
  obtain ⟨b, c, rfl, ho, hbw, hbl, hc1, hc2'⟩ := own_some ho (by omega)
  have HO : Hid (Own w1 w.heap.size (.slice (some ⟨b, 0, none⟩) (n * 128) c) (lst dur (n * 128))) := ho
  obtain ⟨o, hO⟩ : ∃ o, Obj.cells MS 34 = o := ⟨_, rfl⟩
  have HC : Hid (∀ j, j < n → (w1.alloc o).cell? ⟨w1.heap.size, j, none⟩ = some (if j < 0 then .slice (some ⟨b, j * 128, none⟩) 128 128 else .slice none 0 0) ∧ (w1.alloc o).frozen? ⟨w1.heap.size, j, none⟩ = false) := fun j hj => by
    rw [if_neg (by omega), ← hO]
    exact ⟨by rw [World.cell?_alloc_at _ _ _ _ rfl]; exact HMS.out j hj, by simp only [World.frozen?_alloc_new]⟩
  have HEnd : Hid (∀ wr : World, Only w1.heap.size (w1.alloc o) wr → (∀ j, j < n → wr.cell? ⟨w1.heap.size, j, none⟩ = some (if j < n then .slice (some ⟨b, j * 128, none⟩) 128 128 else .slice none 0 0) ∧ wr.frozen? ⟨w1.heap.size, j, none⟩ = false) →
      Rws wr w1.heap.size n (fun _ => b) (fun i => i * 128) (fun _ => 128) (fun i => sh dur (i * 128)) ∧ w1.heap.size < wr.heap.size ∧ b < wr.heap.size ∧ Below w.heap.size w wr) := fun wr hon hcs => by
    have hsz : wr.heap.size = w1.heap.size + 1 := by rw [hon.size]; simp
    refine ⟨⟨fun i hi => ?_, fun i hi => (hcs i hi).2, fun i hi => .inr ⟨_, rfl, fun j hj => ?_⟩⟩, by omega, by omega, ?_⟩
    · rw [(hcs i hi).1, if_pos hi]
    · rw [Addr.add_lit, hon.cell (p := ⟨b, i * 128 + j, none⟩) (by show b ≠ w1.heap.size; omega), World.cell?_alloc_past _ _ _ hbl]
      exact HO.out.cellF (i * 128 + j) (by omega)
    · exact (hb.alloc hs1 o).trans (hon.below hs1)
  clear ho
  go_wp2_with fail
  refine (dSectors D S' n cL' (some ⟨Bl', 0, none⟩) w1 d0' s1').mono ?_
  rintro e w2 ⟨rfl, hw⟩
  obtain rfl : w1 = w2 := hw.symm
  clear hw
  go_wp2
  try rw [hO]
  go_loopw [21] (fun i wr => ∃ k : Nat, k ≤ n ∧ i = .int .i64 (k : Int) ∧ Only w1.heap.size (w1.alloc o) wr ∧ (∀ j, j < n → wr.cell? ⟨w1.heap.size, j, none⟩ = some (if j < k then .slice (some ⟨b, j * 128, none⟩) 128 128 else .slice none 0 0) ∧ wr.frozen? ⟨w1.heap.size, j, none⟩ = false)) (fun i _ => n - (intOf i).toNat)
  case atStart => exact ⟨0, Nat.zero_le _, rfl, Only.refl _ _, HC.out⟩
  case round =>
    obtain ⟨k, hk, rfl, hon, hcs⟩ := hrel
    by_cases hlt : k < n
    · have hlt' : (k : Int) < (n : Int) := by omega
      have hk0 : (0 : Int) ≤ (k : Int) := by omega
      have hcell := (hcs k hlt).1
      rw [if_neg (by omega)] at hcell
      have hfz := (hcs k hlt).2
      have HN : Hid (∀ j, j < n → (wr.setCell ⟨w1.heap.size, k, none⟩ (.slice (some ⟨b, k * 128, none⟩) 128 128)).cell? ⟨w1.heap.size, j, none⟩ = some (if j < k + 1 then .slice (some ⟨b, j * 128, none⟩) 128 128 else .slice none 0 0) ∧ (wr.setCell ⟨w1.heap.size, k, none⟩ (.slice (some ⟨b, k * 128, none⟩) 128 128)).frozen? ⟨w1.heap.size, j, none⟩ = false) := fun j hj => by
        refine ⟨?_, by rw [World.frozen?_setCell]; exact (hcs j hj).2⟩
        by_cases e : j = k
        · subst e
          rw [World.cell?_setCell_same _ _ _ (hcs j hj).1, if_pos (by omega)]
        · rw [World.cell?_setCell_other _ _ _ _ (fun e2 => e (congrArg Addr.off e2).symm), (hcs j hj).1]
          by_cases e2 : j < k
          · rw [if_pos e2, if_pos (by omega)]
          · rw [if_neg e2, if_neg (by omega)]
      have HO2 : Hid (Only w1.heap.size (w1.alloc o) (wr.setCell ⟨w1.heap.size, k, none⟩ (.slice (some ⟨b, k * 128, none⟩) 128 128))) := hon.setCell (p := ⟨w1.heap.size, k, none⟩) rfl _
      clear hcs hon
      go_wp2_with fail
      refine (cut_at b (n * 128) c k (by omega) hc2' wr).mono ?_
      rintro e w2 ⟨rfl, hw⟩
      obtain rfl : wr = w2 := hw.symm
      clear hw
      go_wp2
      go_roundw
      case rel => exact ⟨k + 1, by omega, by go_num, HO2.out, HN.out⟩
      case measure => simp [intOf]; omega
    · obtain rfl : k = n := by omega
      obtain ⟨p1, p2, p3, p4⟩ := HEnd.out wr hon hcs
      go_wp2
      go_ret
      exact ⟨_, b, rfl, p1, hs1, p2, hbw, p3, p4⟩
end Go.Proofs.YtmjoklppibfdmaaDoor
