/-
  Contracts of a disk's chosen, Flush and Crash over Dk.
-/
import Derived.Test.YtmjoklppibfdmaaDoorDkCrash
namespace Go.Proofs.YtmjoklppibfdmaaDoor
open Go.RowKit
set_option linter.unusedVariables false

/-- The slice's n numbers are f's. -/
def FromI (w : World) (a0 : Option Addr) (n : Nat) (f : Nat → Int) : Prop := ∀ i, i < n → ∃ b off, a0 = some ⟨b, off, none⟩ ∧ w.cell? ⟨b, off + i, none⟩ = some (.int .i64 (f i))
/-- The first k numbers name places of m, none twice. -/
def Good (kf : Nat → Int) (m k : Nat) : Prop := ∀ j, j < k → 0 ≤ kf j ∧ kf j < m ∧ ∀ i, i < j → kf i ≠ kf j
/-- Whether one of the first k numbers is p. -/
def named (kf : Nat → Int) : Nat → Nat → Bool
  | 0, _ => false
  | k + 1, p => if (p : Int) = kf k then true else named kf k p
theorem named_iff {kf : Nat → Int} {p : Nat} : ∀ {k : Nat}, named kf k p = true ↔ ∃ j, j < k ∧ kf j = p
  | 0 => by simp [named]
  | k + 1 => by
    rw [named]
    by_cases e : (p : Int) = kf k
    · rw [if_pos e]
      exact ⟨fun _ => ⟨k, by omega, e.symm⟩, fun _ => rfl⟩
    · rw [if_neg e, named_iff]
      constructor
      · rintro ⟨j, h1, h2⟩; exact ⟨j, by omega, h2⟩
      · rintro ⟨j, h1, h2⟩
        refine ⟨j, ?_, h2⟩
        by_cases e2 : j = k
        · subst e2; exact absurd h2.symm e
        · omega

theorem info4 : (Tryd.prog.info? 4).map (fun i => (i.zero, i.size, i.bytes)) = some (some (.bool false), 1, 1) := by kernel_rfl
/-- The m truth values at g. -/
def Bls (w : World) (g m : Nat) (st : Nat → Bool) : Prop := ∀ p, p < m → w.cell? ⟨g, p, none⟩ = some (.bool (st p)) ∧ w.frozen? ⟨g, p, none⟩ = false

set_option maxRecDepth 100000 in
set_option maxHeartbeats 1000000 in
theorem dkChosen (S m : Nat) (aT : Option Addr) (cT : Nat) (ak : Option Addr) (K ck : Nat) (kf : Nat → Int) (w : World) (s2 : w.cell? ⟨S, 2, none⟩ = some (.slice aT m cT)) (hm : m ≤ 549755813887) (hK : K ≤ 9223372036854775807) (hk : FromI w ak K kf) (hr : ∀ j, j < K → -9223372036854775808 ≤ kf j ∧ kf j ≤ 9223372036854775807) :
    Calls Tryd.prog 52 #[.pointer (some ⟨S, 2, none⟩), .slice ak K ck] w fun e w' => Below w.heap.size w w' ∧ ((Good kf m K ∧ ∃ g, e = .returned (.tuple #[.slice (some ⟨g, 0, none⟩) m m, .bool true]) ∧ Bls w' g m (named kf K) ∧ w.heap.size ≤ g ∧ g < w'.heap.size) ∨ (¬ Good kf m K ∧ e = .returned (.tuple #[.slice none 0 0, .bool false]))) := by
  obtain ⟨MS, hMS⟩ : ∃ MS, madeCells #[.bool false] m = MS := ⟨_, rfl⟩
  have hms : ∀ w : World, (Instr.makeSlice 95 (.int .i64 (m : Int)) (.int .i64 (m : Int))).run Tryd.prog w = .ok (.slice (some ⟨w.heap.size, 0, none⟩) m m) (w.alloc (.cells MS 4)) := fun w => by
    rw [← hMS]
    exact run_make_row' (P := Tryd.prog) 95 4 (.bool false) 1 Tryd.underlying95 info4 rfl .i64 .i64 m (by omega) (by omega) w
  have HMS : Hid (∀ i, i < m → MS[i]? = some (.bool false)) := fun i hi => by
    rw [← hMS]
    simp [madeCells, hi]
    rw [Nat.mod_one]
    rfl
  obtain ⟨o, hO⟩ : ∃ o, Obj.cells MS 4 = o := ⟨_, rfl⟩
  have H0 : Hid (Bls (w.alloc o) w.heap.size m (named kf 0)) := fun j hj => by
    rw [← hO]
    exact ⟨by rw [World.cell?_alloc_at _ _ _ _ rfl]; exact HMS.out j hj, by simp only [World.frozen?_alloc_new]⟩
  have HKr : Hid (∀ wr : World, Only w.heap.size (w.alloc o) wr → ∀ k, k < K → ∃ b off, ak = some ⟨b, off, none⟩ ∧ wr.cell? ⟨b, off + k, none⟩ = some (.int .i64 (kf k))) := fun wr hon k hlt => by
    obtain ⟨b, off, e, hc⟩ := hk k hlt
    have hb : b < w.heap.size := World.block_lt_of_cell? w _ hc
    refine ⟨b, off, e, ?_⟩
    rw [hon.cell (p := ⟨b, off + k, none⟩) (by show b ≠ w.heap.size; omega), World.cell?_alloc_past _ _ _ hb]
    exact hc
  have HBl : Hid (∀ wr : World, Only w.heap.size (w.alloc o) wr → Below w.heap.size w wr ∧ w.heap.size < wr.heap.size) := fun wr hon => by
    have hsz : wr.heap.size = w.heap.size + 1 := by rw [hon.size]; simp
    exact ⟨((Below.refl _ w).alloc (Nat.le_refl _) o).trans (hon.below (Nat.le_refl _)), by omega⟩
  have HR : Hid (∀ j, j < K → -9223372036854775808 ≤ kf j ∧ kf j ≤ 9223372036854775807) := hr
  clear hMS hr hk
  go_enter Tryd.func52, Tryd.ntmps52
  go_wp2
  try rw [hO]
  go_loopw [17] (fun i wr => ∃ k : Nat, k ≤ K ∧ i = .int .i64 (k : Int) ∧ Only w.heap.size (w.alloc o) wr ∧ Bls wr w.heap.size m (named kf k) ∧ Hid (Good kf m k)) (fun i _ => K - (intOf i).toNat)
  case atStart => exact ⟨0, Nat.zero_le _, rfl, Only.refl _ _, H0.out, fun j hj => by omega⟩
  case round =>
    obtain ⟨k, hkK, rfl, hon, hbl, hgd⟩ := hrel
    obtain ⟨hB, hlt0⟩ := HBl.out wr hon
    by_cases hlt : k < K
    · have hlt' : (k : Int) < (K : Int) := by omega
      have hk0 : (0 : Int) ≤ (k : Int) := by omega
      obtain ⟨b, off, rfl, hc⟩ := HKr.out wr hon k hlt
      obtain ⟨r1, r2⟩ := HR.out k hlt
      have HNo : Hid (¬ (0 ≤ kf k ∧ kf k < m ∧ ∀ i, i < k → kf i ≠ kf k) → ¬ Good kf m K) := fun h hg => h (hg k hlt)
      by_cases c1 : kf k < 0
      · have HF : Hid (¬ Good kf m K) := HNo.out (fun h => by omega)
        generalize kf k = z at *
        go_wp2
        go_ret2
        exact ⟨hB, .inr ⟨HF.out, rfl⟩⟩
      · by_cases c2 : (m : Int) ≤ kf k
        · have HF : Hid (¬ Good kf m K) := HNo.out (fun h => by omega)
          generalize kf k = z at *
          go_wp2
          go_ret2
          exact ⟨hB, .inr ⟨HF.out, rfl⟩⟩
        · obtain ⟨p, hp⟩ := Int.eq_ofNat_of_zero_le (show 0 ≤ kf k by omega)
          have hpm : p < m := by omega
          have hpm' : (p : Int) < (m : Int) := by omega
          have hpm2 : ¬ (m : Int) ≤ (p : Int) := by omega
          have hp0 : ¬ (p : Int) < 0 := by omega
          have hcell := (hbl p hpm).1
          have hfz := (hbl p hpm).2
          rw [hp] at hc
          cases hn : named kf k p with
          | true =>
            rw [hn] at hcell
            have HF : Hid (¬ Good kf m K) := HNo.out (fun h => by
              obtain ⟨j, j1, j2⟩ := named_iff.1 hn
              exact h.2.2 j j1 (by rw [j2, hp]))
            clear c1 c2 hp hbl hgd hn
            go_wp2
            go_ret2
            exact ⟨hB, .inr ⟨HF.out, rfl⟩⟩
          | false =>
            rw [hn] at hcell
            have HG : Hid (Good kf m (k + 1)) := fun j hj => by
              by_cases e : j = k
              · subst e
                refine ⟨by omega, by omega, fun i hi e2 => ?_⟩
                have : named kf j p = true := named_iff.2 ⟨i, hi, by rw [e2, hp]⟩
                rw [hn] at this
                cases this
              · exact hgd.out j (by omega)
            have HX : Hid (Only w.heap.size (w.alloc o) (wr.setCell ⟨w.heap.size, p, none⟩ (.bool true))) := hon.setCell (p := ⟨w.heap.size, p, none⟩) rfl _
            have HS : Hid (Bls (wr.setCell ⟨w.heap.size, p, none⟩ (.bool true)) w.heap.size m (named kf (k + 1))) := fun q hq => by
              refine ⟨?_, by rw [World.frozen?_setCell]; exact (hbl q hq).2⟩
              by_cases e : q = p
              · subst e
                rw [World.cell?_setCell_same _ _ _ (hbl q hq).1, named, if_pos hp.symm]
              · rw [World.cell?_setCell_other _ _ _ _ (fun e2 => e (congrArg Addr.off e2).symm), (hbl q hq).1, named, if_neg (by rw [hp]; omega)]
            clear c1 c2 hp hbl hgd hn hon
            go_wp2
            go_roundw
            case rel => exact ⟨k + 1, by omega, by go_num, HX.out, HS.out, HG⟩
            case measure => simp [intOf]; omega
    · obtain rfl : k = K := by omega
      have HG := hgd
      clear hgd
      go_wp2
      go_ret2
      exact ⟨hB, .inl ⟨HG.out, _, rfl, hbl, Nat.le_refl _, hlt0⟩⟩

theorem setl_by {dur : Nat → Int} {tf : Nat → Nat} {ld : Nat → Int} {st : Nat → Bool} (h1 : ∀ i, 0 ≤ dur i ∧ dur i ≤ 255) (h2 : ∀ i, 0 ≤ ld i ∧ ld i ≤ 255) : ∀ (k i : Nat), 0 ≤ setl dur tf ld st k i ∧ setl dur tf ld st k i ≤ 255
  | 0, i => h1 i
  | k + 1, i => by
    rw [setl]
    split
    · exact ov_byC (setl_by h1 h2 k) (sh_by h2 _) i
    · exact setl_by h1 h2 k i

set_option maxRecDepth 100000 in
set_option maxHeartbeats 1000000 in
theorem dkCrash_ok (D n m : Nat) (F : Nat → Prop) (dur : Nat → Int) (tf : Nat → Nat) (ld : Nat → Int) (ak : Option Addr) (K ck : Nat) (kf : Nat → Int) (w : World) (h : Dk w D F n dur m tf ld) (hm : m ≤ 549755813887) (hK : K ≤ 9223372036854775807) (hk : FromI w ak K kf) (hr : ∀ j, j < K → -9223372036854775808 ≤ kf j ∧ kf j ≤ 9223372036854775807) (hg : Good kf m K) :
    Calls Tryd.prog 18 #[.pointer (some ⟨D, 0, none⟩), .slice ak K ck] w fun e w' => e = .returned (.int .i64 0) ∧ Dk w' D F n (setl dur tf ld (named kf K) m) 0 tf ld ∧ Part F w w' := by
  obtain ⟨S, Bd, Bl, cD, cL, vT, vL, h⟩ := h
  obtain ⟨d0, s0, s1, s2, s3, _⟩ := heads h.hD h.hS
  obtain ⟨aT, cT, rfl⟩ := ownI_any h.ot
  have H : Hid (DkAt w D S Bd Bl cD cL (.slice aT m cT) vL F n dur m tf ld) := h
  have HC : Hid (Calls Tryd.prog 52 #[.pointer (some ⟨S, 2, none⟩), .slice ak K ck] w fun e w' => Below w.heap.size w w' ∧ ∃ g, e = .returned (.tuple #[.slice (some ⟨g, 0, none⟩) m m, .bool true]) ∧ Bls w' g m (named kf K) ∧ w.heap.size ≤ g ∧ g < w'.heap.size) := by
    refine (dkChosen S m aT cT ak K ck kf w s2 hm hK hk hr).mono ?_
    rintro e w' ⟨hb, ⟨_, g, h1, h2, h3, h4⟩ | ⟨h1, _⟩⟩
    · exact ⟨hb, g, h1, h2, h3, h4⟩
    · exact absurd hg h1
  clear h hk hr hg s0 s1 s3
  go_enter Tryd.func18, Tryd.ntmps18
  go_wp2_with fail
  refine (dMissing D S w d0).mono ?_
  rintro e w1 ⟨rfl, hw⟩
  obtain rfl : w = w1 := hw.symm
  clear hw
  go_wp2_with fail
  refine HC.out.mono ?_
  rintro e w1 ⟨hb, g, rfl, hbl, hg1, hg2⟩
  have hs1 := hb.size
  have h1 := H.out.part (Part.ofBelow (F := fun _ => False) hb) (fun _ _ h => h)
  obtain ⟨d0', s0', s1', s2', s3', _⟩ := heads h1.hD h1.hS
  have hBd : Bd < w.heap.size := H.out.lt _ H.out.FBd
  have HW : Hid (∀ wr : World, Part (fun k => k = Bd) w1 wr → ∀ p, p < m → wr.cell? ⟨g, p, none⟩ = some (.bool (named kf K p))) := fun wr hp p hpm => hp.cell (p := ⟨g, p, none⟩) (by show ¬ g = Bd; omega) (hbl p hpm).1
  have HE : Hid (∀ wr wf : World, Part (fun k => k = Bd) w1 wr → Part (fun k => k = S ∨ k = Bl) wr wf → Part F w wf) := fun wr wf q1 q2 =>
    ((Part.ofBelow (F := F) hb).trans q1 (fun i _ e => by rw [e]; exact H.out.FBd)).trans q2 (fun i _ e => e.elim (fun e => by rw [e]; exact H.out.FS) (fun e => by rw [e]; exact H.out.FBl))
  have H1 : Hid (DkAt w1 D S Bd Bl cD cL (.slice aT m cT) vL F n (setl dur tf ld (named kf K) 0) m tf ld) := h1
  clear h1 s0' s1' s3'
  go_wp2
  go_loopw [32] (fun i wr => ∃ k : Nat, k ≤ m ∧ i = .int .i64 (k : Int) ∧ DkAt wr D S Bd Bl cD cL (.slice aT m cT) vL F n (setl dur tf ld (named kf K) k) m tf ld ∧ Part (fun k => k = Bd) w1 wr) (fun i _ => m - (intOf i).toNat)
  case atStart => exact ⟨0, Nat.zero_le _, rfl, H1.out, Part.refl _ _⟩
  case round =>
    obtain ⟨k, hkm, rfl, hd, hp⟩ := hrel
    obtain ⟨e0, f0, f1, f2, f3, _⟩ := heads hd.hD hd.hS
    by_cases hlt : k < m
    · have hlt' : (k : Int) < (m : Int) := by omega
      have hk0 : (0 : Int) ≤ (k : Int) := by omega
      have hc := HW.out wr hp k hlt
      have HD : Hid (DkAt wr D S Bd Bl cD cL (.slice aT m cT) vL F n (setl dur tf ld (named kf K) k) m tf ld) := hd
      have HS : Hid (setl dur tf ld (named kf K) (k + 1) = if named kf K k then ov (setl dur tf ld (named kf K) k) (tf k * 128) 128 (sh ld (k * 128)) else setl dur tf ld (named kf K) k) := rfl
      clear hd f0 f1 f2 f3
      cases hn : named kf K k with
      | true =>
        rw [hn] at hc
        go_wp2_with fail
        refine (dkSettle k wr HD.out hlt hm).mono ?_
        rintro e w2 ⟨rfl, z1, z2⟩
        have HZ : Hid (DkAt w2 D S Bd Bl cD cL (.slice aT m cT) vL F n (setl dur tf ld (named kf K) (k + 1)) m tf ld) := by rw [HS.out, hn]; exact z1
        have hp2 := hp.trans z2 (fun _ _ e => e)
        clear hn HS z1 z2
        go_wp2
        go_roundw
        case rel => exact ⟨k + 1, by omega, by go_num, HZ.out, hp2⟩
        case measure => simp [intOf]; omega
      | false =>
        rw [hn] at hc
        have HZ : Hid (DkAt wr D S Bd Bl cD cL (.slice aT m cT) vL F n (setl dur tf ld (named kf K) (k + 1)) m tf ld) := by rw [HS.out, hn]; exact HD.out
        clear hn HS
        go_wp2
        go_roundw
        case rel => exact ⟨k + 1, by omega, by go_num, HZ.out, hp⟩
        case measure => simp [intOf]; omega
    · obtain rfl : k = m := by omega
      have HD : Hid (DkAt wr D S Bd Bl cD cL (.slice aT k cT) vL F n (setl dur tf ld (named kf K) k) k tf ld) := hd
      clear hd f0 f1 f2 f3
      go_wp2_with fail
      refine (dkForget wr HD.out hm).mono ?_
      rintro e w2 ⟨rfl, z1, z2⟩
      have HZ : Hid (DkAt w2 D S Bd Bl cD cL (.slice none 0 0) (.slice none 0 0) F n (setl dur tf ld (named kf K) k) 0 tf ld) := z1
      have hp2 := HE.out wr w2 hp z2
      clear z1 z2
      go_wp2
      go_ret
      exact ⟨rfl, ⟨S, Bd, Bl, cD, cL, _, _, HZ.out⟩, hp2⟩

set_option maxRecDepth 100000 in
set_option maxHeartbeats 1000000 in
theorem dkCrash_no (D n m : Nat) (F : Nat → Prop) (dur : Nat → Int) (tf : Nat → Nat) (ld : Nat → Int) (ak : Option Addr) (K ck : Nat) (kf : Nat → Int) (w : World) (h : Dk w D F n dur m tf ld) (hm : m ≤ 549755813887) (hK : K ≤ 9223372036854775807) (hk : FromI w ak K kf) (hr : ∀ j, j < K → -9223372036854775808 ≤ kf j ∧ kf j ≤ 9223372036854775807) (hg : ¬ Good kf m K) :
    Calls Tryd.prog 18 #[.pointer (some ⟨D, 0, none⟩), .slice ak K ck] w fun e w' => e = .returned (.int .i64 20) ∧ Below w.heap.size w w' := by
  obtain ⟨S, Bd, Bl, cD, cL, vT, vL, h⟩ := h
  obtain ⟨d0, s0, s1, s2, s3, _⟩ := heads h.hD h.hS
  obtain ⟨aT, cT, rfl⟩ := ownI_any h.ot
  have HC : Hid (Calls Tryd.prog 52 #[.pointer (some ⟨S, 2, none⟩), .slice ak K ck] w fun e w' => e = .returned (.tuple #[.slice none 0 0, .bool false]) ∧ Below w.heap.size w w') := by
    refine (dkChosen S m aT cT ak K ck kf w s2 hm hK hk hr).mono ?_
    rintro e w' ⟨hb, ⟨h1, _⟩ | ⟨_, h1⟩⟩
    · exact absurd h1 hg
    · exact ⟨h1, hb⟩
  clear h hk hr hg s0 s1 s3
  go_enter Tryd.func18, Tryd.ntmps18
  go_wp2_with fail
  refine (dMissing D S w d0).mono ?_
  rintro e w1 ⟨rfl, hw⟩
  obtain rfl : w = w1 := hw.symm
  clear hw
  go_wp2_with fail
  refine HC.out.mono ?_
  rintro e w1 ⟨rfl, hb⟩
  go_wp2
  go_ret
  exact ⟨rfl, hb⟩

set_option maxRecDepth 100000 in
set_option maxHeartbeats 1000000 in
theorem dkFlush (D n m : Nat) (F : Nat → Prop) (dur : Nat → Int) (tf : Nat → Nat) (ld : Nat → Int) (w : World) (h : Dk w D F n dur m tf ld) (hm : m ≤ 549755813887) :
    Calls Tryd.prog 81 #[.pointer (some ⟨D, 0, none⟩)] w fun e w' => e = .returned (.int .i64 0) ∧ Dk w' D F n (setl dur tf ld (fun _ => true) m) 0 tf ld ∧ Part F w w' := by
  obtain ⟨S, Bd, Bl, cD, cL, vT, vL, h⟩ := h
  obtain ⟨d0, s0, s1, s2, s3, _⟩ := heads h.hD h.hS
  obtain ⟨aT, cT, rfl⟩ := ownI_any h.ot
  have H : Hid (DkAt w D S Bd Bl cD cL (.slice aT m cT) vL F n dur m tf ld) := h
  have HE : Hid (∀ wr wf : World, Part (fun k => k = Bd) w wr → Part (fun k => k = S ∨ k = Bl) wr wf → Part F w wf) := fun wr wf q1 q2 =>
    (q1.mono (fun i _ e => by rw [e]; exact H.out.FBd)).trans q2 (fun i _ e => e.elim (fun e => by rw [e]; exact H.out.FS) (fun e => by rw [e]; exact H.out.FBl))
  have H1 : Hid (DkAt w D S Bd Bl cD cL (.slice aT m cT) vL F n (setl dur tf ld (fun _ => true) 0) m tf ld) := h
  clear h s0 s1 s3
  go_enter Tryd.func81, Tryd.ntmps81
  go_wp2_with fail
  refine (dMissing D S w d0).mono ?_
  rintro e w1 ⟨rfl, hw⟩
  obtain rfl : w = w1 := hw.symm
  clear hw
  go_wp2
  go_loopw [15] (fun i wr => ∃ k : Nat, k ≤ m ∧ i = .int .i64 (k : Int) ∧ DkAt wr D S Bd Bl cD cL (.slice aT m cT) vL F n (setl dur tf ld (fun _ => true) k) m tf ld ∧ Part (fun k => k = Bd) w wr) (fun i _ => m - (intOf i).toNat)
  case atStart => exact ⟨0, Nat.zero_le _, rfl, H1.out, Part.refl _ _⟩
  case round =>
    obtain ⟨k, hkm, rfl, hd, hp⟩ := hrel
    obtain ⟨e0, f0, f1, f2, f3, _⟩ := heads hd.hD hd.hS
    by_cases hlt : k < m
    · have hlt' : (k : Int) < (m : Int) := by omega
      have hk0 : (0 : Int) ≤ (k : Int) := by omega
      have HD : Hid (DkAt wr D S Bd Bl cD cL (.slice aT m cT) vL F n (setl dur tf ld (fun _ => true) k) m tf ld) := hd
      clear hd f0 f1 f2 f3
      go_wp2_with fail
      refine (dkSettle k wr HD.out hlt hm).mono ?_
      rintro e w2 ⟨rfl, z1, z2⟩
      have HZ : Hid (DkAt w2 D S Bd Bl cD cL (.slice aT m cT) vL F n (setl dur tf ld (fun _ => true) (k + 1)) m tf ld) := z1
      have hp2 := hp.trans z2 (fun _ _ e => e)
      clear z1 z2
      go_wp2
      go_roundw
      case rel => exact ⟨k + 1, by omega, by go_num, HZ.out, hp2⟩
      case measure => simp [intOf]; omega
    · obtain rfl : k = m := by omega
      have HD : Hid (DkAt wr D S Bd Bl cD cL (.slice aT k cT) vL F n (setl dur tf ld (fun _ => true) k) k tf ld) := hd
      clear hd f0 f1 f2 f3
      go_wp2_with fail
      refine (dkForget wr HD.out hm).mono ?_
      rintro e w2 ⟨rfl, z1, z2⟩
      have HZ : Hid (DkAt w2 D S Bd Bl cD cL (.slice none 0 0) (.slice none 0 0) F n (setl dur tf ld (fun _ => true) k) 0 tf ld) := z1
      have hp2 := HE.out wr w2 hp z2
      clear z1 z2
      go_wp2
      go_ret
      exact ⟨rfl, ⟨S, Bd, Bl, cD, cL, _, _, HZ.out⟩, hp2⟩
end Go.Proofs.YtmjoklppibfdmaaDoor
