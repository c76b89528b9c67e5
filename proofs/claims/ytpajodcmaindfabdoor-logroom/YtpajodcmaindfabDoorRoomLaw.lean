/-
  The law LogRoom: the walk.
-/
import Derived.Test.YtpajodcmaindfabDoorRoom2
namespace Go.Proofs.YtpajodcmaindfabDoor
open Go.RowKit
set_option linter.unusedVariables false

/-- The rows of a slice of slices of bytes: row r's n r bytes are f r's. -/
def Rws (w : World) (a0 : Option Addr) (N : Nat) (A : Nat → Option Addr) (n c : Nat → Nat) (f : Nat → Nat → Int) : Prop :=
  N = 0 ∨ ∃ b off, a0 = some ⟨b, off, none⟩ ∧ ∀ r, r < N → w.cell? ⟨b, off + r, none⟩ = some (.slice (A r) (n r) (c r)) ∧ From w (A r) (n r) (f r) ∧ (A r = none → c r = 0)

theorem sectors_of (z : Int) : ∃ s : Nat, 1 ≤ s ∧ s ≤ 6 ∧ Hid (wrap64 (1 + wrap64 ((IntKind.u64.wrap z).tmod 6)) = (s : Int)) := by
  have h0 : 0 ≤ IntKind.u64.wrap z := by rw [IntKind.wrap_u64]; omega
  refine ⟨1 + ((IntKind.u64.wrap z) % 6).toNat, by omega, by omega, ?_⟩
  show wrap64 (1 + wrap64 ((IntKind.u64.wrap z).tmod 6)) = _
  have e1 : wrap64 ((IntKind.u64.wrap z) % 6) = (IntKind.u64.wrap z) % 6 := Wm.w64 _ (by omega)
  rw [Int.tmod_eq_emod_of_nonneg h0, e1, Wm.w64 _ (by omega)]
  omega

theorem Rws.at {w w' : World} {a0 : Option Addr} {N : Nat} {A : Nat → Option Addr} {n c : Nat → Nat} {f : Nat → Nat → Int} (h : Rws w a0 N A n c f) (hb : Below w.heap.size w w') (r : Nat) (hr : r < N) :
    ∃ b off, a0 = some ⟨b, off, none⟩ ∧ w'.cell? ⟨b, off + r, none⟩ = some (.slice (A r) (n r) (c r)) ∧ From w' (A r) (n r) (f r) ∧ (A r = none → c r = 0) := by
  rcases h with h | ⟨b, off, rfl, h⟩
  · omega
  · obtain ⟨h1, h2, h3⟩ := h r hr
    refine ⟨b, off, rfl, ?_, h2.below hb (Nat.le_refl _), h3⟩
    rw [hb.cell (World.block_lt_of_cell? w _ h1)]
    exact h1

set_option maxRecDepth 100000 in
set_option maxHeartbeats 4000000 in
theorem room_walk (z : Int) (a0 : Option Addr) (N C : Nat) (hN : N ≤ 9223372036854775807) (A : Nat → Option Addr) (n c : Nat → Nat) (f : Nat → Nat → Int) (w : World) (hr : Rws w a0 N A n c f) :
    Calls Tryd.prog 3 #[.int .i64 z, .slice a0 N C] w fun e w' => e = .returned (.bool true) ∧ Below w.heap.size w w' := by
  obtain ⟨s, s1, s2, HS⟩ := sectors_of z
  have HR : Hid (Rws w a0 N A n c f) := hr
  clear hr
  go_enter Tryd.func3, Tryd.ntmps3
  go_wp2_with fail
  rw [HS.out]
  refine (newDisk s s1 (by omega) w).mono ?_
  rintro e w2 ⟨D, rfl, hF, hD1, hD2, hb2⟩
  have HF : Hid (Fresh w2 D s) := hF
  have hs2 := hb2.size
  have hO0 := openZ D s 0 s s1 (by omega) (by omega) w2 hF
  have hO : Hid (Calls Tryd.prog 5 #[.pointer (some ⟨D, 0, none⟩), .int .i64 0, .int .i64 (s : Int)] w2 fun e w' => ∃ L T, e = .returned (.tuple #[.pointer (some ⟨L, 0, none⟩), .slice none 0 0, .int .i64 0]) ∧ LogAt w' L T D 0 s 1 0 0 0 (.slice none 0 0) ∧ w2.heap.size ≤ L ∧ w2.heap.size ≤ T ∧ L ≠ T ∧ Below w2.heap.size w2 w' ∧ ∀ i, w'.frozen? ⟨T, i, none⟩ = false) := hO0
  clear hF hO0 hD1 hD2
  go_wp2_with fail
  refine (dSectors D s w2 HF.out).mono ?_
  rintro e w3 ⟨rfl, hw⟩
  obtain rfl : w2 = w3 := hw.symm
  clear hw
  go_wp2_with fail
  refine hO.out.mono ?_
  rintro e w3 ⟨L, T, rfl, hL, q1, q2, q3, hb3, hfz⟩
  have hbA : Below w.heap.size w w3 := hb2.trans (hb3.mono hs2)
  have hsA := hbA.size
  obtain ⟨l0, l1, l2, l3, l4, l5, l6, l7, l8⟩ := hL
  have hLlt := World.block_lt_of_cell? w3 _ l0
  have hTlt := World.block_lt_of_cell? w3 _ l1
  have hLg : Hid (Lg w3 L T w3.heap.size s 0 0) := ⟨l0, l3, l5, l7, ⟨_, [], l8, ⟨rfl, .inl ⟨rfl, rfl⟩⟩, rfl⟩, hfz, hLlt, hTlt, q3, Nat.le_refl _, by omega, by omega, by omega⟩
  have HBA : Hid (Below w.heap.size w w3) := hbA
  have q4 : w.heap.size ≤ min L T := by omega
  clear hO HF hb2 hb3 l0 l1 l2 l3 l4 l5 l6 l7 l8 hfz hbA
  go_wp2_with fail
  go_loopw [39] (fun i wr => ∃ k tl last : Nat, k ≤ N ∧ i = .int .i64 (k : Int) ∧ Lg wr L T w3.heap.size s tl last ∧ Below w.heap.size w wr) (fun i _ => N - (intOf i).toNat)
  case atStart => exact ⟨0, 0, 0, Nat.zero_le _, rfl, hLg.out, HBA.out⟩
  case round =>
    obtain ⟨k, tl, last, hk, rfl, hlg, hbr⟩ := hrel
    have hroom := hlg.room
    have HL : Hid (Lg wr L T w3.heap.size s tl last) := hlg
    have HBr : Hid (Below w.heap.size w wr) := hbr
    clear hlg hbr hLg HBA
    by_cases hlt : k < N
    · have hlt' : (k : Int) < (N : Int) := by omega
      obtain ⟨b, off, ha, hcell, hfr, hc0⟩ := HR.out.at HBr.out k hlt
      subst ha
      have HFr : Hid (∀ w', Below w3.heap.size (wr) w' → From w' (A k) (n k) (f k)) := fun w' hb => by
        obtain ⟨_, _, _, _, h9, _⟩ := HR.out.at (HBr.out.trans (hb.mono hsA)) k hlt
        exact h9
      generalize A k = ak at *
      generalize n k = nk at *
      generalize c k = ck at *
      generalize f k = fk at *
      clear HR hfr
      by_cases n0 : nk = 0
      · subst n0
        obtain ⟨R, hR⟩ : ∃ R, s * 112 - tl = R := ⟨_, rfl⟩
        have HRm : Hid (s * 112 - tl = R) := hR
        clear hR
        go_wp2_with fail
        refine (lgRoom HL.out).mono ?_
        rintro e wa ⟨rfl, q, rfl⟩
        rw [HRm.out]
        have HL1 : Hid (Lg (wr.drewN q) L T w3.heap.size s tl last) := HL.out.below (blw_drewN q (Below.refl _ _)) (Nat.le_refl _)
        have HB1 : Hid (Below w.heap.size w (wr.drewN q)) := blw_drewN q HBr.out
        go_wp2_with fail
        refine (append_empty L T w3.heap.size s tl last ck ak _ HL1.out).mono ?_
        rintro e wb ⟨rfl, hw⟩
        subst hw
        go_wp2_with fail
        refine (lgRoom HL1.out).mono ?_
        rintro e wb ⟨rfl, q2, rfl⟩
        rw [HRm.out]
        go_wp2
        go_roundw
        case rel => exact ⟨k + 1, tl, last, by omega, by go_num, HL.out.below (blw_drewN _ (Below.refl _ _)) (Nat.le_refl _), blw_drewN _ HBr.out⟩
        case measure => simp [intOf]; omega
      · by_cases n1 : 2000 < nk
        · have g1 : (0 : Int) < (nk : Int) := by omega
          have g2 : (127 : Int) < (nk : Int) := by omega
          have g3 : ¬ (nk : Int) ≤ 2000 := by omega
          obtain ⟨R, hR⟩ : ∃ R, s * 112 - tl = R := ⟨_, rfl⟩
          have HRm : Hid (s * 112 - tl = R) := hR
          clear hR
          go_wp2_with fail
          refine (lgRoom HL.out).mono ?_
          rintro e wa ⟨rfl, q, rfl⟩
          rw [HRm.out]
          have HL1 : Hid (Lg (wr.drewN q) L T w3.heap.size s tl last) := HL.out.below (blw_drewN q (Below.refl _ _)) (Nat.le_refl _)
          have HB1 : Hid (Below w.heap.size w (wr.drewN q)) := blw_drewN q HBr.out
          go_wp2_with fail
          refine (append_long L T w3.heap.size s tl last nk ck ak _ HL1.out n1).mono ?_
          rintro e wb ⟨rfl, hw⟩
          subst hw
          go_wp2_with fail
          refine (lgRoom HL1.out).mono ?_
          rintro e wb ⟨rfl, q2, rfl⟩
          rw [HRm.out]
          go_wp2
          go_roundw
          case rel => exact ⟨k + 1, tl, last, by omega, by go_num, HL.out.below (blw_drewN _ (Below.refl _ _)) (Nat.le_refl _), blw_drewN _ HBr.out⟩
          case measure => simp [intOf]; omega
        · by_cases sm : nk < 128
          · have hln : (putB nk).length = 1 := putB_lt (by omega)
            have g1 : (0 : Int) < (nk : Int) := by omega
            have g2 : ¬ (127 : Int) < (nk : Int) := by omega
            have g3 : (nk : Int) ≤ 2000 := by omega
            obtain ⟨R, hR⟩ : ∃ R, s * 112 - tl = R := ⟨_, rfl⟩
            have HRm : Hid (s * 112 - tl = R) := hR
            by_cases fit : 1 + nk ≤ R
            · obtain ⟨R2, hR2⟩ : ∃ R2, s * 112 - (tl + 1 + nk) = R2 := ⟨_, rfl⟩
              have HR2 : Hid (s * 112 - (tl + 1 + nk) = R2) := hR2
              have hRR : R = R2 + nk + 1 := by omega
              have g4 : (nk : Int) + 1 ≤ (R : Int) := by omega
              have g5 : (R : Int) - ((nk : Int) + 1) = (R2 : Int) := by omega
              have hRb : R ≤ 1000 := by omega
              have hRc : R2 ≤ 1000 := by omega
              clear hRR
              have HA : Hid (∀ q, Calls Tryd.prog 8 #[.pointer (some ⟨L, 0, none⟩), .slice ak nk ck] (wr.drewN q) fun e w' => e = .returned (.tuple #[.int .i64 ((last + 1 : Nat) : Int), .int .i64 0]) ∧ Lg w' L T w3.heap.size s (tl + 1 + nk) (last + 1) ∧ Below (min L T) (wr.drewN q) w') := fun q => by
                have h9 := append_ok L T w3.heap.size s tl last nk ck ak fk (wr.drewN q) (HL.out.below (blw_drewN q (Below.refl _ _)) (Nat.le_refl _)) (by omega) (by omega) (by rw [hln]; omega) (fun w' hb => HFr.out w' ((blw_drewN q (Below.refl _ wr)).trans hb)) hc0
                rw [hln] at h9
                exact h9
              clear hR hR2 hln HFr
              go_wp2_with fail
              refine (lgRoom HL.out).mono ?_
              rintro e wa ⟨rfl, q, rfl⟩
              rw [HRm.out]
              go_wp2_with fail
              refine (HA.out q).mono ?_
              rintro e wb ⟨rfl, hlg2, hb2⟩
              have HL2 : Hid (Lg wb L T w3.heap.size s (tl + 1 + nk) (last + 1)) := hlg2
              have HB2 : Hid (Below w.heap.size w wb) := (blw_drewN q HBr.out).trans (hb2.mono q4)
              clear hlg2 hb2
              go_wp2_with fail
              refine (lgRoom HL2.out).mono ?_
              rintro e wc ⟨rfl, q2, rfl⟩
              rw [HR2.out]
              have HL3 : Hid (Lg (wb.drewN q2) L T w3.heap.size s (tl + 1 + nk) (last + 1)) := HL2.out.below (blw_drewN q2 (Below.refl _ _)) (Nat.le_refl _)
              go_wp2_with fail
              refine (lgLast HL3.out).mono ?_
              rintro e wd ⟨rfl, hw⟩
              subst hw
              go_wp2
              go_roundw
              case rel => exact ⟨k + 1, _, _, by omega, by go_num, HL3.out, blw_drewN _ HB2.out⟩
              case measure => simp [intOf]; omega
            · have g4 : ¬ (nk : Int) + 1 ≤ (R : Int) := by omega
              have HA : Hid (∀ q, Calls Tryd.prog 8 #[.pointer (some ⟨L, 0, none⟩), .slice ak nk ck] (wr.drewN q) fun e w' => e = .returned (.tuple #[.int .i64 0, .int .i64 4]) ∧ Lg w' L T w3.heap.size s tl last ∧ Below (wr.drewN q).heap.size (wr.drewN q) w') := fun q =>
                append_full L T w3.heap.size s tl last nk ck ak (wr.drewN q) (HL.out.below (blw_drewN q (Below.refl _ _)) (Nat.le_refl _)) (by omega) (by omega) (by rw [hln]; omega)
              clear hR hln HFr
              go_wp2_with fail
              refine (lgRoom HL.out).mono ?_
              rintro e wa ⟨rfl, q, rfl⟩
              rw [HRm.out]
              go_wp2_with fail
              refine (HA.out q).mono ?_
              rintro e wb ⟨rfl, hlg2, hb2⟩
              have HL2 : Hid (Lg wb L T w3.heap.size s tl last) := hlg2
              have HB2 : Hid (Below w.heap.size w wb) := (blw_drewN q HBr.out).trans (hb2.mono HBr.out.size)
              clear hlg2 hb2
              go_wp2_with fail
              refine (lgRoom HL2.out).mono ?_
              rintro e wc ⟨rfl, q2, rfl⟩
              rw [HRm.out]
              go_wp2
              go_roundw
              case rel => exact ⟨k + 1, tl, last, by omega, by go_num, HL2.out.below (blw_drewN _ (Below.refl _ _)) (Nat.le_refl _), blw_drewN _ HB2.out⟩
              case measure => simp [intOf]; omega
          · have hln : (putB nk).length = 2 := putB_ge (by omega) (by omega)
            have g1 : (0 : Int) < (nk : Int) := by omega
            have g2 : (127 : Int) < (nk : Int) := by omega
            have g3 : (nk : Int) ≤ 2000 := by omega
            obtain ⟨R, hR⟩ : ∃ R, s * 112 - tl = R := ⟨_, rfl⟩
            have HRm : Hid (s * 112 - tl = R) := hR
            by_cases fit : 2 + nk ≤ R
            · obtain ⟨R2, hR2⟩ : ∃ R2, s * 112 - (tl + 2 + nk) = R2 := ⟨_, rfl⟩
              have HR2 : Hid (s * 112 - (tl + 2 + nk) = R2) := hR2
              have hRR : R = R2 + nk + 2 := by omega
              have g4 : (nk : Int) + 1 + 1 ≤ (R : Int) := by omega
              have g5 : (R : Int) - ((nk : Int) + 1 + 1) = (R2 : Int) := by omega
              have hRb : R ≤ 1000 := by omega
              have hRc : R2 ≤ 1000 := by omega
              clear hRR
              have HA : Hid (∀ q, Calls Tryd.prog 8 #[.pointer (some ⟨L, 0, none⟩), .slice ak nk ck] (wr.drewN q) fun e w' => e = .returned (.tuple #[.int .i64 ((last + 1 : Nat) : Int), .int .i64 0]) ∧ Lg w' L T w3.heap.size s (tl + 2 + nk) (last + 1) ∧ Below (min L T) (wr.drewN q) w') := fun q => by
                have h9 := append_ok L T w3.heap.size s tl last nk ck ak fk (wr.drewN q) (HL.out.below (blw_drewN q (Below.refl _ _)) (Nat.le_refl _)) (by omega) (by omega) (by rw [hln]; omega) (fun w' hb => HFr.out w' ((blw_drewN q (Below.refl _ wr)).trans hb)) hc0
                rw [hln] at h9
                exact h9
              clear hR hR2 hln HFr
              go_wp2_with fail
              refine (lgRoom HL.out).mono ?_
              rintro e wa ⟨rfl, q, rfl⟩
              rw [HRm.out]
              go_wp2_with fail
              refine (HA.out q).mono ?_
              rintro e wb ⟨rfl, hlg2, hb2⟩
              have HL2 : Hid (Lg wb L T w3.heap.size s (tl + 2 + nk) (last + 1)) := hlg2
              have HB2 : Hid (Below w.heap.size w wb) := (blw_drewN q HBr.out).trans (hb2.mono q4)
              clear hlg2 hb2
              go_wp2_with fail
              refine (lgRoom HL2.out).mono ?_
              rintro e wc ⟨rfl, q2, rfl⟩
              rw [HR2.out]
              have HL3 : Hid (Lg (wb.drewN q2) L T w3.heap.size s (tl + 2 + nk) (last + 1)) := HL2.out.below (blw_drewN q2 (Below.refl _ _)) (Nat.le_refl _)
              go_wp2_with fail
              refine (lgLast HL3.out).mono ?_
              rintro e wd ⟨rfl, hw⟩
              subst hw
              go_wp2
              go_roundw
              case rel => exact ⟨k + 1, _, _, by omega, by go_num, HL3.out, blw_drewN _ HB2.out⟩
              case measure => simp [intOf]; omega
            · have g4 : ¬ (nk : Int) + 1 + 1 ≤ (R : Int) := by omega
              have HA : Hid (∀ q, Calls Tryd.prog 8 #[.pointer (some ⟨L, 0, none⟩), .slice ak nk ck] (wr.drewN q) fun e w' => e = .returned (.tuple #[.int .i64 0, .int .i64 4]) ∧ Lg w' L T w3.heap.size s tl last ∧ Below (wr.drewN q).heap.size (wr.drewN q) w') := fun q =>
                append_full L T w3.heap.size s tl last nk ck ak (wr.drewN q) (HL.out.below (blw_drewN q (Below.refl _ _)) (Nat.le_refl _)) (by omega) (by omega) (by rw [hln]; omega)
              clear hR hln HFr
              go_wp2_with fail
              refine (lgRoom HL.out).mono ?_
              rintro e wa ⟨rfl, q, rfl⟩
              rw [HRm.out]
              go_wp2_with fail
              refine (HA.out q).mono ?_
              rintro e wb ⟨rfl, hlg2, hb2⟩
              have HL2 : Hid (Lg wb L T w3.heap.size s tl last) := hlg2
              have HB2 : Hid (Below w.heap.size w wb) := (blw_drewN q HBr.out).trans (hb2.mono HBr.out.size)
              clear hlg2 hb2
              go_wp2_with fail
              refine (lgRoom HL2.out).mono ?_
              rintro e wc ⟨rfl, q2, rfl⟩
              rw [HRm.out]
              go_wp2
              go_roundw
              case rel => exact ⟨k + 1, tl, last, by omega, by go_num, HL2.out.below (blw_drewN _ (Below.refl _ _)) (Nat.le_refl _), blw_drewN _ HB2.out⟩
              case measure => simp [intOf]; omega
    · obtain rfl : k = N := by omega
      obtain ⟨R, hR⟩ : ∃ R, s * 112 - tl = R := ⟨_, rfl⟩
      have HRm : Hid (s * 112 - tl = R) := hR
      clear hR
      go_wp2_with fail
      refine (lgRoom HL.out).mono ?_
      rintro e wa ⟨rfl, q, rfl⟩
      rw [HRm.out]
      have g9 : (0 : Int) ≤ (R : Int) := by omega
      go_wp2
      go_ret
      exact ⟨rfl, blw_drewN q HBr.out⟩
end Go.Proofs.YtpajodcmaindfabDoor
