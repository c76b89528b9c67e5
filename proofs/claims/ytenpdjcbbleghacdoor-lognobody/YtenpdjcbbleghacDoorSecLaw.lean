/-
  The law PageSectors: the walk. Conditions: at most 2^47 bytes each; the table is laid.
-/
import Derived.Test.YtenpdjcbbleghacDoorDec3
import Derived.Test.YtenpdjcbbleghacDoorSpoil
namespace Go.Proofs.YtenpdjcbbleghacDoor
open Go.RowKit
set_option linter.unusedVariables false

theorem From.lt {w : World} {ao : Option Addr} {n : Nat} {f : Nat → Int} (h : From w ao n f) {x : Addr} (hx : ao = some x) (hn : 0 < n) : x.block < w.heap.size := by
  rcases h with ⟨h1, _⟩ | ⟨y, h1, h2⟩
  · rw [h1] at hx; cases hx
  · rw [h1] at hx
    cases hx
    have := World.block_lt_of_cell? w _ (h2 0 hn)
    rw [Addr.add_zero'] at this
    exact this

set_option maxRecDepth 100000 in
set_option maxHeartbeats 2000000 in
theorem sec_walk (a0 b0 : Option Addr) (n c m d : Nat) (z : Int) (f g : Nat → Int) (w : World) (hn : n ≤ 140737488355328) (hm : m ≤ 140737488355328) (hf : From w a0 n f) (hg : From w b0 m g) (hmd : m ≤ d) (h1 : ∀ i, 0 ≤ f i ∧ f i ≤ 255) (h2 : ∀ i, 0 ≤ g i ∧ g i ≤ 255) (ht : Tab w) :
    Calls Tryd.prog 8 #[.int .i64 z, .slice a0 n c, .slice b0 m d] w fun e w' => e = .returned (.bool true) ∧ Below w.heap.size w w' := by
  obtain ⟨XS, hXS⟩ : ∃ XS, encL z n f = XS := ⟨_, rfl⟩
  obtain ⟨ER, hER⟩ : ∃ ER, encE z n = ER := ⟨_, rfl⟩
  obtain ⟨DN, hDN⟩ : ∃ DN, (dec g m).1 = DN := ⟨_, rfl⟩
  obtain ⟨PS, hPS⟩ : ∃ PS, (dec g m).2.1 = PS := ⟨_, rfl⟩
  obtain ⟨DE, hDE⟩ : ∃ DE, (dec g m).2.2 = DE := ⟨_, rfl⟩
  go_enter Tryd.func8, Tryd.ntmps8
  go_wp2_with fail
  refine (clone a0 n c f w hn hf).mono ?_
  rintro e w1 ⟨vG, rfl, hoG, hb1⟩
  obtain ⟨aG, cG, rfl, hfG, hcG, _, _, hgG⟩ := hoG.openF
  have hs1 := hb1.size
  have hg1 := hg.below hb1 (Nat.le_refl _)
  clear hoG
  go_wp2_with fail
  refine (clone b0 m d g w1 hm hg1).mono ?_
  rintro e w2 ⟨vS, rfl, hoS, hb2⟩
  obtain ⟨aS, cS, rfl, hfS, hcS, hcS1, _, hgS⟩ := hoS.openF
  have hs2 := hb2.size
  have hbA := hb1.trans (hb2.mono hs1)
  have hfG2 := hfG.below hb2 (Nat.le_refl _)
  clear hoS hg1 hfG
  go_wp2_with fail
  refine (wEncode aG n cG z f w2 hfG2 h1 (ht.below hbA (Nat.le_refl _))).mono ?_
  rintro e w3 ⟨vX, rfl, hoX, hb3⟩
  rw [hXS] at hoX
  rw [hER]
  have hs3 := hb3.size
  have hbB := hbA.trans (hb3.mono (by omega))
  have hfG3 := hfG2.below hb3 (Nat.le_refl _)
  have hfS3 := hfS.below hb3 (Nat.le_refl _)
  clear hfG2 hfS
  go_wp2_with fail
  refine (xEncode a0 n c z f w3 (hf.below hbB (Nat.le_refl _)) h1).mono ?_
  rintro e w4 ⟨vY, rfl, hoY, hb4⟩
  rw [hXS] at hoY
  rw [hER]
  have hs4 := hb4.size
  have hbC := hbB.trans (hb4.mono (by omega))
  have hfG4 := hfG3.below hb4 (Nat.le_refl _)
  have hfS4 := hfS3.below hb4 (Nat.le_refl _)
  have hoX4 := hoX.below hb4 (Nat.le_refl _)
  clear hfG3 hfS3 hoX
  go_wp2_with fail
  refine (wDecode aS m cS g w4 hfS4 hcS1 h2 (ht.below hbC (Nat.le_refl _))).mono ?_
  rintro e w5 ⟨vP, rfl, hoP, hb5⟩
  rw [hPS] at hoP
  rw [hDN, hDE]
  have hs5 := hb5.size
  have hbD := hbC.trans (hb5.mono (by omega))
  have hfG5 := hfG4.below hb5 (Nat.le_refl _)
  have hfS5 := hfS4.below hb5 (Nat.le_refl _)
  have hoX5 := hoX4.below hb5 (Nat.le_refl _)
  have hoY5 := hoY.below hb5 (Nat.le_refl _)
  clear hfG4 hfS4 hoX4 hoY
  go_wp2_with fail
  refine (xDecode b0 m d g w5 (hg.below hbD (Nat.le_refl _)) hmd h2).mono ?_
  rintro e w6 ⟨vQ, rfl, hoQ, hb6⟩
  rw [hPS] at hoQ
  rw [hDN, hDE]
  have hs6 := hb6.size
  have hbE := hbD.trans (hb6.mono (by omega))
  have hfG6 := hfG5.below hb6 (Nat.le_refl _)
  have hfS6 := hfS5.below hb6 (Nat.le_refl _)
  have hoX6 := hoX5.below hb6 (Nat.le_refl _)
  have hoY6 := hoY5.below hb6 (Nat.le_refl _)
  have hoP6 := hoP.below hb6 (Nat.le_refl _)
  have hf6 := hf.below hbE (Nat.le_refl _)
  have hg6 := hg.below hbE (Nat.le_refl _)
  obtain ⟨aX, cX, rfl, hfX, _⟩ := hoX6.open
  obtain ⟨aY, cY, rfl, hfY, _⟩ := hoY6.open
  obtain ⟨aP, cP, rfl, hfP, _, _, _, hgP⟩ := hoP6.open
  obtain ⟨aQ, cQ, rfl, hfQ, _⟩ := hoQ.open
  have Hend : Hid (∀ gP wr, w4.heap.size ≤ gP → Only gP w6 wr → From wr aG n f ∧ From wr a0 n f ∧ From wr aS m g ∧ From wr b0 m g ∧ Below w.heap.size w wr) := fun gP wr hgp ho => by
    refine ⟨hfG6.only ho fun x hx _ => ?_, hf6.only ho fun x hx h0 => ?_, hfS6.only ho fun x hx _ => ?_, hg6.only ho fun x hx h0 => ?_, hbE.trans (ho.below (by omega))⟩
    · obtain ⟨k, rfl, q1, q2⟩ := hgG x hx
      show k ≠ gP
      omega
    · have := hf.lt hx h0
      omega
    · obtain ⟨k, rfl, q1, q2⟩ := hgS x hx
      show k ≠ gP
      omega
    · have := hg.lt hx h0
      omega
  have HPw : Hid (Own w6 w4.heap.size (.slice aP PS.length cP) PS) := hoP6
  have HX : Hid (From w6 aX XS.length (fn XS)) := hfX
  have HY : Hid (From w6 aY XS.length (fn XS)) := hfY
  have HP : Hid (From w6 aP PS.length (fn PS)) := hfP
  have HQ : Hid (From w6 aQ PS.length (fn PS)) := hfQ
  have HgP : Hid (∀ x, aP = some x → ∃ k, x = ⟨k, 0, none⟩ ∧ w4.heap.size ≤ k ∧ k < w6.heap.size) := hgP
  clear hfX hfY hfP hfQ hoX6 hoY6 hoP6 hoQ hoP hoX5 hoY5 hfG6 hfS6 hf6 hg6 hf hg hb1 hb2 hb3 hb4 hb5 hb6 hbA hbB hbC hbD hbE hgG hgS hgP hXS hER hDN hPS hDE ht h1 h2
  go_wp2_with fail
  refine (equal_yes aX aY _ cX _ cY (fn XS) (fn XS) w6 HX.out HY.out rfl).mono ?_
  rintro e w7 ⟨rfl, hw⟩
  obtain rfl : w6 = w7 := hw.symm
  clear hw HX HY
  go_wp2_with fail
  refine (equal_yes aP aQ _ cP _ cQ (fn PS) (fn PS) w6 HP.out HQ.out rfl).mono ?_
  rintro e w7 ⟨rfl, hw⟩
  obtain rfl : w6 = w7 := hw.symm
  clear hw HQ
  by_cases h0 : PS.length = 0
  · obtain ⟨e1, e2, e3, e4, e5⟩ := Hend.out w4.heap.size w6 (Nat.le_refl _) (Only.refl _ _)
    rw [h0]
    have HE1 : Hid (From w6 aG n f) := e1
    have HE2 : Hid (From w6 a0 n f) := e2
    have HE3 : Hid (From w6 aS m g) := e3
    have HE4 : Hid (From w6 b0 m g) := e4
    have HE5 : Hid (Below w.heap.size w w6) := e5
    clear Hend e1 e2 e3 e4 e5 HPw HP HgP
    go_wp2_with fail
    refine wp_loop_rounds 1 ?_
    rw [rounds_succ]
    go_wp2_with fail
    refine (equal_yes aG a0 n cG n c f f w6 HE1.out HE2.out rfl).mono ?_
    rintro e w9 ⟨rfl, hw⟩
    obtain rfl : w6 = w9 := hw.symm
    clear hw
    go_wp2_with fail
    refine (equal_yes aS b0 m cS m d g g w6 HE3.out HE4.out rfl).mono ?_
    rintro e w10 ⟨rfl, rfl⟩
    go_wp2
    go_ret
    exact ⟨rfl, HE5.out⟩
  · have hPg : ∃ gP, aP = some ⟨gP, 0, none⟩ ∧ w4.heap.size ≤ gP ∧ gP < w6.heap.size := by
      rcases HP.out with ⟨_, e⟩ | ⟨x, e, _⟩
      · exact absurd e h0
      · obtain ⟨k, rfl, q1, q2⟩ := HgP.out x e
        exact ⟨k, e, q1, q2⟩
    obtain ⟨gP, rfl, hgp1, hgp2⟩ := hPg
    have hsp : Spoilt gP PS.length w6 w6 := by
      refine ⟨Only.refl _ _, fun j hj => ⟨fn PS j, ?_⟩, fun j hj => ?_⟩
      · exact own_at HPw.out j hj rfl
      · exact HPw.out.frozenAt j
    have hpl : PS.length ≤ 9223372036854775807 := by
      rcases HPw.out.2 with ⟨_, e⟩ | ⟨g', cap', cur, e, _, _, e1, e2, _⟩
      · omega
      · unfold maxLen at e2; omega
    clear HPw HP HgP
    generalize PS.length = xl at *
    go_wp2_with fail
    go_loopw [75] (fun i wr => ∃ k : Nat, k ≤ xl ∧ i = .int .i64 k ∧ Spoilt gP xl w6 wr) (fun i _ => xl - (intOf i).toNat)
    case atStart => exact ⟨0, Nat.zero_le _, rfl, hsp⟩
    case round =>
      clear hsp
      obtain ⟨k, hk, rfl, hs⟩ := hrel
      by_cases hlt : k < xl
      · obtain ⟨v, hv⟩ := hs.cells k hlt
        have hfz := hs.free k hlt
        have hnext := hs.set k hlt (bits .xor .u8 v 255)
        have hlt' : (k : Int) < (xl : Int) := by omega
        go_wp2
        go_roundw
        case rel => exact ⟨k + 1, by omega, by go_num, hnext⟩
        case measure => simp [intOf]; omega
      · obtain ⟨e1, e2, e3, e4, e5⟩ := Hend.out gP wr hgp1 hs.only
        have HE1 : Hid (From wr aG n f) := e1
        have HE2 : Hid (From wr a0 n f) := e2
        have HE3 : Hid (From wr aS m g) := e3
        have HE4 : Hid (From wr b0 m g) := e4
        have HE5 : Hid (Below w.heap.size w wr) := e5
        clear Hend hs e1 e2 e3 e4 e5
        go_wp2_with fail
        refine (equal_yes aG a0 n cG n c f f wr HE1.out HE2.out rfl).mono ?_
        rintro e w9 ⟨rfl, hw⟩
        obtain rfl : wr = w9 := hw.symm
        clear hw
        go_wp2_with fail
        refine (equal_yes aS b0 m cS m d g g wr HE3.out HE4.out rfl).mono ?_
        rintro e w10 ⟨rfl, rfl⟩
        go_wp2
        go_ret
        exact ⟨rfl, HE5.out⟩
end Go.Proofs.YtenpdjcbbleghacDoor
