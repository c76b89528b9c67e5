/-
  The law WirePuts: the walk. Condition: the bytes and the text together have at most 2^46.
-/
import Derived.Test.YtabnclgmplihkaaDoorPuts
import Derived.Test.YtabnclgmplihkaaDoorSpoil
namespace Go.Proofs.YtabnclgmplihkaaDoor
open Go.RowKit
set_option linter.unusedVariables false

theorem fn_lst (f : Nat → Int) (n i : Nat) (h : i < n) : fn (lst f n) i = f i := lst_getD f n i h
theorem Own.openF {w : World} {B : Nat} {v : Value} {f : Nat → Int} {n : Nat} (h : Own w B v (lst f n)) :
    ∃ ao c, v = .slice ao n c ∧ From w ao n f ∧ (ao = none → c = 0) ∧ n ≤ c ∧ c ≤ 9223372036854775807 ∧ (∀ g, ao = some g → ∃ k, g = ⟨k, 0, none⟩ ∧ B ≤ k ∧ k < w.heap.size) := by
  obtain ⟨ao, c, h1, h2, h3, h4, h5, h6⟩ := h.open
  rw [lst_length] at h1 h2 h4
  refine ⟨ao, c, h1, ?_, h3, h4, h5, h6⟩
  rcases h2 with h2 | ⟨x, k1, k2⟩
  · exact .inl h2
  · exact .inr ⟨x, k1, fun i hi => by rw [k2 i hi, fn_lst f n i hi]⟩
theorem From.only {w w' : World} {g : Nat} {ao : Option Addr} {n : Nat} {f : Nat → Int} (h : From w ao n f) (ho : Only g w w') (hne : ∀ x, ao = some x → 0 < n → x.block ≠ g) : From w' ao n f := by
  rcases h with h | ⟨x, h1, h2⟩
  · exact .inl h
  · refine .inr ⟨x, h1, fun i hi => ?_⟩
    have hb : (x.add i).block = x.block := by unfold Addr.add; split <;> rfl
    rw [ho.cell (p := x.add i) (by rw [hb]; exact hne x h1 (by omega))]
    exact h2 i hi
theorem Tab.below {w w' : World} {B : Nat} (h : Tab w) (hb : Below B w w') (hB : w.heap.size ≤ B) : Tab w' := fun i hi => by
  have := h i hi
  rw [hb.cell (p := ⟨0, i, none⟩) (Nat.lt_of_lt_of_le (World.block_lt_of_cell? w _ this) hB)]
  exact this
theorem Tab.lt {w : World} (h : Tab w) : 0 < w.heap.size := World.block_lt_of_cell? w ⟨0, 0, none⟩ (h 0 (by decide))

set_option maxRecDepth 100000 in
set_option maxHeartbeats 2000000 in
theorem puts_walk (a0 : Option Addr) (n c : Nat) (f : Nat → Int) (z : Int) (s : ByteArray) (w : World) (hbig : n + s.size ≤ 70368744177664) (hby : ∀ i, 0 ≤ f i ∧ f i ≤ 255) (hf : From w a0 n f) (hc0 : a0 = none → c = 0)
    (hz : z ≤ 9223372036854775807) (ht : Tab w) :
    Calls Tryd.prog 3 #[.slice a0 n c, .int .i64 z, .string s] w fun e w' => e = .returned (.bool true) ∧ Below w.heap.size w w' := by
  have hlen := putB_le z.toNat (by omega)
  have hpos : 1 ≤ (putB z.toNat).length := by rw [putB]; split <;> simp
  obtain ⟨XS, hXS⟩ : ∃ XS, lst f n ++ putB z.toNat = XS := ⟨_, rfl⟩
  obtain ⟨YS, hYS⟩ : ∃ YS, lst f n ++ putB s.size ++ strL s = YS := ⟨_, rfl⟩
  have hxl : XS.length = n + (putB z.toNat).length := by rw [← hXS, List.length_append, lst_length]
  have hx1 : 1 ≤ XS.length := by omega
  have hx2 : XS.length ≤ 140737488355328 := by omega
  have HX : Hid (lst f n ++ putB z.toNat = XS) := hXS
  have HY : Hid (lst f n ++ putB s.size ++ strL s = YS) := hYS
  have ht0 := ht.lt
  have HT : Hid (Tab w) := ht
  clear hXS hYS hxl hlen hpos ht
  go_enter Tryd.func3, Tryd.ntmps3
  go_wp2_with fail
  refine (clone a0 n c f w (by omega) hf).mono ?_
  rintro e w1 ⟨vG, rfl, hoG, hb1⟩
  obtain ⟨aG, cG, rfl, hfG, hcG, _, _, hgG⟩ := hoG.openF
  have hs1 := hb1.size
  clear hoG
  go_wp2_with fail
  refine (wPut aG n cG f z w1 (by omega) hfG hcG hz).mono ?_
  rintro e w2 ⟨vX, rfl, hoX, hb2⟩
  rw [HX.out] at hoX
  have hs2 := hb2.size
  have hfG2 := hfG.below hb2 (Nat.le_refl _)
  clear hfG
  go_wp2_with fail
  refine (wText2 aG n cG f s w2 (by omega) hfG2 hcG).mono ?_
  rintro e w3 ⟨vY, rfl, hoY, hb3⟩
  rw [HY.out] at hoY
  have hs3 := hb3.size
  have hfG3 := hfG2.below hb3 (Nat.le_refl _)
  have hoX3 := hoX.below hb3 (Nat.le_refl _)
  have hf3 := hf.below (hb1.trans ((hb2.mono hs1).trans (hb3.mono (Nat.le_trans hs1 hs2)))) (Nat.le_refl _)
  clear hfG2 hoX
  go_wp2_with fail
  refine (xPut a0 n c f z w3 (by omega) hf3 hc0 hz).mono ?_
  rintro e w4 ⟨vP, rfl, hoP, hb4⟩
  rw [HX.out] at hoP
  have hs4 := hb4.size
  have hfG4 := hfG3.below hb4 (Nat.le_refl _)
  have hoX4 := hoX3.below hb4 (Nat.le_refl _)
  have hoY4 := hoY.below hb4 (Nat.le_refl _)
  have hf4 := hf3.below hb4 (Nat.le_refl _)
  clear hfG3 hoX3 hoY hf3
  obtain ⟨aX, cX, rfl, hfX, hcX, hcX2, _, hgX⟩ := hoX4.open
  obtain ⟨aP, cP, rfl, hfP, _, _, _, _⟩ := hoP.open
  go_wp2_with fail
  refine (equal_yes aX aP _ cX _ cP (fn XS) (fn XS) w4 hfX hfP rfl).mono ?_
  rintro e w' ⟨rfl, rfl⟩
  clear hoP hfP
  go_wp2_with fail
  refine (xText2 a0 n c f s _ (by omega) hf4 hc0).mono ?_
  rintro e w5 ⟨vQ, rfl, hoQ, hb5⟩
  rw [HY.out] at hoQ
  have hs5 := hb5.size
  have hfG5 := hfG4.below hb5 (Nat.le_refl _)
  have hoX5 := hoX4.below hb5 (Nat.le_refl _)
  have hfX5 := hfX.below hb5 (Nat.le_refl _)
  have hoY5 := hoY4.below hb5 (Nat.le_refl _)
  have hf5 := hf4.below hb5 (Nat.le_refl _)
  clear hfG4 hoX4 hoY4 hf4 hfX
  obtain ⟨aY, cY, rfl, hfY, _⟩ := hoY5.open
  obtain ⟨aQ, cQ, rfl, hfQ, _⟩ := hoQ.open
  go_wp2_with fail
  refine (equal_yes aY aQ _ cY _ cQ (fn YS) (fn YS) w5 hfY hfQ rfl).mono ?_
  rintro e w6 ⟨rfl, rfl⟩
  clear hoQ hfQ hoY5 hfY
  have hbA : Below w.heap.size w w6 := hb1.trans ((hb2.mono hs1).trans ((hb3.mono (by omega)).trans ((hb4.mono (by omega)).trans (hb5.mono (by omega)))))
  have ht6 := HT.out.below hbA (Nat.le_refl _)
  go_wp2_with fail
  refine (wSum aG n cG f (by omega) hby hfG5.lay ht6).mono ?_
  rintro e w7 ⟨rfl, rfl⟩
  go_wp2_with fail
  refine (xSum a0 n c f (by omega) hby hf5.lay).mono ?_
  rintro e w8 ⟨rfl, rfl⟩
  have hXg : ∃ g, aX = some ⟨g, 0, none⟩ ∧ w1.heap.size ≤ g ∧ g < w8.heap.size := by
    rcases hfX5 with ⟨_, h⟩ | ⟨x, h, _⟩
    · omega
    · obtain ⟨k, rfl, h1, h2⟩ := hgX x h
      exact ⟨k, h, h1, by omega⟩
  obtain ⟨gX, rfl, hgX1, hgX2⟩ := hXg
  have hsp : Spoilt gX XS.length w8 w8 := by
    refine ⟨Only.refl _ _, fun j hj => ⟨fn XS j, ?_⟩, fun j hj => ?_⟩
    · exact own_at hoX5 j hj rfl
    · exact hoX5.frozenAt j
  have Hend : Hid (∀ wr, Spoilt gX XS.length w8 wr → From wr aG n f ∧ From wr a0 n f ∧ Below w.heap.size w wr) := fun wr h => by
    refine ⟨hfG5.only h.only (fun x hx _ => ?_), hf5.only h.only (fun x hx hn => ?_), hbA.trans (h.only.below (by omega))⟩
    · obtain ⟨k, rfl, h1, h2⟩ := hgG x hx
      show k ≠ gX
      omega
    · rcases hf with ⟨h1, _⟩ | ⟨y, h1, h2⟩
      · rw [h1] at hx; cases hx
      · rw [h1] at hx
        cases hx
        have := World.block_lt_of_cell? w _ (h2 0 hn)
        rw [Addr.add_zero'] at this
        omega
  clear hf hfG5 hoX5 hfX5 hf5 hgG hgX hb1 hb2 hb3 hb4 hb5 ht6 hbA HT HX HY
  generalize XS.length = xl at *
  go_wp2_with fail
  go_loopw [42] (fun i wr => ∃ k : Nat, k ≤ xl ∧ i = .int .i64 k ∧ Spoilt gX xl w8 wr) (fun i _ => xl - (intOf i).toNat)
  case atStart => exact ⟨0, Nat.zero_le _, rfl, hsp⟩
  case round =>
    clear hsp
    obtain ⟨k, hk, rfl, hs⟩ := hrel
    by_cases hlt : k < xl
    · obtain ⟨v, hv⟩ := hs.cells k hlt
      have hfz := hs.free k hlt
      have hnext := hs.set k hlt (bits .xor .u8 v 255)
      have hlt' : (k : Int) < (xl : Int) := by omega
      go_wp2
      go_roundw
      case rel => exact ⟨k + 1, by omega, by go_num, hnext⟩
      case measure => simp [intOf]; omega
    · obtain ⟨e1, e2, e3⟩ := Hend.out wr hs
      clear Hend hs
      go_wp2_with fail
      refine (equal_yes aG a0 n cG n c f f wr e1 e2 rfl).mono ?_
      rintro e w9 ⟨rfl, rfl⟩
      go_wp2_with fail
      refine (wSum_none none 0 f _).mono ?_
      rintro e w10 ⟨rfl, rfl⟩
      rw [sum_nil]
      go_wp2
      go_ret
      exact ⟨rfl, e3⟩
end Go.Proofs.YtabnclgmplihkaaDoor
