/-
  The law PageWith: the walk. Condition: at most 2^47 bytes each.
-/
import Derived.Test.YtenpdjcbbleghadWith
import Derived.Test.YtenpdjcbbleghadApart2
namespace Go.Proofs.Ytenpdjcbbleghad
open Go.RowKit
set_option linter.unusedVariables false

theorem Told.form {f g : Nat → Int} {n m : Nat} {e : Ending} (h : Told f n g m e) : ∃ x y : Int, e = .returned (.tuple #[.int .i64 x, .int .i64 y]) := by
  rcases h with ⟨_, h⟩ | ⟨k, l, _, h⟩
  · exact ⟨_, _, h⟩
  · exact ⟨_, _, h⟩
theorem Own.drew {w : World} {B : Nat} {v : Value} {xs : List Int} (h : Own w B v xs) (q : Nat) : Own (w.drewN q) B v xs := h.below (B' := w.heap.size) (blw_drewN q (Below.refl _ w)) (Nat.le_refl _)

set_option maxRecDepth 100000 in
set_option maxHeartbeats 2000000 in
theorem with_walk (a0 b0 d0 : Option Addr) (n c m d k kc : Nat) (z : Int) (f g h : Nat → Int) (w : World) (hz : z ≤ 9223372036854775807) (hn : n ≤ 140737488355328) (hm : m ≤ 140737488355328) (hk : k ≤ 140737488355328)
    (hf : From w a0 n f) (hc0 : a0 = none → c = 0) (hg : From w b0 m g) (hh : From w d0 k h) (h1 : ∀ i, 0 ≤ f i ∧ f i ≤ 255) (h3 : ∀ i, 0 ≤ h i ∧ h i ≤ 255) :
    Calls Try.prog 3 #[.slice a0 n c, .int .i64 z, .slice b0 m d, .slice d0 k kc] w fun e w' => e = .returned (.bool true) ∧ Below w.heap.size w w' := by
  obtain ⟨XS, hXS⟩ : ∃ XS, withL f n z g m = XS := ⟨_, rfl⟩
  obtain ⟨ER, hER⟩ : ∃ ER, werr n z m = ER := ⟨_, rfl⟩
  go_enter Try.func3, Try.ntmps3
  go_wp2_with fail
  refine (clone a0 n c f w hn hf).mono ?_
  rintro e w1 ⟨vG, rfl, hoG, hb1⟩
  obtain ⟨aG, cG, rfl, hfG, hcG, _, _, hgG⟩ := hoG.openF
  have hs1 := hb1.size
  have hg1 := hg.below hb1 (Nat.le_refl _)
  clear hoG
  go_wp2_with fail
  refine (wWith aG b0 n cG m d z f g w1 hz hfG hg1).mono ?_
  rintro e w2 ⟨vX, rfl, hoX, hb2⟩
  rw [hXS] at hoX
  rw [hER]
  have hs2 := hb2.size
  have hbA := hb1.trans (hb2.mono hs1)
  have hfG2 := hfG.below hb2 (Nat.le_refl _)
  have hf2 := hf.below hbA (Nat.le_refl _)
  have hg2 := hg.below hbA (Nat.le_refl _)
  clear hfG hg1
  go_wp2_with fail
  refine (xWith a0 b0 n c m d z f g w2 hz hf2 hc0 hg2).mono ?_
  rintro e w3 ⟨vY, rfl, hoY, hb3⟩
  rw [hXS] at hoY
  rw [hER]
  have hs3 := hb3.size
  have hbB := hbA.trans (hb3.mono (by omega))
  have hfG3 := hfG2.below hb3 (Nat.le_refl _)
  have hoX3 := hoX.below hb3 (Nat.le_refl _)
  have hf3 := hf.below hbB (Nat.le_refl _)
  have hh3 := hh.below hbB (Nat.le_refl _)
  clear hfG2 hoX hf2 hg2 hXS hER
  go_wp2_with fail
  refine (wApart aG d0 n cG k kc f h w3 hn hk hfG3 hh3 h1 h3).mono ?_
  rintro e w4 ⟨ht, q, rfl⟩
  obtain ⟨x, y, rfl⟩ := ht.form
  have HT : Hid (Told f n h k (.returned (.tuple #[.int .i64 x, .int .i64 y]))) := ht
  clear ht
  go_wp2_with fail
  refine (xApart a0 d0 n c k kc f h (w3.drewN q) hn hk (hf3.drew q) (hh3.drew q) h1 h3).mono ?_
  rintro e w5 ⟨ht, rfl⟩
  obtain rfl := ht.same HT.out
  clear ht HT
  obtain ⟨aX, cX, rfl, hfX, _⟩ := (hoX3.drew q).open
  obtain ⟨aY, cY, rfl, hfY, _⟩ := (hoY.drew q).open
  have H1 : Hid (From (w3.drewN q) aG n f) := hfG3.drew q
  have H2 : Hid (From (w3.drewN q) a0 n f) := hf3.drew q
  have HB : Hid (Below w.heap.size w (w3.drewN q)) := blw_drewN q hbB
  have HX : Hid (From (w3.drewN q) aX XS.length (fn XS)) := hfX
  have HY : Hid (From (w3.drewN q) aY XS.length (fn XS)) := hfY
  clear hfX hfY hoX3 hoY hfG3 hf3 hh3 hf hg hh hb1 hb2 hb3 hbA hbB
  go_wp2_with fail
  refine (equal_yes aX aY _ cX _ cY (fn XS) (fn XS) _ HX.out HY.out rfl).mono ?_
  rintro e w6 ⟨rfl, rfl⟩
  go_wp2_with fail
  refine (equal_yes aG a0 n cG n c f f _ H1.out H2.out rfl).mono ?_
  rintro e w7 ⟨rfl, rfl⟩
  go_wp2
  go_ret
  exact ⟨rfl, HB.out⟩
end Go.Proofs.Ytenpdjcbbleghad
