/-
  The law PageApart: the walk. Condition: at most 2^47 bytes each.
-/
import Derived.Test.YtenpdjcbbleghadWithLaw
namespace Go.Proofs.Ytenpdjcbbleghad
open Go.RowKit
set_option linter.unusedVariables false

set_option maxRecDepth 100000 in
set_option maxHeartbeats 1000000 in
theorem apart_else1 (a0 b0 : Option Addr) (n c m d : Nat) (f g : Nat → Int) (w : World) (hn : n ≤ 140737488355328) (hm : m ≤ 140737488355328) (hf : From w a0 n f) (hg : From w b0 m g) (h1 : ∀ i, 0 ≤ f i ∧ f i ≤ 255) (h2 : ∀ i, 0 ≤ g i ∧ g i ≤ 255) (hne : n ≠ 112) :
    Calls Try.prog 4 #[.slice a0 n c, .slice b0 m d] w fun e w' => e = .returned (.bool true) ∧ Below w.heap.size w w' := by
  have h' : ((n : Int) == 112) = false := by simp; omega
  go_enter Try.func4, Try.ntmps4
  go_wp2_with fail
  refine (wApart a0 b0 n c m d f g w hn hm hf hg h1 h2).mono ?_
  rintro e w1 ⟨ht, q, rfl⟩
  obtain ⟨x, y, rfl⟩ := ht.form
  have HT : Hid (Told f n g m (.returned (.tuple #[.int .i64 x, .int .i64 y]))) := ht
  clear ht
  go_wp2_with fail
  refine (xApart a0 b0 n c m d f g (w.drewN q) hn hm (hf.drew q) (hg.drew q) h1 h2).mono ?_
  rintro e w5 ⟨ht, rfl⟩
  obtain rfl := ht.same HT.out
  clear ht HT
  go_wp2
  go_ret
  exact ⟨rfl, blw_drewN q (Below.refl _ w)⟩
set_option maxRecDepth 100000 in
set_option maxHeartbeats 1000000 in
theorem apart_else2 (a0 b0 : Option Addr) (c m d : Nat) (f g : Nat → Int) (w : World) (hm : m ≤ 140737488355328) (hf : From w a0 112 f) (hg : From w b0 m g) (h1 : ∀ i, 0 ≤ f i ∧ f i ≤ 255) (h2 : ∀ i, 0 ≤ g i ∧ g i ≤ 255) (hne : m ≠ 112) :
    Calls Try.prog 4 #[.slice a0 112 c, .slice b0 m d] w fun e w' => e = .returned (.bool true) ∧ Below w.heap.size w w' := by
  have h' : ((m : Int) == 112) = false := by simp; omega
  go_enter Try.func4, Try.ntmps4
  go_wp2_with fail
  refine (wApart a0 b0 112 c m d f g w (by omega) hm hf hg h1 h2).mono ?_
  rintro e w1 ⟨ht, q, rfl⟩
  obtain ⟨x, y, rfl⟩ := ht.form
  have HT : Hid (Told f 112 g m (.returned (.tuple #[.int .i64 x, .int .i64 y]))) := ht
  clear ht
  go_wp2_with fail
  refine (xApart a0 b0 112 c m d f g (w.drewN q) (by omega) hm (hf.drew q) (hg.drew q) h1 h2).mono ?_
  rintro e w5 ⟨ht, rfl⟩
  obtain rfl := ht.same HT.out
  clear ht HT
  go_wp2
  go_ret
  exact ⟨rfl, blw_drewN q (Below.refl _ w)⟩
set_option maxRecDepth 100000 in
set_option maxHeartbeats 1000000 in
theorem apart_same (a0 b0 : Option Addr) (c d : Nat) (f g : Nat → Int) (w : World) (hf : From w a0 112 f) (hg : From w b0 112 g) (he : lst f 112 = lst g 112) :
    Calls Try.prog 4 #[.slice a0 112 c, .slice b0 112 d] w fun e w' => e = .returned (.bool true) ∧ Below w.heap.size w w' := by
  go_enter Try.func4, Try.ntmps4
  go_wp2_with fail
  refine (wApart_same a0 b0 112 c 112 d f g w hf hg he).mono ?_
  rintro e w1 ⟨rfl, q, rfl⟩
  have HF : Hid (From (w.drewN q) a0 112 f) := hf.drew q
  have HG : Hid (From (w.drewN q) b0 112 g) := hg.drew q
  have HE : Hid (lst f 112 = lst g 112) := he
  clear hf hg he
  go_wp2_with fail
  refine (equal_yes a0 b0 112 c 112 d f g _ HF.out HG.out HE).mono ?_
  rintro e w2 ⟨rfl, rfl⟩
  go_wp2
  go_ret
  exact ⟨rfl, blw_drewN q (Below.refl _ w)⟩

theorem splice_ends {f g : Nat → Int} {k l : Nat} (h : Ends f 112 g 112 k l) : splice (lst f 112) k (lst (sh g k) (l - k + 1)) = lst g 112 := by
  have hl := h.lt
  have hk := h.le
  have hno : ∀ j, j < 112 → (j < k ∨ l < j) → f j = g j := fun j h1 h2 => by
    apply Classical.byContradiction
    intro hn
    rcases h2 with h2 | h2
    · exact h.no1 j h2 (.inr (.inr hn))
    · exact h.no2 j h2 (by omega) (.inr (.inr hn))
  apply List.ext_getElem?
  intro i
  unfold splice
  simp only [List.getElem?_append, List.length_take, lst_length, List.getElem?_take, List.getElem?_drop]
  have e1 : min k 112 = k := by omega
  rw [e1]
  by_cases i1 : i < 112
  · rw [lst_get g 112 i i1]
    by_cases i2 : i < k
    · rw [if_pos i2, if_pos i2, lst_get f 112 i i1, hno i i1 (.inl i2)]
    · rw [if_neg i2]
      by_cases i3 : i - k < l - k + 1
      · rw [if_pos i3, lst_get _ _ _ i3]
        show some (g (k + (i - k))) = _
        rw [show k + (i - k) = i by omega]
      · rw [if_neg i3, show k + (l - k + 1) + (i - k - (l - k + 1)) = i by omega, lst_get f 112 i i1, hno i i1 (.inr (by omega))]
  · rw [if_neg (by omega), if_neg (by omega), List.getElem?_eq_none (by rw [lst_length]; omega), List.getElem?_eq_none (by rw [lst_length]; omega)]

set_option maxRecDepth 100000 in
set_option maxHeartbeats 2000000 in
theorem apart_other (b off b' off' c d k l : Nat) (f g : Nat → Int) (w : World) (hd : 112 ≤ d) (hd2 : d ≤ 9223372036854775807) (hF : Hid (∀ i, i < 112 → w.cell? ⟨b, off + i, none⟩ = some (.int .u8 (f i)))) (hG : Hid (∀ i, i < 112 → w.cell? ⟨b', off' + i, none⟩ = some (.int .u8 (g i))))
    (h1 : ∀ i, 0 ≤ f i ∧ f i ≤ 255) (h2 : ∀ i, 0 ≤ g i ∧ g i ≤ 255) (he : lst f 112 ≠ lst g 112) (hE : Hid (Ends f 112 g 112 k l)) :
    Calls Try.prog 4 #[.slice (some ⟨b, off, none⟩) 112 c, .slice (some ⟨b', off', none⟩) 112 d] w fun e w' => e = .returned (.bool true) ∧ Below w.heap.size w w' := by
  have hf : From w (some ⟨b, off, none⟩) 112 f := .inr ⟨_, rfl, fun i hi => by rw [Addr.add_lit]; exact hF.out i hi⟩
  have hg : From w (some ⟨b', off', none⟩) 112 g := .inr ⟨_, rfl, fun i hi => by rw [Addr.add_lit]; exact hG.out i hi⟩
  have hkl := hE.out.le
  have hl : l < 112 := by have := hE.out.lt; omega
  have hx1 : f k ≠ g k := by rcases hE.out.at1 with h | h | h; omega; omega; exact h
  have hx2 : f l ≠ g l := by rcases hE.out.at2 with h | h | h; omega; omega; exact h
  have c1 := hF.out k (by omega)
  have c2 := hG.out k (by omega)
  have c3 := hF.out l (by omega)
  have c4 := hG.out l (by omega)
  have HSP : Hid _ := splice_ends hE.out
  obtain ⟨r, hr⟩ : ∃ r, l = k + r := ⟨l - k, by omega⟩
  subst hr
  have er : k + r - k + 1 = r + 1 := by omega
  go_enter Try.func4, Try.ntmps4
  go_wp2_with fail
  refine (wApart_other _ _ 112 c 112 d f g w (by omega) (by omega) hf hg h1 h2 he).mono ?_
  rintro e w1 ⟨k', l', rfl, hE', q, rfl⟩
  obtain ⟨rfl, rfl⟩ := hE.out.one hE'
  rw [er]
  rw [er] at HSP
  have hr0 : ((r : Int) + 1 == 0) = false := by simp; omega
  have HF0 : Hid (From (w.drewN q) (some ⟨b, off, none⟩) 112 f) := hf.drew q
  have HG0 : Hid (From (w.drewN q) (some ⟨b', off' + k, none⟩) (r + 1) (sh g k)) := .inr ⟨_, rfl, fun i hi => by
    rw [Addr.add_lit]
    have := hG.out (k + i) (by omega)
    rw [Nat.add_assoc]
    exact this⟩
  have HG1 : Hid (From (w.drewN q) (some ⟨b', off', none⟩) 112 g) := hg.drew q
  have Hx1 : Hid (f k ≠ g k) := hx1
  have Hx2 : Hid (f (k + r) ≠ g (k + r)) := hx2
  have hby : Hid (∀ i, 0 ≤ g i ∧ g i ≤ 255) := h2
  have s1 : (k : Int) + (r + 1) ≤ 112 := by omega
  have s2 : (k : Int) < (d : Int) := by omega
  clear hE' he h1 h2 hf hg hE hx1 hx2 er
  go_wp2_with fail
  refine (wWith_ok _ _ c (r + 1) _ k f (sh g k) (w.drewN q) (by omega) HF0.out HG0.out).mono ?_
  rintro e w2 ⟨vX, rfl, hoX, hb2⟩
  rw [HSP.out] at hoX
  obtain ⟨aX, cX, rfl, hfX, _⟩ := hoX.openF
  have c1' : w2.cell? ⟨b, off + k, none⟩ = some (.int .u8 (f k)) := by
    rw [hb2.cell (World.block_lt_of_cell? w _ c1)]; exact c1
  have c2' : w2.cell? ⟨b', off' + k, none⟩ = some (.int .u8 (g k)) := by
    rw [hb2.cell (World.block_lt_of_cell? w _ c2)]; exact c2
  have c3' : w2.cell? ⟨b, off + (k + r), none⟩ = some (.int .u8 (f (k + r))) := by
    rw [hb2.cell (World.block_lt_of_cell? w _ c3)]; exact c3
  have c4' : w2.cell? ⟨b', off' + (k + r), none⟩ = some (.int .u8 (g (k + r))) := by
    rw [hb2.cell (World.block_lt_of_cell? w _ c4)]; exact c4
  have HG2 : Hid (From w2 (some ⟨b', off', none⟩) 112 g) := HG1.out.below hb2 (Nat.le_refl _)
  have HB : Hid (Below w.heap.size w w2) := (blw_drewN q (Below.refl _ w)).trans hb2
  have HX : Hid (From w2 aX 112 g) := hfX
  clear c1 c2 c3 c4 hfX hoX hb2 HG1 HG0 HF0 hF hG HSP
  generalize f k = x1 at *
  generalize g k = y1 at *
  generalize f (k + r) = x2 at *
  generalize g (k + r) = y2 at *
  have e1 : (x1 == y1) = false := by have := Hx1.out; simpa using this
  have e2 : (x2 == y2) = false := by have := Hx2.out; simpa using this
  have e3 : (x1 != y1) = true := by have := Hx1.out; simpa using this
  have e4 : (x2 != y2) = true := by have := Hx2.out; simpa using this
  have k1 : k < 112 := by omega
  have k2 : k + r < 112 := by omega
  go_wp2_with fail
  go_quiet ((go_at_call 10; exact Calls.quiet_of_same (equal_yes aX _ 112 cX 112 d g g _ (HX.out.drew _) (HG2.out.drew _) rfl)))
  go_wp2
  go_ret
  refine ⟨?_, blw_drewN _ HB.out⟩
  first | rfl | (simp only [e3, e4, Bool.and_true]; rfl)
end Go.Proofs.Ytenpdjcbbleghad
