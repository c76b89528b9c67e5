/-
  Contracts of page.With and of the document's own With: a load with other bytes at a place, or the error. Condition: at most 2^47 bytes each.
-/
import Derived.Test.YtenpdjcbbleghadSl
namespace Go.Proofs.Ytenpdjcbbleghad
open Go.RowKit
set_option linter.unusedVariables false

/-- The bytes lie within. -/
def Fits (n : Nat) (z : Int) (m : Nat) : Prop := n = 112 ∧ 0 ≤ z ∧ (m : Int) ≤ 112 - z
instance (n : Nat) (z : Int) (m : Nat) : Decidable (Fits n z m) := by unfold Fits; exact inferInstance
def werr (n : Nat) (z : Int) (m : Nat) : Int := if Fits n z m then 0 else 1
def withL (f : Nat → Int) (n : Nat) (z : Int) (g : Nat → Int) (m : Nat) : List Int := if Fits n z m then splice (lst f 112) z.toNat (lst g m) else []

set_option maxHeartbeats 400000 in
theorem wWith_err1 (a0 b0 : Option Addr) (n c m d : Nat) (z : Int) (w : World) (h : n ≠ 112) :
    Calls Try.prog 6 #[.slice a0 n c, .int .i64 z, .slice b0 m d] w fun e w' => e = .returned (.tuple #[.slice none 0 0, .int .i64 1]) ∧ w' = w := by
  have h' : ((n : Int) == 112) = false := by simp; omega
  go_enter Try.func6, Try.ntmps6
  go_wp2
  go_ret2
  exact ⟨rfl, rfl⟩
set_option maxHeartbeats 400000 in
theorem wWith_err2 (a0 b0 : Option Addr) (c m d : Nat) (z : Int) (w : World) (h : z < 0) :
    Calls Try.prog 6 #[.slice a0 112 c, .int .i64 z, .slice b0 m d] w fun e w' => e = .returned (.tuple #[.slice none 0 0, .int .i64 1]) ∧ w' = w := by
  go_enter Try.func6, Try.ntmps6
  go_wp2
  go_ret2
  exact ⟨rfl, rfl⟩
set_option maxHeartbeats 400000 in
theorem wWith_err3 (a0 b0 : Option Addr) (c m d : Nat) (z : Int) (w : World) (h : 0 ≤ z) (hz : z ≤ 9223372036854775807) (h2 : 112 - z < (m : Int)) :
    Calls Try.prog 6 #[.slice a0 112 c, .int .i64 z, .slice b0 m d] w fun e w' => e = .returned (.tuple #[.slice none 0 0, .int .i64 1]) ∧ w' = w := by
  have h' : ¬ z < 0 := by omega
  go_enter Try.func6, Try.ntmps6
  go_wp2
  go_ret2
  exact ⟨rfl, rfl⟩
set_option maxHeartbeats 400000 in
theorem xWith_err1 (a0 b0 : Option Addr) (n c m d : Nat) (z : Int) (w : World) (h : n ≠ 112) :
    Calls Try.prog 7 #[.slice a0 n c, .int .i64 z, .slice b0 m d] w fun e w' => e = .returned (.tuple #[.slice none 0 0, .int .i64 1]) ∧ w' = w := by
  have h' : ((n : Int) == 112) = false := by simp; omega
  go_enter Try.func7, Try.ntmps7
  go_wp2
  go_ret2
  exact ⟨rfl, rfl⟩
set_option maxHeartbeats 400000 in
theorem xWith_err2 (a0 b0 : Option Addr) (c m d : Nat) (z : Int) (w : World) (h : z < 0) :
    Calls Try.prog 7 #[.slice a0 112 c, .int .i64 z, .slice b0 m d] w fun e w' => e = .returned (.tuple #[.slice none 0 0, .int .i64 1]) ∧ w' = w := by
  go_enter Try.func7, Try.ntmps7
  go_wp2
  go_ret2
  exact ⟨rfl, rfl⟩
set_option maxHeartbeats 400000 in
theorem xWith_err3 (a0 b0 : Option Addr) (c m d : Nat) (z : Int) (w : World) (h : 0 ≤ z) (hz : z ≤ 9223372036854775807) (h2 : 112 - z < (m : Int)) :
    Calls Try.prog 7 #[.slice a0 112 c, .int .i64 z, .slice b0 m d] w fun e w' => e = .returned (.tuple #[.slice none 0 0, .int .i64 1]) ∧ w' = w := by
  have h' : ¬ z < 0 := by omega
  by_cases hm : 112 < m
  · have hm' : (112 : Int) < (m : Int) := by omega
    go_enter Try.func7, Try.ntmps7
    go_wp2
    go_ret2
    exact ⟨rfl, rfl⟩
  · have hm' : ¬ (112 : Int) < (m : Int) := by omega
    have hm2 : 112 - (m : Int) < z := by omega
    go_enter Try.func7, Try.ntmps7
    go_wp2
    go_ret2
    exact ⟨rfl, rfl⟩

theorem Own.some {w : World} {B : Nat} {v : Value} {xs : List Int} (h : Own w B v xs) (hp : 0 < xs.length) : ∃ g c, v = .slice (some ⟨g, 0, none⟩) xs.length c ∧ B ≤ g ∧ g < w.heap.size ∧ xs.length ≤ c ∧ c ≤ 9223372036854775807 := by
  obtain ⟨ao, c, h1, h2, h3, h4, h5, h6⟩ := h.open
  rcases h2 with ⟨_, e⟩ | ⟨x, rfl, _⟩
  · omega
  · obtain ⟨k, rfl, k1, k2⟩ := h6 x rfl
    exact ⟨k, c, h1, k1, k2, h4, h5⟩

set_option maxHeartbeats 1000000 in
theorem wWith_ok (a0 b0 : Option Addr) (c m d o : Nat) (f g : Nat → Int) (w : World) (ho : o + m ≤ 112) (hf : From w a0 112 f) (hg : From w b0 m g) :
    Calls Try.prog 6 #[.slice a0 112 c, .int .i64 (o : Int), .slice b0 m d] w fun e w' => ∃ v', e = .returned (.tuple #[v', .int .i64 0]) ∧ Own w' w.heap.size v' (splice (lst f 112) o (lst g m)) ∧ Below w.heap.size w w' := by
  have h' : ¬ (o : Int) < 0 := by omega
  have h2 : ¬ (112 - (o : Int) < (m : Int)) := by omega
  have h3 : (o : Int) ≤ 112 := by omega
  go_enter Try.func6, Try.ntmps6
  go_wp2_with fail
  refine (clone a0 112 c f w (by omega) hf).mono ?_
  rintro e w1 ⟨v1, rfl, ho1, hb1⟩
  have hll := lst_length f 112
  obtain ⟨gg, cap, rfl, k1, k2, k3, k4⟩ := ho1.some (by omega)
  rw [hll] at k3 ho1
  rw [hll]
  have hg1 := hg.below hb1 (Nat.le_refl _)
  have HO : Hid (Own w1 w.heap.size (.slice (some ⟨gg, 0, none⟩) 112 cap) (lst f 112)) := ho1
  have HG : Hid (From w1 b0 m g) := hg1
  have HL : Hid ((lst f 112).length = 112) := hll
  clear ho1 hg1 hf hg hll
  by_cases hoc : o = cap
  · obtain rfl : o = 112 := by omega
    subst hoc
    obtain rfl : m = 0 := by omega
    go_wp2_with (refine wpList_copyF rfl _ _ rfl w.heap.size gg 112 112 (lst f 112) HO.out HL.out.symm 112 _ _ _ rfl b0 0 d g rfl HG.out (by rw [HL.out]; omega) (by omega) (by intro hm; first | rfl | omega) ?_)
    intro w2 ho2 hb2
    go_wp2
    go_ret2
    exact ⟨_, rfl, ho2, hb1.trans hb2⟩
  · have hoc' : (o : Int) < (cap : Int) := by omega
    have hoc2 : o < cap := by omega
    clear hoc
    go_wp2_with (refine wpList_copyF rfl _ _ rfl w.heap.size gg 112 cap (lst f 112) HO.out HL.out.symm o (112 - o) _ _ rfl b0 m d g rfl HG.out (by rw [HL.out]; omega) (by omega) (by intro hm; first | rfl | omega) ?_)
    intro w2 ho2 hb2
    go_wp2
    go_ret2
    exact ⟨_, rfl, ho2, hb1.trans hb2⟩

set_option maxHeartbeats 1000000 in
theorem xWith_ok (a0 b0 : Option Addr) (c m d o : Nat) (f g : Nat → Int) (w : World) (ho : o + m ≤ 112) (hf : From w a0 112 f) (hc0 : a0 = none → c = 0) (hg : From w b0 m g) :
    Calls Try.prog 7 #[.slice a0 112 c, .int .i64 (o : Int), .slice b0 m d] w fun e w' => ∃ v', e = .returned (.tuple #[v', .int .i64 0]) ∧ Own w' w.heap.size v' (splice (lst f 112) o (lst g m)) ∧ Below w.heap.size w w' := by
  have h' : ¬ (o : Int) < 0 := by omega
  have h2 : ¬ (112 - (m : Int) < (o : Int)) := by omega
  have h2' : ¬ ((112 : Int) < (m : Int)) := by omega
  have h3 : (o : Int) ≤ 112 := by omega
  have hm : Own (w.alloc (.cells #[] 5)) w.heap.size (.slice (some ⟨w.heap.size, 0, none⟩) 0 0) [] := World.ownsRow_made w #[] 0 (Nat.le_refl _) (Nat.zero_le _) rfl
  have HF : Hid (From (w.alloc (.cells #[] 5)) a0 112 f) := hf.alloc (.cells #[] 5)
  go_enter Try.func7, Try.ntmps7
  go_wp2_with (at_builtin; refine wpList_app rfl _ _ rfl w.heap.size _ [] rfl hm a0 112 c f rfl HF.out hc0 (by simp) (by simp) ?_)
  intro v1 w1 ho1 hb0
  have ho1 : Own w1 w.heap.size v1 (lst f 112) := ho1
  have hb1 : Below w.heap.size w w1 := ((Below.refl _ w).alloc (Nat.le_refl _) _).trans hb0
  have hll := lst_length f 112
  obtain ⟨gg, cap, rfl, k1, k2, k3, k4⟩ := ho1.some (by omega)
  rw [hll] at k3 ho1
  rw [hll]
  have hg1 := hg.below hb1 (Nat.le_refl _)
  have HO : Hid (Own w1 w.heap.size (.slice (some ⟨gg, 0, none⟩) 112 cap) (lst f 112)) := ho1
  have HG : Hid (From w1 b0 m g) := hg1
  have HL : Hid ((lst f 112).length = 112) := hll
  clear ho1 hg1 hf hg hll hm HF hb0
  by_cases hoc : o = cap
  · obtain rfl : o = 112 := by omega
    subst hoc
    obtain rfl : m = 0 := by omega
    go_wp2_with (refine wpList_copyF rfl _ _ rfl w.heap.size gg 112 112 (lst f 112) HO.out HL.out.symm 112 _ _ _ rfl b0 0 d g rfl HG.out (by rw [HL.out]; omega) (by omega) (by intro hm; first | rfl | omega) ?_)
    intro w2 ho2 hb2
    go_wp2
    go_ret2
    exact ⟨_, rfl, ho2, hb1.trans hb2⟩
  · have hoc' : (o : Int) < (cap : Int) := by omega
    have hoc2 : o < cap := by omega
    clear hoc
    go_wp2_with (refine wpList_copyF rfl _ _ rfl w.heap.size gg 112 cap (lst f 112) HO.out HL.out.symm o (112 - o) _ _ rfl b0 m d g rfl HG.out (by rw [HL.out]; omega) (by omega) (by intro hm; first | rfl | omega) ?_)
    intro w2 ho2 hb2
    go_wp2
    go_ret2
    exact ⟨_, rfl, ho2, hb1.trans hb2⟩

theorem wWith (a0 b0 : Option Addr) (n c m d : Nat) (z : Int) (f g : Nat → Int) (w : World) (hz : z ≤ 9223372036854775807) (hf : From w a0 n f) (hg : From w b0 m g) :
    Calls Try.prog 6 #[.slice a0 n c, .int .i64 z, .slice b0 m d] w fun e w' => ∃ v', e = .returned (.tuple #[v', .int .i64 (werr n z m)]) ∧ Own w' w.heap.size v' (withL f n z g m) ∧ Below w.heap.size w w' := by
  unfold werr withL
  by_cases h : Fits n z m
  · rw [if_pos h, if_pos h]
    obtain ⟨rfl, h1, h2⟩ := h
    obtain ⟨o, rfl⟩ := Int.eq_ofNat_of_zero_le h1
    exact wWith_ok a0 b0 c m d o f g w (by omega) hf hg
  · rw [if_neg h, if_neg h]
    have key : Calls Try.prog 6 #[.slice a0 n c, .int .i64 z, .slice b0 m d] w fun e w' => e = .returned (.tuple #[.slice none 0 0, .int .i64 1]) ∧ w' = w := by
      by_cases h1 : n = 112
      · subst h1
        by_cases h2 : z < 0
        · exact wWith_err2 a0 b0 c m d z w h2
        · exact wWith_err3 a0 b0 c m d z w (by omega) hz (by
            apply Classical.byContradiction
            intro hn
            exact h ⟨rfl, by omega, by omega⟩)
      · exact wWith_err1 a0 b0 n c m d z w h1
    exact key.mono fun e w' ⟨h1, h2⟩ => ⟨_, h1, World.ownsRow_nil _ _ _ _, by rw [h2]; exact Below.refl _ _⟩
theorem xWith (a0 b0 : Option Addr) (n c m d : Nat) (z : Int) (f g : Nat → Int) (w : World) (hz : z ≤ 9223372036854775807) (hf : From w a0 n f) (hc0 : a0 = none → c = 0) (hg : From w b0 m g) :
    Calls Try.prog 7 #[.slice a0 n c, .int .i64 z, .slice b0 m d] w fun e w' => ∃ v', e = .returned (.tuple #[v', .int .i64 (werr n z m)]) ∧ Own w' w.heap.size v' (withL f n z g m) ∧ Below w.heap.size w w' := by
  unfold werr withL
  by_cases h : Fits n z m
  · rw [if_pos h, if_pos h]
    obtain ⟨rfl, h1, h2⟩ := h
    obtain ⟨o, rfl⟩ := Int.eq_ofNat_of_zero_le h1
    exact xWith_ok a0 b0 c m d o f g w (by omega) hf hc0 hg
  · rw [if_neg h, if_neg h]
    have key : Calls Try.prog 7 #[.slice a0 n c, .int .i64 z, .slice b0 m d] w fun e w' => e = .returned (.tuple #[.slice none 0 0, .int .i64 1]) ∧ w' = w := by
      by_cases h1 : n = 112
      · subst h1
        by_cases h2 : z < 0
        · exact xWith_err2 a0 b0 c m d z w h2
        · exact xWith_err3 a0 b0 c m d z w (by omega) hz (by
            apply Classical.byContradiction
            intro hn
            exact h ⟨rfl, by omega, by omega⟩)
      · exact xWith_err1 a0 b0 n c m d z w h1
    exact key.mono fun e w' ⟨h1, h2⟩ => ⟨_, h1, World.ownsRow_nil _ _ _ _, by rw [h2]; exact Below.refl _ _⟩
end Go.Proofs.Ytenpdjcbbleghad
