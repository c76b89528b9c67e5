/-
  A heap's contracts: New, Push of nothing, SetRoot; slices.Reverse of words.
-/
import Derived.Test.YtmpilcamnhlalaaDoorHpF
namespace Go.Proofs.YtmpilcamnhlalaaDoor
open Go.RowKit
set_option linter.unusedVariables false

theorem row_put1 {w : World} {e : TypeId} {v u u' : Value} (h : w.ownsRow 0 e 1 v 1 [u]) : ∃ g c, v = .slice (some ⟨g, 0, none⟩) 1 c ∧ w.frozen? ⟨g, 0, none⟩ = false ∧ (∃ y, w.cell? ⟨g, 0, none⟩ = some y) ∧ (w.setCell ⟨g, 0, none⟩ u').ownsRow 0 e 1 v 1 [u'] := by
  rcases h.2 with ⟨_, h0⟩ | ⟨g, cap, cur, rfl, h2, h3, h4, h5, h6, h7⟩
  · omega
  · have hs : 0 < cur.size := by omega
    refine ⟨g, cap, rfl, cells_free h3 0, ⟨cur[0], by rw [cells_at h3 0, Array.getElem?_eq_getElem hs]⟩, rfl, .inr ⟨g, cap, _, rfl, h2, heap_set_at h3 u', h4, h5, by simpa using h6, ?_⟩⟩
    obtain ⟨l⟩ := cur
    cases l with
    | nil => simp at hs
    | cons a l => simp
theorem h_setRoot {w : World} {h : Nat} {P : Nat → Prop} {x : HV} (k : Hp w h P x) (j : Nat) (hj : j < x.no + x.ny) : Calls Tryd.prog 9 #[.pointer (some ⟨h, 0, none⟩), .int .i64 0, .int .i64 (tw x.sft (some j))] w fun r w' => r = .returned (.int .i64 0) ∧ Hid (Hp w' h P { x with r := some j } ∧ Part P w w') := by
  obtain ⟨so, sy, sr, k1, k2, k3, k4, k5, k6, k7, k8, k9⟩ := k.lay
  obtain ⟨ao, co, rfl⟩ := row_slice k2
  obtain ⟨ay, cy, rfl⟩ := row_slice k3
  have n1 := k.n1
  have n2 := k.n2
  have s1 := k.s1
  obtain ⟨g, c, rfl, _⟩ := row_put1 (u' := .int .i64 (kw (some j))) k4
  have c6 := (hget k1).2.2.2.2.2.2.1
  have HM : Hid (Calls Tryd.prog 22 #[.pointer (some ⟨h, 0, none⟩)] w fun r w' => r = .returned (.bool false) ∧ w' = w) := h_missing k1 rfl
  have HR : Hid (Calls Tryd.prog 26 #[.pointer (some ⟨h, 0, none⟩), .int .i64 0] w fun r w' => r = .returned (.bool true) ∧ w' = w) := h_isRoot c6
  have HK : Hid (Calls Tryd.prog 23 #[.pointer (some ⟨h, 0, none⟩), .int .i64 (tw x.sft (some j))] w fun r w' => r = .returned (.tuple #[.int .i64 (2 * (j : Int) + 2), .bool true]) ∧ w'.cell? ⟨h, 6, none⟩ = some (.slice (some ⟨g, 0, none⟩) 1 c) ∧ w'.frozen? ⟨g, 0, none⟩ = false ∧ (∃ y, w'.cell? ⟨g, 0, none⟩ = some y) ∧ Hid (Hp (w'.setCell ⟨g, 0, none⟩ (.int .i64 (2 * (j : Int) + 2))) h P { x with r := some j } ∧ Part P w (w'.setCell ⟨g, 0, none⟩ (.int .i64 (2 * (j : Int) + 2))))) := by
    refine (h_kept k1 (by omega) (by omega) (some j) (fun i hi => by cases hi; exact hj) (by omega) k.s2).mono ?_
    rintro r w' ⟨rfl, q, rfl⟩
    obtain ⟨g', c', e', f1, f2, f3⟩ := row_put1 (w := w.drewN q) (u' := .int .i64 (kw (some j))) (row_heap k4 rfl)
    cases e'
    have hgP : P g := k9 g rfl
    have hgh : g ≠ h := fun e => row_ne k4 k1 (by decide) (by rw [← e]; rfl)
    have hp : Part (fun q => q = g) w ((w.drewN q).setCell ⟨g, 0, none⟩ (.int .i64 (2 * (j : Int) + 2))) := ((Part.refl (fun q => q = g) w).drewN q).setCell (p := ⟨g, 0, none⟩) (fun _ => rfl) _
    refine ⟨rfl, c6, f1, f2, ⟨⟨.slice ao x.no co, .slice ay x.ny cy, .slice (some ⟨g, 0, none⟩) 1 c, ?_, hp.row k2 (fun q' hq' e => ?_), hp.row k3 (fun q' hq' e => ?_), f3, k5, k6, k7, k8, k9⟩, fun i hi => ?_, k.inj, k.hP, ?_, k.n1, k.n2, fun i hi => by cases hi; exact hj, k.s1, k.s2⟩, hp.mono (fun q' _ e => by cases e; exact hgP)⟩
    · exact hp.pair k1 (fun e => hgh e.symm)
    · subst e
      rcases k4.2 with ⟨e9, _⟩ | ⟨g9, cap, cur, e9, _, h3, _⟩
      · cases e9
      · cases e9
        exact row_ne k2 h3 (by decide) hq'
    · subst e
      rcases k4.2 with ⟨e9, _⟩ | ⟨g9, cap, cur, e9, _, h3, _⟩
      · cases e9
      · cases e9
        exact row_ne k3 h3 (by decide) hq'
    · obtain ⟨f1, f2⟩ := k.ff i hi
      exact ⟨hp.pair f1 (fun e => k6 i hi (by rw [e]; rfl)), f2⟩
    · intro q' hq'
      have := k.lt q' hq'
      have := hp.size
      omega
  clear k k1 k2 k3 k4 k5 k6 k7 k8 k9
  generalize tw x.sft (some j) = z at *
  generalize 2 * (j : Int) + 2 = z2 at *
  go_enter Tryd.func9, Tryd.ntmps9
  go_wp2_with fail
  refine HM.out.mono ?_
  rintro r w1 ⟨rfl, hw⟩
  obtain rfl : w = w1 := hw.symm
  clear hw HM
  go_wp2_with fail
  refine HR.out.mono ?_
  rintro r w1 ⟨rfl, hw⟩
  obtain rfl : w = w1 := hw.symm
  clear hw HR
  go_wp2_with fail
  refine HK.out.mono ?_
  rintro r w1 ⟨rfl, y6, y1, ⟨y, y2⟩, HN⟩
  clear HK c6
  go_wp2
  go_ret
  exact ⟨rfl, HN⟩
theorem h_may (z : Int) (w : World) (h1 : decide (16 ≤ z) = true) (h2 : decide (z ≤ 1048576) = true) : Calls Tryd.prog 21 #[.int .i64 z] w fun r w' => r = .returned (.bool true) ∧ w' = w := by
  go_enter Tryd.func21, Tryd.ntmps21
  go_wp2
  go_ret
  exact ⟨rfl, rfl⟩
theorem h_new (w : World) : Calls Tryd.prog 5 #[.int .i64 32, .int .i64 1000] w fun r w' => r = .returned (.tuple #[.pointer (some ⟨w.heap.size, 0, none⟩), .int .i64 0]) ∧ Hd w' w.heap.size (.slice none 0 0) 0 1000 (.slice none 0 0) 0 32 (.slice none 0 0) (.slice none 0 0) 0 0 0 false ∧ Below w.heap.size w w' := by
  have H1 : Hid (Calls Tryd.prog 21 #[.int .i64 32] w fun r w' => r = .returned (.bool true) ∧ w' = w) := h_may 32 w rfl rfl
  have H2 : Hid (Calls Tryd.prog 21 #[.int .i64 1000] w fun r w' => r = .returned (.bool true) ∧ w' = w) := h_may 1000 w rfl rfl
  obtain ⟨o, ho⟩ : ∃ o, Obj.cells #[.slice none 0 0, .int .i64 0, .int .i64 1000, .slice none 0 0, .int .i64 0, .int .i64 32, .slice none 0 0, .slice none 0 0, .int .i64 0, .int .i64 0, .int .i64 0, .bool false] 43 = o := ⟨_, rfl⟩
  go_enter Tryd.func5, Tryd.ntmps5
  go_wp2_with fail
  refine H1.out.mono ?_
  rintro r w1 ⟨rfl, hw⟩
  obtain rfl : w = w1 := hw.symm
  clear hw H1
  go_wp2_with fail
  refine H2.out.mono ?_
  rintro r w1 ⟨rfl, hw⟩
  obtain rfl : w = w1 := hw.symm
  clear hw H2
  go_wp2
  try rw [ho]
  go_ret2
  exact ⟨rfl, by rw [← ho]; exact heap_alloc_at _ _ _ rfl, (Below.refl _ w).alloc (Nat.le_refl _) o⟩
/-- A new heap with nothing as its root. -/
def HV0 : HV := ⟨0, 0, fun _ => 0, fun _ => 0, fun _ => 0, fun _ _ => 0, none, 0, 0, 0, 0⟩
theorem h_push0 {w : World} {h : Nat} (k1 : Hd w h (.slice none 0 0) 0 1000 (.slice none 0 0) 0 32 (.slice none 0 0) (.slice none 0 0) 0 0 0 false) : Calls Tryd.prog 6 #[.pointer (some ⟨h, 0, none⟩), .int .i64 0] w fun r w' => r = .returned (.int .i64 0) ∧ Hid (Hp w' h (fun q => q = h ∨ (w.heap.size ≤ q ∧ q < w'.heap.size)) HV0 ∧ Part (fun q => q = h) w w') := by
  obtain ⟨i0, hi0, hz0, hz1, hz2⟩ := info_parts infoWord
  have hhl : h < w.heap.size := (Array.getElem?_eq_some_iff.1 k1).1
  have HM : Hid (Calls Tryd.prog 22 #[.pointer (some ⟨h, 0, none⟩)] w fun r w' => r = .returned (.bool false) ∧ w' = w) := h_missing k1 rfl
  have HK : Hid (Calls Tryd.prog 23 #[.pointer (some ⟨h, 0, none⟩), .int .i64 0] w fun r w' => r = .returned (.tuple #[.int .i64 0, .bool true]) ∧ Dr w w') := h_kept (sft := 0) k1 (by decide) (by decide) none (fun i hi => (by cases hi)) (by decide) rfl
  have HS : Hid (∀ wq, Dr w wq → wq.cell? ⟨h, 6, none⟩ = some (.slice none 0 0)) := fun wq hq => by obtain ⟨q, rfl⟩ := hq; exact (hget k1).2.2.2.2.2.2.1
  have HE : Hid (∀ wq l v w2, Dr w wq → w2.ownsRow 0 28 1 v 1 ([] ++ [.int .i64 0]) → (wq.alloc l).grownBy w2 none → (v.ownBlock = (Value.slice none 0 0).ownBlock ∨ v.ownBlock = some (wq.alloc l).heap.size) → ∃ a c, v = .slice a 1 c ∧ w2.frozen? ⟨h, 6, none⟩ = false ∧ (∃ y, w2.cell? ⟨h, 6, none⟩ = some y) ∧ Hid (Hp (w2.setCell ⟨h, 6, none⟩ v) h (fun q => q = h ∨ (w.heap.size ≤ q ∧ q < (w2.setCell ⟨h, 6, none⟩ v).heap.size)) HV0 ∧ Part (fun q => q = h) w (w2.setCell ⟨h, 6, none⟩ v))) := fun wq l v w2 hq ho hg ha => by
    obtain ⟨a, c, rfl⟩ := row_slice ho
    have bq : Below w.heap.size w (wq.alloc l) := by obtain ⟨q, rfl⟩ := hq; exact (blw_drewN q (Below.refl _ w)).alloc (Nat.le_refl _) l
    have hsz := bq.size
    have b2 : Part (fun _ => False) w w2 := (Part.ofBelow bq).grown hg (fun _ h => by cases h)
    have k2 : Hd w2 h _ _ _ _ _ _ _ _ _ _ _ _ := b2.pair k1 (fun h => h)
    have hvb : ∀ q, (Value.slice a 1 c).ownBlock = some q → w.heap.size ≤ q ∧ q < w2.heap.size := fun q hq => by
      refine ⟨?_, (World.ownsRow.lt ho q hq).2⟩
      rcases ha with e | e
      · rw [e] at hq; cases hq
      · rw [e] at hq; cases hq; omega
    have hp : Part (fun q => q = h) w (w2.setCell ⟨h, 6, none⟩ (.slice a 1 c)) := (Part.mono (G := fun q => q = h) b2 (fun _ _ h => h.elim)).setCell (p := ⟨h, 6, none⟩) (fun _ => rfl) _
    have hss : (w2.setCell ⟨h, 6, none⟩ (.slice a 1 c)).heap.size = w2.heap.size := by simp [World.setCell]
    refine ⟨a, c, rfl, cells_free k2 6, ⟨_, (hget k2).2.2.2.2.2.2.1⟩, ⟨⟨.slice none 0 0, .slice none 0 0, .slice a 1 c, heap_set_at k2 _, World.ownsRow_nil _ _ _ _, World.ownsRow_nil _ _ _ _, row_set ho (fun e => by have := (hvb _ e).1; omega) _ _, fun q hq => (by cases hq), fun j hj => ?_, fun q hq => (by cases hq), fun q hq => (by cases hq), fun q hq => .inr ⟨(hvb q hq).1, by rw [hss]; exact (hvb q hq).2⟩⟩, fun j hj => ?_, fun i j hi hj => ?_, .inl rfl, fun q hq => ?_, by decide, by decide, fun j hj => (by cases hj), by decide, rfl⟩, hp⟩
    · exact absurd hj (by show ¬ j < 0 + 0; omega)
    · exact absurd hj (by show ¬ j < 0 + 0; omega)
    · exact absurd hi (by show ¬ i < 0 + 0; omega)
    · have := b2.size
      rcases hq with rfl | hq
      · rw [hss]; omega
      · exact hq.2
  clear k1
  go_enter Tryd.func6, Tryd.ntmps6
  go_wp2_with fail
  refine HM.out.mono ?_
  rintro r w1 ⟨rfl, hw⟩
  obtain rfl : w = w1 := hw.symm
  clear hw HM
  go_wp2_with fail
  refine HK.out.mono ?_
  rintro r w1 ⟨rfl, q1⟩
  have c6 := HS.out _ q1
  clear HK HS
  go_wp2_with (at_builtin; refine wpList_append_own_at _ rfl _ _ 33 rfl 0 28 i0 (.int .i64 0) 1 8 Tryd.underlying33 hi0 hz0 hz1 hz2 rfl (by decide) (.slice none 0 0) 0 [] rfl (World.ownsRow_nil _ _ _ _) ⟨w1.heap.size, 0, none⟩ 1 1 [.int .i64 0] rfl rfl ?q1 ?q2 ?q3 ?q4 (Nat.zero_le _) ?_)
  case q1 =>
    intro j u hu
    cases j with
    | zero => simp at hu; subst hu; rw [Addr.add_lit]; exact (cells_at (heap_alloc_at _ _ _ rfl) 0)
    | succ j => simp at hu
  case q2 => intro u hu; simp at hu; subst hu; rfl
  case q3 => unfold maxLen; omega
  case q4 => omega
  intro v2 w2 ho2 hg2 _ hat
  obtain ⟨a, c, rfl, y1, ⟨y, y2⟩, HN⟩ := HE.out _ _ _ _ q1 ho2 hg2 (by simpa using hat)
  clear HE ho2 hg2 hat c6 q1
  go_wp2
  go_ret
  exact ⟨rfl, HN⟩
end Go.Proofs.YtmpilcamnhlalaaDoor
