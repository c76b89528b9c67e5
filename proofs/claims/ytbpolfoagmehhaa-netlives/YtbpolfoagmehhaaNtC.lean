/-
  slices.Delete of one message out of a row of one's own.
-/
import Derived.Test.YtbpolfoagmehhaaNtB
import Derived.Lib.SlicesDelete
import Derived.Lib.SliceRun
namespace Go.Proofs.Ytbpolfoagmehhaa
open Go.RowKit
set_option linter.unusedVariables false
set_option maxRecDepth 100000
set_option maxHeartbeats 2000000

theorem heap_setCells (g : Nat) {t : TypeId} : ∀ (vs : List Value) (o : Nat) (w : World) (cur : Array Value), w.heap[g]? = some (.cells cur t (0, 0)) → (w.setCells g o vs).heap[g]? = some (.cells (Lib.lay cur o vs) t (0, 0))
  | [], _, _, _, h => h
  | x :: r, o, w, cur, h => by
    rw [World.setCells, Lib.lay]
    exact heap_setCells g r (o + 1) _ _ (heap_set_at h x)
theorem part_setCells (g : Nat) : ∀ (vs : List Value) (o : Nat) (w : World), Part (fun k => k = g) w (w.setCells g o vs)
  | [], _, w => Part.refl _ _
  | x :: r, o, w => by
    rw [World.setCells]
    exact ((Part.refl (fun k => k = g) w).setCell (p := ⟨g, o, none⟩) (fun _ => rfl) x).trans (part_setCells g r (o + 1) _) (fun _ _ h => h)

theorem n_delete {w : World} {B g n cap : Nat} {ys : List Value} (h : w.ownsRow B 29 1 (.slice (some ⟨g, 0, none⟩) n cap) n ys) (h1 : ∀ u ∈ ys, u.oneCell' = true) (i : Nat) (hi : i < n) (hn : n ≤ 64) :
    Calls Try.prog 26 #[.slice (some ⟨g, 0, none⟩) n cap, .int .i64 (i : Int), .int .i64 ((i : Int) + 1)] w fun e w' => e = .returned (.slice (some ⟨g, 0, none⟩) (n - 1) cap) ∧ w'.ownsRow B 29 1 (.slice (some ⟨g, 0, none⟩) (n - 1) cap) (n - 1) (ys.eraseIdx i) ∧ Part (fun k => k = g) w w' := by
  obtain ⟨i0, hi0, hz0, hz1, hz2⟩ := info_parts infoB
  have hyl : ys.length = n := by have := h.1; omega
  rcases h.2 with ⟨e1, _⟩ | ⟨g', cap', cur, e1, hB, hg, hc1, hc2, hc3, hc4⟩
  · cases e1
  · cases e1
    rw [Nat.mul_one] at hc3 hc4
    have hget : ∀ j, j < n → cur[j]? = ys[j]? := fun j hj => by
      have := congrArg (fun l : List Value => l[j]?) hc4
      simpa [List.getElem?_take, hj] using this
    have hcz : cur.size = cap := hc3
    obtain ⟨news, hnews⟩ : ∃ news, news = ys.drop (i + 1) := ⟨_, rfl⟩
    have hlen : news.length = n - (i + 1) := by rw [hnews]; simp [hyl]
    obtain ⟨A, hA, hsrc⟩ : ∃ A : Addr, (if cap = i + 1 then some (⟨g, 0, none⟩ : Addr) else some ⟨g, i + 1, none⟩) = some A ∧ Hid (∀ t u, news[t]? = some u → w.drew.cell? (A.add t) = some u) := by
      by_cases hc : cap = i + 1
      · refine ⟨⟨g, 0, none⟩, by simp [hc], fun t u hu => ?_⟩
        have h0 : news.length = 0 := by rw [hlen]; omega
        rw [List.length_eq_zero_iff.1 h0] at hu
        simp at hu
      · refine ⟨⟨g, i + 1, none⟩, by simp [hc], fun t u hu => ?_⟩
        have ht : t < n - (i + 1) := by
          have := (List.getElem?_eq_some_iff.1 hu).1
          rwa [hlen] at this
        rw [hnews, List.getElem?_drop] at hu
        rw [Addr.add_lit]
        show w.cell? _ = _
        rw [cells_at hg, hget _ (by omega)]
        exact hu
    have s1 : Hid (news.length = (n - (i + 1)) * 1) := by rw [Nat.mul_one]; exact hlen
    have s2 : Hid (∀ u ∈ news, u.oneCell' = true) := fun u hu => by
      rw [hnews] at hu
      exact h1 u (List.mem_of_mem_drop hu)
    have s3 : Hid (∀ t, t < news.length → (w.drew.cell? ⟨g, 0 + i * 1 + t, none⟩).isSome = true ∧ w.drew.frozen? ⟨g, 0 + i * 1 + t, none⟩ = false) := fun t ht => by
      rw [hlen] at ht
      refine ⟨?_, cells_free hg _⟩
      show (w.cell? _).isSome = true
      rw [cells_at hg, Nat.mul_one, Nat.zero_add, Array.getElem?_eq_getElem (by omega)]
      rfl
    obtain ⟨W1, hW1⟩ : ∃ W1, W1 = w.drew.setCells g (0 + i * 1) news := ⟨_, rfl⟩
    have hg1 : W1.heap[g]? = some (.cells (Lib.lay cur i news) 29 (0, 0)) := by
      rw [hW1, Nat.mul_one, Nat.zero_add]
      exact heap_setCells g news i w.drew cur hg
    have hP1 : Part (fun k => k = g) w W1 := by
      rw [hW1]
      exact ((Part.refl (fun k => k = g) w).drewN 1).trans (part_setCells g news _ _) (fun _ _ h => h)
    obtain ⟨W2, hW2⟩ : ∃ W2, W2 = W1.setCells g (i + (n - (i + 1))) (List.replicate (n - (i + (n - (i + 1)))) (.slice none 0 0)) := ⟨_, rfl⟩
    have hcl : ∀ ty, (Builtin.clear_ #[26] ty #[.slice (some ⟨g, i + (n - (i + 1)), none⟩) (n - (i + (n - (i + 1)))) (cap - (i + (n - (i + 1))))]).run Try.prog W1 = .ok (.tuple #[]) W2 := by
      rw [hW2]
      exact fun ty => Lib.run_clear_slice W1 26 29 ty (.slice none 0 0) Try.underlying26 Try.zeroValue29 rfl rfl g (i + (n - (i + 1))) _ _ (by omega) (fun t ht => by
        rw [cells_at hg1, Array.getElem?_eq_getElem (by rw [Lib.lay_size]; omega)]
        rfl) (fun t ht => cells_free hg1 _)
    have HE : Hid (W2.ownsRow B 29 1 (.slice (some ⟨g, 0, none⟩) (n - 1) cap) (n - 1) (ys.eraseIdx i) ∧ Part (fun k => k = g) w W2) := by
      refine ⟨⟨by rw [List.length_eraseIdx, if_pos (by omega)]; omega, .inr ⟨g, cap, _, rfl, hB, by rw [hW2]; exact heap_setCells g _ _ W1 _ hg1, by omega, hc2, by rw [Lib.lay_size, Lib.lay_size, Nat.mul_one]; exact hcz, ?_⟩⟩, by rw [hW2]; exact hP1.trans (part_setCells g _ _ _) (fun _ _ h => h)⟩
      rw [Nat.mul_one]
      apply List.ext_getElem?
      intro j
      rw [List.getElem?_take]
      by_cases hj : j < n - 1
      · rw [if_pos hj, Array.getElem?_toList, Lib.lay_get? _ _ _ _ (by rw [Lib.lay_size]; simp; omega), if_neg (by omega), Lib.lay_get? _ _ _ _ (by omega), List.getElem?_eraseIdx]
        by_cases hij : j < i
        · rw [if_neg (by omega), if_pos hij, hget j (by omega)]
        · rw [if_pos (by omega), if_neg hij, hnews, List.getElem?_drop]
          congr 1
          omega
      · rw [if_neg hj, List.getElem?_eq_none (by rw [List.length_eraseIdx, if_pos (by omega)]; omega)]
    have hW : Hid (W1 = w.drew.setCells g (0 + i * 1) news) := hW1
    have HW2 : Hid (W2 = W1.setCells g (i + (n - (i + 1))) (List.replicate (n - (i + (n - (i + 1)))) (.slice none 0 0))) := hW2
    have hic : i ≤ cap := by omega
    have hjc : i + 1 ≤ cap := by omega
    have hnc : n ≤ cap := hc1
    have hin : Hid (i + (n - (i + 1)) = n - 1) := show i + (n - (i + 1)) = n - 1 by omega
    have hb1 : (0 : Int) ≤ (i : Int) + 1 := by omega
    have hb2 : (i : Int) + 1 ≤ (n : Int) := by omega
    have hij : ((i : Int) == (i : Int) + 1) = false := by simp; omega
    clear hW1 hW2 hg1 hP1 hg hget hnews hlen h h1 hc3 hc4 hyl hcz hc1
    go_enter Try.func26, Try.ntmps26
    go_wp2_with fail
    go_region_law (refine step_append_room rfl (.tmp 22) (.tmp 25) 26 rfl 29 i0 1 Try.underlying26 hi0 hz1 g 0 i cap (by simp [Act.eval, Act.put]) A (n - (i + 1)) (cap - (i + 1)) news (by simp [Act.eval, Act.put]) s1.out hsrc.out s2.out (by omega) s3.out ?_; rw [← hW.out])
    go_wp2
    go_ret
    rw [hin.out]
    exact ⟨rfl, HE.out⟩
end Go.Proofs.Ytbpolfoagmehhaa
