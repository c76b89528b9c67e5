/-
  Proved: whatever two loads are handed in, PageApart (outside of where they part two loads are the same; put there, one becomes the other) returns true and leaves them as they were. No condition.
-/
import Derived.Test.YtenpdjcbbleghadOpen
import Derived.Test.YtenpdjcbbleghadApartLaw
namespace Go.Proofs.Ytenpdjcbbleghad
namespace pageApart
open Go.ChangeShapes Go.WideShapes Go.ChangeAt Go.RowKit
set_option linter.unusedVariables false

theorem least {p : Nat → Prop} : ∀ (n q : Nat), q ≤ n → p q → ∃ k, p k ∧ k ≤ q ∧ ∀ j, j < k → ¬ p j
  | 0, q, h, hq => by
    obtain rfl : q = 0 := by omega
    exact ⟨0, hq, Nat.le_refl _, fun j hj => absurd hj (by omega)⟩
  | n + 1, q, h, hq => by
    by_cases e : ∃ j, j < q ∧ p j
    · obtain ⟨j, h1, h2⟩ := e
      obtain ⟨k, a, b, c⟩ := least n j (by omega) h2
      exact ⟨k, a, by omega, c⟩
    · exact ⟨q, hq, Nat.le_refl _, fun j hj hp => e ⟨j, hj, hp⟩⟩
theorem most {p : Nat → Prop} (M : Nat) : ∀ (n q : Nat), M - q ≤ n → q < M → p q → ∃ l, p l ∧ q ≤ l ∧ l < M ∧ ∀ j, l < j → j < M → ¬ p j
  | 0, q, h, hM, hq => by omega
  | n + 1, q, h, hM, hq => by
    by_cases e : ∃ j, q < j ∧ j < M ∧ p j
    · obtain ⟨j, h1, h2, h3⟩ := e
      obtain ⟨l, a, b, c, d⟩ := most M n j (by omega) h2 h3
      exact ⟨l, a, by omega, c, d⟩
    · exact ⟨q, hq, Nat.le_refl _, hM, fun j h1 h2 h3 => e ⟨j, h1, h2, h3⟩⟩
theorem ends_ex {f g : Nat → Int} {n m : Nat} (h : lst f n ≠ lst g m) : ∃ k l, Ends f n g m k l := by
  obtain ⟨q, hq, hp⟩ := part_ex h
  obtain ⟨k, k1, k2, k3⟩ := least q q (Nat.le_refl _) hp
  obtain ⟨l, l1, l2, l3, l4⟩ := most (max n m) (max n m) q (by omega) hq hp
  exact ⟨k, l, k1, k3, l1, l4, by omega, l3⟩

theorem apart_walk (a0 b0 : Option Addr) (n c m d : Nat) (f g : Nat → Int) (w : World) (hn : n ≤ 140737488355328) (hm : m ≤ 140737488355328) (hf : From w a0 n f) (hg : From w b0 m g) (h1 : ∀ i, 0 ≤ f i ∧ f i ≤ 255) (h2 : ∀ i, 0 ≤ g i ∧ g i ≤ 255) (hd : m ≤ d) (hd2 : d ≤ 9223372036854775807) :
    Calls Try.prog 4 #[.slice a0 n c, .slice b0 m d] w fun e w' => e = .returned (.bool true) ∧ Below w.heap.size w w' := by
  by_cases e1 : n = 112
  · subst e1
    by_cases e2 : m = 112
    · subst e2
      by_cases he : lst f 112 = lst g 112
      · exact apart_same a0 b0 c d f g w hf hg he
      · obtain ⟨b, off, rfl, hc⟩ := hf.lay.resolve_left (by omega)
        obtain ⟨b', off', rfl, hc'⟩ := hg.lay.resolve_left (by omega)
        obtain ⟨k, l, hE⟩ := ends_ex he
        exact apart_other b off b' off' c d k l f g w hd hd2 hc hc' h1 h2 he hE
    · exact apart_else2 a0 b0 c m d f g w hm hf hg h1 h2 e2
  · exact apart_else1 a0 b0 n c m d f g w hn hm hf hg h1 h2 e1

set_option maxRecDepth 100000 in
theorem lifted (os : Os) (started : os.Started) (H : Type) (enc : TypeId × Value → H) :
    ReturnsInHanded {} Try.checked os 4 .any (Rows.pageApartSpec.pre6 enc Try.prog Try.f4 Rows.pageApartRow.domain false) (Rows.pageApartSpec.post enc Try.prog Try.f4 false true false false) := by
  refine returnsInHanded_of_change_sized (C := Try.checked) own started (by kernel_rfl) Try.func4
    (ChangeSpec.witness6 (enc := enc) (C := Try.checked) false ⟨#[], #[.slice none 0 0, .slice none 0 0], []⟩ 8 (by kernel_rfl) (by kernel_rfl) (by kernel_rfl) (by kernel_rfl)) ?_
  intro W base args ds gs before hval0 hW hcnd hsz0 _
  have hsz : (DataW.weightsEach Try.prog (Try.f4.params.toList ++ Rows.pageApartSpec.plain.varTypes Try.prog) (ds ++ gs)).all (· ≤ reachBytes) = true := hsz0
  clear hsz0
  have hval : ∀ (j : Nat) t v, Try.f4.params[j]? = some t → args[j]? = some v → Value.okWide Try.prog W .any base t v := hval0
  have hW' := hW
  obtain ⟨p, q, hA0, hV, rfl, hfz, hnd⟩ := hW
  have hA : DataW.TrodAll enc Try.prog W 0 (fun _ => true) true Try.f4.params.toList args.toList ds p := hA0
  rw [Try.params4] at hA hval hsz
  obtain ⟨v0, vs0, d0, ds0, p0, q0, hargs, rfl, rfl, h0, r0⟩ := trodAll_cons hA
  obtain ⟨v1, vs1, d1, ds1, p1, q1, rfl, rfl, rfl, h1, r1⟩ := trodAll_cons r0
  obtain ⟨rfl, rfl, rfl⟩ := trodAll_nil r1
  obtain rfl : args = #[v0, v1] := by cases args; simp_all
  obtain ⟨rfl, rfl⟩ := trodVars_none hV
  obtain ⟨a0, len0, cap0, rfl⟩ := okWide_slice Try.underlying22 (hval 0 22 v0 rfl rfl)
  obtain ⟨a1, len1, cap1, rfl⟩ := okWide_slice Try.underlying22 (hval 1 22 v1 rfl rfl)
  have lt0 : ∀ x ∈ p0, x.block < W.heap.size := by obtain ⟨m, hm⟩ := h0; exact DataW.trod_lt m _ _ _ hm
  have lt1 : ∀ x ∈ p1, x.block < W.heap.size := by obtain ⟨m, hm⟩ := h1; exact DataW.trod_lt m _ _ _ hm
  obtain ⟨f0, w0, by0, l0, c0, n0, e0⟩ := open_bytes h0
  obtain ⟨f1, w1, by1, l1, c1, n1, e1⟩ := open_bytes h1
  have b0 := reach_bytes hsz (j := 0) rfl rfl e0
  have b1 := reach_bytes hsz (j := 1) rfl rfl e1
  clear hA0 hval0
  refine (apart_walk a0 a1 len0 cap0 len1 cap1 f0 f1 W (by omega) (by omega) w0 w1 by0 by1 l1 c1).mono fun e W' ⟨he, bel⟩ => ?_
  subst he
  exact ⟨_, rfl, _, _, _, [], _, [], hW', trodAll_mk1 (shut_bool Try.underlying4 _), (trodAll_cons_mk (Below.trod laidOut (by kernel_rfl) (of_decide_eq_true (by kernel_rfl)) h0 bel lt0) (trodAll_cons_mk (Below.trod laidOut (by kernel_rfl) (of_decide_eq_true (by kernel_rfl)) h1 bel lt1) trodAll_mk0)), rfl, bel.frame _, fun h => by cases h⟩

theorem over : Rows.pageApartRow.holds Try.pinned (OpenSpec.ofChange Rows.pageApartSpec) :=
  OpenClaim.holds_of_wide 4 Try.f4 rfl rfl rfl rfl rfl rfl rfl ⟨rfl, rfl, rfl, rfl, rfl⟩ rfl rfl rfl rfl rfl (by kernel_rfl) Try.func4 (by kernel_rfl)
    (of_decide_eq_true (by kernel_rfl)) (by unfold Func.isWrapper; first | (rw [if_pos (by decide +kernel)]; kernel_rfl) | (rw [if_neg (by decide +kernel)]; exact ⟨rfl, rfl⟩))
    (fun os started H enc _ => lifted os started H enc)
end pageApart

/-- Whatever is handed in, the law PageApart answers true. -/
theorem pageApart_holds : Rows.PageApartSaid := pageApart.over
#print axioms pageApart_holds
end Go.Proofs.Ytenpdjcbbleghad
