/-
  How long what is written may be.
-/
import Derived.Test.YtfobiknbjijphaaDtN
namespace Go.Proofs.Ytfobiknbjijphaa
open Go.RowKit
set_option linter.unusedVariables false

theorem wtL_app : ∀ (l : List Dt) (x : Dt), wtL (l ++ [x]) = wtL l + x.wt
  | [], x => by simp [wtL]
  | y :: r, x => by
    show y.wt + wtL (r ++ [x]) = y.wt + wtL r + x.wt
    rw [wtL_app r x]; omega
theorem wtL_take (l : List Dt) (j : Nat) : wtL (l.take j) ≤ wtL l := by
  induction l generalizing j with
  | nil => simp
  | cons x r ih =>
    cases j with
    | zero => exact Nat.zero_le _
    | succ j =>
      have := ih j
      show x.wt + wtL (r.take j) ≤ x.wt + wtL r
      omega
theorem wtL_next {l : List Dt} {j : Nat} (h : j < l.length) : wtL (l.take j) + l[j].wt ≤ wtL l := by
  rw [← wtL_app, ← take_snoc _ _ h]
  exact wtL_take l (j + 1)
mutual
theorem out_le : ∀ d : Dt, d.out.length + 3 ≤ 8 * d.wt
  | .node k t l m => by
    have h1 := outL_le false l
    have h2 := outT_le m
    have h3 := escL_len t.data.toList
    have h4 : t.data.toList.length = t.size := by simp
    show (if k = 3 then strL t else if sqB k then (if k = 6 then [35] else []) ++ (40 :: (outL false l ++ outT m ++ [41])) else t.data.toList).length + 3 ≤ 8 * (1 + t.size + (wtL l + wtL m))
    split
    · unfold strL
      simp only [List.length_cons, List.length_append, List.length_nil]
      omega
    · split
      · split <;> simp only [List.length_cons, List.length_append, List.length_nil] <;> omega
      · omega
theorem outL_le : ∀ (f : Bool) (l : List Dt), (outL f l).length ≤ 8 * wtL l
  | _, [] => Nat.zero_le _
  | f, x :: r => by
    have h1 := out_le x
    have h2 := outL_le true r
    show ((if f then [32] else []) ++ x.out ++ outL true r).length ≤ 8 * (x.wt + wtL r)
    cases f <;> simp only [List.length_cons, List.length_append, List.length_nil, if_true, if_false, Bool.false_eq_true] <;> omega
theorem outT_le : ∀ (l : List Dt), (outT l).length ≤ 8 * wtL l
  | [] => Nat.zero_le _
  | x :: r => by
    have h1 := out_le x
    have h2 := outT_le r
    show ([32, 46, 32] ++ x.out ++ outT r).length ≤ 8 * (x.wt + wtL r)
    simp only [List.length_cons, List.length_append, List.length_nil]
    omega
end
end Go.Proofs.Ytfobiknbjijphaa
