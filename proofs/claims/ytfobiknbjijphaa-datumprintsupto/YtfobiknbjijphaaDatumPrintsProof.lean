/-
  Proved: whatever datum is handed in, of together at most 1048576 values and letters, DatumPrints (the program and the document print the same, and say the same of whether it may be, its depth and its size) returns true and leaves it as it was. Condition: that bound.
-/
import Derived.Test.YtfobiknbjijphaaDtW
import Derived.JoinedCond
namespace Go.Proofs.Ytfobiknbjijphaa
namespace datumPrints
open Go.ChangeShapes Go.WideShapes Go.ChangeAt Go.RowKit
set_option linter.unusedVariables false

theorem contract (H : Type) (enc : TypeId × Value → H) (W : World) (base : Nat) (args : Array Value) (ds gs : List (DataW H)) (before : List MemPlace)
    (hval : ∀ (j : Nat) t v, Try.f3.params[j]? = some t → args[j]? = some v → Value.okWide Try.prog W .any base t v)
    (hW : DataW.Whole enc Try.prog Try.f3.params.toList Rows.datumPrintsSpec.vars false W args.toList ds gs before) (hk : Rows.uptoSmall H (ds ++ gs) = true) :
    Calls Try.prog 3 args W fun e W' => ∃ v, e = .returned v ∧ Rows.datumPrintsSpec.post enc Try.prog Try.f3 false true false false W args v W' := by
  have hW' := hW
  obtain ⟨p, q, hA0, hV, rfl, hfz, hnd⟩ := hW
  have hA : DataW.TrodAll enc Try.prog W 0 (fun _ => true) true Try.f3.params.toList args.toList ds p := hA0
  rw [Try.params3] at hA hval
  obtain ⟨v0, vs0, d0, ds0, p0, q0, hargs, rfl, rfl, h0, r0⟩ := trodAll_cons hA
  obtain ⟨rfl, rfl, rfl⟩ := trodAll_nil r0
  obtain rfl : args = #[v0] := by cases args; simp_all
  obtain ⟨rfl, rfl⟩ := trodVars_none hV
  obtain ⟨cs, rfl, hcs⟩ := okWide_struct Try.underlying24 (hval 0 24 v0 rfl rfl)
  have lt0 : ∀ x ∈ p0, x.block < W.heap.size := by obtain ⟨m, hm⟩ := h0; exact DataW.trod_lt m _ _ _ hm
  have hb := of_decide_eq_true hk
  simp only [List.cons_append, List.nil_append, Rows.uptoBulkAll] at hb
  have hd : ∃ t, DAt W t (.agg cs) ∧ t.siz ≤ 1048576 ∧ 8 * t.wt ≤ 1099511627776 := by
    obtain ⟨fuel, hf⟩ := h0
    obtain ⟨t, V, e1, e2, e3, e4⟩ := open_datum (Rows.uptoBulk d0 + 1) fuel _ _ (Nat.lt_succ_self _) hf (by show Rows.uptoBulk d0 ≤ _; omega)
    have e5 : cs = #[V 0, V 1, V 2, V 3] := by
      have := congrArg List.toArray e1
      simpa [Value.cells] using this
    rw [e5]
    have e3' : t.siz ≤ Rows.uptoBulk d0 := e3
    have e4' : t.wt ≤ Rows.uptoBulk d0 := e4
    exact ⟨t, e2, by omega, by omega⟩
  obtain ⟨t, h1, h2, h3⟩ := hd
  clear hA0
  refine (law_walk h1 h2 h3).mono fun e W' ⟨he, bel'⟩ => ?_
  have bel := bel'.out
  subst he
  exact ⟨_, rfl, _, _, _, [], _, [], hW', trodAll_mk1 (shut_bool Try.underlying4 _), trodAll_mk1 (Below.trod laidOutP (by kernel_rfl) (of_decide_eq_true (by kernel_rfl)) h0 bel lt0), rfl, bel.frame _, fun h => by cases h⟩

set_option maxRecDepth 100000 in
theorem lifted (os : Os) (started : os.Started) (H : Type) (enc : TypeId × Value → H) (F : Stop.Interp) :
    ReturnsInHanded {} Try.checked os 3 .any ((Rows.OpenSpec.upto Rows.datumPrintsSpec).pre6 enc Try.prog Try.f3 Rows.datumPrintsUptoRow.domain false) (((Rows.OpenSpec.upto Rows.datumPrintsSpec).at F).post enc Try.prog Try.f3 false true false false) := by
  refine returnsInHanded_of_cond (C := Try.checked) (s := Rows.OpenSpec.upto Rows.datumPrintsSpec) (k := Rows.uptoSmall) rfl ownK started (by kernel_rfl) Try.func3
    (OpenSpec.witness (enc := enc) (C := Try.checked) (s := Rows.OpenSpec.upto Rows.datumPrintsSpec) (k := Rows.uptoSmall) rfl false ⟨#[], #[.agg #[.int .i64 0, .string ⟨#[]⟩, .slice none 0 0, .slice none 0 0]], []⟩ 8 (by kernel_rfl) (by kernel_rfl) (by kernel_rfl)
      (x := ([.agg [.lit (.int .i64 0), .lit (.string []), .nil, .nil]], [], [])) (by kernel_rfl) rfl (by kernel_rfl)) ?_
  intro W base args ds gs before hval hW _ hk _
  exact contract H enc W base args ds gs before hval hW hk

theorem saidUpto : Rows.DatumPrintsUptoSaid :=
  OpenClaim.holds_of_cond 3 Try.f3 rfl rfl rfl rfl rfl rfl rfl ⟨rfl, rfl, rfl, rfl, rfl⟩ rfl rfl rfl rfl rfl (by kernel_rfl) Try.func3 (by kernel_rfl)
    (of_decide_eq_true (by kernel_rfl)) (by unfold Func.isWrapper; first | (rw [if_pos (by decide +kernel)]; kernel_rfl) | (rw [if_neg (by decide +kernel)]; exact ⟨rfl, rfl⟩))
    (fun os started H enc _ F => lifted os started H enc F)
end datumPrints

/-- The second form of DatumPrints. -/
theorem datumPrints_holds : Rows.DatumPrintsUptoSaid := datumPrints.saidUpto
#print axioms datumPrints_holds
end Go.Proofs.Ytfobiknbjijphaa
