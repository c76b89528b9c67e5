/-
  errors.Is of two errors that are numbers of one type: whether they are the same.
-/
import Derived.Test.YtgfnobnlaedmkaaGreatDoorChecked
import Derived.WalkKit
import Derived.LaidEql
import Derived.Stop.Asserts
import Derived.RowKitTokens
namespace Go.Proofs.YtgfnobnlaedmkaaGreatDoor
open Go.RowKit Go.Extern.Stop Go.Stop Go.Extern
set_option linter.unusedVariables false

theorem isTypeOf (v : Value) (w : World) : (Extern.ReflectliteType.typeOf #[.iface 28 v]).run Tryz.prog w = .ok (.iface 150 (.agg #[.pointer (some ⟨7, 28, none⟩)])) w := by kernel_rfl
theorem isComparable (w : World) : ((Go.Extern.find Tryz.f259).map fun g => (g #[.agg #[.pointer (some ⟨7, 28, none⟩)]]).run Tryz.prog w) = some (.ok (.bool true) w) := by kernel_rfl
theorem isMethodC (v : Value) (w : World) : (Go.method 503 150 v "Comparable").run Tryz.prog w = .ok (259, v) w := by kernel_rfl
theorem isComp : (Tryz.prog.info? 28).map (·.comparable) = some true := by kernel_rfl
theorem noIs (v : Value) (xT : TypeId) (w : World) : (Instr.typeAssert (.iface 28 v) xT 152 true).run Tryz.prog w = .ok (.tuple #[.nilIface, .bool false]) w := run_typeAssert_lacksB Tryz.underlying152 (by kernel_rfl) (by kernel_rfl) v xT w
theorem noUn (v : Value) (xT : TypeId) (w : World) : (Instr.typeAssert (.iface 28 v) xT 155 true).run Tryz.prog w = .ok (.tuple #[.nilIface, .bool false]) w := run_typeAssert_lacksB Tryz.underlying155 (by kernel_rfl) (by kernel_rfl) v xT w
theorem noUns (v : Value) (xT : TypeId) (w : World) : (Instr.typeAssert (.iface 28 v) xT 157 true).run Tryz.prog w = .ok (.tuple #[.nilIface, .bool false]) w := run_typeAssert_lacksB Tryz.underlying157 (by kernel_rfl) (by kernel_rfl) v xT w
/-- '==' of two errors of one integer type. -/
theorem eql_nums {ti tn : TypeId} {ms : Array (String × TypeId)} {i : TypeInfo} {k : IntKind} {P : Program} (w : World) (a b : Int) (hi : P.underlying ti = some (.interface ms)) (hn : P.underlying tn = some (.int k)) (hinfo : P.info? tn = some i) (hcomp : i.comparable = true) :
    (binOp .eql ti (.iface tn (.int k a)) (.iface tn (.int k b))).run P w = .ok (.bool (a == b)) w := by
  have h : ∀ d, (Op.equalIn (d + 2) ti (.iface tn (.int k a)) (.iface tn (.int k b))).run P w = .ok (a == b) w := fun d => by
    simp [Op.equalIn, run_underlying hi, run_underlying hn, typeInfo, hinfo, hcomp]
  simp only [binOp]
  simp [Op.equal, Op.maxDepth, h 9998]
set_option maxRecDepth 100000 in
set_option maxHeartbeats 2000000 in
theorem e_same (a : Int) (w : World) : Calls Tryz.prog 30 #[.iface 28 (.int .i64 a), .iface 28 (.int .i64 a)] w fun e w' => e = .returned (.bool true) ∧ w' = w := by
  obtain ⟨i, hi, hcmp⟩ := Option.map_eq_some_iff.1 isComp
  have h8 := @run_callFunc_extern Tryz.prog 52 _ Extern.ReflectliteType.typeOf Tryz.func52 (by kernel_rfl) (by kernel_rfl) (by kernel_rfl) (by kernel_rfl)
  obtain ⟨g, hg, cT⟩ := Option.map_eq_some_iff.1 (isComparable w)
  have h32 := @run_callFunc_extern Tryz.prog 259 _ g Tryz.func259 (by kernel_rfl) (by kernel_rfl) (by kernel_rfl) hg
  have tT := isTypeOf
  have mR := isMethodC
  have heq := eql_nums (P := Tryz.prog) w a a Tryz.underlying103 Tryz.underlying28 hi hcmp
  go_enter Tryz.func30, Tryz.ntmps30
  go_wp2
  refine wp_loop_rounds 1 ?_
  rw [rounds_succ]
  go_wp2
  go_ret
  exact ⟨rfl, rfl⟩
set_option maxRecDepth 100000 in
set_option maxHeartbeats 2000000 in
theorem e_other (a b : Int) (w : World) (hab : (a == b) = false) : Calls Tryz.prog 30 #[.iface 28 (.int .i64 a), .iface 28 (.int .i64 b)] w fun e w' => e = .returned (.bool false) ∧ w' = w := by
  obtain ⟨i, hi, hcmp⟩ := Option.map_eq_some_iff.1 isComp
  have h8 := @run_callFunc_extern Tryz.prog 52 _ Extern.ReflectliteType.typeOf Tryz.func52 (by kernel_rfl) (by kernel_rfl) (by kernel_rfl) (by kernel_rfl)
  obtain ⟨g, hg, cT⟩ := Option.map_eq_some_iff.1 (isComparable w)
  have h32 := @run_callFunc_extern Tryz.prog 259 _ g Tryz.func259 (by kernel_rfl) (by kernel_rfl) (by kernel_rfl) hg
  have tT := isTypeOf
  have mR := isMethodC
  have nE := noIs
  have uE := noUn
  have vE := noUns
  have heq := eql_nums (P := Tryz.prog) w a b Tryz.underlying103 Tryz.underlying28 hi hcmp
  go_enter Tryz.func30, Tryz.ntmps30
  go_wp2
  refine wp_loop_rounds 1 ?_
  rw [rounds_succ]
  go_wp2
  go_ret
  exact ⟨rfl, rfl⟩
end Go.Proofs.YtgfnobnlaedmkaaGreatDoor
