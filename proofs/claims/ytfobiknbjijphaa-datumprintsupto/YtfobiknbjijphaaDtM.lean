/-
  What Print writes, as a function of the tree; a builder that is written; the program's writeString.
-/
import Derived.Test.YtfobiknbjijphaaDtL
import Derived.Test.YtfobiknbjijphaaShelfT
import Derived.Test.YtfobiknbjijphaaShelfW
namespace Go.Proofs.Ytfobiknbjijphaa
open Go.RowKit
set_option linter.unusedVariables false

/-- A string's byte as it is written. -/
def escB (c : UInt8) : List UInt8 := if c = 92 ∨ c = 34 then [92, c] else if c = 10 then [92, 110] else if c = 9 then [92, 116] else [c]
def escL : List UInt8 → List UInt8
  | [] => []
  | c :: r => escB c ++ escL r
theorem escL_app : ∀ (l : List UInt8) (c : UInt8), escL (l ++ [c]) = escL l ++ escB c
  | [], c => by simp [escL]
  | y :: r, c => by
    show escB y ++ escL (r ++ [c]) = (escB y ++ escL r) ++ escB c
    rw [escL_app r c, List.append_assoc]
theorem escB_len (c : UInt8) : (escB c).length ≤ 2 := by
  unfold escB
  split
  · simp
  · split
    · simp
    · split <;> simp
theorem escL_len : ∀ (l : List UInt8), (escL l).length ≤ 2 * l.length
  | [] => Nat.le_refl _
  | c :: r => by
    show (escB c ++ escL r).length ≤ 2 * (r.length + 1)
    rw [List.length_append]
    have := escB_len c
    have := escL_len r
    omega
theorem escL_take (l : List UInt8) (j : Nat) : (escL (l.take j)).length ≤ (escL l).length := by
  induction l generalizing j with
  | nil => simp
  | cons x r ih =>
    cases j with
    | zero => exact Nat.zero_le _
    | succ j =>
      show (escB x ++ escL (r.take j)).length ≤ (escB x ++ escL r).length
      rw [List.length_append, List.length_append]
      have := ih j
      omega
def strL (t : ByteArray) : List UInt8 := 34 :: (escL t.data.toList ++ [34])
mutual
def Dt.out : Dt → List UInt8
  | .node k t l m => if k = 3 then strL t else if sqB k then (if k = 6 then [35] else []) ++ (40 :: (outL false l ++ outT m ++ [41])) else t.data.toList
def outL : Bool → List Dt → List UInt8
  | _, [] => []
  | f, x :: r => (if f then [32] else []) ++ x.out ++ outL true r
def outT : List Dt → List UInt8
  | [] => []
  | x :: r => [32, 46, 32] ++ x.out ++ outT r
end
theorem outL_app : ∀ (f : Bool) (l : List Dt) (x : Dt), outL f (l ++ [x]) = outL f l ++ ((if f || !l.isEmpty then [32] else []) ++ x.out)
  | f, [], x => by cases f <;> simp [outL]
  | f, y :: r, x => by
    show (if f then [32] else []) ++ y.out ++ outL true (r ++ [x]) = ((if f then [32] else []) ++ y.out ++ outL true r) ++ _
    rw [outL_app true r x]
    cases f <;> simp
theorem outT_app : ∀ (l : List Dt) (x : Dt), outT (l ++ [x]) = outT l ++ ([32, 46, 32] ++ x.out)
  | [], x => by simp [outT]
  | y :: r, x => by
    show [32, 46, 32] ++ y.out ++ outT (r ++ [x]) = ([32, 46, 32] ++ y.out ++ outT r) ++ _
    rw [outT_app r x]
    simp
theorem outL_take (f : Bool) (l : List Dt) (j : Nat) : (outL f (l.take j)).length ≤ (outL f l).length := by
  induction l generalizing j f with
  | nil => simp
  | cons x r ih =>
    cases j with
    | zero => exact Nat.zero_le _
    | succ j =>
      show ((if f then [32] else []) ++ x.out ++ outL true (r.take j)).length ≤ ((if f then [32] else []) ++ x.out ++ outL true r).length
      simp only [List.length_append]
      have := ih true j
      omega
theorem outT_take (l : List Dt) (j : Nat) : (outT (l.take j)).length ≤ (outT l).length := by
  induction l generalizing j with
  | nil => simp
  | cons x r ih =>
    cases j with
    | zero => exact Nat.zero_le _
    | succ j =>
      show ([32, 46, 32] ++ x.out ++ outT (r.take j)).length ≤ ([32, 46, 32] ++ x.out ++ outT r).length
      simp only [List.length_append]
      have := ih j
      omega
/-- A builder that holds these bytes. -/
def Bd (B b : Nat) (l : List UInt8) (w : World) : Prop := Lib.IsBuilderF 31 5 B b (Lib.byteCells l) w ∧ B ≤ w.heap.size
/-- What stays when a builder is written. -/
def Kp (B b : Nat) (w w' : World) : Prop := Below B w w' ∧ Lib.OthersKept 5 (some b) w w'
theorem Kp.refl (B b : Nat) (w : World) : Kp B b w w := ⟨Below.refl _ _, Lib.OthersKept.refl _ _ _⟩
theorem Kp.trans {B b : Nat} {w w1 w2 : World} (h : Kp B b w w1) (k : Kp B b w1 w2) : Kp B b w w2 := ⟨h.1.trans k.1, h.2.trans k.2⟩
theorem Kp.alloc {B b : Nat} {w w1 : World} (h : Kp B b w w1) (hB : B ≤ w1.heap.size) (o : Obj) : Kp B b w (w1.alloc o) := ⟨h.1.alloc hB o, h.2.alloc o⟩
theorem Bd.alloc {B b : Nat} {l : List UInt8} {w : World} (h : Bd B b l w) (o : Obj) : Bd B b l (w.alloc o) := ⟨h.1.alloc o, by rw [World.size_alloc]; have := h.2; omega⟩
theorem b_str {B b : Nat} {l : List UInt8} {w : World} (h : Bd B b l w) (s : ByteArray) (hl : l.length + s.size ≤ 140737488355328) :
    Calls Try.prog 20 #[.pointer (some ⟨b, 0, none⟩), .string s] w fun e w' => e = .returned (.tuple #[.int .i64 s.size, .nilIface]) ∧ Hid (Bd B b (l ++ s.data.toList) w' ∧ Kp B b w w') := by
  refine (Go.Proofs.Try.Builder_WriteString_k B b (Lib.byteCells l) s w h.1 (by simpa [Lib.byteCells] using hl) h.2).mono ?_
  rintro e w' ⟨h1, h2, h3, h4⟩
  refine ⟨h1, ⟨.inr ?_, Nat.le_trans h.2 h3.size⟩, h3, h4⟩
  rw [Lib.byteCells_append, ← Lib.strCells_eq]
  exact h2
theorem b_byte {B b : Nat} {l : List UInt8} {w : World} (h : Bd B b l w) (c : UInt8) (hl : l.length + 1 ≤ 140737488355328) :
    Calls Try.prog 26 #[.pointer (some ⟨b, 0, none⟩), .int .u8 (c.toNat : Int)] w fun e w' => e = .returned .nilIface ∧ Hid (Bd B b (l ++ [c]) w' ∧ Kp B b w w') := by
  refine (Go.Proofs.Try.Builder_WriteByte_k B b (Lib.byteCells l) (c.toNat : Int) w h.1 (by simpa [Lib.byteCells] using hl) h.2).mono ?_
  rintro e w' ⟨h1, h2, h3, h4⟩
  refine ⟨h1, ⟨.inr ?_, Nat.le_trans h.2 h3.size⟩, h3, h4⟩
  rw [Lib.byteCells_append]
  exact h2
end Go.Proofs.Ytfobiknbjijphaa
