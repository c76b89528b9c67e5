/-
  Contracts of the document's Can, Depth, Size.
  What Print writes, as a function of the tree; a builder that is written; the program's writeString.
-/
import Derived.Test.YtpjgdpfpgpaenaaDoorDtK
import Derived.Test.YtpjgdpfpgpaenaaDoorGac
import Derived.Test.YtpjgdpfpgpaenaaDoorGae
namespace Go.Proofs.YtpjgdpfpgpaenaaDoor
open Go.RowKit
set_option linter.unusedVariables false

/-- The document's calls upon a datum that lies in a box, in any world past the box. -/
theorem z_boxed {d : Dt} {a b : Option Addr} {n c n2 c2 : Nat} {w : World} (h : DAt w d (.agg #[.int .i64 d.kd, .string d.tx, .slice a n c, .slice b n2 c2])) (hs : d.siz ≤ 1048576) (V : World) (hV : Below w.heap.size w V) :
    Calls Tryd.prog 35 #[.agg #[.int .i64 d.kd, .string d.tx, .slice a n c, .slice b n2 c2], .int .i64 66] V (fun r w' => Ans r (d.mayN 66) ∧ Hid (Below V.heap.size V w')) ∧
    Calls Tryd.prog 36 #[.agg #[.int .i64 d.kd, .string d.tx, .slice a n c, .slice b n2 c2], .int .i64 66] V (fun r w' => r = .returned (.int .i64 ((min d.dep 66 : Nat) : Int)) ∧ Hid (Below V.heap.size V w')) :=
  ⟨z_may (d.siz + 1) d _ 66 V (Nat.lt_succ_self _) (h.under hV) hs (Nat.le_refl _), z_depth (d.siz + 1) d _ 66 V (Nat.lt_succ_self _) (h.under hV) hs (Nat.le_refl _)⟩
theorem may_iff (d : Dt) : d.may ↔ (d.mayN 66 ∧ min d.dep 66 ≤ 64) := by
  unfold Dt.may Dt.mayN
  constructor
  · rintro ⟨h1, h2⟩
    exact ⟨⟨h1, by omega⟩, by omega⟩
  · rintro ⟨⟨h1, h2⟩, h3⟩
    exact ⟨h1, by omega⟩
theorem z_can {d : Dt} {v : Value} {w : World} (h : DAt w d v) (hs : d.siz ≤ 1048576) : Calls Tryd.prog 23 #[v] w fun e w' => Ans e d.may ∧ Hid (Below w.heap.size w w') := by
  obtain ⟨a, n, c, b, n2, c2, rfl⟩ := h.shape
  obtain ⟨W0, hW⟩ : ∃ W0, w.alloc (.cells #[.int .i64 d.kd, .string d.tx, .slice a n c, .slice b n2 c2] 42) = W0 := ⟨_, rfl⟩
  have hb0 : Below w.heap.size w W0 := by rw [← hW]; exact (Below.refl _ w).alloc (Nat.le_refl _) _
  obtain ⟨B, hB⟩ : ∃ B, w.heap.size = B := ⟨_, rfl⟩
  have h0 : W0.heap[B]? = some (.cells #[.int .i64 d.kd, .string d.tx, .slice a n c, .slice b n2 c2] 42 (0, 0)) := by rw [← hW]; exact heap_alloc_at _ _ _ hB.symm
  have HX : Hid (∀ V, Below W0.heap.size W0 V → (V.cell? ⟨B, 0, none⟩ = some (.int .i64 d.kd) ∧ V.cell? ⟨B, 1, none⟩ = some (.string d.tx) ∧ V.cell? ⟨B, 2, none⟩ = some (.slice a n c) ∧ V.cell? ⟨B, 3, none⟩ = some (.slice b n2 c2)) ∧ Hid (Below w.heap.size w V)) := fun V hV => by
    have e := (hV.block B (Array.getElem?_eq_some_iff.1 h0).1).trans h0
    exact ⟨⟨by rw [cells_at e 0]; rfl, by rw [cells_at e 1]; rfl, by rw [cells_at e 2]; rfl, by rw [cells_at e 3]; rfl⟩, hb0.trans (hV.mono hb0.size)⟩
  have HM := hid (z_boxed h hs W0 hb0).1
  have HD := hid (fun V hV => (z_boxed h hs V hV).2)
  have hi := hid (may_iff d)
  obtain ⟨⟨y0, y1, y2, y3⟩, -⟩ := HX.out W0 (Below.refl _ _)
  clear h hs h0 hb0
  go_enter Tryd.func23, Tryd.ntmps23
  go_wp2_with fail
  try rw [hW]
  try rw [hB]
  try go_wp2_with fail
  refine HM.out.mono ?_
  rintro r w1 ⟨⟨q, rfl, hq⟩, hb1⟩
  obtain ⟨⟨x0, x1, x2, x3⟩, hb⟩ := HX.out w1 hb1.out
  have HD1 := hid (HD.out w1 hb.out)
  cases q
  · have hn : Hid (¬ d.may) := fun p => by have := hq.2 (hi.out.1 p).1; cases this
    clear hq
    go_wp2
    go_ret
    exact ⟨Ans.no hn.out, by first | exact hb | (rw [← hB]; exact hb)⟩
  · have hm : Hid (d.mayN 66) := hq.1 rfl
    clear hq
    go_wp2_with fail
    refine HD1.out.mono ?_
    rintro r w2 ⟨rfl, hb2⟩
    have hb' : Hid (Below w.heap.size w w2) := hb.out.trans (hb2.out.mono hb.out.size)
    have hA : Hid (decide (((min d.dep 66 : Nat) : Int) ≤ 64) = true ↔ d.may) := by
      refine hid (Iff.trans ?_ hi.out.symm)
      rw [decide_eq_true_eq]
      exact ⟨fun h => ⟨hm.out, by omega⟩, fun h => by have := h.2; omega⟩
    generalize ((min d.dep 66 : Nat) : Int) = z at hA
    go_wp2
    go_ret
    exact ⟨⟨_, rfl, hA.out⟩, by first | exact hb' | (rw [← hB]; exact hb')⟩
end Go.Proofs.YtpjgdpfpgpaenaaDoor

namespace Go.Proofs.YtpjgdpfpgpaenaaDoor
open Go.RowKit
set_option linter.unusedVariables false

/-- A string's byte as it is written. -/
def escB (c : UInt8) : List UInt8 := if c = 92 ∨ c = 34 then [92, c] else if c = 10 then [92, 110] else if c = 9 then [92, 116] else [c]
def escL : List UInt8 → List UInt8
  | [] => []
  | c :: r => escB c ++ escL r
theorem escL_app : ∀ (l : List UInt8) (c : UInt8), escL (l ++ [c]) = escL l ++ escB c
  | [], c => by simp [escL]
  | y :: r, c => by
    show escB y ++ escL (r ++ [c]) = (escB y ++ escL r) ++ escB c
    rw [escL_app r c, List.append_assoc]
theorem escB_len (c : UInt8) : (escB c).length ≤ 2 := by
  unfold escB
  split
  · simp
  · split
    · simp
    · split <;> simp
theorem escL_len : ∀ (l : List UInt8), (escL l).length ≤ 2 * l.length
  | [] => Nat.le_refl _
  | c :: r => by
    show (escB c ++ escL r).length ≤ 2 * (r.length + 1)
    rw [List.length_append]
    have := escB_len c
    have := escL_len r
    omega
theorem escL_take (l : List UInt8) (j : Nat) : (escL (l.take j)).length ≤ (escL l).length := by
  induction l generalizing j with
  | nil => simp
  | cons x r ih =>
    cases j with
    | zero => exact Nat.zero_le _
    | succ j =>
      show (escB x ++ escL (r.take j)).length ≤ (escB x ++ escL r).length
      rw [List.length_append, List.length_append]
      have := ih j
      omega
def strL (t : ByteArray) : List UInt8 := 34 :: (escL t.data.toList ++ [34])
mutual
def Dt.out : Dt → List UInt8
  | .node k t l m => if k = 3 then strL t else if sqB k then (if k = 6 then [35] else []) ++ (40 :: (outL false l ++ outT m ++ [41])) else t.data.toList
def outL : Bool → List Dt → List UInt8
  | _, [] => []
  | f, x :: r => (if f then [32] else []) ++ x.out ++ outL true r
def outT : List Dt → List UInt8
  | [] => []
  | x :: r => [32, 46, 32] ++ x.out ++ outT r
end
theorem outL_app : ∀ (f : Bool) (l : List Dt) (x : Dt), outL f (l ++ [x]) = outL f l ++ ((if f || !l.isEmpty then [32] else []) ++ x.out)
  | f, [], x => by cases f <;> simp [outL]
  | f, y :: r, x => by
    show (if f then [32] else []) ++ y.out ++ outL true (r ++ [x]) = ((if f then [32] else []) ++ y.out ++ outL true r) ++ _
    rw [outL_app true r x]
    cases f <;> simp
theorem outT_app : ∀ (l : List Dt) (x : Dt), outT (l ++ [x]) = outT l ++ ([32, 46, 32] ++ x.out)
  | [], x => by simp [outT]
  | y :: r, x => by
    show [32, 46, 32] ++ y.out ++ outT (r ++ [x]) = ([32, 46, 32] ++ y.out ++ outT r) ++ _
    rw [outT_app r x]
    simp
theorem outL_take (f : Bool) (l : List Dt) (j : Nat) : (outL f (l.take j)).length ≤ (outL f l).length := by
  induction l generalizing j f with
  | nil => simp
  | cons x r ih =>
    cases j with
    | zero => exact Nat.zero_le _
    | succ j =>
      show ((if f then [32] else []) ++ x.out ++ outL true (r.take j)).length ≤ ((if f then [32] else []) ++ x.out ++ outL true r).length
      simp only [List.length_append]
      have := ih true j
      omega
theorem outT_take (l : List Dt) (j : Nat) : (outT (l.take j)).length ≤ (outT l).length := by
  induction l generalizing j with
  | nil => simp
  | cons x r ih =>
    cases j with
    | zero => exact Nat.zero_le _
    | succ j =>
      show ([32, 46, 32] ++ x.out ++ outT (r.take j)).length ≤ ([32, 46, 32] ++ x.out ++ outT r).length
      simp only [List.length_append]
      have := ih j
      omega
/-- A builder that holds these bytes. -/
def Bd (B b : Nat) (l : List UInt8) (w : World) : Prop := Lib.IsBuilderF 58 5 B b (Lib.byteCells l) w ∧ B ≤ w.heap.size
/-- What stays when a builder is written. -/
def Kp (B b : Nat) (w w' : World) : Prop := Below B w w' ∧ Lib.OthersKept 5 (some b) w w'
theorem Kp.refl (B b : Nat) (w : World) : Kp B b w w := ⟨Below.refl _ _, Lib.OthersKept.refl _ _ _⟩
theorem Kp.trans {B b : Nat} {w w1 w2 : World} (h : Kp B b w w1) (k : Kp B b w1 w2) : Kp B b w w2 := ⟨h.1.trans k.1, h.2.trans k.2⟩
theorem Kp.alloc {B b : Nat} {w w1 : World} (h : Kp B b w w1) (hB : B ≤ w1.heap.size) (o : Obj) : Kp B b w (w1.alloc o) := ⟨h.1.alloc hB o, h.2.alloc o⟩
theorem Bd.alloc {B b : Nat} {l : List UInt8} {w : World} (h : Bd B b l w) (o : Obj) : Bd B b l (w.alloc o) := ⟨h.1.alloc o, by rw [World.size_alloc]; have := h.2; omega⟩
theorem b_str {B b : Nat} {l : List UInt8} {w : World} (h : Bd B b l w) (s : ByteArray) (hl : l.length + s.size ≤ 140737488355328) :
    Calls Tryd.prog 42 #[.pointer (some ⟨b, 0, none⟩), .string s] w fun e w' => e = .returned (.tuple #[.int .i64 s.size, .nilIface]) ∧ Hid (Bd B b (l ++ s.data.toList) w' ∧ Kp B b w w') := by
  refine (Go.Proofs.Tryd.Builder_WriteString_k B b (Lib.byteCells l) s w h.1 (by simpa [Lib.byteCells] using hl) h.2).mono ?_
  rintro e w' ⟨h1, h2, h3, h4⟩
  refine ⟨h1, ⟨.inr ?_, Nat.le_trans h.2 h3.size⟩, h3, h4⟩
  rw [Lib.byteCells_append, ← Lib.strCells_eq]
  exact h2
theorem b_byte {B b : Nat} {l : List UInt8} {w : World} (h : Bd B b l w) (c : UInt8) (hl : l.length + 1 ≤ 140737488355328) :
    Calls Tryd.prog 47 #[.pointer (some ⟨b, 0, none⟩), .int .u8 (c.toNat : Int)] w fun e w' => e = .returned .nilIface ∧ Hid (Bd B b (l ++ [c]) w' ∧ Kp B b w w') := by
  refine (Go.Proofs.Tryd.Builder_WriteByte_k B b (Lib.byteCells l) (c.toNat : Int) w h.1 (by simpa [Lib.byteCells] using hl) h.2).mono ?_
  rintro e w' ⟨h1, h2, h3, h4⟩
  refine ⟨h1, ⟨.inr ?_, Nat.le_trans h.2 h3.size⟩, h3, h4⟩
  rw [Lib.byteCells_append]
  exact h2
end Go.Proofs.YtpjgdpfpgpaenaaDoor
