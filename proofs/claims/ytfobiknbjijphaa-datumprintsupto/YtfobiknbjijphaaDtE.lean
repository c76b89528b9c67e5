/-
  Data as trees: how deep, how many, whether they may be; how they lie in memory.
-/
import Derived.Test.YtfobiknbjijphaaDtD
namespace Go.Proofs.Ytfobiknbjijphaa
open Go.RowKit
set_option linter.unusedVariables false

/-- A datum: kind, text, items, and what stands behind the dot. -/
inductive Dt where
  | node (k : Int) (t : ByteArray) (l m : List Dt)
def Dt.kd : Dt → Int
  | .node k _ _ _ => k
def Dt.tx : Dt → ByteArray
  | .node _ t _ _ => t
/-- A list or a vector. -/
def sqB (k : Int) : Bool := k == 5 || k == 6
mutual
def Dt.dep : Dt → Nat
  | .node k _ l m => if sqB k then 1 + max (depL l) (depL m) else 0
def depL : List Dt → Nat
  | [] => 0
  | x :: r => max x.dep (depL r)
end
mutual
def Dt.siz : Dt → Nat
  | .node _ _ l m => 1 + (sizL l + sizL m)
def sizL : List Dt → Nat
  | [] => 0
  | x :: r => x.siz + sizL r
end
mutual
/-- Data and letters in all. -/
def Dt.wt : Dt → Nat
  | .node _ t l m => 1 + t.size + (wtL l + wtL m)
def wtL : List Dt → Nat
  | [] => 0
  | x :: r => x.wt + wtL r
end
def textP (k : Int) (t : ByteArray) : Prop := (k = 1 ∧ canP t.data.toList) ∨ (k = 2 ∧ ((t.toList == [35, 116]) || (t.toList == [35, 102])) = true) ∨ k = 3 ∨ (k = 4 ∧ nameP t)
def tailP (l m : List Dt) : Prop := m = [] ∨ ∃ x, m = [x] ∧ l ≠ [] ∧ x.kd ≠ 5
/-- Its own fields are as its kind asks. -/
def fitP (k : Int) (t : ByteArray) (l m : List Dt) : Prop := (k = 5 ∧ t.size = 0 ∧ tailP l m) ∨ (k = 6 ∧ t.size = 0 ∧ m = []) ∨ (k ≠ 5 ∧ k ≠ 6 ∧ l = [] ∧ m = [] ∧ textP k t)
mutual
def Dt.good : Dt → Prop
  | .node k t l m => fitP k t l m ∧ goodL l ∧ goodL m
def goodL : List Dt → Prop
  | [] => True
  | x :: r => x.good ∧ goodL r
end
theorem depL_app : ∀ (l : List Dt) (x : Dt), depL (l ++ [x]) = max (depL l) x.dep
  | [], x => by simp [depL]
  | y :: r, x => by
    show max y.dep (depL (r ++ [x])) = max (max y.dep (depL r)) x.dep
    rw [depL_app r x]; omega
theorem sizL_app : ∀ (l : List Dt) (x : Dt), sizL (l ++ [x]) = sizL l + x.siz
  | [], x => by simp [sizL]
  | y :: r, x => by
    show y.siz + sizL (r ++ [x]) = y.siz + sizL r + x.siz
    rw [sizL_app r x]; omega
theorem goodL_app : ∀ (l : List Dt) (x : Dt), goodL (l ++ [x]) ↔ goodL l ∧ x.good
  | [], x => by simp [goodL]
  | y :: r, x => by
    show (y.good ∧ goodL (r ++ [x])) ↔ ((y.good ∧ goodL r) ∧ x.good)
    rw [goodL_app r x]
    exact and_assoc.symm
theorem take_snoc {α : Type} (l : List α) (j : Nat) (h : j < l.length) : l.take (j + 1) = l.take j ++ [l[j]] := by rw [List.take_append_getElem]
theorem goodL_mem {l : List Dt} (h : goodL l) (j : Nat) (hj : j < l.length) : l[j].good := by
  induction l generalizing j with
  | nil => simp at hj
  | cons x r ih =>
    cases j with
    | zero => exact h.1
    | succ j => exact ih h.2 j (by simpa using hj)
theorem depL_mem {l : List Dt} (j : Nat) (hj : j < l.length) : l[j].dep ≤ depL l := by
  induction l generalizing j with
  | nil => simp at hj
  | cons x r ih =>
    cases j with
    | zero => show x.dep ≤ max x.dep _; omega
    | succ j =>
      have hj' : j < r.length := by simpa using hj
      have := ih j hj'
      show r[j].dep ≤ max x.dep (depL r)
      omega
theorem sizL_mem {l : List Dt} (j : Nat) (hj : j < l.length) : l[j].siz ≤ sizL l := by
  induction l generalizing j with
  | nil => simp at hj
  | cons x r ih =>
    cases j with
    | zero => show x.siz ≤ x.siz + _; omega
    | succ j =>
      have hj' : j < r.length := by simpa using hj
      have := ih j hj'
      show r[j].siz ≤ x.siz + sizL r
      omega
theorem sizL_take (l : List Dt) (j : Nat) : sizL (l.take j) ≤ sizL l := by
  induction l generalizing j with
  | nil => simp
  | cons x r ih =>
    cases j with
    | zero => exact Nat.zero_le _
    | succ j =>
      have := ih j
      show x.siz + sizL (r.take j) ≤ x.siz + sizL r
      omega
theorem siz_l (k : Int) (t : ByteArray) (l m : List Dt) (j : Nat) (h : j < l.length) : l[j].siz < (Dt.node k t l m).siz := by
  have := sizL_mem j h
  show _ < 1 + (sizL l + sizL m)
  omega
theorem siz_m (k : Int) (t : ByteArray) (l m : List Dt) (j : Nat) (h : j < m.length) : m[j].siz < (Dt.node k t l m).siz := by
  have := sizL_mem j h
  show _ < 1 + (sizL l + sizL m)
  omega
/-- A row of data in memory. -/
def RowAt (w : World) (a : Option Addr) (n : Nat) (X : Nat → Nat → Value) : Prop := 0 < n → ∃ g o, a = some ⟨g, o, none⟩ ∧ ∀ j, j < n → ∀ i, i < 4 → w.cell? ⟨g, o + j * 4 + i, none⟩ = some (X j i)
theorem RowAt.below {w w' : World} {a : Option Addr} {n : Nat} {X : Nat → Nat → Value} (h : RowAt w a n X) (hb : Below w.heap.size w w') : RowAt w' a n X := fun hn => by
  obtain ⟨g, o, h1, h2⟩ := h hn
  exact ⟨g, o, h1, fun j hj i hi => (hb.cell (World.block_lt_of_cell? w _ (h2 j hj i hi))).trans (h2 j hj i hi)⟩
def vx (X : Nat → Nat → Value) (j : Nat) : Value := .agg #[X j 0, X j 1, X j 2, X j 3]
/-- A datum in memory. -/
inductive DAt (w : World) : Dt → Value → Prop
  | mk (k : Int) (t : ByteArray) (l m : List Dt) (a b : Option Addr) (c c2 : Nat) (X Y : Nat → Nat → Value)
    (hl : ∀ j (h : j < l.length), DAt w l[j] (vx X j)) (hm : ∀ j (h : j < m.length), DAt w m[j] (vx Y j))
    (ra : RowAt w a l.length X) (rb : RowAt w b m.length Y)
    (sz : l.length ≤ c ∧ c ≤ 9223372036854775807 ∧ m.length ≤ c2 ∧ c2 ≤ 9223372036854775807 ∧ t.size ≤ 140737488355328) :
    DAt w (.node k t l m) (.agg #[.int .i64 k, .string t, .slice a l.length c, .slice b m.length c2])
theorem DAt.under {w w' : World} {d : Dt} {v : Value} (h : DAt w d v) (hb : Below w.heap.size w w') : DAt w' d v := by
  induction h with
  | mk k t l m a b c c2 X Y hl hm ra rb sz ih1 ih2 => exact .mk k t l m a b c c2 X Y ih1 ih2 (ra.below hb) (rb.below hb) sz
/-- An element's fields. -/
theorem DAt.form {w : World} {d : Dt} {X : Nat → Nat → Value} {j : Nat} (h : DAt w d (vx X j)) : ∃ a n c b n2 c2, X j 0 = .int .i64 d.kd ∧ X j 1 = .string d.tx ∧ X j 2 = .slice a n c ∧ X j 3 = .slice b n2 c2 := by
  generalize hv : vx X j = v at h
  cases h with
  | mk k t l m a b c c2 X' Y hl hm ra rb sz =>
    unfold vx at hv
    injection hv with hv
    have h0 := congrArg (fun z => z[0]?) hv
    have h1 := congrArg (fun z => z[1]?) hv
    have h2 := congrArg (fun z => z[2]?) hv
    have h3 := congrArg (fun z => z[3]?) hv
    simp at h0 h1 h2 h3
    exact ⟨a, _, c, b, _, c2, h0, h1, h2, h3⟩
end Go.Proofs.Ytfobiknbjijphaa
