/-
  Contract of a size's text. Conditions: at most a thousand limbs; the library's table of powers of ten is as it starts.
-/
import Derived.Test.YtcnlclocnnijgaaDoorNFmt
namespace Go.Proofs.YtcnlclocnnijgaaDoor
open Go.RowKit Go.Shelf
set_option linter.unusedVariables false
attribute [local go_sem] Oper.semAt_some

/-- A limb as it is written at its place. -/
def piece (n L j : Nat) : List UInt8 := if j < L - 1 then List.replicate (9 - Lib.nDigits (lb n j)) 48 ++ Lib.decDigits (lb n j) else Lib.decDigits (lb n j)
theorem piece_length (n L j : Nat) : (piece n L j).length ≤ 9 := by
  have := limb_digits n j
  unfold piece
  split
  · rw [List.length_append, List.length_replicate, Lib.decDigits_length]; omega
  · rw [Lib.decDigits_length]; exact this
/-- What is written when these limbs have come. -/
def cat (n L : Nat) (pre : List { j : Nat // j < L }) : List UInt8 := pre.foldl (fun acc x => acc ++ piece n L x.1) []
theorem cat_snoc (n L : Nat) (pre : List { j : Nat // j < L }) (x : { j : Nat // j < L }) : cat n L (pre ++ [x]) = cat n L pre ++ piece n L x.1 := by simp [cat]
theorem cat_length (n L : Nat) (pre : List { j : Nat // j < L }) : (cat n L pre).length ≤ 9 * pre.length := by
  unfold cat
  have key : ∀ (l : List { j : Nat // j < L }) (acc : List UInt8), (l.foldl (fun acc x => acc ++ piece n L x.1) acc).length ≤ acc.length + 9 * l.length := by
    intro l
    induction l with
    | nil => intro acc; simp
    | cons x r ih =>
      intro acc
      have h1 := ih (acc ++ piece n L x.1)
      have h2 := piece_length n L x.1
      rw [List.length_append] at h1
      rw [List.foldl_cons, List.length_cons]
      omega
  have := key pre []
  simpa using this
theorem cat_bk {n L : Nat} (hn : n < 1000000000 ^ L) (hlo : 1000000000 ^ (L - 1) ≤ n) : ∀ (k : Nat) (hk : k + 1 ≤ L), cat n L (bk L (k + 1) hk) = Lib.decDigits (n / 1000000000 ^ (L - (k + 1)))
  | 0, hk => by
    rw [bk, cat_snoc]
    have e : lb n (L - 1) = n / 1000000000 ^ (L - 1) := by
      unfold lb
      refine Nat.mod_eq_of_lt (Nat.div_lt_of_lt_mul ?_)
      rw [← Nat.pow_succ, show (L - 1).succ = L by omega]; exact hn
    show cat n L [] ++ piece n L (L - 1 - 0) = _
    unfold piece
    rw [if_neg (by omega), Nat.sub_zero, e]
    simp [cat]
  | k + 1, hk => by
    rw [bk, cat_snoc, cat_bk hn hlo k (by omega)]
    show _ ++ piece n L (L - 1 - (k + 1)) = _
    have e1 : L - (k + 1) = L - 1 - (k + 1) + 1 := by omega
    have e2 : L - (k + 1 + 1) = L - 1 - (k + 1) := by omega
    have hp : n / 1000000000 ^ (L - 1 - (k + 1) + 1) ≠ 0 := by
      have := Nat.div_pos (Nat.le_trans (Nat.pow_le_pow_right (by decide : 1000000000 > 0) (show L - 1 - (k + 1) + 1 ≤ L - 1 by omega)) hlo) (pow_pos' 1000000000 (L - 1 - (k + 1) + 1) (by decide))
      omega
    rw [e1, e2, dec_limb hp]
    unfold piece
    rw [if_pos (by omega)]

/-- The builder and the two boxes, as text goes on. -/
structure Tx (A b Bs : Nat) (sv : Value) (l : List UInt8) (W : World) : Prop where
  ha : W.heap[A]? = some (.cells #[sv] 46 (0, 0))
  hs : W.heap[Bs]? = some (.cells #[sv] 46 (0, 0))
  bd : Lib.IsBuilderF 106 5 b b (Lib.byteCells l) W
/-- What lay in cells is there still. -/
def CellsKept (W W' : World) : Prop := ∀ (k : Nat) (o : Obj), W.heap[k]? = some o → o.isCells = true → W'.heap[k]? = some o
theorem CellsKept.builder {T e : TypeId} {B b : Nat} {bs : List Value} {W W' : World} (h : CellsKept W W') (hb : Lib.IsBuilderF T e B b bs W) : Lib.IsBuilderF T e B b bs W' := by
  have key : ∀ p, Lib.BuilderAtF T e B b p bs W → Lib.BuilderAtF T e B b p bs W' := by
    rintro p ⟨h1, v, h2, h3, h4⟩
    refine ⟨h1, v, h b _ h2 rfl, ⟨h3.1, ?_⟩, h4⟩
    rcases h3.2 with h5 | ⟨g, cap, cur, fz, e1, e2, e3, e4⟩
    · exact .inl h5
    · exact .inr ⟨g, cap, cur, fz, e1, e2, h g _ e3 rfl, e4⟩
  exact hb.imp (key _) (key _)
theorem Tx.kept {A b Bs : Nat} {sv : Value} {l : List UInt8} {W W' : World} (h : Tx A b Bs sv l W) (k : CellsKept W W') : Tx A b Bs sv l W' := ⟨k _ _ h.ha rfl, k _ _ h.hs rfl, k.builder h.bd⟩
theorem cellsKept_below {W W' : World} (h : Below W.heap.size W W') : CellsKept W W' := fun k o hk _ => by
  rw [h.block k (Array.getElem?_eq_some_iff.1 hk).1]; exact hk
/-- A step of the body. -/
structure Stp (b Bs : Nat) (W W' : World) : Prop where
  keeps : ∀ B, KeepsFrom B W W'
  bel : Below b W W'
  box : W'.heap[Bs]? = W.heap[Bs]?
theorem Stp.trans {b Bs : Nat} {A B C : World} (h : Stp b Bs A B) (k : Stp b Bs B C) : Stp b Bs A C := ⟨fun X => (h.keeps X).trans (k.keeps X), h.bel.trans k.bel, k.box.trans h.box⟩
theorem Stp.of_below {b Bs : Nat} {W W' : World} (h : Below W.heap.size W W') (hb : b ≤ W.heap.size) (hB : Bs < W.heap.size) : Stp b Bs W W' :=
  ⟨fun X => ⟨h.size, fun k o _ hk _ => by rw [h.block k (Array.getElem?_eq_some_iff.1 hk).1]; exact hk⟩, h.mono hb, h.block Bs hB⟩

theorem wrote {A b Bs : Nat} {sv : Value} {l : List UInt8} (s : ByteArray) (W : World) (h : Tx A b Bs sv l W) (hAb : A ≠ b) (hBb : Bs ≠ b) (hl : l.length ≤ 1000000) (hs : s.size ≤ 1000000) :
    Calls Tryd.prog 90 #[.pointer (some ⟨b, 0, none⟩), .string s] W fun e W' => e = .returned (.tuple #[.int .i64 s.size, .nilIface]) ∧ Tx A b Bs sv (l ++ s.data.toList) W' ∧ Stp b Bs W W' := by
  have hbW : b ≤ W.heap.size := by
    rcases h.bd with ⟨_, v, h2, _⟩ | ⟨_, v, h2, _⟩ <;> exact Nat.le_of_lt (Array.getElem?_eq_some_iff.1 h2).1
  have hcell : ∀ o : Obj, W.heap[b]? = some o → o.isCells = true := by
    intro o ho
    rcases h.bd with ⟨_, v, h2, _⟩ | ⟨_, v, h2, _⟩ <;> (rw [h2] at ho; cases ho; rfl)
  refine (Tryd.Builder_WriteString_k b b (Lib.byteCells l) s W h.bd (by rw [Lib.byteCells_length]; omega) hbW).mono ?_
  rintro e W' ⟨rfl, hat, hbel, hok⟩
  have e1 : Lib.byteCells l ++ Lib.strCells s = Lib.byteCells (l ++ s.data.toList) := by rw [Lib.strCells_eq, Lib.byteCells_append]
  rw [e1] at hat
  have ne : ∀ (c : Array Value) (fz : Nat × Nat), Obj.cells #[sv] 46 (0, 0) ≠ .cells c 5 fz := fun c fz e => by injection e with _ e; cases e
  have ha := hok A _ h.ha (fun e => hAb (by injection e)) ne
  have hs2 := hok Bs _ h.hs (fun e => hBb (by injection e)) ne
  refine ⟨rfl, ⟨ha, hs2, .inr hat⟩, ⟨fun X => ⟨hbel.size, fun k o _ hk ho => hok k o hk (fun e => ?_) (fun c fz e => ?_)⟩, hbel, hs2.trans h.hs.symm⟩⟩
  · injection e with e
    subst e
    rw [hcell o hk] at ho
    cases ho
  · subst e; cases ho
end Go.Proofs.YtcnlclocnnijgaaDoor
