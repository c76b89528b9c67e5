/-
  What a text's data are, as functions of its bytes: what is left behind blanks, a piece's length, a string's bytes, a piece's datum, a datum; each with the bytes that are left, or the first fault (how many bytes are left there, and its number).
  The program's reader in memory; its least calls: ended, take, skipComment, skipBlanks, giveUp, closed.
-/
import Derived.Test.YtfobiknbjijphaaDoorGah
import Derived.Test.YtfobiknbjijphaaDoorGai
import Derived.Lib.IndexLaws
namespace Go.Proofs.YtfobiknbjijphaaDoor
open Go.RowKit
set_option linter.unusedVariables false

inductive Rs (α : Type) where
  | ok (a : α) (r : List UInt8)
  | bad (k n : Nat)
def blB (c : UInt8) : Bool := c == 32 || c == 9 || c == 10 || c == 13
/-- What is left behind blanks and comments; true: within a comment. -/
def skB : Bool → List UInt8 → List UInt8
  | _, [] => []
  | true, c :: r => if c = 10 then skB false r else skB true r
  | false, c :: r => if blB c then skB false r else if c = 59 then skB true r else c :: r
theorem skB_len : ∀ (f : Bool) (l : List UInt8), (skB f l).length ≤ l.length
  | _, [] => by simp [skB]
  | true, c :: r => by
    simp only [skB]
    split
    · exact Nat.le_succ_of_le (skB_len false r)
    · exact Nat.le_succ_of_le (skB_len true r)
  | false, c :: r => by
    simp only [skB]
    split
    · exact Nat.le_succ_of_le (skB_len false r)
    · split
      · exact Nat.le_succ_of_le (skB_len true r)
      · exact Nat.le_refl _
theorem skB_suf : ∀ (f : Bool) (l : List UInt8), ∃ k, k ≤ l.length ∧ skB f l = l.drop k
  | _, [] => ⟨0, Nat.le_refl _, by simp [skB]⟩
  | true, c :: r => by
    simp only [skB]
    split
    · obtain ⟨k, h1, h2⟩ := skB_suf false r
      exact ⟨k + 1, by simp; omega, by rw [h2]; rfl⟩
    · obtain ⟨k, h1, h2⟩ := skB_suf true r
      exact ⟨k + 1, by simp; omega, by rw [h2]; rfl⟩
  | false, c :: r => by
    simp only [skB]
    split
    · obtain ⟨k, h1, h2⟩ := skB_suf false r
      exact ⟨k + 1, by simp; omega, by rw [h2]; rfl⟩
    · split
      · obtain ⟨k, h1, h2⟩ := skB_suf true r
        exact ⟨k + 1, by simp; omega, by rw [h2]; rfl⟩
      · exact ⟨0, Nat.zero_le _, rfl⟩
/-- What comes behind blanks is none, and no comment. -/
theorem skB_head : ∀ (f : Bool) (l : List UInt8) (c : UInt8) (r : List UInt8), skB f l = c :: r → blB c = false ∧ c ≠ 59
  | _, [], c, r, h => by simp [skB] at h
  | true, d :: l, c, r, h => by
    simp only [skB] at h
    split at h
    · exact skB_head false l c r h
    · exact skB_head true l c r h
  | false, d :: l, c, r, h => by
    simp only [skB] at h
    split at h
    · exact skB_head false l c r h
    · split at h
      · exact skB_head true l c r h
      · rename_i h1 h2
        injection h with e1 e2
        subst e1
        exact ⟨by simpa using h1, h2⟩
theorem skB_idem (f : Bool) (l : List UInt8) : skB false (skB f l) = skB f l := by
  cases h : skB f l with
  | nil => rfl
  | cons c r =>
    obtain ⟨h1, h2⟩ := skB_head f l c r h
    simp [skB, h1, h2]
def dlB (c : UInt8) : Bool := c == 40 || c == 41 || c == 34 || c == 39 || c == 59 || blB c
/-- Whether a piece ends at the beginning of these bytes. -/
def enB : List UInt8 → Bool
  | [] => true
  | c :: r => dlB c || (c == 35 && r.head? == some 40)
/-- How long the piece is that begins here. -/
def pcL : List UInt8 → Nat
  | [] => 0
  | c :: r => if enB (c :: r) then 0 else 1 + pcL r
theorem pcL_le : ∀ l : List UInt8, pcL l ≤ l.length
  | [] => Nat.le_refl _
  | c :: r => by
    simp only [pcL]
    split
    · exact Nat.zero_le _
    · have := pcL_le r
      simp; omega
theorem pcL_end : ∀ (l : List UInt8) (k : Nat), k ≤ l.length → (∀ j, j < k → enB (l.drop j) = false) → enB (l.drop k) = true → pcL l = k
  | [], k, hk, _, _ => by
    have : k = 0 := by simpa using hk
    subst this; rfl
  | c :: r, 0, _, _, h => by
    simp only [pcL]
    rw [if_pos (by simpa using h)]
  | c :: r, k + 1, hk, h1, h2 => by
    simp only [pcL]
    have h0 := h1 0 (by omega)
    rw [List.drop_zero] at h0
    rw [if_neg (by rw [h0]; decide), pcL_end r k (by simpa using hk) (fun j hj => h1 (j + 1) (by omega)) h2]
    omega
/-- A string's bytes, behind the sign at its start; k: the bytes from the sign on. -/
def stL (k : Nat) : List UInt8 → List UInt8 → Rs (List UInt8)
  | acc, [] => .bad k 100
  | acc, [c] => if c = 34 then .ok acc [] else .bad k 100
  | acc, c :: d :: r =>
    if c = 34 then .ok acc (d :: r)
    else if c = 92 then
      (if d = 92 ∨ d = 34 then stL k (acc ++ [d]) r
       else if d = 110 then stL k (acc ++ [10]) r
       else if d = 116 then stL k (acc ++ [9]) r
       else .bad (r.length + 2) 100)
    else stL k (acc ++ [c]) (d :: r)
theorem stL_quote (k : Nat) (acc r : List UInt8) : stL k acc (34 :: r) = .ok acc r := by
  cases r <;> simp [stL]
theorem stL_plain (k : Nat) (acc r : List UInt8) (c : UInt8) (h1 : c ≠ 34) (h2 : c ≠ 92) : stL k acc (c :: r) = stL k (acc ++ [c]) r := by
  cases r with
  | nil => simp [stL, h1]
  | cons d r => simp [stL, h1, h2]
theorem stL_len (k : Nat) : ∀ (l acc t r : List UInt8), stL k acc l = .ok t r → t.length + r.length < acc.length + l.length ∧ ∃ j, j ≤ l.length ∧ r = l.drop j
  | [], acc, t, r, h => by simp [stL] at h
  | [c], acc, t, r, h => by
    simp only [stL] at h
    split at h
    · injection h with e1 e2
      subst e1; subst e2
      exact ⟨by simp, 1, Nat.le_refl _, rfl⟩
    · cases h
  | c :: d :: l, acc, t, r, h => by
    simp only [stL] at h
    split at h
    · injection h with e1 e2
      subst e1; subst e2
      exact ⟨by simp, 1, by simp, rfl⟩
    · split at h
      · have step : ∀ b, stL k (acc ++ [b]) l = .ok t r → t.length + r.length < acc.length + (c :: d :: l).length ∧ ∃ j, j ≤ (c :: d :: l).length ∧ r = (c :: d :: l).drop j := fun b hb => by
          obtain ⟨h1, j, h2, h3⟩ := stL_len k l (acc ++ [b]) t r hb
          simp only [List.length_append, List.length_cons, List.length_nil] at h1 ⊢
          exact ⟨by omega, j + 2, by omega, h3⟩
        split at h
        · exact step _ h
        · split at h
          · exact step _ h
          · split at h
            · exact step _ h
            · cases h
      · obtain ⟨h1, j, h2, h3⟩ := stL_len k (d :: l) (acc ++ [c]) t r h
        simp only [List.length_append, List.length_cons, List.length_nil] at h1 h2 ⊢
        exact ⟨by omega, j + 1, by omega, h3⟩
/-- A number's digits: what stands behind its sign. -/
def dgT (s : List UInt8) : List UInt8 := match s with
  | [] => []
  | c :: r => if sgnB c then r else c :: r
def numP (s : List UInt8) : Prop := dgT s ≠ [] ∧ ∀ c ∈ dgT s, dgB c = true
/-- Digits without noughts ahead. -/
def stp (l : List UInt8) : List UInt8 := l.dropWhile (· == 48)
/-- A number's one form. -/
def cnL (s : List UInt8) : List UInt8 := if stp (dgT s) = [] then [48] else if s.head? = some 45 then 45 :: stp (dgT s) else stp (dgT s)
def ba (l : List UInt8) : ByteArray := ⟨l.toArray⟩
inductive Ae where
  | ok (d : Dt)
  | bad (n : Nat)
open Classical in
/-- A piece's datum. -/
noncomputable def atL (s : List UInt8) : Ae :=
  if s = [35, 116] ∨ s = [35, 102] then .ok (.node 2 (ba s) [] [])
  else if nameP (ba s) then .ok (.node 4 (ba s) [] [])
  else if numP s then (if (stp (dgT s)).length ≤ 200 then .ok (.node 1 (ba (cnL s)) [] []) else .bad 91)
  else .bad 100
def Dt.its : Dt → List Dt
  | .node _ _ l _ => l
def Dt.tl : Dt → List Dt
  | .node _ _ _ m => m
/-- A list, of items and what stands behind its dot. -/
def mkl (acc : List Dt) (x : Dt) : Dt := if x.kd = 5 then .node 5 ⟨#[]⟩ (acc ++ x.its) x.tl else .node 5 ⟨#[]⟩ acc [x]
def emp (l : List Dt) : Bool := l.isEmpty
/-- What stands within a list or a vector, up to its end. -/
def itL (rd : List UInt8 → Rs Dt) (vec : Bool) : Nat → List Dt → List UInt8 → Rs Dt
  | 0, _, r => .bad r.length 0
  | f + 1, acc, r0 => match skB false r0 with
    | [] => .bad 0 100
    | c :: r =>
      if c = 41 then .ok (.node (if vec then 6 else 5) ⟨#[]⟩ acc []) r
      else if vec = false ∧ acc ≠ [] ∧ c = 46 ∧ pcL (c :: r) = 1 then
        (match rd r with
        | .bad k n => .bad k n
        | .ok x r2 => match skB false r2 with
          | [] => .bad 0 100
          | c3 :: r3 => if c3 = 41 then .ok (mkl acc x) r3 else .bad (r3.length + 1) 100)
      else match rd (c :: r) with
        | .bad k n => .bad k n
        | .ok x r2 => itL rd vec f (acc ++ [x]) r2
def quoD : Dt := .node 4 ⟨#[113, 117, 111, 116, 101]⟩ [] []
def opn : List UInt8 → Nat
  | 40 :: _ => 1
  | 39 :: _ => 3
  | 35 :: 40 :: _ => 2
  | _ => 0
/-- A datum, where so many more may be open. -/
noncomputable def rdD : Nat → List UInt8 → Rs Dt
  | 0, r0 => match skB false r0 with
    | [] => .bad 0 100
    | c :: r =>
      if c = 34 then (match stL (r.length + 1) [] r with
        | .bad k n => .bad k n
        | .ok t r2 => .ok (.node 3 (ba t) [] []) r2)
      else if opn (c :: r) = 0 then (match atL ((c :: r).take (pcL (c :: r))) with
        | .bad n => .bad (r.length + 1) n
        | .ok d => .ok d ((c :: r).drop (pcL (c :: r))))
      else .bad (r.length + 1) 7
  | n + 1, r0 => match skB false r0 with
    | [] => .bad 0 100
    | c :: r =>
      if c = 34 then (match stL (r.length + 1) [] r with
        | .bad k n => .bad k n
        | .ok t r2 => .ok (.node 3 (ba t) [] []) r2)
      else if opn (c :: r) = 0 then (match atL ((c :: r).take (pcL (c :: r))) with
        | .bad n => .bad (r.length + 1) n
        | .ok d => .ok d ((c :: r).drop (pcL (c :: r))))
      else if opn (c :: r) = 1 then itL (rdD n) false (r.length + 1) [] r
      else if opn (c :: r) = 2 then itL (rdD n) true (r.length + 1) [] (r.drop 1)
      else match rdD n r with
        | .bad k n => .bad k n
        | .ok x r2 => .ok (.node 5 ⟨#[]⟩ [quoD, x] []) r2
/-- The data of a text. -/
noncomputable def alL : Nat → List Dt → List UInt8 → Rs (List Dt)
  | 0, _, r => .bad r.length 0
  | f + 1, acc, r0 => match skB false r0 with
    | [] => .ok acc []
    | c :: r => match rdD 64 (c :: r) with
      | .bad k n => .bad k n
      | .ok x r2 => alL f (acc ++ [x]) r2
end Go.Proofs.YtfobiknbjijphaaDoor

namespace Go.Proofs.YtfobiknbjijphaaDoor
open Go.RowKit
set_option linter.unusedVariables false
set_option linter.unusedSimpArgs false

def rst (s : ByteArray) (p : Nat) : List UInt8 := s.data.toList.drop p
theorem rst_len (s : ByteArray) (p : Nat) : (rst s p).length = s.size - p := by simp [rst]
theorem rst_nil {s : ByteArray} {p : Nat} (h : s.size ≤ p) : rst s p = [] := by
  apply List.eq_nil_of_length_eq_zero
  rw [rst_len]; omega
theorem rst_cons {s : ByteArray} {p : Nat} (h : p < s.size) : rst s p = s[p] :: rst s (p + 1) := by
  unfold rst
  rw [List.drop_eq_getElem_cons (by simpa using h)]
  rfl
theorem rst_drop (s : ByteArray) (p k : Nat) : (rst s p).drop k = rst s (p + k) := by simp [rst]
theorem rst_inj {s : ByteArray} {p q : Nat} (hp : p ≤ s.size) (hq : q ≤ s.size) (h : rst s p = rst s q) : p = q := by
  have := congrArg List.length h
  rw [rst_len, rst_len] at this
  omega
theorem ext_list (s : ByteArray) (p q : Nat) : (s.extract p q).data.toList = (rst s p).take (q - p) := by
  simp [rst, ByteArray.data_extract]
theorem ext_all (s : ByteArray) (p : Nat) : (s.extract p s.size).data.toList = rst s p := by
  rw [ext_list, List.take_of_length_le (by rw [rst_len]; exact Nat.le_refl _)]
/-- The program's reader at block b: where it stands, how many are open. -/
def Rr (b : Nat) (s : ByteArray) (p o : Nat) (w : World) : Prop := (p ≤ s.size ∧ s.size ≤ 1099511627776 ∧ o ≤ 64) ∧ ∃ x y : Int, w.heap[b]? = some (.cells #[.string s, .int .i64 (p : Int), .int .i64 (o : Int), .int .i64 x, .int .i64 y] 46 (0, 0))
theorem Rr.lt {b : Nat} {s : ByteArray} {p o : Nat} {w : World} (h : Rr b s p o w) : b < w.heap.size := by
  obtain ⟨_, x, y, e⟩ := h
  exact (Array.getElem?_eq_some_iff.1 e).1
theorem Rr.below {b : Nat} {s : ByteArray} {p o B : Nat} {w w' : World} (h : Rr b s p o w) (hb : Below B w w') (hB : b < B) : Rr b s p o w' := by
  obtain ⟨h0, x, y, e⟩ := h
  exact ⟨h0, x, y, (hb.block b hB).trans e⟩
theorem Rr.under {b : Nat} {s : ByteArray} {p o : Nat} {w w' : World} (h : Rr b s p o w) (hb : Below w.heap.size w w') : Rr b s p o w' := h.below hb h.lt
theorem Rr.part {b : Nat} {s : ByteArray} {p o : Nat} {F : Nat → Prop} {w w' : World} (h : Rr b s p o w) (hb : Part F w w') (hB : ¬ F b) : Rr b s p o w' := by
  obtain ⟨h0, x, y, e⟩ := h
  exact ⟨h0, x, y, (hb.block b (Array.getElem?_eq_some_iff.1 e).1 hB).trans e⟩
structure Rc (b : Nat) (s : ByteArray) (p o : Nat) (w : World) : Prop where
  c0 : w.cell? ⟨b, 0, none⟩ = some (.string s)
  c1 : w.cell? ⟨b, 1, none⟩ = some (.int .i64 (p : Int))
  c2 : w.cell? ⟨b, 2, none⟩ = some (.int .i64 (o : Int))
  c3 : ∃ x : Int, w.cell? ⟨b, 3, none⟩ = some (.int .i64 x)
  c4 : ∃ x : Int, w.cell? ⟨b, 4, none⟩ = some (.int .i64 x)
  f1 : w.frozen? ⟨b, 1, none⟩ = false
  f2 : w.frozen? ⟨b, 2, none⟩ = false
  f3 : w.frozen? ⟨b, 3, none⟩ = false
  f4 : w.frozen? ⟨b, 4, none⟩ = false
theorem Rr.cells {b : Nat} {s : ByteArray} {p o : Nat} {w : World} (h : Rr b s p o w) : Rc b s p o w := by
  obtain ⟨h0, x, y, e⟩ := h
  exact ⟨by rw [cells_at e 0]; rfl, by rw [cells_at e 1]; rfl, by rw [cells_at e 2]; rfl, ⟨x, by rw [cells_at e 3]; rfl⟩, ⟨y, by rw [cells_at e 4]; rfl⟩, cells_free e 1, cells_free e 2, cells_free e 3, cells_free e 4⟩
noncomputable def posOf (b : Nat) (w : World) : Nat := (intOf ((w.cell? ⟨b, 1, none⟩).getD .nilIface)).toNat
theorem Rr.pos {b : Nat} {s : ByteArray} {p o : Nat} {w : World} (h : Rr b s p o w) : posOf b w = p := by
  unfold posOf
  rw [h.cells.c1]
  simp [intOf]
abbrev Pt (b : Nat) : World → World → Prop := Part (fun k => k = b)
theorem Rr.at_ {b : Nat} {s : ByteArray} {p o : Nat} {w : World} (h : Rr b s p o w) (q : Nat) (hq : q ≤ s.size) : Rr b s q o (w.setCell ⟨b, 1, none⟩ (.int .i64 (q : Int))) := by
  obtain ⟨h0, x, y, e⟩ := h
  exact ⟨⟨hq, h0.2⟩, x, y, heap_set_at e _⟩
theorem Rr.open_ {b : Nat} {s : ByteArray} {p o : Nat} {w : World} (h : Rr b s p o w) (q : Nat) (hq : q ≤ 64) : Rr b s p q (w.setCell ⟨b, 2, none⟩ (.int .i64 (q : Int))) := by
  obtain ⟨h0, x, y, e⟩ := h
  exact ⟨⟨h0.1, h0.2.1, hq⟩, x, y, heap_set_at e _⟩
theorem Pt.set {b : Nat} {a w : World} (h : Pt b a w) (i : Nat) (u : Value) : Pt b a (w.setCell ⟨b, i, none⟩ u) := h.setCell (fun _ => rfl) u
/-- It has given up: its fault. -/
def Flt (b : Nat) (s : ByteArray) (k n : Nat) (w : World) : Prop := ∃ p o : Int, w.heap[b]? = some (.cells #[.string s, .int .i64 p, .int .i64 o, .int .i64 ((s.size : Int) - (k : Int)), .int .i64 (n : Int)] 46 (0, 0))
def Pnc (e : Ending) : Prop := ∃ v, e = .panicked [{ v := .iface 44 v, recovered := false }]
/-- How a call of the reader's ends. -/
def Out {α : Type} (b : Nat) (s : ByteArray) (o : Nat) (w : World) (R : Rs α) (vl : α → Value → World → Prop) (e : Ending) (w' : World) : Prop :=
  (∃ a v p, R = .ok a (rst s p) ∧ e = .returned v ∧ Rr b s p o w' ∧ Pt b w w' ∧ vl a v w') ∨ (∃ k n, R = .bad k n ∧ k ≤ s.size ∧ Pnc e ∧ Flt b s k n w' ∧ Pt b w w')
theorem rd_ended {b : Nat} {s : ByteArray} {p o : Nat} {w : World} (h : Rr b s p o w) : Calls Tryd.prog 29 #[.pointer (some ⟨b, 0, none⟩)] w fun e w' => e = .returned (.bool (decide (s.size ≤ p))) ∧ Hid (Below w.heap.size w w') := by
  have hB : Hid (∀ q, Below w.heap.size w (w.drewN q)) := fun q => blw_drewN q (Below.refl _ _)
  obtain ⟨y0, y1, y2, y3, y4, -, -, -, -⟩ := h.cells
  have hp := h.1.1
  by_cases he : s.size ≤ p
  · obtain rfl : p = s.size := by omega
    rw [decide_eq_true he]
    clear h he hp y3 y4
    go_enter Tryd.func29, Tryd.ntmps29
    go_wp2
    go_region
    all_goals
      go_wp2
      go_ret
      exact ⟨rfl, hB.out _⟩
  · have d1 : ((p : Int) == (s.size : Int)) = false := by simp; omega
    rw [decide_eq_false he]
    clear h he hp y3 y4
    go_enter Tryd.func29, Tryd.ntmps29
    go_wp2
    go_region
    all_goals
      go_wp2
      go_ret
      exact ⟨by first | rfl | (rw [d1]), hB.out _⟩
theorem rd_giveUp {b : Nat} {s : ByteArray} {p o : Nat} {w : World} (h : Rr b s p o w) (a : Nat) (n : Int) (ha : a ≤ s.size) : Calls Tryd.prog 45 #[.pointer (some ⟨b, 0, none⟩), .int .i64 (a : Int), .int .i64 n] w fun e w' => Pnc e ∧ Hid (∀ m : Nat, n = (m : Int) → Flt b s (s.size - a) m w') ∧ Hid (Pt b w w') := by
  obtain ⟨h0, x, y, e⟩ := h
  have y3 : w.cell? ⟨b, 3, none⟩ = some (.int .i64 x) := by rw [cells_at e 3]; rfl
  have y4 : w.cell? ⟨b, 4, none⟩ = some (.int .i64 y) := by rw [cells_at e 4]; rfl
  have f3 : w.frozen? ⟨b, 3, none⟩ = false := cells_free e 3
  have f4 : w.frozen? ⟨b, 4, none⟩ = false := cells_free e 4
  have HF : Hid (∀ m : Nat, n = (m : Int) → Flt b s (s.size - a) m ((w.setCell ⟨b, 3, none⟩ (.int .i64 (a : Int))).setCell ⟨b, 4, none⟩ (.int .i64 n))) := fun m hm => by
    refine ⟨(p : Int), (o : Int), ?_⟩
    have := heap_set_at (heap_set_at e (i := 3) (.int .i64 (a : Int))) (i := 4) (.int .i64 n)
    rw [this, hm]
    have e2 : (s.size : Int) - ((s.size - a : Nat) : Int) = (a : Int) := by omega
    rw [e2]
    rfl
  have HP : Hid (Pt b w ((w.setCell ⟨b, 3, none⟩ (.int .i64 (a : Int))).setCell ⟨b, 4, none⟩ (.int .i64 n))) := Pt.set (Pt.set (Part.refl _ w) 3 _) 4 _
  clear h0 e ha
  go_enter Tryd.func45, Tryd.ntmps45
  go_wp2
  refine ⟨rfl, ?_⟩
  exact ⟨⟨_, rfl⟩, HF, HP⟩
end Go.Proofs.YtfobiknbjijphaaDoor
