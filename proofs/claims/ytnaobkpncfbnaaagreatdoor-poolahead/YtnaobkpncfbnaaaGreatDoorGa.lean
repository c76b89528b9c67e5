/-
  Words for memory that the wire layer's contracts are said in: which bytes a slice leads to (Lay), worlds that part in one block alone (Only). No program, no condition.
  Slices of bytes: those that a call builds (Own), those that stand wherever (From); append, copy, bytes.Clone, bytes.Equal over them. Conditions: at most 2^47 bytes.
  Plain facts for the wire layer: what a number's bytes say (num), and how the bit operations of the text come to it. No program, no condition but those that each theorem names.
  The check sum, as plain numbers: one bit at a time (bit), four at a time by the table (half); both are one; a byte that is turned turns the sum. No program, no condition.
  Contracts of wire.Sum (by the table, which is laid) and of the document's own Sum: both answer Crc.sum of the bytes, and change nothing.
  Numbers in so many bytes (little.Put, little.Get), noughts (sector.Blank, the document's noughts): their contracts. Conditions: Put's number is none below 0; Get has at most eight bytes.
  Contracts of little.Get, sector.Blank and the document's noughts, sector.Number, sector.Load, sector.Sealed. Conditions: a sector has 128 bytes; the table is laid.
  Contract of sector.Seal: the sector of a head, a number and a load. Conditions: the number is none below 0, the load has at most 112 bytes; the table is laid.
-/
import Derived.WalkKit
import Derived.Deep.QuietTactic
import Derived.Laws.BytesArg
import Derived.Test.YtnaobkpncfbnaaaGreatDoorProg
import Derived.WalkLawsBesides
import Derived.WalkSpells
import Derived.Laws.AppendOwnNone
import Derived.Laws.CopyOwn
import Derived.Lib.AppendStr
import Derived.Lib.Bytes
import Derived.Laws.BitsAllLaws
import Derived.Laws.Rows
import Derived.Deep.RegionWith
import Derived.BigQuiet
namespace Go.Proofs.YtnaobkpncfbnaaaGreatDoor
open Go.RowKit

/-- The slice's n bytes are f's (of none nothing is asked). -/
def Lay (w : World) (ao : Option Addr) (n : Nat) (f : Nat → Int) : Prop :=
  n = 0 ∨ ∃ b off, ao = some ⟨b, off, none⟩ ∧ ∀ i, i < n → w.cell? ⟨b, off + i, none⟩ = some (.int .u8 (f i))

def sh (f : Nat → Int) (p : Nat) : Nat → Int := fun i => f (p + i)
theorem sh_by {f : Nat → Int} (h : ∀ i, 0 ≤ f i ∧ f i ≤ 255) (p : Nat) : ∀ i, 0 ≤ sh f p i ∧ sh f p i ≤ 255 := fun i => h (p + i)

/-- The worlds part in block R alone; nothing is made or let go. -/
structure Only (R : Nat) (w w' : World) : Prop where
  os : w'.os = w.os
  tape : w'.tape = w.tape
  output : w'.output = w.output
  size : w'.heap.size = w.heap.size
  block : ∀ k, k ≠ R → w'.heap[k]? = w.heap[k]?

theorem Only.refl (R : Nat) (w : World) : Only R w w := ⟨rfl, rfl, rfl, rfl, fun _ _ => rfl⟩
theorem Only.trans {R : Nat} {a b c : World} (h : Only R a b) (k : Only R b c) : Only R a c :=
  ⟨k.os.trans h.os, k.tape.trans h.tape, k.output.trans h.output, k.size.trans h.size, fun i hi => (k.block i hi).trans (h.block i hi)⟩
theorem Only.setCell {R : Nat} {a w : World} (h : Only R a w) {p : Addr} (hp : p.block = R) (u : Value) : Only R a (w.setCell p u) :=
  h.trans ⟨rfl, rfl, rfl, by simp [World.setCell], fun k hk => Below.heap_setCell _ _ _ _ (by omega)⟩
theorem Only.drewN {R : Nat} {a w : World} (h : Only R a w) (q : Nat) : Only R a (w.drewN q) := h.trans ⟨rfl, rfl, rfl, rfl, fun _ _ => rfl⟩
theorem Only.below {R B : Nat} {w w' : World} (h : Only R w w') (hB : B ≤ R) : Below B w w' :=
  ⟨h.os, h.tape, h.output, Nat.le_of_eq h.size.symm, fun k hk => h.block k (by omega)⟩
theorem Only.cell {R : Nat} {w w' : World} (h : Only R w w') {p : Addr} (hp : p.block ≠ R) : w'.cell? p = w.cell? p := World.cell?_of_block (w := w) (h.block p.block hp)
theorem Only.frozen {R : Nat} {w w' : World} (h : Only R w w') {p : Addr} (hp : p.block ≠ R) : w'.frozen? p = w.frozen? p := World.frozen?_of_block (w := w) (h.block p.block hp)

theorem blw_drewN {B : Nat} {a w : World} (n : Nat) (h : Below B a w) : Below B a (w.drewN n) := h.trans ⟨rfl, rfl, rfl, Nat.le_refl _, fun _ _ => rfl⟩

theorem own_form {w : World} {base : Nat} {e : TypeId} {v : Value} {n : Nat} {xs : List Value} (h : w.ownsRow base e 1 v n xs) (hne : v ≠ .slice none 0 0) :
    ∃ g cap, v = .slice (some ⟨g, 0, none⟩) n cap ∧ base ≤ g ∧ g < w.heap.size ∧ n ≤ cap ∧ cap ≤ maxLen := by
  rcases h.2 with ⟨h1, _⟩ | ⟨g, cap, cur, h1, h2, h3, h4, h5, _⟩
  · exact absurd h1 hne
  · exact ⟨g, cap, h1, h2, (Array.getElem?_eq_some_iff.1 h3).1, h4, h5⟩

/-- The first m numbers of f, as a list. -/
def lst (f : Nat → Int) (m : Nat) : List Int := (List.range m).map f
theorem lst_length (f : Nat → Int) (m : Nat) : (lst f m).length = m := by simp [lst]
theorem lst_getD (f : Nat → Int) (m i : Nat) (h : i < m) : (lst f m).getD i 0 = f i := by simp [lst, List.getD, h]
theorem lst_get (f : Nat → Int) (m i : Nat) (h : i < m) : (lst f m)[i]? = some (f i) := by simp [lst, h]

/-- The text of the first m numbers of f. -/
def strF (f : Nat → Int) (m : Nat) : ByteArray := strOfNums (lst f m)

end Go.Proofs.YtnaobkpncfbnaaaGreatDoor

namespace Go.Proofs.YtnaobkpncfbnaaaGreatDoor
open Go.RowKit
set_option linter.unusedVariables false

theorem info5 : (Tryz.prog.info? 5).map (fun i => (i.zero, i.size, i.bytes)) = some (some (.int .u8 0), 1, 1) := by kernel_rfl
theorem size5 : (Tryz.prog.info? 5).map (·.size) = some 1 := by kernel_rfl
/-- The slice's bytes are xs, in memory from block B on. -/
def Own (w : World) (B : Nat) (v : Value) (xs : List Int) : Prop := w.ownsRow B 5 1 v xs.length (xs.map (Value.int .u8))
theorem Own.one {B : Nat} {v' : Value} {xs : List Int} {x : Int} {w' : World} (h : w'.ownsRow B 5 1 v' (xs.length + 1) (xs.map (Value.int .u8) ++ [.int .u8 x])) : Own w' B v' (xs ++ [x]) := by
  unfold Own
  rw [List.length_append, List.map_append]
  exact h

def From (w : World) (a0 : Option Addr) (n : Nat) (f : Nat → Int) : Prop := (a0 = none ∧ n = 0) ∨ ∃ x, a0 = some x ∧ ∀ i, i < n → w.cell? (x.add i) = some (.int .u8 (f i))
def fn (xs : List Int) : Nat → Int := fun i => xs.getD i 0
theorem lst_fn (xs : List Int) : lst (fn xs) xs.length = xs := by
  apply List.ext_getElem?
  intro i
  by_cases h : i < xs.length
  · rw [lst_get _ _ _ h, List.getElem?_eq_getElem h]
    simp [fn, List.getD, h]
  · rw [List.getElem?_eq_none (by rw [lst_length]; omega), List.getElem?_eq_none (by omega)]

theorem From.lay {w : World} {ao : Option Addr} {n : Nat} {f : Nat → Int} (h : From w ao n f) : Lay w ao n f := by
  rcases h with ⟨_, h⟩ | ⟨⟨b, off, spot⟩, h1, h2⟩
  · exact .inl h
  · by_cases hn : n = 0
    · exact .inl hn
    · have h0 := h2 0 (by omega)
      have hspot : spot = none := by simpa [Addr.add] using World.cell?_spot h0
      subst hspot
      exact .inr ⟨b, off, h1, fun i hi => by rw [← Addr.add_lit]; exact h2 i hi⟩
theorem From.below {w w' : World} {B : Nat} {ao : Option Addr} {n : Nat} {f : Nat → Int} (h : From w ao n f) (hb : Below B w w') (hB : w.heap.size ≤ B) : From w' ao n f := by
  rcases h with h | ⟨x, h1, h2⟩
  · exact .inl h
  · exact .inr ⟨x, h1, fun i hi => by
      have := h2 i hi
      rw [hb.cell (p := x.add i) (Nat.lt_of_lt_of_le (World.block_lt_of_cell? w _ this) hB)]
      exact this⟩
theorem From.alloc {w : World} {ao : Option Addr} {n : Nat} {f : Nat → Int} (h : From w ao n f) (o : Obj) : From (w.alloc o) ao n f := h.below ((Below.refl _ w).alloc (Nat.le_refl _) o) (Nat.le_refl _)

theorem own_at {w : World} {base g n cap : Nat} {xs : List Int} (h : w.ownsRow base 5 1 (.slice (some ⟨g, 0, none⟩) n cap) n (xs.map (Value.int .u8))) (i : Nat) (hi : i < n) (hn : n = xs.length) : w.cell? ⟨g, i, none⟩ = some (.int .u8 (fn xs i)) := by
  rw [h.cellAt i (by omega), List.getElem?_map, List.getElem?_eq_getElem (by omega)]
  simp [fn, List.getD, List.getElem?_eq_getElem (show i < xs.length by omega)]

/-- What a slice of the call's own is, opened. -/
theorem Own.open {w : World} {B : Nat} {v : Value} {xs : List Int} (h : Own w B v xs) :
    ∃ ao c, v = .slice ao xs.length c ∧ From w ao xs.length (fn xs) ∧ (ao = none → c = 0) ∧ xs.length ≤ c ∧ c ≤ 9223372036854775807 ∧ (∀ g, ao = some g → ∃ k, g = ⟨k, 0, none⟩ ∧ B ≤ k ∧ k < w.heap.size) := by
  have h0 := h
  rcases h.2 with ⟨h1, h2⟩ | ⟨g, cap, cur, h1, h2, h3, h4, h5, _⟩
  · refine ⟨none, 0, ?_, .inl ⟨rfl, h2⟩, fun _ => rfl, by omega, by decide, fun g hg => by cases hg⟩
    rw [h2]; exact h1
  · subst h1
    refine ⟨_, cap, rfl, .inr ⟨_, rfl, fun i hi => ?_⟩, (fun e => by cases e), h4, h5, fun g' hg' => ?_⟩
    · rw [Addr.add_lit, Nat.zero_add]
      exact own_at h0 i hi rfl
    · cases hg'
      exact ⟨g, rfl, h2, (Array.getElem?_eq_some_iff.1 h3).1⟩
theorem Own.below {w w' : World} {B B' : Nat} {v : Value} {xs : List Int} (h : Own w B v xs) (hb : Below B' w w') (hB : w.heap.size ≤ B') : Own w' B v xs := by
  refine ⟨h.1, ?_⟩
  rcases h.2 with h1 | ⟨g, cap, cur, h1, h2, h3, h4⟩
  · exact .inl h1
  · exact .inr ⟨g, cap, cur, h1, h2, by rw [hb.block g (Nat.lt_of_lt_of_le (Array.getElem?_eq_some_iff.1 h3).1 hB)]; exact h3, h4⟩
theorem Own.mono {w : World} {B B' : Nat} {v : Value} {xs : List Int} (h : Own w B v xs) (hB : B' ≤ B) : Own w B' v xs := by
  refine ⟨h.1, ?_⟩
  rcases h.2 with h1 | ⟨g, cap, cur, h1, h2, h3⟩
  · exact .inl h1
  · exact .inr ⟨g, cap, cur, h1, by omega, h3⟩

theorem fn_lst (f : Nat → Int) (n i : Nat) (h : i < n) : fn (lst f n) i = f i := lst_getD f n i h
theorem Own.openF {w : World} {B : Nat} {v : Value} {f : Nat → Int} {n : Nat} (h : Own w B v (lst f n)) :
    ∃ ao c, v = .slice ao n c ∧ From w ao n f ∧ (ao = none → c = 0) ∧ n ≤ c ∧ c ≤ 9223372036854775807 ∧ (∀ g, ao = some g → ∃ k, g = ⟨k, 0, none⟩ ∧ B ≤ k ∧ k < w.heap.size) := by
  obtain ⟨ao, c, h1, h2, h3, h4, h5, h6⟩ := h.open
  rw [lst_length] at h1 h2 h4
  refine ⟨ao, c, h1, ?_, h3, h4, h5, h6⟩
  rcases h2 with h2 | ⟨x, k1, k2⟩
  · exact .inl h2
  · exact .inr ⟨x, k1, fun i hi => by rw [k2 i hi, fn_lst f n i hi]⟩
theorem From.only {w w' : World} {g : Nat} {ao : Option Addr} {n : Nat} {f : Nat → Int} (h : From w ao n f) (ho : Only g w w') (hne : ∀ x, ao = some x → 0 < n → x.block ≠ g) : From w' ao n f := by
  rcases h with h | ⟨x, h1, h2⟩
  · exact .inl h
  · refine .inr ⟨x, h1, fun i hi => ?_⟩
    have hb : (x.add i).block = x.block := by unfold Addr.add; split <;> rfl
    rw [ho.cell (p := x.add i) (by rw [hb]; exact hne x h1 (by omega))]
    exact h2 i hi
theorem fn_by {xs : List Int} (h : ∀ x ∈ xs, 0 ≤ x ∧ x ≤ 255) (i : Nat) : 0 ≤ fn xs i ∧ fn xs i ≤ 255 := by
  by_cases hi : i < xs.length
  · have e : fn xs i = xs[i] := by simp [fn, List.getD, hi]
    rw [e]
    exact h _ (List.getElem_mem hi)
  · have e : fn xs i = 0 := by simp [fn, List.getD, List.getElem?_eq_none (show xs.length ≤ i by omega)]
    rw [e]
    decide
theorem From.take {w : World} {ao : Option Addr} {n m : Nat} {f : Nat → Int} (h : From w ao n f) (hm : m ≤ n) : From w ao m f := by
  rcases h with ⟨h1, h2⟩ | ⟨x, h1, h2⟩
  · exact .inl ⟨h1, by omega⟩
  · exact .inr ⟨x, h1, fun i hi => h2 i (by omega)⟩
section
variable {w : World} {ops : Array Oper} {rest : List Oper} {o : Oper} {a : Act} {Q : Exit → Act → World → Prop}
/-- 'append(v, x...)', v the call's own, x wherever. -/
theorem wpList_app (hgd : o.guard = none) (s x : Operand) (ho : o.op = .call { callee := .builtin .append, args := #[s, x], argTypes := #[36, 36] })
    (B : Nat) (v : Value) (xs : List Int) (hs : a.eval s = v) (hown : Own w B v xs) (ao : Option Addr) (m c : Nat) (f : Nat → Int) (hx : a.eval x = .slice ao m c) (hf : From w ao m f) (hc0 : ao = none → c = 0)
    (hbig : xs.length + m ≤ 140737488355328) (hB : B ≤ w.heap.size)
    (h : ∀ v' w', Own w' B v' (xs ++ lst f m) → Below B w w' → wpList Tryz.prog ops Q rest (a.put o.dst v') w') : wpList Tryz.prog ops Q (o :: rest) a w := by
  obtain ⟨i0, hi, hz0, hz1, hz2⟩ := info_parts info5
  rcases hf with ⟨h1, h2⟩ | ⟨ad, h1, h2⟩
  · subst h1 h2
    rw [hc0 rfl] at hx
    refine wpList_append_own_none hgd s x 36 ho B 5 i0 1 Tryz.underlying36 hi v xs.length (xs.map (Value.int .u8)) hs hown hx (h v w ?_ (Below.refl _ _))
    simpa [lst] using hown
  · subst h1
    refine wpList_append_own w hgd s x 36 ho B 5 i0 (.int .u8 0) 1 1 Tryz.underlying36 hi hz0 hz1 hz2 rfl (by decide) v xs.length (xs.map (Value.int .u8)) hs hown ad m c ((lst f m).map (Value.int .u8)) hx (by simp [lst_length]) ?_ ?_ (by unfold maxLen; omega) (by omega) hB ?_
    · intro j u hj
      have hjm : j < m := by
        have := (List.getElem?_eq_some_iff.1 hj).1
        simpa [lst_length] using this
      rw [h2 j hjm]
      rw [List.getElem?_map, lst_get f m j hjm] at hj
      simpa using hj
    · intro u hu
      obtain ⟨y, _, rfl⟩ := List.mem_map.1 hu
      rfl
    · intro v' w' h3 h4 _
      refine h v' w' ?_ ((Below.refl _ w).grown h4 hB (fun q hq => (World.ownsRow.lt hown q hq).1))
      unfold Own
      rw [List.length_append, lst_length, List.map_append]
      exact h3
/-- 'copy(d, s)', d a part of a slice of the call's own, s wherever. -/
theorem wpList_copyF (hgd : o.guard = none) (d s : Operand) (ho : o.op = .call { callee := .builtin .copy, args := #[d, s], argTypes := #[36, 36] })
    (B g n cap : Nat) (xs : List Int) (hown : Own w B (.slice (some ⟨g, 0, none⟩) n cap) xs) (hn : n = xs.length) (off dLen dCap : Nat) (dp : Option Addr) (hd : a.eval d = .slice dp dLen dCap) (ao : Option Addr) (m c : Nat) (f : Nat → Int)
    (hs : a.eval s = .slice ao m c) (hf : From w ao m f) (hfit : off + dLen ≤ xs.length) (hm : m ≤ dLen) (hdp : 0 < m → dp = some ⟨g, off, none⟩)
    (h : ∀ w', Own w' B (.slice (some ⟨g, 0, none⟩) n cap) (splice xs off (lst f m)) → Below B w w' → wpList Tryz.prog ops Q rest (a.put o.dst (.int .i64 m)) w') : wpList Tryz.prog ops Q (o :: rest) a w := by
  subst hn
  rcases hown.2 with ⟨h1, h2⟩ | ⟨g', cap', cur, h1, h2, h3, h4, h5, h6, h7⟩
  · cases h1
  · cases h1
    have hlen : ((lst f m).map (Value.int .u8)).length = m := by simp [lst_length]
    refine wpList_copy_splice hgd d s 36 36 ho 5 Tryz.underlying36 size5 dp ao dLen dCap m c hd hs g off cur.toList 5 (by simpa using h3) ((lst f m).map (Value.int .u8)) (by rw [hlen]; exact (Nat.min_eq_left hm).symm) ?_ (by rw [hlen, Array.length_toList]; omega) ?_ B w (Below.refl _ _) h2 ?_
    · intro hp
      rw [hlen] at hp
      refine ⟨hdp hp, ?_⟩
      rcases hf with ⟨_, e⟩ | ⟨x, e1, e2⟩
      · omega
      · refine ⟨x, e1, fun j u hj => ?_⟩
        have hjm : j < m := by
          have := (List.getElem?_eq_some_iff.1 hj).1
          simpa [lst_length] using this
        rw [e2 j hjm]
        rw [List.getElem?_map, lst_get f m j hjm] at hj
        simpa using hj
    · intro u hu
      obtain ⟨y, _, rfl⟩ := List.mem_map.1 hu
      rfl
    · intro w' hg hb
      have hg := hg.out
      have e0 : goInt ((lst f m).map (Value.int .u8)).length = .int .i64 m := by rw [hlen]; rfl
      rw [e0]
      refine h w' ⟨by simp, .inr ⟨g, cap, _, ?_, h2, hg, ?_, h5, ?_, ?_⟩⟩ hb
      · rw [length_splice _ _ _ (by rw [lst_length]; omega)]
      · rw [length_splice _ _ _ (by rw [lst_length]; omega)]; exact h4
      · rw [List.size_toArray, length_splice _ _ _ (by rw [hlen, Array.length_toList]; omega), Array.length_toList]; exact h6
      · rw [length_splice _ _ _ (by rw [lst_length]; omega), Nat.mul_one] at *
        have hx : xs.map (Value.int .u8) = cur.toList.take xs.length := h7.symm
        unfold splice
        simp only [List.map_append, List.map_take, List.map_drop, List.length_map, hx, lst_length]
        apply List.ext_getElem?
        intro i
        simp only [List.getElem?_take, List.getElem?_append, List.length_take, List.length_map, lst_length, List.getElem?_drop, Array.length_toList]
        have hcs : xs.length ≤ cur.size := by omega
        have e1 : min off cur.size = off := by omega
        have e2 : min off (min xs.length cur.size) = off := by omega
        simp only [e1, e2]
        by_cases i1 : i < xs.length
        · by_cases i2 : i < off
          · simp only [i1, i2, if_true]
          · by_cases i3 : i - off < m
            · simp only [i1, i2, i3, if_true, if_false]
            · have i4 : off + m + (i - off - m) < xs.length := by omega
              simp only [i1, i2, i3, i4, if_true, if_false]
        · have i2 : ¬ i < off := by omega
          have i3 : ¬ i - off < m := by omega
          have i4 : ¬ off + m + (i - off - m) < xs.length := by omega
          simp only [i1, i2, i3, i4, if_false]
end
set_option maxHeartbeats 400000 in
theorem clone (a0 : Option Addr) (n c : Nat) (f : Nat → Int) (w : World) (hbig : n ≤ 140737488355328) (hf : From w a0 n f) :
    Calls Tryz.prog 10 #[.slice a0 n c] w fun e w' => ∃ v', e = .returned v' ∧ Own w' w.heap.size v' (lst f n) ∧ Below w.heap.size w w' := by
  have hq : ∀ (w : World) (a : Option Addr) (n c n' c' : Nat), (binOp .eql 36 (.slice a n c) (.slice none n' c')).run Tryz.prog w = .ok (.bool a.isNone) w := fun w a n c n' c' => Lib.run_eql_slice_nil w _ _ a n c n' c' Tryz.underlying36
  cases a0 with
  | none =>
    obtain rfl : n = 0 := by
      rcases hf with ⟨_, h⟩ | ⟨x, h, _⟩
      · exact h
      · cases h
    have H0 : Hid (Own w w.heap.size (.slice none 0 0) (lst f 0)) := World.ownsRow_nil _ _ _ _
    go_enter Tryz.func10, Tryz.ntmps10
    go_wp2
    go_ret
    exact ⟨_, rfl, H0.out, Below.refl _ _⟩
  | some x =>
    have hm : Own (w.alloc (.cells #[] 5)) w.heap.size (.slice (some ⟨w.heap.size, 0, none⟩) 0 0) [] := World.ownsRow_made w #[] 0 (Nat.le_refl _) (Nat.zero_le _) rfl
    have hf2 := hf.alloc (.cells #[] 5)
    have HF : Hid (From (w.alloc (.cells #[] 5)) (some x) n f) := hf2
    clear hf2
    go_enter Tryz.func10, Tryz.ntmps10
    go_wp2_with (at_builtin; refine wpList_app rfl _ _ rfl w.heap.size _ [] rfl hm (some x) n c f rfl HF.out ?q1 ?q2 ?q3 ?_)
    case q1 => first | (intro h; cases h) | trivial
    case q2 => simp; omega
    case q3 => simp
    intro v' w' ho hb
    go_wp2
    go_ret
    exact ⟨v', rfl, ho, ((Below.refl _ w).alloc (Nat.le_refl _) _).trans hb⟩

theorem conv_from {w : World} {a0 : Option Addr} {n : Nat} (c : Nat) {f : Nat → Int} (h : From w a0 n f) : (convert 36 9 (.slice a0 n c)).run Tryz.prog w = .ok (.string (strF f n)) w := by
  by_cases hn : n = 0
  · subst hn
    cases a0 with
    | none => exact run_convert_bytes_nil w 36 5 Tryz.underlying36 Tryz.underlying5 0 c 9 Tryz.underlying9
    | some x =>
      rw [run_convert_bytes_string w 36 9 5 _ 0 c Tryz.underlying36 Tryz.underlying5 Tryz.underlying9, run_bytesToString w x 0 c [] (by simp [loadCells, loadCellsFrom])]
      rfl
  · obtain ⟨b, off, rfl, hc⟩ := h.lay.resolve_left hn
    exact run_convert_bytes_arg w 36 5 Tryz.underlying36 Tryz.underlying5 b off n c (lst f n) (lst_length f n) (fun i hi => by rw [hc i hi, lst_getD f n i hi]) 9 Tryz.underlying9

set_option maxHeartbeats 400000 in
theorem equal_yes (a0 b0 : Option Addr) (n c m d : Nat) (f g : Nat → Int) (w : World) (hf : From w a0 n f) (hg : From w b0 m g) (he : Hid (lst f n = lst g m)) :
    Calls Tryz.prog 16 #[.slice a0 n c, .slice b0 m d] w fun e w' => e = .returned (.bool true) ∧ w' = w := by
  have h1 := conv_from c hf
  have h2 := conv_from d hg
  have h3 : strF f n = strF g m := by unfold strF; rw [he.out]
  rw [h3] at h1
  clear h3
  generalize strF g m = s at *
  go_enter Tryz.func16, Tryz.ntmps16
  go_wp2
  go_ret
  exact ⟨rfl, rfl⟩

theorem strF_inj {f g : Nat → Int} {n m : Nat} (hf : ∀ i, 0 ≤ f i ∧ f i ≤ 255) (hg : ∀ i, 0 ≤ g i ∧ g i ≤ 255) (h : strF f n = strF g m) : lst f n = lst g m := by
  have h1 := congrArg (fun s : ByteArray => s.data.toList) h
  simp only [strF, strOfNums_data] at h1
  have hl : n = m := by
    have := congrArg List.length h1
    simpa [lst_length] using this
  subst hl
  apply List.ext_getElem?
  intro i
  by_cases hi : i < n
  · have h2 := congrArg (fun l : List UInt8 => l[i]?) h1
    simp only [List.getElem?_map, lst_get f n i hi, lst_get g n i hi, Option.map_some, Option.some.injEq] at h2
    rw [lst_get f n i hi, lst_get g n i hi]
    have a1 := hf i
    have a2 := hg i
    have h3 := congrArg UInt8.toNat h2
    simp only [UInt8.toNat_ofNat'] at h3
    congr 1
    omega
  · rw [List.getElem?_eq_none (by rw [lst_length]; omega), List.getElem?_eq_none (by rw [lst_length]; omega)]

set_option maxHeartbeats 400000 in
theorem equal_no (a0 b0 : Option Addr) (n c m d : Nat) (f g : Nat → Int) (w : World) (hf : From w a0 n f) (hg : From w b0 m g) (h1 : ∀ i, 0 ≤ f i ∧ f i ≤ 255) (h2 : ∀ i, 0 ≤ g i ∧ g i ≤ 255) (he : lst f n ≠ lst g m) :
    Calls Tryz.prog 16 #[.slice a0 n c, .slice b0 m d] w fun e w' => e = .returned (.bool false) ∧ w' = w := by
  have h3 : (strF f n).toList ≠ (strF g m).toList := fun h => he (strF_inj h1 h2 (by
    have e : (strF f n).data.toList = (strF g m).data.toList := by
      have p := Lib.strOfNums_toList (lst f n)
      have q := Lib.strOfNums_toList (lst g m)
      exact (p.symm.trans (h.trans q))
    exact ByteArray.ext (Array.toList_inj.1 e)))
  have h1 := conv_from c hf
  have h2 := conv_from d hg
  have h4 : ((strF f n).toList == (strF g m).toList) = false := by simpa using h3
  clear h3 he
  generalize strF g m = s at *
  generalize strF f n = t at *
  have H4 : Hid ((t.toList == s.toList) = false) := h4
  clear h4
  go_enter Tryz.func16, Tryz.ntmps16
  go_wp2
  go_ret
  exact ⟨congrArg (fun b => Ending.returned (.bool b)) H4.out, rfl⟩
end Go.Proofs.YtnaobkpncfbnaaaGreatDoor

namespace Go.Proofs.YtnaobkpncfbnaaaGreatDoor
namespace Wm
open Go.RowKit

/-- The first k bytes' low seven bits, the lowest first. -/
def accum (f : Nat → Int) : Nat → Int
  | 0 => 0
  | k + 1 => accum f k + (f k % 128) * 2 ^ (7 * k)
/-- What is read from place k on, with so many places left: the number, how many bytes it takes, the error. -/
def numAt (f : Nat → Int) (n : Nat) : Nat → Nat → Int × Int × Int
  | 0, _ => (0, 0, 11)
  | r + 1, k => if n ≤ k then (0, 0, 10) else if 128 ≤ f k then numAt f n r (k + 1) else if f k = 0 ∧ 0 < k then (0, 0, 5) else (accum f (k + 1), (k : Int) + 1, 0)
def num (f : Nat → Int) (n : Nat) : Int × Int × Int := numAt f n 9 0

theorem w64 (n : Int) (h : -9223372036854775808 ≤ n ∧ n ≤ 9223372036854775807) : wrap64 n = n := by unfold wrap64; omega

theorem pow7 (k : Nat) : (2 : Int) ^ (7 * (k + 1)) = 2 ^ (7 * k) * 128 := by
  rw [Nat.mul_succ, Int.pow_add]; rfl
theorem pow7_pos (k : Nat) : (0 : Int) < 2 ^ (7 * k) := Int.pow_pos (by decide)

theorem accum_bd (f : Nat → Int) (k : Nat) : 0 ≤ accum f k ∧ accum f k < 2 ^ (7 * k) := by
  induction k with
  | zero => simp [accum]
  | succ k ih =>
    have hp := pow7_pos k
    have h1 : 0 ≤ f k % 128 := Int.emod_nonneg _ (by decide)
    have h2 : f k % 128 ≤ 127 := by have := Int.emod_lt_of_pos (f k) (show (0 : Int) < 128 by decide); omega
    have h3 : 0 ≤ (f k % 128) * 2 ^ (7 * k) := Int.mul_nonneg h1 (by omega)
    have h4 : (f k % 128) * 2 ^ (7 * k) ≤ 127 * 2 ^ (7 * k) := Int.mul_le_mul_of_nonneg_right h2 (by omega)
    rw [pow7, accum]
    omega

theorem pow7_le (k : Nat) (h : k ≤ 8) : (2 : Int) ^ (7 * k) ≤ 72057594037927936 := by
  have hk : k = 0 ∨ k = 1 ∨ k = 2 ∨ k = 3 ∨ k = 4 ∨ k = 5 ∨ k = 6 ∨ k = 7 ∨ k = 8 := by omega
  rcases hk with h | h | h | h | h | h | h | h | h <;> subst h <;> decide

theorem accum_le (f : Nat → Int) (k : Nat) (h : k ≤ 9) : 0 ≤ accum f k ∧ accum f k ≤ 9223372036854775807 := by
  have h0 := accum_bd f k
  by_cases h9 : k = 9
  · subst h9
    have : (2 : Int) ^ (7 * 9) = 9223372036854775808 := by decide
    omega
  · have := pow7_le k (by omega)
    omega

theorem i64_or_nat (a b : Nat) (ha : a < 9223372036854775808) (hb : b < 9223372036854775808) : bits .or .i64 (a : Int) (b : Int) = ((a ||| b : Nat) : Int) := by
  have hx : a ||| b < 2 ^ 63 := Nat.or_lt_two_pow (by omega) (by omega)
  show IntKind.i64.wrap ((BitVec.ofInt 64 (a : Int) ||| BitVec.ofInt 64 (b : Int)).toNat : Int) = _
  rw [BitVec.toNat_or, ofInt_u64 a (by omega), ofInt_u64 b (by omega)]
  simp only [IntKind.wrap, IntKind.bits, IntKind.signed]
  simp only [show (2 : Nat) ^ 63 = 9223372036854775808 from rfl] at hx
  generalize a ||| b = c at *
  simp
  omega

theorem andNot128 (x : Int) (h0 : 0 ≤ x) (h1 : x ≤ 255) : bits .andNot .u8 x 128 = x % 128 := by
  rw [u8_andNot x 128 h0 (by omega) (by decide) (by decide)]
  show ((x.toNat &&& 127 : Nat) : Int) = _
  rw [nat_mask7]
  omega
theorem and127 (x : Int) (h0 : 0 ≤ x) (h1 : x ≤ 255) : bits .and .u8 x 127 = x % 128 := by
  rw [u8_and x 127 h0 (by omega) (by decide) (by decide)]
  show ((x.toNat &&& 127 : Nat) : Int) = _
  rw [nat_mask7]
  omega

theorem part_bd (x : Int) (k : Nat) (hk : k < 9) : 0 ≤ (x % 128) * 2 ^ (7 * k) ∧ (x % 128) * 2 ^ (7 * k) ≤ 9151314442816847872 := by
  have h1 : 0 ≤ x % 128 := Int.emod_nonneg _ (by decide)
  have h2 : x % 128 ≤ 127 := by have := Int.emod_lt_of_pos x (show (0 : Int) < 128 by decide); omega
  have hp := pow7_pos k
  have hq := pow7_le k (by omega)
  have h3 : 0 ≤ (x % 128) * 2 ^ (7 * k) := Int.mul_nonneg h1 (by omega)
  have h4 : (x % 128) * 2 ^ (7 * k) ≤ 127 * 2 ^ (7 * k) := Int.mul_le_mul_of_nonneg_right h2 (by omega)
  omega

theorem or_join (A x : Int) (k : Nat) (hk : k < 9) (h0 : 0 ≤ A) (h1 : A < 2 ^ (7 * k)) : bits .or .i64 A ((x % 128) * 2 ^ (7 * k)) = A + (x % 128) * 2 ^ (7 * k) := by
  obtain ⟨p1, p2⟩ := part_bd x k hk
  have h2 : 0 ≤ x % 128 := Int.emod_nonneg _ (by decide)
  have hq := pow7_le k (by omega)
  obtain ⟨a, rfl⟩ := Int.eq_ofNat_of_zero_le h0
  obtain ⟨y, hy⟩ := Int.eq_ofNat_of_zero_le h2
  rw [hy] at p1 p2 ⊢
  have e : ((y : Int) * 2 ^ (7 * k)) = ((y * 2 ^ (7 * k) : Nat) : Int) := by simp
  rw [e] at p1 p2 ⊢
  have ha : a < 2 ^ (7 * k) := by
    have e2 : (2 : Int) ^ (7 * k) = ((2 ^ (7 * k) : Nat) : Int) := by simp
    rw [e2] at h1
    omega
  rw [i64_or_nat a (y * 2 ^ (7 * k)) (by omega) (by omega), Nat.or_comm, nat_join (7 * k) (y * 2 ^ (7 * k)) a (Nat.mul_mod_left _ _) ha]
  omega

/-- One byte more, as the text's own operations have it. -/
theorem or_step (f : Nat → Int) (x : Int) (k : Nat) (hk : k < 9) (hx : f k = x) (h0 : 0 ≤ x) (h1 : x ≤ 255) :
    bits .or .i64 (accum f k) (wrap64 (wrap64 (bits .andNot .u8 x 128) * 2 ^ (7 * k))) = accum f (k + 1) := by
  obtain ⟨p1, p2⟩ := part_bd x k hk
  have hb := accum_bd f k
  rw [andNot128 x h0 h1, w64 (x % 128) (by omega), w64 _ (by omega), or_join _ x k hk hb.1 hb.2, accum, hx]

theorem add_step (f : Nat → Int) (x : Int) (k : Nat) (hk : k < 9) (hx : f k = x) (h0 : 0 ≤ x) (h1 : x ≤ 255) :
    wrap64 (accum f k + wrap64 (wrap64 (bits .and .u8 x 127) * 2 ^ (7 * k))) = accum f (k + 1) := by
  obtain ⟨p1, p2⟩ := part_bd x k hk
  have hb := accum_le f (k + 1) (by omega)
  have e : accum f (k + 1) = accum f k + (x % 128) * 2 ^ (7 * k) := by rw [accum, hx]
  rw [and127 x h0 h1, w64 (x % 128) (by omega), w64 ((x % 128) * 2 ^ (7 * k)) (by omega), ← e, w64 _ (by omega)]

theorem numAt_end (f : Nat → Int) (n k : Nat) (h : 9 ≤ k) : numAt f n (9 - k) k = (0, 0, 11) := by
  rw [show 9 - k = 0 by omega]; rfl
theorem numAt_open (f : Nat → Int) (n k : Nat) (h : k < 9) : numAt f n (9 - k) k = if n ≤ k then (0, 0, 10) else if 128 ≤ f k then numAt f n (9 - (k + 1)) (k + 1) else if f k = 0 ∧ 0 < k then (0, 0, 5) else (accum f (k + 1), (k : Int) + 1, 0) := by
  rw [show 9 - k = (9 - (k + 1)) + 1 by omega]; rfl
theorem num_short (f : Nat → Int) (n k : Nat) (h : k < 9) (hn : n ≤ k) : numAt f n (9 - k) k = (0, 0, 10) := by rw [numAt_open f n k h, if_pos hn]
theorem num_more (f : Nat → Int) (n k : Nat) (h : k < 9) (hn : k < n) (hx : 128 ≤ f k) : numAt f n (9 - k) k = numAt f n (9 - (k + 1)) (k + 1) := by rw [numAt_open f n k h, if_neg (by omega), if_pos hx]
theorem num_form (f : Nat → Int) (n k : Nat) (h : k < 9) (hn : k < n) (hx : f k = 0) (hk : 0 < k) : numAt f n (9 - k) k = (0, 0, 5) := by
  rw [numAt_open f n k h, if_neg (by omega), if_neg (by omega), if_pos ⟨hx, hk⟩]
theorem num_last (f : Nat → Int) (n k : Nat) (h : k < 9) (hn : k < n) (hx : f k < 128) (hk : ¬ (f k = 0 ∧ 0 < k)) : numAt f n (9 - k) k = (accum f (k + 1), (k : Int) + 1, 0) := by
  rw [numAt_open f n k h, if_neg (by omega), if_neg (by omega), if_neg hk]

/-- What every answer keeps to. -/
theorem numAt_bd (f : Nat → Int) (n : Nat) : ∀ r k, r + k ≤ 9 → 0 ≤ (numAt f n r k).1 ∧ (numAt f n r k).1 ≤ 9223372036854775807 ∧ 0 ≤ (numAt f n r k).2.1 ∧ (numAt f n r k).2.1 ≤ n ∧ ((numAt f n r k).2.2 ≠ 0 → (numAt f n r k).1 = 0 ∧ (numAt f n r k).2.1 = 0) := by
  intro r
  induction r with
  | zero => intro k h; simp [numAt]
  | succ r ih =>
    intro k h
    have hb := accum_le f (k + 1) (by omega)
    unfold numAt
    split
    · simp
    · split
      · exact ih (k + 1) (by omega)
      · split
        · simp
        · refine ⟨hb.1, hb.2, ?_, ?_, ?_⟩
          · show (0 : Int) ≤ (k : Int) + 1; omega
          · show (k : Int) + 1 ≤ (n : Int); omega
          · intro h; exact absurd rfl h
theorem num_bd (f : Nat → Int) (n : Nat) : 0 ≤ (num f n).1 ∧ (num f n).1 ≤ 9223372036854775807 ∧ 0 ≤ (num f n).2.1 ∧ (num f n).2.1 ≤ n ∧ ((num f n).2.2 ≠ 0 → (num f n).1 = 0 ∧ (num f n).2.1 = 0) := numAt_bd f n 9 0 (by omega)
theorem numAt_pos (f : Nat → Int) (n : Nat) : ∀ r k, (numAt f n r k).2.2 = 0 → 0 < (numAt f n r k).2.1 := by
  intro r
  induction r with
  | zero => intro k h; simp [numAt] at h
  | succ r ih =>
    intro k
    unfold numAt
    split
    · intro h; simp at h
    · split
      · exact ih (k + 1)
      · split
        · intro h; simp at h
        · intro _; show (0 : Int) < (k : Int) + 1; omega
theorem num_pos (f : Nat → Int) (n : Nat) : (num f n).2.2 = 0 → 0 < (num f n).2.1 := numAt_pos f n 9 0
theorem num_zero (f : Nat → Int) : num f 0 = (0, 0, 10) := rfl

end Wm
end Go.Proofs.YtnaobkpncfbnaaaGreatDoor

namespace Go.Proofs.YtnaobkpncfbnaaaGreatDoor
namespace Crc
open Go.RowKit

def poly : Nat := 3988292384
/-- One bit of the division. -/
def bit (c : Nat) : Nat := if c % 2 = 1 then (c / 2) ^^^ poly else c / 2
def bits4 (c : Nat) : Nat := bit (bit (bit (bit c)))
def bits8 (c : Nat) : Nat := bits4 (bits4 c)
def tab : List Nat := [0, 498536548, 997073096, 651767980, 1994146192, 1802195444, 1303535960, 1342533948, 3988292384, 4027552580, 3604390888, 3412177804, 2607071920, 2262029012, 2685067896, 3183342108]
/-- Half a byte by the table. -/
def half (c : Nat) : Nat := (c / 16) ^^^ tab.getD (c % 16) 0
/-- A byte more. -/
def byte (c x : Nat) : Nat := bits8 (c ^^^ x)
def run (c : Nat) (l : List Nat) : Nat := l.foldl byte c
def sum (l : List Nat) : Nat := run 4294967295 l ^^^ 4294967295

theorem xor_half (a b : Nat) : (a ^^^ b) / 2 = (a / 2) ^^^ (b / 2) := by
  have := Nat.shiftRight_xor_distrib (a := a) (b := b) (i := 1)
  simpa [Nat.shiftRight_eq_div_pow] using this
theorem xor_mod (a b : Nat) : (a ^^^ b) % 2 = (a + b) % 2 := by
  have h := @Nat.xor_mod_two_pow a b 1
  have h' : (a ^^^ b) % 2 = (a % 2) ^^^ (b % 2) := by simpa using h
  rw [h']
  rcases Nat.mod_two_eq_zero_or_one a with ha | ha <;> rcases Nat.mod_two_eq_zero_or_one b with hb | hb <;> rw [ha, hb] <;> simp <;> omega
theorem xor_cancel {a b : Nat} (h : a ^^^ b = 0) : a = b := by
  have := congrArg (· ^^^ b) h
  simpa [Nat.xor_assoc] using this
theorem bit_xor (a b : Nat) : bit (a ^^^ b) = bit a ^^^ bit b := by
  unfold bit
  rw [xor_half, xor_mod]
  rcases Nat.mod_two_eq_zero_or_one a with ha | ha <;> rcases Nat.mod_two_eq_zero_or_one b with hb | hb
  · rw [if_neg (by omega), if_neg (by omega), if_neg (by omega)]
  · rw [if_pos (by omega), if_neg (by omega), if_pos hb, Nat.xor_assoc]
  · rw [if_pos (by omega), if_pos ha, if_neg (by omega), Nat.xor_assoc, Nat.xor_assoc, Nat.xor_comm poly]
  · rw [if_neg (by omega), if_pos ha, if_pos hb]
    rw [Nat.xor_assoc, ← Nat.xor_assoc poly, Nat.xor_comm poly (b / 2), Nat.xor_assoc (b / 2), Nat.xor_self, Nat.xor_zero]
theorem bits4_xor (a b : Nat) : bits4 (a ^^^ b) = bits4 a ^^^ bits4 b := by unfold bits4; rw [bit_xor, bit_xor, bit_xor, bit_xor]
theorem bits8_xor (a b : Nat) : bits8 (a ^^^ b) = bits8 a ^^^ bits8 b := by unfold bits8; rw [bits4_xor, bits4_xor]
theorem bit_double (q : Nat) : bit (2 * q) = q := by
  unfold bit
  rw [if_neg (by omega)]
  omega
theorem bits4_16 (q : Nat) : bits4 (16 * q) = q := by
  unfold bits4
  rw [show 16 * q = 2 * (2 * (2 * (2 * q))) by omega, bit_double, bit_double, bit_double, bit_double]
theorem split16 (c : Nat) : c = (16 * (c / 16)) ^^^ (c % 16) := by
  have h := Nat.two_pow_add_eq_or_of_lt (i := 4) (b := c % 16) (Nat.mod_lt _ (by decide)) (c / 16)
  have h2 : (16 * (c / 16)) ^^^ (c % 16) = 2 ^ 4 * (c / 16) + c % 16 := by
    apply Nat.eq_of_testBit_eq
    intro j
    rw [h, Nat.testBit_or, Nat.testBit_xor]
    have e16 : (16 : Nat) = 2 ^ 4 := rfl
    rw [e16, Nat.testBit_mod_two_pow, Nat.mul_comm, Nat.testBit_mul_two_pow]
    by_cases hj : 4 ≤ j
    · have : ¬ j < 4 := by omega
      simp [hj, this]
    · simp [hj]
  rw [h2]
  omega
theorem bits4_low (r : Nat) (h : r < 16) : bits4 r = tab.getD r 0 := by
  have hr : r = 0 ∨ r = 1 ∨ r = 2 ∨ r = 3 ∨ r = 4 ∨ r = 5 ∨ r = 6 ∨ r = 7 ∨ r = 8 ∨ r = 9 ∨ r = 10 ∨ r = 11 ∨ r = 12 ∨ r = 13 ∨ r = 14 ∨ r = 15 := by omega
  rcases hr with h | h | h | h | h | h | h | h | h | h | h | h | h | h | h | h <;> subst h <;> decide +kernel
/-- The table is right. -/
theorem half_eq (c : Nat) : half c = bits4 c := by
  have h := split16 c
  have e : bits4 c = bits4 (16 * (c / 16)) ^^^ bits4 (c % 16) := by
    rw [← bits4_xor, ← h]
  rw [e, bits4_16, bits4_low _ (Nat.mod_lt _ (by decide))]
  rfl

theorem poly_lt : poly < 2 ^ 32 := by decide
theorem bit_lt (c : Nat) (h : c < 2 ^ 32) : bit c < 2 ^ 32 := by
  unfold bit
  split
  · exact Nat.xor_lt_two_pow (by omega) poly_lt
  · omega
theorem bits4_lt (c : Nat) (h : c < 2 ^ 32) : bits4 c < 2 ^ 32 := bit_lt _ (bit_lt _ (bit_lt _ (bit_lt _ h)))
theorem bits8_lt (c : Nat) (h : c < 2 ^ 32) : bits8 c < 2 ^ 32 := bits4_lt _ (bits4_lt _ h)
theorem byte_lt (c x : Nat) (h : c < 2 ^ 32) (hx : x < 256) : byte c x < 2 ^ 32 := bits8_lt _ (Nat.xor_lt_two_pow h (by omega))
theorem run_lt : ∀ (l : List Nat) (c : Nat), c < 2 ^ 32 → (∀ x ∈ l, x < 256) → run c l < 2 ^ 32
  | [], c, h, _ => h
  | x :: l, c, h, hl => run_lt l (byte c x) (byte_lt c x h (hl x (by simp))) (fun y hy => hl y (by simp [hy]))
theorem sum_lt (l : List Nat) (hl : ∀ x ∈ l, x < 256) : sum l < 2 ^ 32 := Nat.xor_lt_two_pow (run_lt l _ (by decide) hl) (by decide)

/-- Nothing but nought comes to nought. -/
theorem bit_zero (d : Nat) (h : d < 2 ^ 32) (e : bit d = 0) : d = 0 := by
  unfold bit at e
  split at e
  · have hp := xor_cancel e
    unfold poly at hp
    omega
  · omega
theorem bit_inj (a b : Nat) (ha : a < 2 ^ 32) (hb : b < 2 ^ 32) (h : bit a = bit b) : a = b := by
  apply xor_cancel
  apply bit_zero _ (Nat.xor_lt_two_pow ha hb)
  rw [bit_xor, h, Nat.xor_self]
theorem bits4_inj (a b : Nat) (ha : a < 2 ^ 32) (hb : b < 2 ^ 32) (h : bits4 a = bits4 b) : a = b :=
  bit_inj _ _ ha hb (bit_inj _ _ (bit_lt _ ha) (bit_lt _ hb) (bit_inj _ _ (bit_lt _ (bit_lt _ ha)) (bit_lt _ (bit_lt _ hb)) (bit_inj _ _ (bit_lt _ (bit_lt _ (bit_lt _ ha))) (bit_lt _ (bit_lt _ (bit_lt _ hb))) h)))
theorem bits8_inj (a b : Nat) (ha : a < 2 ^ 32) (hb : b < 2 ^ 32) (h : bits8 a = bits8 b) : a = b :=
  bits4_inj _ _ ha hb (bits4_inj _ _ (bits4_lt _ ha) (bits4_lt _ hb) h)
theorem xor_right_inj {a b x : Nat} (h : a ^^^ x = b ^^^ x) : a = b := by
  have := congrArg (· ^^^ x) h
  simpa [Nat.xor_assoc] using this
theorem xor_left_inj {x a b : Nat} (h : x ^^^ a = x ^^^ b) : a = b := by
  rw [Nat.xor_comm x a, Nat.xor_comm x b] at h
  exact xor_right_inj h
theorem byte_inj_state (a b x : Nat) (ha : a < 2 ^ 32) (hb : b < 2 ^ 32) (hx : x < 256) (h : byte a x = byte b x) : a = b :=
  xor_right_inj (bits8_inj _ _ (Nat.xor_lt_two_pow ha (by omega)) (Nat.xor_lt_two_pow hb (by omega)) h)
theorem byte_inj_byte (c x y : Nat) (hc : c < 2 ^ 32) (hx : x < 256) (hy : y < 256) (h : byte c x = byte c y) : x = y :=
  xor_left_inj (bits8_inj _ _ (Nat.xor_lt_two_pow hc (by omega)) (Nat.xor_lt_two_pow hc (by omega)) h)
theorem run_inj : ∀ (l : List Nat) (a b : Nat), a < 2 ^ 32 → b < 2 ^ 32 → (∀ x ∈ l, x < 256) → run a l = run b l → a = b
  | [], a, b, _, _, _, h => h
  | x :: l, a, b, ha, hb, hl, h => byte_inj_state a b x ha hb (hl x (by simp)) (run_inj l (byte a x) (byte b x) (byte_lt a x ha (hl x (by simp))) (byte_lt b x hb (hl x (by simp))) (fun y hy => hl y (by simp [hy])) h)
/-- One byte turned, the sum is another one (P1.7). -/
theorem sum_turned (u v : List Nat) (x y : Nat) (hu : ∀ z ∈ u, z < 256) (hv : ∀ z ∈ v, z < 256) (hx : x < 256) (hy : y < 256) (h : sum (u ++ x :: v) = sum (u ++ y :: v)) : x = y := by
  unfold sum at h
  have h1 := xor_right_inj h
  unfold run at h1
  rw [List.foldl_append, List.foldl_append, List.foldl_cons, List.foldl_cons] at h1
  have hs : run 4294967295 u < 2 ^ 32 := run_lt u _ (by decide) hu
  exact byte_inj_byte _ x y hs hx hy (run_inj v _ _ (byte_lt _ x hs hx) (byte_lt _ y hs hy) hv h1)

end Crc
end Go.Proofs.YtnaobkpncfbnaaaGreatDoor

namespace Go.Proofs.YtnaobkpncfbnaaaGreatDoor
open Go.RowKit
set_option linter.unusedVariables false

def lstN (f : Nat → Int) (n : Nat) : List Nat := (List.range n).map fun i => (f i).toNat
theorem lstN_succ (f : Nat → Int) (k : Nat) : lstN f (k + 1) = lstN f k ++ [(f k).toNat] := by simp [lstN, List.range_succ]
theorem run_succ (f : Nat → Int) (k : Nat) (c : Nat) : Crc.run c (lstN f (k + 1)) = Crc.byte (Crc.run c (lstN f k)) (f k).toNat := by rw [lstN_succ, Crc.run, List.foldl_append]; rfl
theorem lstN_by {f : Nat → Int} (h : ∀ i, 0 ≤ f i ∧ f i ≤ 255) (n : Nat) : ∀ x ∈ lstN f n, x < 256 := by
  intro x hx
  obtain ⟨i, _, rfl⟩ := List.mem_map.1 hx
  have := h i
  omega

/-- The table as it is laid. -/
def Tab (w : World) : Prop := ∀ i, i < 16 → w.cell? ⟨0, i, none⟩ = some (.int .u32 ((Crc.tab.getD i 0 : Nat) : Int))

theorem xor_u32 (a b : Nat) (ha : a < 2 ^ 32) (hb : b < 2 ^ 32) : bits .xor .u32 (a : Int) (b : Int) = ((a ^^^ b : Nat) : Int) := u32_xor_nat a b (by omega) (by omega)
theorem and15_u32 (a : Nat) (ha : a < 2 ^ 32) : bits .and .u32 (a : Int) 15 = ((a % 16 : Nat) : Int) := by
  have := u32_and_nat a 15 (by omega) (by decide)
  rw [nat_mask4] at this
  exact this
theorem tab_lt (i : Nat) : Crc.tab.getD i 0 < 2 ^ 32 := by
  by_cases h : i < 16
  · have hr : i = 0 ∨ i = 1 ∨ i = 2 ∨ i = 3 ∨ i = 4 ∨ i = 5 ∨ i = 6 ∨ i = 7 ∨ i = 8 ∨ i = 9 ∨ i = 10 ∨ i = 11 ∨ i = 12 ∨ i = 13 ∨ i = 14 ∨ i = 15 := by omega
    rcases hr with h | h | h | h | h | h | h | h | h | h | h | h | h | h | h | h <;> subst h <;> decide
  · rw [List.getD, List.getElem?_eq_none (by simp [Crc.tab]; omega)]; decide

/-- What one byte does, in the text's own operations, step by step. -/
theorem byte_steps {w : World} (ht : Tab w) (s : Nat) (x : Int) (hs : s < 2 ^ 32) (h0 : 0 ≤ x) (h1 : x ≤ 255) :
    ∃ t i1 v1 t2 i2 v2 t3 : Nat, bits .xor .u32 (s : Int) x = (t : Int) ∧ bits .and .u32 (t : Int) 15 = (i1 : Int) ∧ i1 < 16 ∧ w.cell? ⟨0, i1, none⟩ = some (.int .u32 (v1 : Int)) ∧ bits .xor .u32 ((t : Int) / 16) (v1 : Int) = (t2 : Int)
      ∧ bits .and .u32 (t2 : Int) 15 = (i2 : Int) ∧ i2 < 16 ∧ w.cell? ⟨0, i2, none⟩ = some (.int .u32 (v2 : Int)) ∧ bits .xor .u32 ((t2 : Int) / 16) (v2 : Int) = (t3 : Int) ∧ t3 = Crc.byte s x.toNat ∧ t3 < 2 ^ 32 := by
  obtain ⟨y, rfl⟩ := Int.eq_ofNat_of_zero_le h0
  have ht1 : s ^^^ y < 2 ^ 32 := Nat.xor_lt_two_pow hs (by omega)
  have e1 := Crc.half_eq (s ^^^ y)
  have e2 := Crc.half_eq (Crc.bits4 (s ^^^ y))
  have l2 := Crc.bits4_lt _ ht1
  have l3 := Crc.bits4_lt _ l2
  refine ⟨s ^^^ y, (s ^^^ y) % 16, Crc.tab.getD ((s ^^^ y) % 16) 0, Crc.bits4 (s ^^^ y), Crc.bits4 (s ^^^ y) % 16, Crc.tab.getD (Crc.bits4 (s ^^^ y) % 16) 0, Crc.bits4 (Crc.bits4 (s ^^^ y)), ?_, and15_u32 _ ht1, Nat.mod_lt _ (by decide), ht _ (Nat.mod_lt _ (by decide)), ?_, and15_u32 _ l2, Nat.mod_lt _ (by decide), ht _ (Nat.mod_lt _ (by decide)), ?_, ?_, l3⟩
  · exact xor_u32 s y hs (by omega)
  · have := xor_u32 ((s ^^^ y) / 16) (Crc.tab.getD ((s ^^^ y) % 16) 0) (by omega) (tab_lt _)
    rw [← e1]
    exact this
  · have := xor_u32 (Crc.bits4 (s ^^^ y) / 16) (Crc.tab.getD (Crc.bits4 (s ^^^ y) % 16) 0) (by omega) (tab_lt _)
    rw [← e2]
    exact this
  · rw [Int.toNat_natCast]; rfl

theorem not_u32 (s : Nat) (h : s < 2 ^ 32) : bits .xor .u32 (s : Int) 4294967295 = ((s ^^^ 4294967295 : Nat) : Int) := xor_u32 s 4294967295 h (by decide)
theorem not_u32' (s : Nat) (h : s < 2 ^ 32) : bits .xor .u32 IntKind.u32.max (s : Int) = ((s ^^^ 4294967295 : Nat) : Int) := by
  have := xor_u32 4294967295 s (by decide) h
  rw [Nat.xor_comm] at this
  exact this
theorem run_le {f : Nat → Int} (h : ∀ i, 0 ≤ f i ∧ f i ≤ 255) (k : Nat) : Crc.run 4294967295 (lstN f k) < 2 ^ 32 := Crc.run_lt _ _ (by decide) (lstN_by h k)
theorem retN {a b : Nat} (h : a = b) : Ending.returned (.int .u32 (a : Int)) = .returned (.int .u32 (b : Int)) := by rw [h]

set_option maxHeartbeats 1000000 in
theorem wSum_at (b off n c : Nat) (f : Nat → Int) (w : World) (hbig : n ≤ 140737488355328) (hby : ∀ i, 0 ≤ f i ∧ f i ≤ 255) (hc : Hid (∀ i, i < n → w.cell? ⟨b, off + i, none⟩ = some (.int .u8 (f i)))) (ht : Hid (Tab w)) :
    Calls Tryz.prog 123 #[.slice (some ⟨b, off, none⟩) n c] w fun e w' => e = .returned (.int .u32 (Crc.sum (lstN f n) : Nat)) ∧ w' = w := by
  go_enter Tryz.func123, Tryz.ntmps123
  go_wp2
  go_loop [3, 8] (fun s i => ∃ k : Nat, k ≤ n ∧ i = .int .i64 k ∧ s = .int .u32 ((Crc.run 4294967295 (lstN f k) : Nat) : Int)) (fun _ i => n - (intOf i).toNat)
  case atStart => exact ⟨0, Nat.zero_le _, rfl, rfl⟩
  case round =>
    obtain ⟨k, hk, rfl, rfl⟩ := hrel
    have hcell : k < n → w.cell? ⟨b, off + k, none⟩ = some (.int .u8 (f k)) := fun h => hc.out k h
    have hb1 := (hby k).1
    have hb2 := (hby k).2
    have hlt32 := run_le hby k
    have hrs := run_succ f k 4294967295
    by_cases hlt : k < n
    · have hcell := hcell hlt
      have hlt' : (k : Int) < (n : Int) := by omega
      obtain ⟨t, i1, v1, t2, i2, v2, t3, e1, e2, e3, e4, e5, e6, e7, e8, e9, e10, e11⟩ := byte_steps ht.out _ (f k) hlt32 hb1 hb2
      have HS : Hid (t3 = Crc.run 4294967295 (lstN f (k + 1))) := e10.trans hrs.symm
      have e3' : (i1 : Int) < 16 := by omega
      have e7' : (i2 : Int) < 16 := by omega
      clear e10 hrs hby hlt32
      generalize Crc.run 4294967295 (lstN f k) = s at *
      go_wp2
      go_round
      case rel => exact ⟨k + 1, by omega, by go_num, by rw [← HS.out]⟩
      case measure => simp [intOf]; omega
    · have hkn : k = n := by omega
      subst hkn
      have hnot := not_u32' _ hlt32
      have HS : Hid (Crc.run 4294967295 (lstN f k) ^^^ 4294967295 = Crc.sum (lstN f k)) := rfl
      clear hrs hby
      generalize Crc.run 4294967295 (lstN f k) = s at *
      go_wp2
      go_ret
      exact ⟨retN HS.out, rfl⟩

theorem sum_nil (f : Nat → Int) : Crc.sum (lstN f 0) = 0 := by simp [lstN, Crc.sum, Crc.run]
set_option maxHeartbeats 400000 in
theorem wSum_none (a : Option Addr) (c : Nat) (f : Nat → Int) (w : World) :
    Calls Tryz.prog 123 #[.slice a 0 c] w fun e w' => e = .returned (.int .u32 (Crc.sum (lstN f 0) : Nat)) ∧ w' = w := by
  have hz : bits .xor .u32 IntKind.u32.max 4294967295 = 0 := by decide +kernel
  have HZ : Hid _ := sum_nil f
  go_enter Tryz.func123, Tryz.ntmps123
  go_wp2
  refine wp_loop_rounds 1 ?_
  rw [rounds_succ]
  go_wp2
  go_ret
  exact ⟨by rw [HZ.out]; rfl, rfl⟩

theorem wSum {w : World} (ao : Option Addr) (n c : Nat) (f : Nat → Int) (hbig : n ≤ 140737488355328) (hby : ∀ i, 0 ≤ f i ∧ f i ≤ 255) (hl : Lay w ao n f) (ht : Tab w) :
    Calls Tryz.prog 123 #[.slice ao n c] w fun e w' => e = .returned (.int .u32 (Crc.sum (lstN f n) : Nat)) ∧ w' = w := by
  rcases hl with rfl | ⟨b, off, rfl, hc⟩
  · exact wSum_none ao c f w
  · exact wSum_at b off n c f w hbig hby hc ht

def bitN : Nat → Nat → Nat
  | 0, c => c
  | j + 1, c => Crc.bit (bitN j c)
theorem bitN_lt (c : Nat) (h : c < 2 ^ 32) : ∀ j, bitN j c < 2 ^ 32
  | 0 => h
  | j + 1 => Crc.bit_lt _ (bitN_lt c h j)
theorem and1_u32 (a : Nat) (ha : a < 2 ^ 32) : bits .and .u32 (a : Int) 1 = ((a % 2 : Nat) : Int) := by
  have := u32_and_nat a 1 (by omega) (by decide)
  rw [nat_mask1] at this
  exact this
theorem bit_odd (c : Nat) (h : c % 2 = 1) (hc : c < 2 ^ 32) : bits .xor .u32 ((c : Int) / 2) 3988292384 = ((Crc.bit c : Nat) : Int) := by
  have := xor_u32 (c / 2) 3988292384 (by omega) (by decide)
  rw [Crc.bit, if_pos h]
  exact this
theorem bit_even (c : Nat) (h : c % 2 = 0) : ((c : Int) / 2) = ((Crc.bit c : Nat) : Int) := by
  rw [Crc.bit, if_neg (by omega)]
  omega

set_option maxHeartbeats 1000000 in
theorem xSum_at (b off n c : Nat) (f : Nat → Int) (w : World) (hbig : n ≤ 140737488355328) (hby : ∀ i, 0 ≤ f i ∧ f i ≤ 255) (hc : Hid (∀ i, i < n → w.cell? ⟨b, off + i, none⟩ = some (.int .u8 (f i)))) :
    Calls Tryz.prog 57 #[.slice (some ⟨b, off, none⟩) n c] w fun e w' => e = .returned (.int .u32 (Crc.sum (lstN f n) : Nat)) ∧ w' = w := by
  go_enter Tryz.func57, Tryz.ntmps57
  go_wp2
  go_loop [3, 9] (fun s i => ∃ k : Nat, k ≤ n ∧ i = .int .i64 k ∧ s = .int .u32 ((Crc.run 4294967295 (lstN f k) : Nat) : Int)) (fun _ i => n - (intOf i).toNat)
  case atStart => exact ⟨0, Nat.zero_le _, rfl, rfl⟩
  case round =>
    obtain ⟨k, hk, rfl, rfl⟩ := hrel
    have hcell : k < n → w.cell? ⟨b, off + k, none⟩ = some (.int .u8 (f k)) := fun h => hc.out k h
    have hb1 := (hby k).1
    have hb2 := (hby k).2
    have hlt32 := run_le hby k
    have hrs := run_succ f k 4294967295
    by_cases hlt : k < n
    · have hcell := hcell hlt
      have hlt' : (k : Int) < (n : Int) := by omega
      have hx : bits .xor .u32 ((Crc.run 4294967295 (lstN f k) : Nat) : Int) (f k) = ((Crc.run 4294967295 (lstN f k) ^^^ (f k).toNat : Nat) : Int) := by
        have := xor_u32 (Crc.run 4294967295 (lstN f k)) (f k).toNat hlt32 (by omega)
        rw [Int.toNat_of_nonneg hb1] at this
        exact this
      have hxl : Crc.run 4294967295 (lstN f k) ^^^ (f k).toNat < 2 ^ 32 := Nat.xor_lt_two_pow hlt32 (by omega)
      have HS : Hid (bitN 8 (Crc.run 4294967295 (lstN f k) ^^^ (f k).toNat) = Crc.run 4294967295 (lstN f (k + 1))) := hrs.symm
      clear hrs hby hlt32
      generalize Crc.run 4294967295 (lstN f k) ^^^ (f k).toNat = t at *
      generalize Crc.run 4294967295 (lstN f k) = s at *
      go_wp2
      go_loop [3, 17] (fun s i => ∃ j : Nat, j ≤ 8 ∧ i = .int .i64 j ∧ s = .int .u32 ((bitN j t : Nat) : Int)) (fun _ i => 8 - (intOf i).toNat)
      case atStart => exact ⟨0, by omega, rfl, rfl⟩
      case round =>
        obtain ⟨j, hj, rfl, rfl⟩ := hrel
        have hl := bitN_lt t hxl j
        have hand := and1_u32 _ hl
        have HB : Hid (Crc.bit (bitN j t) = bitN (j + 1) t) := rfl
        by_cases hj8 : j < 8
        · by_cases hodd : bitN j t % 2 = 1
          · have hbit := bit_odd _ hodd hl
            rw [hodd] at hand
            have hand : bits .and .u32 ((bitN j t : Nat) : Int) 1 = 1 := hand
            clear hodd
            generalize Crc.bit (bitN j t) = cc at *
            generalize bitN j t = c0 at *
            go_wp2
            go_round
            case rel => exact ⟨j + 1, by omega, by go_num, by rw [← HB.out]⟩
            case measure => simp [intOf]; omega
          · have hev : bitN j t % 2 = 0 := by omega
            have hbit : Hid _ := bit_even _ hev
            rw [hev] at hand
            have hand : bits .and .u32 ((bitN j t : Nat) : Int) 1 = 0 := hand
            clear hodd hev
            generalize Crc.bit (bitN j t) = cc at *
            generalize bitN j t = c0 at *
            go_wp2
            go_round
            case rel => exact ⟨j + 1, by omega, by go_num, by rw [← HB.out, ← hbit.out]⟩
            case measure => simp [intOf]; omega
        · obtain rfl : j = 8 := by omega
          clear hand HB hl
          go_wp2
          go_round
          case rel => exact ⟨k + 1, by omega, by go_num, by rw [← HS.out]⟩
          case measure => simp [intOf]; omega
    · have hkn : k = n := by omega
      subst hkn
      have hnot := not_u32 _ hlt32
      have HS : Hid (Crc.run 4294967295 (lstN f k) ^^^ 4294967295 = Crc.sum (lstN f k)) := rfl
      clear hrs hby
      generalize Crc.run 4294967295 (lstN f k) = s at *
      go_wp2
      go_ret
      exact ⟨retN HS.out, rfl⟩

set_option maxHeartbeats 400000 in
theorem xSum_none (a : Option Addr) (c : Nat) (f : Nat → Int) (w : World) :
    Calls Tryz.prog 57 #[.slice a 0 c] w fun e w' => e = .returned (.int .u32 (Crc.sum (lstN f 0) : Nat)) ∧ w' = w := by
  have hz : bits .xor .u32 4294967295 4294967295 = 0 := by decide +kernel
  have HZ : Hid _ := sum_nil f
  go_enter Tryz.func57, Tryz.ntmps57
  go_wp2
  refine wp_loop_rounds 1 ?_
  rw [rounds_succ]
  go_wp2
  go_ret
  exact ⟨by rw [HZ.out]; rfl, rfl⟩

theorem xSum {w : World} (ao : Option Addr) (n c : Nat) (f : Nat → Int) (hbig : n ≤ 140737488355328) (hby : ∀ i, 0 ≤ f i ∧ f i ≤ 255) (hl : Lay w ao n f) :
    Calls Tryz.prog 57 #[.slice ao n c] w fun e w' => e = .returned (.int .u32 (Crc.sum (lstN f n) : Nat)) ∧ w' = w := by
  rcases hl with rfl | ⟨b, off, rfl, hc⟩
  · exact xSum_none ao c f w
  · exact xSum_at b off n c f w hbig hby hc
end Go.Proofs.YtnaobkpncfbnaaaGreatDoor

namespace Go.Proofs.YtnaobkpncfbnaaaGreatDoor
open Go.RowKit
set_option linter.unusedVariables false

/-- F with f's m bytes from off on. -/
def ov (F : Nat → Int) (off m : Nat) (f : Nat → Int) : Nat → Int := fun i => if off ≤ i ∧ i < off + m then f (i - off) else F i
theorem lst_ext {f g : Nat → Int} {n : Nat} (h : ∀ i, i < n → f i = g i) : lst f n = lst g n := by
  apply List.ext_getElem?
  intro i
  by_cases hi : i < n
  · rw [lst_get f n i hi, lst_get g n i hi, h i hi]
  · rw [List.getElem?_eq_none (by rw [lst_length]; omega), List.getElem?_eq_none (by rw [lst_length]; omega)]
theorem lst_inj {f g : Nat → Int} {n : Nat} (h : lst f n = lst g n) (i : Nat) (hi : i < n) : f i = g i := by
  have := congrArg (fun l : List Int => l[i]?) h
  simpa only [lst_get f n i hi, lst_get g n i hi, Option.some.injEq] using this
theorem lst_ov (F : Nat → Int) (N off m : Nat) (f : Nat → Int) (h : off + m ≤ N) : splice (lst F N) off (lst f m) = lst (ov F off m f) N := by
  apply List.ext_getElem?
  intro i
  unfold splice
  simp only [List.getElem?_append, List.length_take, lst_length, List.getElem?_take, List.getElem?_drop]
  have e1 : min off N = off := by omega
  rw [e1]
  by_cases i1 : i < N
  · rw [lst_get (ov F off m f) N i i1]
    by_cases i2 : i < off
    · rw [if_pos i2, if_pos i2, lst_get F N i i1]
      show _ = some (if off ≤ i ∧ i < off + m then f (i - off) else F i)
      rw [if_neg (by omega)]
    · rw [if_neg i2]
      show _ = some (if off ≤ i ∧ i < off + m then f (i - off) else F i)
      by_cases i3 : i - off < m
      · rw [if_pos i3, lst_get _ _ _ i3, if_pos (by omega)]
      · rw [if_neg i3, show off + m + (i - off - m) = i by omega, lst_get F N i i1, if_neg (by omega)]
  · rw [if_neg (by omega), if_neg (by omega), List.getElem?_eq_none (by rw [lst_length]; omega), List.getElem?_eq_none (by rw [lst_length]; omega)]

theorem Own.set {w : World} {B g n cap : Nat} {F : Nat → Int} (h : Own w B (.slice (some ⟨g, 0, none⟩) n cap) (lst F n)) (j : Nat) (hj : j < n) (x : Int) :
    Own (w.setCell ⟨g, j, none⟩ (.int .u8 x)) B (.slice (some ⟨g, 0, none⟩) n cap) (lst (fun i => if i = j then x else F i) n) := by
  unfold Own at h ⊢
  rw [lst_length] at h ⊢
  refine ⟨by simp [lst_length], .inr ?_⟩
  rcases h.2 with ⟨h1, _⟩ | ⟨g', cap', cur, h1, h2, h3, h4, h5, h6, h7⟩
  · cases h1
  · cases h1
    refine ⟨g, cap, _, rfl, h2, heap_setCell_same w g j cur 5 _ h3, h4, h5, by simpa using h6, ?_⟩
    apply List.ext_getElem?
    intro i
    have h8 := congrArg (fun l : List Value => l[i]?) h7
    simp only [Nat.mul_one, List.getElem?_take, List.getElem?_map] at h8 ⊢
    by_cases hi : i < n
    · rw [if_pos hi] at h8 ⊢
      rw [lst_get _ n i hi] at h8 ⊢
      by_cases e : i = j
      · subst e
        have hc : i < cur.size := by rw [h6]; omega
        simp [hc]
      · simp [Ne.symm e, e] at h8 ⊢
        exact h8
    · rw [if_neg hi, List.getElem?_eq_none (by rw [lst_length]; omega)]
      rfl
theorem Own.cellF {w : World} {B g n cap : Nat} {F : Nat → Int} (h : Own w B (.slice (some ⟨g, 0, none⟩) n cap) (lst F n)) (j : Nat) (hj : j < n) : w.cell? ⟨g, j, none⟩ = some (.int .u8 (F j)) := by
  unfold Own at h
  rw [lst_length] at h
  rw [h.cellAt j (by omega), List.getElem?_map, lst_get F n j hj]; rfl
theorem Own.freeF {w : World} {B g n cap : Nat} {F : Nat → Int} (h : Own w B (.slice (some ⟨g, 0, none⟩) n cap) (lst F n)) (j : Nat) : w.frozen? ⟨g, j, none⟩ = false := by
  unfold Own at h
  rw [lst_length] at h
  exact h.frozenAt j
theorem Own.ext {w : World} {B : Nat} {v : Value} {n : Nat} {F G : Nat → Int} (h : Own w B v (lst F n)) (e : ∀ i, i < n → F i = G i) : Own w B v (lst G n) := lst_ext e ▸ h

/-- A number's byte at place k. -/
def leAt (s k : Nat) : Int := ((s / 256 ^ k % 256 : Nat) : Int)
theorem leAt_by (s k : Nat) : 0 ≤ leAt s k ∧ leAt s k ≤ 255 := by unfold leAt; omega

set_option maxHeartbeats 1000000 in
theorem put (g off m c N cap B s : Nat) (F : Nat → Int) (w : World) (hB : B ≤ g) (hs : s ≤ 9223372036854775807) (hN : off + m ≤ N) (hm : m ≤ 140737488355328) (ho : Own w B (.slice (some ⟨g, 0, none⟩) N cap) (lst F N)) :
    Calls Tryz.prog 122 #[.slice (some ⟨g, off, none⟩) m c, .int .i64 (s : Int)] w fun e w' => e = .returned (.tuple #[]) ∧ Own w' B (.slice (some ⟨g, 0, none⟩) N cap) (lst (ov F off m (leAt s)) N) ∧ Below B w w' := by
  go_enter Tryz.func122, Tryz.ntmps122
  go_wp2
  go_loopw [1, 7] (fun x i wr => ∃ k : Nat, k ≤ m ∧ i = .int .i64 (k : Int) ∧ x = .int .i64 ((s / 256 ^ k : Nat) : Int) ∧ Own wr B (.slice (some ⟨g, 0, none⟩) N cap) (lst (ov F off k (leAt s)) N) ∧ Below B w wr) (fun _ i _ => m - (intOf i).toNat)
  case atStart => exact ⟨0, Nat.zero_le _, rfl, by simp, ho.ext (fun i _ => by unfold ov; rw [if_neg (by omega)]), Below.refl _ _⟩
  case round =>
    obtain ⟨k, hk, rfl, rfl, ho1, hb⟩ := hrel
    by_cases hlt : k < m
    · have hlt' : (k : Int) < (m : Int) := by omega
      have hcell := ho1.cellF (off + k) (by omega)
      have hfz := ho1.freeF (off + k)
      have HO : Hid (∀ x, x = leAt s k → Own (wr.setCell ⟨g, off + k, none⟩ (.int .u8 x)) B (.slice (some ⟨g, 0, none⟩) N cap) (lst (ov F off (k + 1) (leAt s)) N)) := fun x hx => by
        refine (ho1.set (off + k) (by omega) x).ext fun i hi => ?_
        show (if i = off + k then x else ov F off k (leAt s) i) = ov F off (k + 1) (leAt s) i
        unfold ov
        by_cases e : i = off + k
        · rw [if_pos e, if_pos (by omega), hx, e, show off + k - off = k by omega]
        · rw [if_neg e]
          by_cases e2 : off ≤ i ∧ i < off + k
          · rw [if_pos e2, if_pos (by omega)]
          · rw [if_neg e2, if_neg (by omega)]
      have HB : Hid (∀ x : Int, Below B w (wr.setCell ⟨g, off + k, none⟩ (.int .u8 x))) := fun x => hb.setCell (p := ⟨g, off + k, none⟩) hB _
      have hdiv : Hid (s / 256 ^ (k + 1) = s / 256 ^ k / 256) := (by rw [Nat.pow_succ, Nat.div_div_eq_div_mul] : s / 256 ^ (k + 1) = s / 256 ^ k / 256)
      have hat : Hid (((s / 256 ^ k : Nat) : Int) % 256 = leAt s k) := (by unfold leAt; omega : ((s / 256 ^ k : Nat) : Int) % 256 = leAt s k)
      have htl : s / 256 ^ k ≤ s := Nat.div_le_self _ _
      clear ho1 hb
      generalize s / 256 ^ k = t at *
      go_wp2
      go_roundw
      case rel => exact ⟨k + 1, by omega, by go_num, by rw [hdiv.out]; go_num, HO.out _ hat.out, HB.out _⟩
      case measure => simp [intOf]; omega
    · obtain rfl : k = m := by omega
      go_wp2
      go_end0
      exact ⟨rfl, ho1, hb⟩
end Go.Proofs.YtnaobkpncfbnaaaGreatDoor

namespace Go.Proofs.YtnaobkpncfbnaaaGreatDoor
open Go.RowKit
set_option linter.unusedVariables false

/-- The number of k bytes, the lowest first. -/
def rd (f : Nat → Int) : Nat → Nat
  | 0 => 0
  | k + 1 => rd f k + (f k).toNat * 256 ^ k
theorem rd_lt {f : Nat → Int} (h : ∀ i, 0 ≤ f i ∧ f i ≤ 255) : ∀ k, rd f k < 256 ^ k
  | 0 => by simp [rd]
  | k + 1 => by
    have ih := rd_lt h k
    have hk := h k
    have h1 : (f k).toNat ≤ 255 := by omega
    have h2 : (f k).toNat * 256 ^ k ≤ 255 * 256 ^ k := Nat.mul_le_mul_right _ h1
    rw [rd, Nat.pow_succ]
    omega
theorem wrap64_mod (a : Int) : (wrap64 a) % 18446744073709551616 = a % 18446744073709551616 := by unfold wrap64; omega
theorem or_i64 (a b : Nat) (ha : a < 2 ^ 64) (hb : b < 2 ^ 64) : bits .or .i64 (wrap64 (a : Int)) (wrap64 (b : Int)) = wrap64 ((a ||| b : Nat) : Int) := by
  show IntKind.i64.wrap ((BitVec.ofInt 64 (wrap64 (a : Int)) ||| BitVec.ofInt 64 (wrap64 (b : Int))).toNat : Int) = _
  have e : ∀ x : Nat, x < 2 ^ 64 → (BitVec.ofInt 64 (wrap64 (x : Int))).toNat = x := fun x hx => by
    rw [BitVec.toNat_ofInt]
    have := wrap64_mod (x : Int)
    have e2 : ((2 ^ 64 : Nat) : Int) = 18446744073709551616 := by decide
    rw [e2, this]
    omega
  rw [BitVec.toNat_or, e a ha, e b hb]
  generalize a ||| b = c
  simp only [IntKind.wrap, IntKind.bits, IntKind.signed, wrap64]
  simp
  omega
theorem get_step {f : Nat → Int} (h : ∀ i, 0 ≤ f i ∧ f i ≤ 255) (k : Nat) (hk : k < 8) : bits .or .i64 (wrap64 (rd f k : Nat)) (wrap64 (f k * 2 ^ (8 * k))) = wrap64 ((rd f (k + 1) : Nat) : Int) := by
  have ih := rd_lt h k
  have hb := h k
  obtain ⟨y, hy⟩ := Int.eq_ofNat_of_zero_le hb.1
  have hy2 : y ≤ 255 := by omega
  have e8 : (256 : Nat) ^ k = 2 ^ (8 * k) := by rw [Nat.pow_mul]
  have hp : (2 : Nat) ^ (8 * k) ≤ 2 ^ 56 := Nat.pow_le_pow_right (by decide) (by omega)
  have l1 : rd f k < 2 ^ 64 := by rw [e8] at ih; omega
  have l2 : y * 2 ^ (8 * k) < 2 ^ 64 := by
    have : y * 2 ^ (8 * k) ≤ 255 * 2 ^ 56 := Nat.mul_le_mul hy2 hp
    omega
  have e : f k * 2 ^ (8 * k) = ((y * 2 ^ (8 * k) : Nat) : Int) := by rw [hy]; simp
  rw [e, or_i64 _ _ l1 l2, rd, hy, Int.toNat_natCast, Nat.or_comm, e8]
  rw [e8] at ih
  rw [nat_join (8 * k) (y * 2 ^ (8 * k)) (rd f k) (Nat.mul_mod_left _ _) ih, Nat.add_comm]

set_option maxHeartbeats 1000000 in
theorem get_at (b off n c : Nat) (f : Nat → Int) (w : World) (hn : n ≤ 8) (hby : ∀ i, 0 ≤ f i ∧ f i ≤ 255) (hc : Hid (∀ i, i < n → w.cell? ⟨b, off + i, none⟩ = some (.int .u8 (f i)))) :
    Calls Tryz.prog 121 #[.slice (some ⟨b, off, none⟩) n c] w fun e w' => e = .returned (.int .i64 (wrap64 ((rd f n : Nat) : Int))) ∧ w' = w := by
  go_enter Tryz.func121, Tryz.ntmps121
  go_wp2
  go_loop [3, 8] (fun s i => ∃ k : Nat, k ≤ n ∧ i = .int .i64 k ∧ s = .int .i64 (wrap64 ((rd f k : Nat) : Int))) (fun _ i => n - (intOf i).toNat)
  case atStart => exact ⟨0, by omega, rfl, by simp [rd, wrap64]⟩
  case round =>
    obtain ⟨k, hk, rfl, rfl⟩ := hrel
    have hb1 := (hby k).1
    have hb2 := (hby k).2
    by_cases hlt : k < n
    · have hlt' : (k : Int) < (n : Int) := by omega
      have hcell := hc.out k hlt
      have HS : Hid _ := get_step hby k (by omega)
      clear hby
      generalize wrap64 ((rd f k : Nat) : Int) = s at *
      go_wp2
      go_round
      case rel => exact ⟨k + 1, by omega, by go_num, by rw [← HS.out]⟩
      case measure => simp [intOf]; omega
    · obtain rfl : k = n := by omega
      clear hby
      generalize hs : wrap64 ((rd f k : Nat) : Int) = s at *
      have HS : Hid (wrap64 ((rd f k : Nat) : Int) = s) := hs
      clear hs
      go_wp2
      go_ret
      exact ⟨by rw [HS.out]; rfl, rfl⟩

/-- Noughts alone. -/
def Nil (f : Nat → Int) (n : Nat) : Prop := ∀ i, i < n → f i = 0
instance (f : Nat → Int) (n : Nat) : Decidable (Nil f n) := by unfold Nil; exact inferInstance
theorem nil_not {f : Nat → Int} {n k : Nat} (hk : k < n) (h : f k ≠ 0) : decide (Nil f n) = false := by
  simp only [decide_eq_false_iff_not]
  intro hn
  exact h (hn k hk)

set_option maxHeartbeats 1000000 in
theorem blank_at (b off n c : Nat) (f : Nat → Int) (w : World) (hn : n ≤ 140737488355328) (hc : Hid (∀ i, i < n → w.cell? ⟨b, off + i, none⟩ = some (.int .u8 (f i)))) :
    Calls Tryz.prog 66 #[.slice (some ⟨b, off, none⟩) n c] w fun e w' => e = .returned (.bool (decide (Nil f n))) ∧ w' = w := by
  obtain ⟨R, hR⟩ : ∃ R, decide (Nil f n) = R := ⟨_, rfl⟩
  rw [hR]
  have HR : Hid (decide (Nil f n) = R) := hR
  clear hR
  go_enter Tryz.func66, Tryz.ntmps66
  go_wp2
  go_loop [7] (fun i => ∃ k : Nat, k ≤ n ∧ i = .int .i64 k ∧ Hid (∀ j, j < k → f j = 0)) (fun i => n - (intOf i).toNat)
  case atStart => exact ⟨0, by omega, rfl, fun j hj => absurd hj (by omega)⟩
  case round =>
    obtain ⟨k, hk, rfl, hz⟩ := hrel
    by_cases hlt : k < n
    · have hlt' : (k : Int) < (n : Int) := by omega
      have hcell := hc.out k hlt
      by_cases h0 : f k = 0
      · have HZ : Hid (∀ j, j < k + 1 → f j = 0) := fun j hj => by
          by_cases e : j = k
          · rw [e]; exact h0
          · exact hz.out j (by omega)
        rw [h0] at hcell
        clear h0 hz
        go_wp2
        go_round
        case rel => exact ⟨k + 1, by omega, by go_num, HZ⟩
        case measure => simp [intOf]; omega
      · have HN : Hid (R = false) := HR.out.symm.trans (nil_not hlt h0)
        have h0' : (f k == 0) = false := by simpa using h0
        clear hz
        generalize f k = x at *
        go_wp2
        go_ret
        exact ⟨congrArg (fun b => Ending.returned (.bool b)) HN.out.symm, rfl⟩
    · obtain rfl : k = n := by omega
      have HN : Hid (R = true) := HR.out.symm.trans (decide_eq_true hz.out)
      clear hz
      go_wp2
      go_ret
      exact ⟨congrArg (fun b => Ending.returned (.bool b)) HN.out.symm, rfl⟩
set_option maxHeartbeats 1000000 in
theorem noughts_at (b off n c : Nat) (f : Nat → Int) (w : World) (hn : n ≤ 140737488355328) (hc : Hid (∀ i, i < n → w.cell? ⟨b, off + i, none⟩ = some (.int .u8 (f i)))) :
    Calls Tryz.prog 56 #[.slice (some ⟨b, off, none⟩) n c] w fun e w' => e = .returned (.bool (decide (Nil f n))) ∧ w' = w := by
  obtain ⟨R, hR⟩ : ∃ R, decide (Nil f n) = R := ⟨_, rfl⟩
  rw [hR]
  have HR : Hid (decide (Nil f n) = R) := hR
  clear hR
  go_enter Tryz.func56, Tryz.ntmps56
  go_wp2
  go_loop [7] (fun i => ∃ k : Nat, k ≤ n ∧ i = .int .i64 k ∧ Hid (∀ j, j < k → f j = 0)) (fun i => n - (intOf i).toNat)
  case atStart => exact ⟨0, by omega, rfl, fun j hj => absurd hj (by omega)⟩
  case round =>
    obtain ⟨k, hk, rfl, hz⟩ := hrel
    by_cases hlt : k < n
    · have hlt' : (k : Int) < (n : Int) := by omega
      have hcell := hc.out k hlt
      by_cases h0 : f k = 0
      · have HZ : Hid (∀ j, j < k + 1 → f j = 0) := fun j hj => by
          by_cases e : j = k
          · rw [e]; exact h0
          · exact hz.out j (by omega)
        rw [h0] at hcell
        clear h0 hz
        go_wp2
        go_round
        case rel => exact ⟨k + 1, by omega, by go_num, HZ⟩
        case measure => simp [intOf]; omega
      · have HN : Hid (R = false) := HR.out.symm.trans (nil_not hlt h0)
        have h0' : (f k == 0) = false := by simpa using h0
        clear hz
        generalize f k = x at *
        go_wp2
        go_ret
        exact ⟨congrArg (fun b => Ending.returned (.bool b)) HN.out.symm, rfl⟩
    · obtain rfl : k = n := by omega
      have HN : Hid (R = true) := HR.out.symm.trans (decide_eq_true hz.out)
      clear hz
      go_wp2
      go_ret
      exact ⟨congrArg (fun b => Ending.returned (.bool b)) HN.out.symm, rfl⟩

/-- A sector's number. -/
def numS (f : Nat → Int) : Int := wrap64 ((rd (sh f 4) 8 : Nat) : Int)
set_option maxHeartbeats 400000 in
theorem number_at (b off c : Nat) (f : Nat → Int) (w : World) (hcap : 128 ≤ c) (hby : ∀ i, 0 ≤ f i ∧ f i ≤ 255) (hc : Hid (∀ i, i < 128 → w.cell? ⟨b, off + i, none⟩ = some (.int .u8 (f i)))) :
    Calls Tryz.prog 93 #[.slice (some ⟨b, off, none⟩) 128 c] w fun e w' => e = .returned (.int .i64 (numS f)) ∧ w' = w := by
  have h1 : (12 : Int) ≤ (c : Int) := by omega
  have h2 : (4 : Int) < (c : Int) := by omega
  go_enter Tryz.func93, Tryz.ntmps93
  go_wp2_with fail
  refine (get_at b (off + 4) 8 _ (sh f 4) w (by omega) (sh_by hby 4) ?_).mono ?_
  · intro i hi
    rw [Nat.add_assoc]
    exact hc.out (4 + i) (by omega)
  rintro e w1 ⟨rfl, rfl⟩
  go_wp2
  go_ret
  exact ⟨rfl, rfl⟩
set_option maxHeartbeats 400000 in
theorem load_at (b off c : Nat) (f : Nat → Int) (w : World) (hcap : 128 ≤ c) (hc : Hid (∀ i, i < 128 → w.cell? ⟨b, off + i, none⟩ = some (.int .u8 (f i)))) :
    Calls Tryz.prog 94 #[.slice (some ⟨b, off, none⟩) 128 c] w fun e w' => ∃ v', e = .returned v' ∧ Own w' w.heap.size v' (lst (sh f 12) 112) ∧ Below w.heap.size w w' := by
  have h1 : (124 : Int) ≤ (c : Int) := by omega
  have h2 : (12 : Int) < (c : Int) := by omega
  go_enter Tryz.func94, Tryz.ntmps94
  go_wp2_with fail
  refine (clone (some ⟨b, off + 12, none⟩) 112 _ (sh f 12) w (by omega) (.inr ⟨_, rfl, fun i hi => ?_⟩)).mono ?_
  · rw [Addr.add_lit, Nat.add_assoc]
    exact hc.out (12 + i) (by omega)
  rintro e w1 ⟨v, rfl, h3, h4⟩
  go_wp2
  go_ret
  exact ⟨v, rfl, h3, h4⟩

/-- A sector's sum, as it stands and as it is. -/
def sumS (f : Nat → Int) : Nat := Crc.sum (lstN f 124)
set_option maxRecDepth 100000 in
set_option maxHeartbeats 1000000 in
theorem sealed_at (b off c : Nat) (f : Nat → Int) (w : World) (hcap : 128 ≤ c) (hby : ∀ i, 0 ≤ f i ∧ f i ≤ 255) (hc : Hid (∀ i, i < 128 → w.cell? ⟨b, off + i, none⟩ = some (.int .u8 (f i)))) (ht : Hid (∀ q, Tab (w.drewN q))) :
    Calls Tryz.prog 131 #[.slice (some ⟨b, off, none⟩) 128 c] w fun e w' => e = .returned (.bool (decide (rd (sh f 124) 4 = sumS f))) ∧ ∃ q, w' = w.drewN q := by
  have h1 : (124 : Int) ≤ (c : Int) := by omega
  have h2 : (124 : Int) < (c : Int) := by omega
  have hr := rd_lt (sh_by hby 124) 4
  have hr4 : (256 : Nat) ^ 4 = 4294967296 := by decide
  rw [hr4] at hr
  have hw : wrap64 ((rd (sh f 124) 4 : Nat) : Int) = ((rd (sh f 124) 4 : Nat) : Int) := Wm.w64 _ (by omega)
  have hsl : sumS f < 2 ^ 32 := Crc.sum_lt _ (lstN_by hby 124)
  have hG : Hid (∀ q, ∀ i, i < 4 → (w.drewN q).cell? ⟨b, off + 124 + i, none⟩ = some (.int .u8 (sh f 124 i))) := fun q i hi => by
    rw [Nat.add_assoc]
    exact hc.out (124 + i) (by omega)
  have hL : Hid (∀ q, Lay (w.drewN q) (some ⟨b, off, none⟩) 124 f) := fun q => .inr ⟨b, off, rfl, fun i hi => hc.out i (by omega)⟩
  have HB : Hid (∀ i, 0 ≤ f i ∧ f i ≤ 255) := hby
  have HE : Hid (Crc.sum (lstN f 124) = sumS f) := rfl
  clear hby hc hr
  have hsl' : sumS f < 4294967296 := hsl
  have HW : Hid (wrap64 ((rd (sh f 124) 4 : Nat) : Int) = ((rd (sh f 124) 4 : Nat) : Int)) := hw
  clear hw hsl
  go_enter Tryz.func131, Tryz.ntmps131
  go_wp2_with fail
  go_quiet (first
    | (go_at_call 121; exact Calls.quiet_of_same (get_at b (off + 124) 4 _ (sh f 124) _ (by omega) (sh_by HB.out 124) (hG.out _)))
    | (go_at_call 123; exact Calls.quiet_of_same (wSum (some ⟨b, off, none⟩) 124 _ f (by omega) HB.out (hL.out _) (ht.out _))))
  go_wp2
  go_ret
  refine ⟨?_, _, rfl⟩
  rw [HW.out, HE.out, Wm.w64 ((sumS f : Nat) : Int) (by omega)]
  have e : (((rd (sh f 124) 4 : Nat) : Int) == ((sumS f : Nat) : Int)) = decide (rd (sh f 124) 4 = sumS f) := by
    by_cases h : rd (sh f 124) 4 = sumS f
    · simp [h]
    · have h' : ¬ ((rd (sh f 124) 4 : Nat) : Int) = ((sumS f : Nat) : Int) := by omega
      simp [h, h']
  rw [e]
  rfl
end Go.Proofs.YtnaobkpncfbnaaaGreatDoor

namespace Go.Proofs.YtnaobkpncfbnaaaGreatDoor
open Go.RowKit
set_option linter.unusedVariables false

/-- A sector's first 124 bytes: head, number, load, noughts behind it. -/
def body (hd : Nat → Int) (s m : Nat) (f : Nat → Int) : Nat → Int := ov (ov (ov (fun _ => 0) 0 4 hd) 4 8 (leAt s)) 12 m f
def sec (hd : Nat → Int) (s m : Nat) (f : Nat → Int) : Nat → Int := ov (body hd s m f) 124 4 (leAt (sumS (body hd s m f)))
theorem ov_by {F f : Nat → Int} (h1 : ∀ i, 0 ≤ F i ∧ F i ≤ 255) (h2 : ∀ i, 0 ≤ f i ∧ f i ≤ 255) (off m : Nat) : ∀ i, 0 ≤ ov F off m f i ∧ ov F off m f i ≤ 255 := fun i => by
  unfold ov
  split
  · exact h2 _
  · exact h1 _
theorem body_by {hd f : Nat → Int} (h1 : ∀ i, 0 ≤ hd i ∧ hd i ≤ 255) (h2 : ∀ i, 0 ≤ f i ∧ f i ≤ 255) (s m : Nat) : ∀ i, 0 ≤ body hd s m f i ∧ body hd s m f i ≤ 255 :=
  ov_by (ov_by (ov_by (fun _ => by decide) h1 _ _) (leAt_by s) _ _) h2 _ _
theorem sec_by {hd f : Nat → Int} (h1 : ∀ i, 0 ≤ hd i ∧ hd i ≤ 255) (h2 : ∀ i, 0 ≤ f i ∧ f i ≤ 255) (s m : Nat) : ∀ i, 0 ≤ sec hd s m f i ∧ sec hd s m f i ≤ 255 :=
  ov_by (body_by h1 h2 s m) (leAt_by _) _ _

theorem Tab.below {w w' : World} {B : Nat} (h : Tab w) (hb : Below B w w') (hB : w.heap.size ≤ B) : Tab w' := fun i hi => by
  have := h i hi
  rw [hb.cell (p := ⟨0, i, none⟩) (Nat.lt_of_lt_of_le (World.block_lt_of_cell? w _ this) hB)]
  exact this
theorem Tab.lt {w : World} (h : Tab w) : 0 < w.heap.size := World.block_lt_of_cell? w ⟨0, 0, none⟩ (h 0 (by decide))
theorem Tab.drew {w : World} (h : Tab w) (q : Nat) : Tab (w.drewN q) := fun i hi => h i hi
theorem made_zero (n : Nat) : (madeCells (Value.int .u8 0).cells (n * 1)).toList = (lst (fun _ => 0) n).map (Value.int .u8) := by
  apply List.ext_getElem?
  intro i
  by_cases h : i < n
  · simp [lst, madeCells, h, Value.cells]
    rw [Nat.mod_one]
    rfl
  · simp [lst, madeCells, h]
section
variable {w : World} {ops : Array Oper} {rest : List Oper} {o : Oper} {a : Act} {Q : Exit → Act → World → Prop}
/-- 'make([]byte, n)'. -/
theorem wpList_mk (hgd : o.guard = none) (l c : Operand) (hop : o.op = Op.makeSlice 36 l c) (n : Nat) (L C : Int) (hl : a.eval l = .int .i64 L) (hc : a.eval c = .int .i64 C) (hL : L = (n : Int)) (hC : C = (n : Int)) (hn : n ≤ 140737488355328) (B : Nat) (hB : B ≤ w.heap.size)
    (h : ∀ w', Own w' B (.slice (some ⟨w.heap.size, 0, none⟩) n n) (lst (fun _ => 0) n) → Below B w w' → wpList Tryz.prog ops Q rest (a.put o.dst (.slice (some ⟨w.heap.size, 0, none⟩) n n)) w') : wpList Tryz.prog ops Q (o :: rest) a w := by
  obtain ⟨i0, hi, hz0, hz1, hz2⟩ := info_parts info5
  refine wpList_make_full w hgd l c 36 hop B 5 i0 (.int .u8 0) 1 Tryz.underlying36 hi hz0 hz1 .i64 .i64 L C n hl hc hL hC (by rw [hz2]; omega) (by unfold maxLen; omega) hB ?_
  intro w' h1 h2
  refine h w' ?_ ((Below.refl _ w).grown h2 hB (fun k hk => by cases hk))
  unfold Own
  rw [made_zero] at h1
  rw [lst_length]
  exact h1
end

set_option maxRecDepth 100000 in
set_option maxHeartbeats 2000000 in
theorem seal_ok (x0 x1 x2 x3 : Int) (a0 : Option Addr) (m c s : Nat) (f : Nat → Int) (w : World) (hm : m ≤ 112) (hs : s ≤ 9223372036854775807) (hf : From w a0 m f) (hby : ∀ i, 0 ≤ f i ∧ f i ≤ 255) (hx : ∀ x ∈ [x0, x1, x2, x3], 0 ≤ x ∧ x ≤ 255) (ht : Tab w) :
    Calls Tryz.prog 99 #[.agg #[.int .u8 x0, .int .u8 x1, .int .u8 x2, .int .u8 x3], .int .i64 (s : Int), .slice a0 m c] w fun e w' => ∃ v', e = .returned v' ∧ Own w' w.heap.size v' (lst (sec (fn [x0, x1, x2, x3]) s m f) 128) ∧ Below w.heap.size w w' := by
  obtain ⟨i0, hi, hz0, hz1, hz2⟩ := info_parts info5
  have HF : Hid (From w a0 m f) := hf
  have HT : Hid (Tab w) := ht
  clear hf ht
  go_enter Tryz.func99, Tryz.ntmps99
  go_wp2_with (at_make; refine wpList_mk rfl _ _ rfl 128 _ _ rfl rfl rfl rfl (by omega) (w.heap.size + 1) (by simp) ?_)
  intro w1 ho1 hb1
  have hsz : (w.alloc (.cells #[.int .u8 x0, .int .u8 x1, .int .u8 x2, .int .u8 x3] 159)).heap.size = w.heap.size + 1 := by simp
  have hbA : Below w.heap.size w w1 := ((Below.refl _ w).alloc (Nat.le_refl _) _).trans (hb1.mono (by omega))
  have hH : From w1 (some ⟨w.heap.size, 0, none⟩) 4 (fn [x0, x1, x2, x3]) := From.below (w := w.alloc (.cells #[.int .u8 x0, .int .u8 x1, .int .u8 x2, .int .u8 x3] 159)) (.inr ⟨_, rfl, fun i hi => by
    rw [Addr.add_lit, Nat.zero_add, World.cell?_alloc_at _ _ _ _ rfl]
    have hk : i = 0 ∨ i = 1 ∨ i = 2 ∨ i = 3 := by omega
    rcases hk with h | h | h | h <;> subst h <;> rfl⟩) hb1 (by omega)
  have hs1 := hb1.size
  rw [hsz] at hs1
  obtain ⟨g, hg⟩ : ∃ g, w.heap.size + 1 = g := ⟨_, rfl⟩
  rw [hg] at ho1 ⊢
  have HG : Hid (w.heap.size + 1 = g) := hg
  have hgw : w.heap.size ≤ g := by omega
  obtain ⟨h0, hh0⟩ : ∃ h0, h0 = w.heap.size := ⟨_, rfl⟩
  have HO1 : Hid (Own w1 g (.slice (some ⟨g, 0, none⟩) 128 128) (lst (fun _ => 0) 128)) := ho1
  have HH : Hid (From w1 (some ⟨w.heap.size, 0, none⟩) 4 (fn [x0, x1, x2, x3])) := hH
  have HL : Hid (128 = (lst (fun _ => 0) 128).length) := (lst_length _ _).symm
  clear ho1 hH hb1 hsz hg
  go_wp2_with (refine wpList_copyF rfl _ _ rfl g g 128 128 (lst (fun _ => 0) 128) HO1.out HL.out 0 128 _ _ rfl _ 4 _ (fn [x0, x1, x2, x3]) rfl HH.out (by rw [lst_length]; omega) (by omega) (fun _ => rfl) ?_)
  intro w2 ho2 hb2
  rw [lst_ov _ _ _ _ _ (by omega)] at ho2
  have hs2 := hb2.size
  have hbB : Below w.heap.size w w2 := hbA.trans (hb2.mono hgw)
  clear HO1 HH HL hb2 hbA
  go_wp2_with fail
  refine (put g 4 8 _ 128 128 g s _ w2 (Nat.le_refl _) hs (by omega) (by omega) ho2).mono ?_
  rintro e w3 ⟨rfl, ho3, hb3⟩
  have hs3 := hb3.size
  have hbC : Below w.heap.size w w3 := hbB.trans (hb3.mono hgw)
  have HF3 : Hid (From w3 a0 m f) := HF.out.below hbC (Nat.le_refl _)
  have HO3 : Hid (Own w3 g (.slice (some ⟨g, 0, none⟩) 128 128) (lst (ov (ov (fun _ => 0) 0 4 (fn [x0, x1, x2, x3])) 4 8 (leAt s)) 128)) := ho3
  have HL : Hid (128 = (lst (ov (ov (fun _ => 0) 0 4 (fn [x0, x1, x2, x3])) 4 8 (leAt s)) 128).length) := (lst_length _ _).symm
  clear ho2 ho3 hb3 hbB
  go_wp2_with (refine wpList_copyF rfl _ _ rfl g g 128 128 _ HO3.out HL.out 12 112 _ _ rfl a0 m c f rfl HF3.out (by rw [lst_length]; omega) (by omega) (fun _ => rfl) ?_)
  intro w4 ho4 hb4
  rw [lst_ov _ _ _ _ _ (by omega)] at ho4
  have hs4 := hb4.size
  have hbD : Below w.heap.size w w4 := hbC.trans (hb4.mono hgw)
  have hH : ∀ i, 0 ≤ fn [x0, x1, x2, x3] i ∧ fn [x0, x1, x2, x3] i ≤ 255 := fn_by hx
  have HBY : Hid (∀ i, 0 ≤ body (fn [x0, x1, x2, x3]) s m f i ∧ body (fn [x0, x1, x2, x3]) s m f i ≤ 255) := body_by hH hby s m
  have HO4 : Hid (Own w4 g (.slice (some ⟨g, 0, none⟩) 128 128) (lst (body (fn [x0, x1, x2, x3]) s m f) 128)) := ho4
  have HS : Hid (sumS (body (fn [x0, x1, x2, x3]) s m f) < 2 ^ 32) := Crc.sum_lt _ (lstN_by HBY.out 124)
  have HT4 : Hid (Tab w4) := HT.out.below hbD (Nat.le_refl _)
  have HRES : Hid (lst (ov (body (fn [x0, x1, x2, x3]) s m f) 124 4 (leAt (sumS (body (fn [x0, x1, x2, x3]) s m f)))) 128 = lst (sec (fn [x0, x1, x2, x3]) s m f) 128) := rfl
  have HSE : Hid (Crc.sum (lstN (body (fn [x0, x1, x2, x3]) s m f) 124) = sumS (body (fn [x0, x1, x2, x3]) s m f)) := rfl
  clear ho4 hb4 hbC HO3 HF3 HL hH hby hx HF HT
  generalize body (fn [x0, x1, x2, x3]) s m f = G at *
  generalize hZ : sumS G = Z at *
  have hZ' : Z < 4294967296 := HS.out
  have HW : Hid (IntKind.i64.wrap (Z : Int) = (Z : Int)) := (by simp only [IntKind.wrap, IntKind.bits, IntKind.signed]; simp; omega : IntKind.i64.wrap (Z : Int) = (Z : Int))
  have HSE : Hid (Crc.sum (lstN G 124) = Z) := HSE
  clear hZ HS
  have HQ : Hid (∀ wq : World, wq.heap = w4.heap → Lay wq (some ⟨g, 0, none⟩) 124 G ∧ Tab wq ∧ Own wq g (.slice (some ⟨g, 0, none⟩) 128 128) (lst G 128)) := fun wq hq => by
    have hc : ∀ p, wq.cell? p = w4.cell? p := fun p => World.cell?_of_block (w := w4) (by rw [hq])
    refine ⟨.inr ⟨g, 0, rfl, fun i hi => ?_⟩, fun i hi => ?_, ?_⟩
    · rw [Nat.zero_add, hc]; exact HO4.out.cellF i (by omega)
    · rw [hc]; exact HT4.out i hi
    · have h4 := HO4.out
      unfold Own World.ownsRow at h4 ⊢
      rw [hq]
      exact h4
  clear HO4 HT4
  go_wp2_with fail
  go_region_with (first
    | (go_at_call 123; refine (wSum (some ⟨g, 0, none⟩) 124 _ G (by omega) HBY.out (by exact (HQ.out _ rfl).1) (by exact (HQ.out _ rfl).2.1)).mono ?_; rintro e1 w5 ⟨rfl, rfl⟩; rw [HSE.out])
    | (go_at_call 122; rw [HW.out]; refine (put g 124 4 _ 128 128 g Z G _ (Nat.le_refl _) (by omega) (by omega) (by omega) (by exact (HQ.out _ rfl).2.2)).mono ?_; rintro e' w' ⟨rfl, ho5, hb5⟩))
  have hbE := (blw_drewN 1 hbD).trans (hb5.mono hgw)
  go_wp2
  go_ret
  refine ⟨_, rfl, ?_, hbE⟩
  rw [← HRES.out]
  exact ho5.mono hgw
end Go.Proofs.YtnaobkpncfbnaaaGreatDoor
