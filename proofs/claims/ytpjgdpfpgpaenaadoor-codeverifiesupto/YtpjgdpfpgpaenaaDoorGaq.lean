/-
  Slices of bytes: those that a call builds (Own), those that stand wherever (From); append, copy, bytes.Clone, bytes.Equal over them. Conditions: at most 2^47 bytes.
  Plain facts for the wire layer: what a number's bytes say (num), and how the bit operations of the text come to it. No program, no condition but those that each theorem names.
-/
import Derived.Test.YtpjgdpfpgpaenaaDoorProg
import Derived.Test.YtpjgdpfpgpaenaaDoorGab
import Derived.WalkLawsBesides
import Derived.WalkSpells
import Derived.Laws.AppendOwnNone
import Derived.Laws.CopyOwn
import Derived.Lib.AppendStr
import Derived.Lib.Bytes
import Derived.Laws.BitsAllLaws
import Derived.WalkKit
namespace Go.Proofs.YtpjgdpfpgpaenaaDoor
open Go.RowKit
set_option linter.unusedVariables false

theorem info5 : (Tryd.prog.info? 5).map (fun i => (i.zero, i.size, i.bytes)) = some (some (.int .u8 0), 1, 1) := by kernel_rfl
theorem size5 : (Tryd.prog.info? 5).map (·.size) = some 1 := by kernel_rfl
/-- The slice's bytes are xs, in memory from block B on. -/
def Own (w : World) (B : Nat) (v : Value) (xs : List Int) : Prop := w.ownsRow B 5 1 v xs.length (xs.map (Value.int .u8))
theorem Own.one {B : Nat} {v' : Value} {xs : List Int} {x : Int} {w' : World} (h : w'.ownsRow B 5 1 v' (xs.length + 1) (xs.map (Value.int .u8) ++ [.int .u8 x])) : Own w' B v' (xs ++ [x]) := by
  unfold Own
  rw [List.length_append, List.map_append]
  exact h

def From (w : World) (a0 : Option Addr) (n : Nat) (f : Nat → Int) : Prop := (a0 = none ∧ n = 0) ∨ ∃ x, a0 = some x ∧ ∀ i, i < n → w.cell? (x.add i) = some (.int .u8 (f i))
def fn (xs : List Int) : Nat → Int := fun i => xs.getD i 0
theorem lst_fn (xs : List Int) : lst (fn xs) xs.length = xs := by
  apply List.ext_getElem?
  intro i
  by_cases h : i < xs.length
  · rw [lst_get _ _ _ h, List.getElem?_eq_getElem h]
    simp [fn, List.getD, h]
  · rw [List.getElem?_eq_none (by rw [lst_length]; omega), List.getElem?_eq_none (by omega)]

theorem From.lay {w : World} {ao : Option Addr} {n : Nat} {f : Nat → Int} (h : From w ao n f) : Lay w ao n f := by
  rcases h with ⟨_, h⟩ | ⟨⟨b, off, spot⟩, h1, h2⟩
  · exact .inl h
  · by_cases hn : n = 0
    · exact .inl hn
    · have h0 := h2 0 (by omega)
      have hspot : spot = none := by simpa [Addr.add] using World.cell?_spot h0
      subst hspot
      exact .inr ⟨b, off, h1, fun i hi => by rw [← Addr.add_lit]; exact h2 i hi⟩
theorem From.below {w w' : World} {B : Nat} {ao : Option Addr} {n : Nat} {f : Nat → Int} (h : From w ao n f) (hb : Below B w w') (hB : w.heap.size ≤ B) : From w' ao n f := by
  rcases h with h | ⟨x, h1, h2⟩
  · exact .inl h
  · exact .inr ⟨x, h1, fun i hi => by
      have := h2 i hi
      rw [hb.cell (p := x.add i) (Nat.lt_of_lt_of_le (World.block_lt_of_cell? w _ this) hB)]
      exact this⟩
theorem From.alloc {w : World} {ao : Option Addr} {n : Nat} {f : Nat → Int} (h : From w ao n f) (o : Obj) : From (w.alloc o) ao n f := h.below ((Below.refl _ w).alloc (Nat.le_refl _) o) (Nat.le_refl _)

theorem own_at {w : World} {base g n cap : Nat} {xs : List Int} (h : w.ownsRow base 5 1 (.slice (some ⟨g, 0, none⟩) n cap) n (xs.map (Value.int .u8))) (i : Nat) (hi : i < n) (hn : n = xs.length) : w.cell? ⟨g, i, none⟩ = some (.int .u8 (fn xs i)) := by
  rw [h.cellAt i (by omega), List.getElem?_map, List.getElem?_eq_getElem (by omega)]
  simp [fn, List.getD, List.getElem?_eq_getElem (show i < xs.length by omega)]

/-- What a slice of the call's own is, opened. -/
theorem Own.open {w : World} {B : Nat} {v : Value} {xs : List Int} (h : Own w B v xs) :
    ∃ ao c, v = .slice ao xs.length c ∧ From w ao xs.length (fn xs) ∧ (ao = none → c = 0) ∧ xs.length ≤ c ∧ c ≤ 9223372036854775807 ∧ (∀ g, ao = some g → ∃ k, g = ⟨k, 0, none⟩ ∧ B ≤ k ∧ k < w.heap.size) := by
  have h0 := h
  rcases h.2 with ⟨h1, h2⟩ | ⟨g, cap, cur, h1, h2, h3, h4, h5, _⟩
  · refine ⟨none, 0, ?_, .inl ⟨rfl, h2⟩, fun _ => rfl, by omega, by decide, fun g hg => by cases hg⟩
    rw [h2]; exact h1
  · subst h1
    refine ⟨_, cap, rfl, .inr ⟨_, rfl, fun i hi => ?_⟩, (fun e => by cases e), h4, h5, fun g' hg' => ?_⟩
    · rw [Addr.add_lit, Nat.zero_add]
      exact own_at h0 i hi rfl
    · cases hg'
      exact ⟨g, rfl, h2, (Array.getElem?_eq_some_iff.1 h3).1⟩
theorem Own.below {w w' : World} {B B' : Nat} {v : Value} {xs : List Int} (h : Own w B v xs) (hb : Below B' w w') (hB : w.heap.size ≤ B') : Own w' B v xs := by
  refine ⟨h.1, ?_⟩
  rcases h.2 with h1 | ⟨g, cap, cur, h1, h2, h3, h4⟩
  · exact .inl h1
  · exact .inr ⟨g, cap, cur, h1, h2, by rw [hb.block g (Nat.lt_of_lt_of_le (Array.getElem?_eq_some_iff.1 h3).1 hB)]; exact h3, h4⟩
theorem Own.mono {w : World} {B B' : Nat} {v : Value} {xs : List Int} (h : Own w B v xs) (hB : B' ≤ B) : Own w B' v xs := by
  refine ⟨h.1, ?_⟩
  rcases h.2 with h1 | ⟨g, cap, cur, h1, h2, h3⟩
  · exact .inl h1
  · exact .inr ⟨g, cap, cur, h1, by omega, h3⟩

theorem fn_lst (f : Nat → Int) (n i : Nat) (h : i < n) : fn (lst f n) i = f i := lst_getD f n i h
theorem Own.openF {w : World} {B : Nat} {v : Value} {f : Nat → Int} {n : Nat} (h : Own w B v (lst f n)) :
    ∃ ao c, v = .slice ao n c ∧ From w ao n f ∧ (ao = none → c = 0) ∧ n ≤ c ∧ c ≤ 9223372036854775807 ∧ (∀ g, ao = some g → ∃ k, g = ⟨k, 0, none⟩ ∧ B ≤ k ∧ k < w.heap.size) := by
  obtain ⟨ao, c, h1, h2, h3, h4, h5, h6⟩ := h.open
  rw [lst_length] at h1 h2 h4
  refine ⟨ao, c, h1, ?_, h3, h4, h5, h6⟩
  rcases h2 with h2 | ⟨x, k1, k2⟩
  · exact .inl h2
  · exact .inr ⟨x, k1, fun i hi => by rw [k2 i hi, fn_lst f n i hi]⟩
theorem From.only {w w' : World} {g : Nat} {ao : Option Addr} {n : Nat} {f : Nat → Int} (h : From w ao n f) (ho : Only g w w') (hne : ∀ x, ao = some x → 0 < n → x.block ≠ g) : From w' ao n f := by
  rcases h with h | ⟨x, h1, h2⟩
  · exact .inl h
  · refine .inr ⟨x, h1, fun i hi => ?_⟩
    have hb : (x.add i).block = x.block := by unfold Addr.add; split <;> rfl
    rw [ho.cell (p := x.add i) (by rw [hb]; exact hne x h1 (by omega))]
    exact h2 i hi
theorem fn_by {xs : List Int} (h : ∀ x ∈ xs, 0 ≤ x ∧ x ≤ 255) (i : Nat) : 0 ≤ fn xs i ∧ fn xs i ≤ 255 := by
  by_cases hi : i < xs.length
  · have e : fn xs i = xs[i] := by simp [fn, List.getD, hi]
    rw [e]
    exact h _ (List.getElem_mem hi)
  · have e : fn xs i = 0 := by simp [fn, List.getD, List.getElem?_eq_none (show xs.length ≤ i by omega)]
    rw [e]
    decide
theorem From.take {w : World} {ao : Option Addr} {n m : Nat} {f : Nat → Int} (h : From w ao n f) (hm : m ≤ n) : From w ao m f := by
  rcases h with ⟨h1, h2⟩ | ⟨x, h1, h2⟩
  · exact .inl ⟨h1, by omega⟩
  · exact .inr ⟨x, h1, fun i hi => h2 i (by omega)⟩
section
variable {w : World} {ops : Array Oper} {rest : List Oper} {o : Oper} {a : Act} {Q : Exit → Act → World → Prop}
/-- 'append(v, x...)', v the call's own, x wherever. -/
theorem wpList_app (hgd : o.guard = none) (s x : Operand) (ho : o.op = .call { callee := .builtin .append, args := #[s, x], argTypes := #[27, 27] })
    (B : Nat) (v : Value) (xs : List Int) (hs : a.eval s = v) (hown : Own w B v xs) (ao : Option Addr) (m c : Nat) (f : Nat → Int) (hx : a.eval x = .slice ao m c) (hf : From w ao m f) (hc0 : ao = none → c = 0)
    (hbig : xs.length + m ≤ 140737488355328) (hB : B ≤ w.heap.size)
    (h : ∀ v' w', Own w' B v' (xs ++ lst f m) → Below B w w' → wpList Tryd.prog ops Q rest (a.put o.dst v') w') : wpList Tryd.prog ops Q (o :: rest) a w := by
  obtain ⟨i0, hi, hz0, hz1, hz2⟩ := info_parts info5
  rcases hf with ⟨h1, h2⟩ | ⟨ad, h1, h2⟩
  · subst h1 h2
    rw [hc0 rfl] at hx
    refine wpList_append_own_none hgd s x 27 ho B 5 i0 1 Tryd.underlying27 hi v xs.length (xs.map (Value.int .u8)) hs hown hx (h v w ?_ (Below.refl _ _))
    simpa [lst] using hown
  · subst h1
    refine wpList_append_own w hgd s x 27 ho B 5 i0 (.int .u8 0) 1 1 Tryd.underlying27 hi hz0 hz1 hz2 rfl (by decide) v xs.length (xs.map (Value.int .u8)) hs hown ad m c ((lst f m).map (Value.int .u8)) hx (by simp [lst_length]) ?_ ?_ (by unfold maxLen; omega) (by omega) hB ?_
    · intro j u hj
      have hjm : j < m := by
        have := (List.getElem?_eq_some_iff.1 hj).1
        simpa [lst_length] using this
      rw [h2 j hjm]
      rw [List.getElem?_map, lst_get f m j hjm] at hj
      simpa using hj
    · intro u hu
      obtain ⟨y, _, rfl⟩ := List.mem_map.1 hu
      rfl
    · intro v' w' h3 h4 _
      refine h v' w' ?_ ((Below.refl _ w).grown h4 hB (fun q hq => (World.ownsRow.lt hown q hq).1))
      unfold Own
      rw [List.length_append, lst_length, List.map_append]
      exact h3
/-- 'copy(d, s)', d a part of a slice of the call's own, s wherever. -/
theorem wpList_copyF (hgd : o.guard = none) (d s : Operand) (ho : o.op = .call { callee := .builtin .copy, args := #[d, s], argTypes := #[27, 27] })
    (B g n cap : Nat) (xs : List Int) (hown : Own w B (.slice (some ⟨g, 0, none⟩) n cap) xs) (hn : n = xs.length) (off dLen dCap : Nat) (dp : Option Addr) (hd : a.eval d = .slice dp dLen dCap) (ao : Option Addr) (m c : Nat) (f : Nat → Int)
    (hs : a.eval s = .slice ao m c) (hf : From w ao m f) (hfit : off + dLen ≤ xs.length) (hm : m ≤ dLen) (hdp : 0 < m → dp = some ⟨g, off, none⟩)
    (h : ∀ w', Own w' B (.slice (some ⟨g, 0, none⟩) n cap) (splice xs off (lst f m)) → Below B w w' → wpList Tryd.prog ops Q rest (a.put o.dst (.int .i64 m)) w') : wpList Tryd.prog ops Q (o :: rest) a w := by
  subst hn
  rcases hown.2 with ⟨h1, h2⟩ | ⟨g', cap', cur, h1, h2, h3, h4, h5, h6, h7⟩
  · cases h1
  · cases h1
    have hlen : ((lst f m).map (Value.int .u8)).length = m := by simp [lst_length]
    refine wpList_copy_splice hgd d s 27 27 ho 5 Tryd.underlying27 size5 dp ao dLen dCap m c hd hs g off cur.toList 5 (by simpa using h3) ((lst f m).map (Value.int .u8)) (by rw [hlen]; exact (Nat.min_eq_left hm).symm) ?_ (by rw [hlen, Array.length_toList]; omega) ?_ B w (Below.refl _ _) h2 ?_
    · intro hp
      rw [hlen] at hp
      refine ⟨hdp hp, ?_⟩
      rcases hf with ⟨_, e⟩ | ⟨x, e1, e2⟩
      · omega
      · refine ⟨x, e1, fun j u hj => ?_⟩
        have hjm : j < m := by
          have := (List.getElem?_eq_some_iff.1 hj).1
          simpa [lst_length] using this
        rw [e2 j hjm]
        rw [List.getElem?_map, lst_get f m j hjm] at hj
        simpa using hj
    · intro u hu
      obtain ⟨y, _, rfl⟩ := List.mem_map.1 hu
      rfl
    · intro w' hg hb
      have hg := hg.out
      have e0 : goInt ((lst f m).map (Value.int .u8)).length = .int .i64 m := by rw [hlen]; rfl
      rw [e0]
      refine h w' ⟨by simp, .inr ⟨g, cap, _, ?_, h2, hg, ?_, h5, ?_, ?_⟩⟩ hb
      · rw [length_splice _ _ _ (by rw [lst_length]; omega)]
      · rw [length_splice _ _ _ (by rw [lst_length]; omega)]; exact h4
      · rw [List.size_toArray, length_splice _ _ _ (by rw [hlen, Array.length_toList]; omega), Array.length_toList]; exact h6
      · rw [length_splice _ _ _ (by rw [lst_length]; omega), Nat.mul_one] at *
        have hx : xs.map (Value.int .u8) = cur.toList.take xs.length := h7.symm
        unfold splice
        simp only [List.map_append, List.map_take, List.map_drop, List.length_map, hx, lst_length]
        apply List.ext_getElem?
        intro i
        simp only [List.getElem?_take, List.getElem?_append, List.length_take, List.length_map, lst_length, List.getElem?_drop, Array.length_toList]
        have hcs : xs.length ≤ cur.size := by omega
        have e1 : min off cur.size = off := by omega
        have e2 : min off (min xs.length cur.size) = off := by omega
        simp only [e1, e2]
        by_cases i1 : i < xs.length
        · by_cases i2 : i < off
          · simp only [i1, i2, if_true]
          · by_cases i3 : i - off < m
            · simp only [i1, i2, i3, if_true, if_false]
            · have i4 : off + m + (i - off - m) < xs.length := by omega
              simp only [i1, i2, i3, i4, if_true, if_false]
        · have i2 : ¬ i < off := by omega
          have i3 : ¬ i - off < m := by omega
          have i4 : ¬ off + m + (i - off - m) < xs.length := by omega
          simp only [i1, i2, i3, i4, if_false]
end
theorem conv_from {w : World} {a0 : Option Addr} {n : Nat} (c : Nat) {f : Nat → Int} (h : From w a0 n f) : (convert 27 9 (.slice a0 n c)).run Tryd.prog w = .ok (.string (strF f n)) w := by
  by_cases hn : n = 0
  · subst hn
    cases a0 with
    | none => exact run_convert_bytes_nil w 27 5 Tryd.underlying27 Tryd.underlying5 0 c 9 Tryd.underlying9
    | some x =>
      rw [run_convert_bytes_string w 27 9 5 _ 0 c Tryd.underlying27 Tryd.underlying5 Tryd.underlying9, run_bytesToString w x 0 c [] (by simp [loadCells, loadCellsFrom])]
      rfl
  · obtain ⟨b, off, rfl, hc⟩ := h.lay.resolve_left hn
    exact run_convert_bytes_arg w 27 5 Tryd.underlying27 Tryd.underlying5 b off n c (lst f n) (lst_length f n) (fun i hi => by rw [hc i hi, lst_getD f n i hi]) 9 Tryd.underlying9

set_option maxHeartbeats 400000 in
theorem equal_yes (a0 b0 : Option Addr) (n c m d : Nat) (f g : Nat → Int) (w : World) (hf : From w a0 n f) (hg : From w b0 m g) (he : Hid (lst f n = lst g m)) :
    Calls Tryd.prog 8 #[.slice a0 n c, .slice b0 m d] w fun e w' => e = .returned (.bool true) ∧ w' = w := by
  have h1 := conv_from c hf
  have h2 := conv_from d hg
  have h3 : strF f n = strF g m := by unfold strF; rw [he.out]
  rw [h3] at h1
  clear h3
  generalize strF g m = s at *
  go_enter Tryd.func8, Tryd.ntmps8
  go_wp2
  go_ret
  exact ⟨rfl, rfl⟩

theorem strF_inj {f g : Nat → Int} {n m : Nat} (hf : ∀ i, 0 ≤ f i ∧ f i ≤ 255) (hg : ∀ i, 0 ≤ g i ∧ g i ≤ 255) (h : strF f n = strF g m) : lst f n = lst g m := by
  have h1 := congrArg (fun s : ByteArray => s.data.toList) h
  simp only [strF, strOfNums_data] at h1
  have hl : n = m := by
    have := congrArg List.length h1
    simpa [lst_length] using this
  subst hl
  apply List.ext_getElem?
  intro i
  by_cases hi : i < n
  · have h2 := congrArg (fun l : List UInt8 => l[i]?) h1
    simp only [List.getElem?_map, lst_get f n i hi, lst_get g n i hi, Option.map_some, Option.some.injEq] at h2
    rw [lst_get f n i hi, lst_get g n i hi]
    have a1 := hf i
    have a2 := hg i
    have h3 := congrArg UInt8.toNat h2
    simp only [UInt8.toNat_ofNat'] at h3
    congr 1
    omega
  · rw [List.getElem?_eq_none (by rw [lst_length]; omega), List.getElem?_eq_none (by rw [lst_length]; omega)]

set_option maxHeartbeats 400000 in
theorem equal_no (a0 b0 : Option Addr) (n c m d : Nat) (f g : Nat → Int) (w : World) (hf : From w a0 n f) (hg : From w b0 m g) (h1 : ∀ i, 0 ≤ f i ∧ f i ≤ 255) (h2 : ∀ i, 0 ≤ g i ∧ g i ≤ 255) (he : lst f n ≠ lst g m) :
    Calls Tryd.prog 8 #[.slice a0 n c, .slice b0 m d] w fun e w' => e = .returned (.bool false) ∧ w' = w := by
  have h3 : (strF f n).toList ≠ (strF g m).toList := fun h => he (strF_inj h1 h2 (by
    have e : (strF f n).data.toList = (strF g m).data.toList := by
      have p := Lib.strOfNums_toList (lst f n)
      have q := Lib.strOfNums_toList (lst g m)
      exact (p.symm.trans (h.trans q))
    exact ByteArray.ext (Array.toList_inj.1 e)))
  have h1 := conv_from c hf
  have h2 := conv_from d hg
  have h4 : ((strF f n).toList == (strF g m).toList) = false := by simpa using h3
  clear h3 he
  generalize strF g m = s at *
  generalize strF f n = t at *
  have H4 : Hid ((t.toList == s.toList) = false) := h4
  clear h4
  go_enter Tryd.func8, Tryd.ntmps8
  go_wp2
  go_ret
  exact ⟨congrArg (fun b => Ending.returned (.bool b)) H4.out, rfl⟩
end Go.Proofs.YtpjgdpfpgpaenaaDoor

namespace Go.Proofs.YtpjgdpfpgpaenaaDoor
namespace Wm
open Go.RowKit

/-- The first k bytes' low seven bits, the lowest first. -/
def accum (f : Nat → Int) : Nat → Int
  | 0 => 0
  | k + 1 => accum f k + (f k % 128) * 2 ^ (7 * k)
/-- What is read from place k on, with so many places left: the number, how many bytes it takes, the error. -/
def numAt (f : Nat → Int) (n : Nat) : Nat → Nat → Int × Int × Int
  | 0, _ => (0, 0, 11)
  | r + 1, k => if n ≤ k then (0, 0, 10) else if 128 ≤ f k then numAt f n r (k + 1) else if f k = 0 ∧ 0 < k then (0, 0, 5) else (accum f (k + 1), (k : Int) + 1, 0)
def num (f : Nat → Int) (n : Nat) : Int × Int × Int := numAt f n 9 0

theorem w64 (n : Int) (h : -9223372036854775808 ≤ n ∧ n ≤ 9223372036854775807) : wrap64 n = n := by unfold wrap64; omega

theorem pow7 (k : Nat) : (2 : Int) ^ (7 * (k + 1)) = 2 ^ (7 * k) * 128 := by
  rw [Nat.mul_succ, Int.pow_add]; rfl
theorem pow7_pos (k : Nat) : (0 : Int) < 2 ^ (7 * k) := Int.pow_pos (by decide)

theorem accum_bd (f : Nat → Int) (k : Nat) : 0 ≤ accum f k ∧ accum f k < 2 ^ (7 * k) := by
  induction k with
  | zero => simp [accum]
  | succ k ih =>
    have hp := pow7_pos k
    have h1 : 0 ≤ f k % 128 := Int.emod_nonneg _ (by decide)
    have h2 : f k % 128 ≤ 127 := by have := Int.emod_lt_of_pos (f k) (show (0 : Int) < 128 by decide); omega
    have h3 : 0 ≤ (f k % 128) * 2 ^ (7 * k) := Int.mul_nonneg h1 (by omega)
    have h4 : (f k % 128) * 2 ^ (7 * k) ≤ 127 * 2 ^ (7 * k) := Int.mul_le_mul_of_nonneg_right h2 (by omega)
    rw [pow7, accum]
    omega

theorem pow7_le (k : Nat) (h : k ≤ 8) : (2 : Int) ^ (7 * k) ≤ 72057594037927936 := by
  have hk : k = 0 ∨ k = 1 ∨ k = 2 ∨ k = 3 ∨ k = 4 ∨ k = 5 ∨ k = 6 ∨ k = 7 ∨ k = 8 := by omega
  rcases hk with h | h | h | h | h | h | h | h | h <;> subst h <;> decide

theorem accum_le (f : Nat → Int) (k : Nat) (h : k ≤ 9) : 0 ≤ accum f k ∧ accum f k ≤ 9223372036854775807 := by
  have h0 := accum_bd f k
  by_cases h9 : k = 9
  · subst h9
    have : (2 : Int) ^ (7 * 9) = 9223372036854775808 := by decide
    omega
  · have := pow7_le k (by omega)
    omega

theorem i64_or_nat (a b : Nat) (ha : a < 9223372036854775808) (hb : b < 9223372036854775808) : bits .or .i64 (a : Int) (b : Int) = ((a ||| b : Nat) : Int) := by
  have hx : a ||| b < 2 ^ 63 := Nat.or_lt_two_pow (by omega) (by omega)
  show IntKind.i64.wrap ((BitVec.ofInt 64 (a : Int) ||| BitVec.ofInt 64 (b : Int)).toNat : Int) = _
  rw [BitVec.toNat_or, ofInt_u64 a (by omega), ofInt_u64 b (by omega)]
  simp only [IntKind.wrap, IntKind.bits, IntKind.signed]
  simp only [show (2 : Nat) ^ 63 = 9223372036854775808 from rfl] at hx
  generalize a ||| b = c at *
  simp
  omega

theorem andNot128 (x : Int) (h0 : 0 ≤ x) (h1 : x ≤ 255) : bits .andNot .u8 x 128 = x % 128 := by
  rw [u8_andNot x 128 h0 (by omega) (by decide) (by decide)]
  show ((x.toNat &&& 127 : Nat) : Int) = _
  rw [nat_mask7]
  omega
theorem and127 (x : Int) (h0 : 0 ≤ x) (h1 : x ≤ 255) : bits .and .u8 x 127 = x % 128 := by
  rw [u8_and x 127 h0 (by omega) (by decide) (by decide)]
  show ((x.toNat &&& 127 : Nat) : Int) = _
  rw [nat_mask7]
  omega

theorem part_bd (x : Int) (k : Nat) (hk : k < 9) : 0 ≤ (x % 128) * 2 ^ (7 * k) ∧ (x % 128) * 2 ^ (7 * k) ≤ 9151314442816847872 := by
  have h1 : 0 ≤ x % 128 := Int.emod_nonneg _ (by decide)
  have h2 : x % 128 ≤ 127 := by have := Int.emod_lt_of_pos x (show (0 : Int) < 128 by decide); omega
  have hp := pow7_pos k
  have hq := pow7_le k (by omega)
  have h3 : 0 ≤ (x % 128) * 2 ^ (7 * k) := Int.mul_nonneg h1 (by omega)
  have h4 : (x % 128) * 2 ^ (7 * k) ≤ 127 * 2 ^ (7 * k) := Int.mul_le_mul_of_nonneg_right h2 (by omega)
  omega

theorem or_join (A x : Int) (k : Nat) (hk : k < 9) (h0 : 0 ≤ A) (h1 : A < 2 ^ (7 * k)) : bits .or .i64 A ((x % 128) * 2 ^ (7 * k)) = A + (x % 128) * 2 ^ (7 * k) := by
  obtain ⟨p1, p2⟩ := part_bd x k hk
  have h2 : 0 ≤ x % 128 := Int.emod_nonneg _ (by decide)
  have hq := pow7_le k (by omega)
  obtain ⟨a, rfl⟩ := Int.eq_ofNat_of_zero_le h0
  obtain ⟨y, hy⟩ := Int.eq_ofNat_of_zero_le h2
  rw [hy] at p1 p2 ⊢
  have e : ((y : Int) * 2 ^ (7 * k)) = ((y * 2 ^ (7 * k) : Nat) : Int) := by simp
  rw [e] at p1 p2 ⊢
  have ha : a < 2 ^ (7 * k) := by
    have e2 : (2 : Int) ^ (7 * k) = ((2 ^ (7 * k) : Nat) : Int) := by simp
    rw [e2] at h1
    omega
  rw [i64_or_nat a (y * 2 ^ (7 * k)) (by omega) (by omega), Nat.or_comm, nat_join (7 * k) (y * 2 ^ (7 * k)) a (Nat.mul_mod_left _ _) ha]
  omega

/-- One byte more, as the text's own operations have it. -/
theorem or_step (f : Nat → Int) (x : Int) (k : Nat) (hk : k < 9) (hx : f k = x) (h0 : 0 ≤ x) (h1 : x ≤ 255) :
    bits .or .i64 (accum f k) (wrap64 (wrap64 (bits .andNot .u8 x 128) * 2 ^ (7 * k))) = accum f (k + 1) := by
  obtain ⟨p1, p2⟩ := part_bd x k hk
  have hb := accum_bd f k
  rw [andNot128 x h0 h1, w64 (x % 128) (by omega), w64 _ (by omega), or_join _ x k hk hb.1 hb.2, accum, hx]

theorem add_step (f : Nat → Int) (x : Int) (k : Nat) (hk : k < 9) (hx : f k = x) (h0 : 0 ≤ x) (h1 : x ≤ 255) :
    wrap64 (accum f k + wrap64 (wrap64 (bits .and .u8 x 127) * 2 ^ (7 * k))) = accum f (k + 1) := by
  obtain ⟨p1, p2⟩ := part_bd x k hk
  have hb := accum_le f (k + 1) (by omega)
  have e : accum f (k + 1) = accum f k + (x % 128) * 2 ^ (7 * k) := by rw [accum, hx]
  rw [and127 x h0 h1, w64 (x % 128) (by omega), w64 ((x % 128) * 2 ^ (7 * k)) (by omega), ← e, w64 _ (by omega)]

theorem numAt_end (f : Nat → Int) (n k : Nat) (h : 9 ≤ k) : numAt f n (9 - k) k = (0, 0, 11) := by
  rw [show 9 - k = 0 by omega]; rfl
theorem numAt_open (f : Nat → Int) (n k : Nat) (h : k < 9) : numAt f n (9 - k) k = if n ≤ k then (0, 0, 10) else if 128 ≤ f k then numAt f n (9 - (k + 1)) (k + 1) else if f k = 0 ∧ 0 < k then (0, 0, 5) else (accum f (k + 1), (k : Int) + 1, 0) := by
  rw [show 9 - k = (9 - (k + 1)) + 1 by omega]; rfl
theorem num_short (f : Nat → Int) (n k : Nat) (h : k < 9) (hn : n ≤ k) : numAt f n (9 - k) k = (0, 0, 10) := by rw [numAt_open f n k h, if_pos hn]
theorem num_more (f : Nat → Int) (n k : Nat) (h : k < 9) (hn : k < n) (hx : 128 ≤ f k) : numAt f n (9 - k) k = numAt f n (9 - (k + 1)) (k + 1) := by rw [numAt_open f n k h, if_neg (by omega), if_pos hx]
theorem num_form (f : Nat → Int) (n k : Nat) (h : k < 9) (hn : k < n) (hx : f k = 0) (hk : 0 < k) : numAt f n (9 - k) k = (0, 0, 5) := by
  rw [numAt_open f n k h, if_neg (by omega), if_neg (by omega), if_pos ⟨hx, hk⟩]
theorem num_last (f : Nat → Int) (n k : Nat) (h : k < 9) (hn : k < n) (hx : f k < 128) (hk : ¬ (f k = 0 ∧ 0 < k)) : numAt f n (9 - k) k = (accum f (k + 1), (k : Int) + 1, 0) := by
  rw [numAt_open f n k h, if_neg (by omega), if_neg (by omega), if_neg hk]

/-- What every answer keeps to. -/
theorem numAt_bd (f : Nat → Int) (n : Nat) : ∀ r k, r + k ≤ 9 → 0 ≤ (numAt f n r k).1 ∧ (numAt f n r k).1 ≤ 9223372036854775807 ∧ 0 ≤ (numAt f n r k).2.1 ∧ (numAt f n r k).2.1 ≤ n ∧ ((numAt f n r k).2.2 ≠ 0 → (numAt f n r k).1 = 0 ∧ (numAt f n r k).2.1 = 0) := by
  intro r
  induction r with
  | zero => intro k h; simp [numAt]
  | succ r ih =>
    intro k h
    have hb := accum_le f (k + 1) (by omega)
    unfold numAt
    split
    · simp
    · split
      · exact ih (k + 1) (by omega)
      · split
        · simp
        · refine ⟨hb.1, hb.2, ?_, ?_, ?_⟩
          · show (0 : Int) ≤ (k : Int) + 1; omega
          · show (k : Int) + 1 ≤ (n : Int); omega
          · intro h; exact absurd rfl h
theorem num_bd (f : Nat → Int) (n : Nat) : 0 ≤ (num f n).1 ∧ (num f n).1 ≤ 9223372036854775807 ∧ 0 ≤ (num f n).2.1 ∧ (num f n).2.1 ≤ n ∧ ((num f n).2.2 ≠ 0 → (num f n).1 = 0 ∧ (num f n).2.1 = 0) := numAt_bd f n 9 0 (by omega)
theorem numAt_pos (f : Nat → Int) (n : Nat) : ∀ r k, (numAt f n r k).2.2 = 0 → 0 < (numAt f n r k).2.1 := by
  intro r
  induction r with
  | zero => intro k h; simp [numAt] at h
  | succ r ih =>
    intro k
    unfold numAt
    split
    · intro h; simp at h
    · split
      · exact ih (k + 1)
      · split
        · intro h; simp at h
        · intro _; show (0 : Int) < (k : Int) + 1; omega
theorem num_pos (f : Nat → Int) (n : Nat) : (num f n).2.2 = 0 → 0 < (num f n).2.1 := numAt_pos f n 9 0
theorem num_zero (f : Nat → Int) : num f 0 = (0, 0, 10) := rfl

end Wm
end Go.Proofs.YtpjgdpfpgpaenaaDoor
