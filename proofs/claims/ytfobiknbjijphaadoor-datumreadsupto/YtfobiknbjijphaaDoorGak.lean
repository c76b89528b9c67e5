/-
  The program's reader in memory; its least calls: ended, take, skipComment, skipBlanks, giveUp, closed.
  The program's reader: take, skipComment, skipBlanks, closed.
-/
import Derived.Test.YtfobiknbjijphaaDoorRdA
import Derived.Test.YtfobiknbjijphaaDoorGaj
import Derived.Lib.IndexLaws
namespace Go.Proofs.YtfobiknbjijphaaDoor
open Go.RowKit
set_option linter.unusedVariables false
set_option linter.unusedSimpArgs false

def rst (s : ByteArray) (p : Nat) : List UInt8 := s.data.toList.drop p
theorem rst_len (s : ByteArray) (p : Nat) : (rst s p).length = s.size - p := by simp [rst]
theorem rst_nil {s : ByteArray} {p : Nat} (h : s.size ≤ p) : rst s p = [] := by
  apply List.eq_nil_of_length_eq_zero
  rw [rst_len]; omega
theorem rst_cons {s : ByteArray} {p : Nat} (h : p < s.size) : rst s p = s[p] :: rst s (p + 1) := by
  unfold rst
  rw [List.drop_eq_getElem_cons (by simpa using h)]
  rfl
theorem rst_drop (s : ByteArray) (p k : Nat) : (rst s p).drop k = rst s (p + k) := by simp [rst]
theorem rst_inj {s : ByteArray} {p q : Nat} (hp : p ≤ s.size) (hq : q ≤ s.size) (h : rst s p = rst s q) : p = q := by
  have := congrArg List.length h
  rw [rst_len, rst_len] at this
  omega
theorem ext_list (s : ByteArray) (p q : Nat) : (s.extract p q).data.toList = (rst s p).take (q - p) := by
  simp [rst, ByteArray.data_extract]
theorem ext_all (s : ByteArray) (p : Nat) : (s.extract p s.size).data.toList = rst s p := by
  rw [ext_list, List.take_of_length_le (by rw [rst_len]; exact Nat.le_refl _)]
/-- The program's reader at block b: where it stands, how many are open. -/
def Rr (b : Nat) (s : ByteArray) (p o : Nat) (w : World) : Prop := (p ≤ s.size ∧ s.size ≤ 1099511627776 ∧ o ≤ 64) ∧ ∃ x y : Int, w.heap[b]? = some (.cells #[.string s, .int .i64 (p : Int), .int .i64 (o : Int), .int .i64 x, .int .i64 y] 46 (0, 0))
theorem Rr.lt {b : Nat} {s : ByteArray} {p o : Nat} {w : World} (h : Rr b s p o w) : b < w.heap.size := by
  obtain ⟨_, x, y, e⟩ := h
  exact (Array.getElem?_eq_some_iff.1 e).1
theorem Rr.below {b : Nat} {s : ByteArray} {p o B : Nat} {w w' : World} (h : Rr b s p o w) (hb : Below B w w') (hB : b < B) : Rr b s p o w' := by
  obtain ⟨h0, x, y, e⟩ := h
  exact ⟨h0, x, y, (hb.block b hB).trans e⟩
theorem Rr.under {b : Nat} {s : ByteArray} {p o : Nat} {w w' : World} (h : Rr b s p o w) (hb : Below w.heap.size w w') : Rr b s p o w' := h.below hb h.lt
theorem Rr.part {b : Nat} {s : ByteArray} {p o : Nat} {F : Nat → Prop} {w w' : World} (h : Rr b s p o w) (hb : Part F w w') (hB : ¬ F b) : Rr b s p o w' := by
  obtain ⟨h0, x, y, e⟩ := h
  exact ⟨h0, x, y, (hb.block b (Array.getElem?_eq_some_iff.1 e).1 hB).trans e⟩
structure Rc (b : Nat) (s : ByteArray) (p o : Nat) (w : World) : Prop where
  c0 : w.cell? ⟨b, 0, none⟩ = some (.string s)
  c1 : w.cell? ⟨b, 1, none⟩ = some (.int .i64 (p : Int))
  c2 : w.cell? ⟨b, 2, none⟩ = some (.int .i64 (o : Int))
  c3 : ∃ x : Int, w.cell? ⟨b, 3, none⟩ = some (.int .i64 x)
  c4 : ∃ x : Int, w.cell? ⟨b, 4, none⟩ = some (.int .i64 x)
  f1 : w.frozen? ⟨b, 1, none⟩ = false
  f2 : w.frozen? ⟨b, 2, none⟩ = false
  f3 : w.frozen? ⟨b, 3, none⟩ = false
  f4 : w.frozen? ⟨b, 4, none⟩ = false
theorem Rr.cells {b : Nat} {s : ByteArray} {p o : Nat} {w : World} (h : Rr b s p o w) : Rc b s p o w := by
  obtain ⟨h0, x, y, e⟩ := h
  exact ⟨by rw [cells_at e 0]; rfl, by rw [cells_at e 1]; rfl, by rw [cells_at e 2]; rfl, ⟨x, by rw [cells_at e 3]; rfl⟩, ⟨y, by rw [cells_at e 4]; rfl⟩, cells_free e 1, cells_free e 2, cells_free e 3, cells_free e 4⟩
noncomputable def posOf (b : Nat) (w : World) : Nat := (intOf ((w.cell? ⟨b, 1, none⟩).getD .nilIface)).toNat
theorem Rr.pos {b : Nat} {s : ByteArray} {p o : Nat} {w : World} (h : Rr b s p o w) : posOf b w = p := by
  unfold posOf
  rw [h.cells.c1]
  simp [intOf]
abbrev Pt (b : Nat) : World → World → Prop := Part (fun k => k = b)
theorem Rr.at_ {b : Nat} {s : ByteArray} {p o : Nat} {w : World} (h : Rr b s p o w) (q : Nat) (hq : q ≤ s.size) : Rr b s q o (w.setCell ⟨b, 1, none⟩ (.int .i64 (q : Int))) := by
  obtain ⟨h0, x, y, e⟩ := h
  exact ⟨⟨hq, h0.2⟩, x, y, heap_set_at e _⟩
theorem Rr.open_ {b : Nat} {s : ByteArray} {p o : Nat} {w : World} (h : Rr b s p o w) (q : Nat) (hq : q ≤ 64) : Rr b s p q (w.setCell ⟨b, 2, none⟩ (.int .i64 (q : Int))) := by
  obtain ⟨h0, x, y, e⟩ := h
  exact ⟨⟨h0.1, h0.2.1, hq⟩, x, y, heap_set_at e _⟩
theorem Pt.set {b : Nat} {a w : World} (h : Pt b a w) (i : Nat) (u : Value) : Pt b a (w.setCell ⟨b, i, none⟩ u) := h.setCell (fun _ => rfl) u
/-- It has given up: its fault. -/
def Flt (b : Nat) (s : ByteArray) (k n : Nat) (w : World) : Prop := ∃ p o : Int, w.heap[b]? = some (.cells #[.string s, .int .i64 p, .int .i64 o, .int .i64 ((s.size : Int) - (k : Int)), .int .i64 (n : Int)] 46 (0, 0))
def Pnc (e : Ending) : Prop := ∃ v, e = .panicked [{ v := .iface 44 v, recovered := false }]
/-- How a call of the reader's ends. -/
def Out {α : Type} (b : Nat) (s : ByteArray) (o : Nat) (w : World) (R : Rs α) (vl : α → Value → World → Prop) (e : Ending) (w' : World) : Prop :=
  (∃ a v p, R = .ok a (rst s p) ∧ e = .returned v ∧ Rr b s p o w' ∧ Pt b w w' ∧ vl a v w') ∨ (∃ k n, R = .bad k n ∧ k ≤ s.size ∧ Pnc e ∧ Flt b s k n w' ∧ Pt b w w')
theorem rd_ended {b : Nat} {s : ByteArray} {p o : Nat} {w : World} (h : Rr b s p o w) : Calls Tryd.prog 29 #[.pointer (some ⟨b, 0, none⟩)] w fun e w' => e = .returned (.bool (decide (s.size ≤ p))) ∧ Hid (Below w.heap.size w w') := by
  have hB : Hid (∀ q, Below w.heap.size w (w.drewN q)) := fun q => blw_drewN q (Below.refl _ _)
  obtain ⟨y0, y1, y2, y3, y4, -, -, -, -⟩ := h.cells
  have hp := h.1.1
  by_cases he : s.size ≤ p
  · obtain rfl : p = s.size := by omega
    rw [decide_eq_true he]
    clear h he hp y3 y4
    go_enter Tryd.func29, Tryd.ntmps29
    go_wp2
    go_region
    all_goals
      go_wp2
      go_ret
      exact ⟨rfl, hB.out _⟩
  · have d1 : ((p : Int) == (s.size : Int)) = false := by simp; omega
    rw [decide_eq_false he]
    clear h he hp y3 y4
    go_enter Tryd.func29, Tryd.ntmps29
    go_wp2
    go_region
    all_goals
      go_wp2
      go_ret
      exact ⟨by first | rfl | (rw [d1]), hB.out _⟩
theorem rd_giveUp {b : Nat} {s : ByteArray} {p o : Nat} {w : World} (h : Rr b s p o w) (a : Nat) (n : Int) (ha : a ≤ s.size) : Calls Tryd.prog 45 #[.pointer (some ⟨b, 0, none⟩), .int .i64 (a : Int), .int .i64 n] w fun e w' => Pnc e ∧ Hid (∀ m : Nat, n = (m : Int) → Flt b s (s.size - a) m w') ∧ Hid (Pt b w w') := by
  obtain ⟨h0, x, y, e⟩ := h
  have y3 : w.cell? ⟨b, 3, none⟩ = some (.int .i64 x) := by rw [cells_at e 3]; rfl
  have y4 : w.cell? ⟨b, 4, none⟩ = some (.int .i64 y) := by rw [cells_at e 4]; rfl
  have f3 : w.frozen? ⟨b, 3, none⟩ = false := cells_free e 3
  have f4 : w.frozen? ⟨b, 4, none⟩ = false := cells_free e 4
  have HF : Hid (∀ m : Nat, n = (m : Int) → Flt b s (s.size - a) m ((w.setCell ⟨b, 3, none⟩ (.int .i64 (a : Int))).setCell ⟨b, 4, none⟩ (.int .i64 n))) := fun m hm => by
    refine ⟨(p : Int), (o : Int), ?_⟩
    have := heap_set_at (heap_set_at e (i := 3) (.int .i64 (a : Int))) (i := 4) (.int .i64 n)
    rw [this, hm]
    have e2 : (s.size : Int) - ((s.size - a : Nat) : Int) = (a : Int) := by omega
    rw [e2]
    rfl
  have HP : Hid (Pt b w ((w.setCell ⟨b, 3, none⟩ (.int .i64 (a : Int))).setCell ⟨b, 4, none⟩ (.int .i64 n))) := Pt.set (Pt.set (Part.refl _ w) 3 _) 4 _
  clear h0 e ha
  go_enter Tryd.func45, Tryd.ntmps45
  go_wp2
  refine ⟨rfl, ?_⟩
  exact ⟨⟨_, rfl⟩, HF, HP⟩
end Go.Proofs.YtfobiknbjijphaaDoor

namespace Go.Proofs.YtfobiknbjijphaaDoor
open Go.RowKit
set_option linter.unusedVariables false
set_option linter.unusedSimpArgs false

theorem list_eq (s : ByteArray) : s.toList = s.data.toList := ByteArray.toList_eq s
theorem pre_take (s t : ByteArray) (h : t.size ≤ s.size) : ((s.extract 0 t.size).toList == t.toList) = t.data.toList.isPrefixOf s.data.toList := by
  rw [list_eq, list_eq, ext_list]
  unfold rst
  rw [List.drop_zero, Nat.sub_zero]
  rw [Bool.eq_iff_iff]
  rw [List.isPrefixOf_iff_prefix, List.prefix_iff_eq_take, beq_iff_eq]
  have e : t.data.toList.length = t.size := by simp
  rw [e]
  exact ⟨fun h => h.symm, fun h => h.symm⟩
theorem pre_no (s t : ByteArray) (h : ¬ t.size ≤ s.size) : t.data.toList.isPrefixOf s.data.toList = false := by
  rw [Bool.eq_false_iff]
  intro e
  rw [List.isPrefixOf_iff_prefix] at e
  have := e.length_le
  simp at this
  omega
theorem hp_any (s t : ByteArray) (w : World) : Calls Tryd.prog 62 #[.string s, .string t] w fun e w' => e = .returned (.bool (t.data.toList.isPrefixOf s.data.toList)) ∧ w' = w := by
  by_cases h : t.size ≤ s.size
  · have e := pre_take s t h
    rw [← e]
    have l1 : (t.size : Int) ≤ (s.size : Int) := by omega
    have l2 : (0 : Int) ≤ (t.size : Int) := by omega
    clear e h
    go_enter Tryd.func62, Tryd.ntmps62
    go_wp2
    go_ret
    exact ⟨rfl, rfl⟩
  · rw [pre_no s t h]
    have l1 : ¬ (t.size : Int) ≤ (s.size : Int) := by omega
    clear h
    go_enter Tryd.func62, Tryd.ntmps62
    go_wp2
    go_ret
    exact ⟨rfl, rfl⟩
theorem rd_take {b : Nat} {s : ByteArray} {p o : Nat} {w : World} (h : Rr b s p o w) (t : ByteArray) :
    Calls Tryd.prog 46 #[.pointer (some ⟨b, 0, none⟩), .string t] w fun e w' => (e = .returned (.bool true) ∧ Hid (t.data.toList.isPrefixOf (rst s p) = true ∧ Rr b s (p + t.size) o w' ∧ Pt b w w')) ∨ (e = .returned (.bool false) ∧ Hid (t.data.toList.isPrefixOf (rst s p) = false ∧ Below w.heap.size w w')) := by
  have hB : Hid (∀ q, Below w.heap.size w (w.drewN q)) := fun q => blw_drewN q (Below.refl _ _)
  obtain ⟨y0, y1, y2, y3, y4, f1, -, -, -⟩ := h.cells
  have hp := h.1.1
  have lM : (s.size : Int) ≤ 1099511627776 := by have := h.1.2.1; omega
  have l0 : (0 : Int) ≤ (p : Int) := by omega
  have l1 : (p : Int) ≤ (s.size : Int) := by omega
  have HH : Hid (∀ V, Calls Tryd.prog 62 #[.string (s.extract p s.size), .string t] V fun e w' => e = .returned (.bool (t.data.toList.isPrefixOf (rst s p))) ∧ w' = V) := fun V => by
    have := hp_any (s.extract p s.size) t V
    rw [ext_all] at this
    exact this
  have hqq : t.data.toList.isPrefixOf (rst s p) = false ∨ t.data.toList.isPrefixOf (rst s p) = true := by cases t.data.toList.isPrefixOf (rst s p) <;> simp
  rcases hqq with hq | hq
  · rw [hq] at HH
    have HQ : Hid (t.data.toList.isPrefixOf (rst s p) = false) := hq
    clear h hp y2 y3 y4 hq
    go_enter Tryd.func46, Tryd.ntmps46
    go_wp2
    go_quiet ((go_at_call 62; exact Calls.quiet_of_same (HH.out _)))
    go_wp2
    go_ret
    exact .inr ⟨rfl, HQ.out, hB.out _⟩
  · rw [hq] at HH
    have ht : p + t.size ≤ s.size := by
      rw [List.isPrefixOf_iff_prefix] at hq
      have := hq.length_le
      rw [rst_len] at this
      simp at this
      omega
    have HE : Hid (∀ q, Rr b s (p + t.size) o ((w.drewN q).setCell ⟨b, 1, none⟩ (.int .i64 ((p + t.size : Nat) : Int))) ∧ Pt b w ((w.drewN q).setCell ⟨b, 1, none⟩ (.int .i64 ((p + t.size : Nat) : Int)))) := fun q => ⟨(h.under (hB.out q)).at_ _ ht, Pt.set (Part.ofBelow (hB.out q)) _ _⟩
    have HQ : Hid (t.data.toList.isPrefixOf (rst s p) = true) := hq
    obtain ⟨z, hz⟩ : ∃ z, p + t.size = z := ⟨_, rfl⟩
    have e0 : (p : Int) + (t.size : Int) = (z : Int) := by omega
    have l2 : (z : Int) ≤ (s.size : Int) := by omega
    rw [hz] at HE ⊢
    clear h hp y2 y3 y4 ht hq hz
    go_enter Tryd.func46, Tryd.ntmps46
    go_wp2
    go_quiet ((go_at_call 62; exact Calls.quiet_of_same (HH.out _)))
    go_wp2
    go_ret
    exact .inl ⟨rfl, HQ.out, HE.out _⟩
theorem sk_idx : ∀ r : List UInt8, (Lib.indexByte r 10 = -1 → skB true r = []) ∧ ∀ k : Nat, Lib.indexByte r 10 = (k : Int) → skB true r = skB false (r.drop k) ∧ k ≤ r.length
  | [] => ⟨fun _ => rfl, fun k h => by simp [Lib.indexByte] at h⟩
  | c :: r => by
    obtain ⟨h1, h2⟩ := sk_idx r
    by_cases hc : c = 10
    · subst hc
      refine ⟨fun h => by simp [Lib.indexByte] at h, fun k h => ?_⟩
      have : k = 0 := by simp [Lib.indexByte] at h; omega
      subst this
      exact ⟨by simp [skB, blB], Nat.zero_le _⟩
    · have hb : (c == 10) = false := by simpa using hc
      have ei : Lib.indexByte (c :: r) 10 = if Lib.indexByte r 10 == -1 then -1 else Lib.indexByte r 10 + 1 := by
        show (if c == 10 then (0 : Int) else _) = _
        rw [hb]; rfl
      have es : skB true (c :: r) = skB true r := by simp [skB, hc]
      by_cases hi : Lib.indexByte r 10 = -1
      · rw [ei, if_pos (by simp [hi])]
        refine ⟨fun _ => by rw [es, h1 hi], fun k h => by omega⟩
      · rw [ei, if_neg (by simpa using hi)]
        have hg := Lib.indexByte_ge r 10
        refine ⟨fun h => by omega, fun k h => ?_⟩
        obtain ⟨j, rfl⟩ : ∃ j, k = j + 1 := ⟨k - 1, by omega⟩
        obtain ⟨e1, e2⟩ := h2 j (by omega)
        exact ⟨by rw [es, e1]; rfl, by simp; omega⟩
theorem rd_comment {b : Nat} {s : ByteArray} {p o : Nat} {w : World} (h : Rr b s p o w) :
    Calls Tryd.prog 44 #[.pointer (some ⟨b, 0, none⟩)] w fun e w' => e = .returned (.tuple #[]) ∧ Hid (∃ q, Rr b s q o w' ∧ skB true (rst s p) = skB false (rst s q) ∧ (∀ hp : p < s.size, s[p] ≠ 10 → p < q) ∧ Pt b w w') := by
  have hB : Hid (∀ q, Below w.heap.size w (w.drewN q)) := fun q => blw_drewN q (Below.refl _ _)
  obtain ⟨y0, y1, y2, y3, y4, f1, -, -, -⟩ := h.cells
  have hp := h.1.1
  have lM : (s.size : Int) ≤ 1099511627776 := by have := h.1.2.1; omega
  have l0 : (0 : Int) ≤ (p : Int) := by omega
  have l1 : (p : Int) ≤ (s.size : Int) := by omega
  obtain ⟨k1, k2⟩ := sk_idx (rst s p)
  have hg := Lib.indexByte_ge (rst s p) 10
  have HH : Hid (∀ V, Calls Tryd.prog 61 #[.string (s.extract p s.size), .int .u8 10] V fun e w' => e = .returned (.int .i64 (Lib.indexByte (rst s p) 10)) ∧ w' = V) := fun V => by
    have := Go.Proofs.Tryd.strings_IndexByte (s.extract p s.size) 10 V
    rw [ext_all] at this
    exact this
  have HE : Hid (∀ q z, z ≤ s.size → Rr b s z o ((w.drewN q).setCell ⟨b, 1, none⟩ (.int .i64 (z : Int))) ∧ Pt b w ((w.drewN q).setCell ⟨b, 1, none⟩ (.int .i64 (z : Int)))) := fun q z hz => ⟨(h.under (hB.out q)).at_ _ hz, Pt.set (Part.ofBelow (hB.out q)) _ _⟩
  by_cases hi : Lib.indexByte (rst s p) 10 = -1
  · have HK := hid (k1 hi)
    rw [hi] at HH
    clear h hp y2 y3 y4 k1 k2 hg hi
    go_enter Tryd.func44, Tryd.ntmps44
    go_wp2
    go_quiet ((go_at_call 61; exact Calls.quiet_of_same (HH.out _)))
    go_wp2
    refine bodyPost_end (results_none rfl _ _ _) rfl ?_
    refine ⟨rfl, s.size, (HE.out _ s.size (Nat.le_refl _)).1, ?_, fun h _ => h, (HE.out _ s.size (Nat.le_refl _)).2⟩
    rw [HK.out, rst_nil (Nat.le_refl _)]; rfl
  · obtain ⟨k, hk⟩ : ∃ k : Nat, Lib.indexByte (rst s p) 10 = (k : Int) := ⟨(Lib.indexByte (rst s p) 10).toNat, by omega⟩
    obtain ⟨e1, e2⟩ := k2 k hk
    rw [rst_len] at e2
    rw [rst_drop] at e1
    have HK := hid e1
    rw [hk] at HH
    obtain ⟨z, hz⟩ : ∃ z, p + k = z := ⟨_, rfl⟩
    have e0 : (p : Int) + (k : Int) = (z : Int) := by omega
    have hzs : z ≤ s.size := by omega
    have l2 : (z : Int) ≤ (s.size : Int) := by omega
    have l3 : (0 : Int) ≤ (k : Int) := by omega
    rw [hz] at HK
    have HS := hid hzs
    have HG : Hid (∀ hp : p < s.size, s[p] ≠ 10 → p < z) := fun hp hc => by
      by_cases h0 : k = 0
      · subst h0
        have e3 := (Lib.indexByte_some hk).1
        rw [rst_cons hp] at e3
        exact absurd (by simpa using e3) hc
      · omega
    clear h hp y2 y3 y4 k1 k2 hg hi e1 e2 hk hz hzs
    go_enter Tryd.func44, Tryd.ntmps44
    go_wp2
    go_quiet ((go_at_call 61; exact Calls.quiet_of_same (HH.out _)))
    go_wp2
    refine bodyPost_end (results_none rfl _ _ _) rfl ?_
    exact ⟨rfl, z, (HE.out _ z HS.out).1, HK.out, HG.out, (HE.out _ z HS.out).2⟩
theorem u8b {c : UInt8} {k : Nat} (hk : k < 256) : ((c.toNat : Int) == (k : Int)) = decide (c = UInt8.ofNat k) := by
  by_cases h : c = UInt8.ofNat k
  · subst h
    have : (UInt8.ofNat k).toNat = k := by simp [UInt8.toNat_ofNat']; omega
    rw [this]; simp
  · have : ¬ c.toNat = k := fun e => h (by rw [← e]; simp)
    rw [decide_eq_false h]
    simp
    omega
theorem skB_comment_step {s : ByteArray} {q : Nat} {c : UInt8} (h : q < s.size) (hc : s[q] = c) (h59 : c = 59) (hbl : blB c = false) : skB false (rst s q) = skB true (rst s q) := by
  rw [rst_cons h, hc]
  subst h59
  simp [skB, blB]
set_option maxHeartbeats 2000000 in
theorem rd_skip {b : Nat} {s : ByteArray} {p o : Nat} {w : World} (h : Rr b s p o w) :
    Calls Tryd.prog 28 #[.pointer (some ⟨b, 0, none⟩)] w fun e w' => e = .returned (.tuple #[]) ∧ Hid (∃ q, Rr b s q o w' ∧ rst s q = skB false (rst s p) ∧ Pt b w w') := by
  have HR : Hid (Rr b s p o w) := h
  clear h
  go_enter Tryd.func28, Tryd.ntmps28
  go_wp2
  go_loopw [] (fun wr => ∃ q, Hid (Rr b s q o wr ∧ skB false (rst s q) = skB false (rst s p) ∧ Pt b w wr)) (fun wr => s.size - posOf b wr)
  case atStart => exact ⟨p, HR.out, rfl, Part.refl _ _⟩
  case round =>
    obtain ⟨q, HQ⟩ := hrel
    clear HR
    have HE := hid (rd_ended HQ.out.1)
    have hq0 := HQ.out.1.pos
    go_wp2_with fail
    refine HE.out.mono ?_
    rintro e w1 ⟨rfl, hb1⟩
    have HQ1 : Hid (Rr b s q o w1 ∧ skB false (rst s q) = skB false (rst s p) ∧ Pt b w w1) := hid ⟨HQ.out.1.under hb1.out, HQ.out.2.1, HQ.out.2.2.trans (Part.ofBelow (F := fun k => k = b) hb1.out) (fun _ _ h => h)⟩
    clear hb1 HE
    by_cases hlt : s.size ≤ q
    · have hd : decide (s.size ≤ q) = true := decide_eq_true hlt
      have HF : Hid (rst s q = skB false (rst s p)) := by
        have := HQ1.out.2.1
        rw [rst_nil hlt] at this
        rw [rst_nil hlt]
        exact this
      clear hlt
      go_wp2
      refine bodyPost_end (results_none rfl _ _ _) rfl ?_
      exact ⟨rfl, q, HQ1.out.1, HF.out, HQ1.out.2.2⟩
    · have hd : decide (s.size ≤ q) = false := decide_eq_false hlt
      have hlt2 : q < s.size := by omega
      obtain ⟨y0, y1, -, -, -, f1, -, -, -⟩ := HQ1.out.1.cells
      have l0 : (0 : Int) ≤ (q : Int) := by omega
      have l1 : (q : Int) < (s.size : Int) := by omega
      have lM : (s.size : Int) ≤ 1099511627776 := by have := HQ1.out.1.1.2.1; omega
      obtain ⟨c, hc⟩ : ∃ c, s[q]'hlt2 = c := ⟨_, rfl⟩
      have hcs : (blB c = true ∧ (((c.toNat : Int) == 32) = true ∨ ((c.toNat : Int) == 32) = false ∧ ((c.toNat : Int) == 9) = true ∨ ((c.toNat : Int) == 32) = false ∧ ((c.toNat : Int) == 9) = false ∧ ((c.toNat : Int) == 10) = true ∨ ((c.toNat : Int) == 32) = false ∧ ((c.toNat : Int) == 9) = false ∧ ((c.toNat : Int) == 10) = false ∧ ((c.toNat : Int) == 13) = true)) ∨ (blB c = false ∧ ((c.toNat : Int) == 32) = false ∧ ((c.toNat : Int) == 9) = false ∧ ((c.toNat : Int) == 10) = false ∧ ((c.toNat : Int) == 13) = false) := by
        have q1 : ((c.toNat : Int) == 32) = decide (c = 32) := @u8b c 32 (by decide)
        have q2 : ((c.toNat : Int) == 9) = decide (c = 9) := @u8b c 9 (by decide)
        have q3 : ((c.toNat : Int) == 10) = decide (c = 10) := @u8b c 10 (by decide)
        have q4 : ((c.toNat : Int) == 13) = decide (c = 13) := @u8b c 13 (by decide)
        rw [q1, q2, q3, q4]
        unfold blB
        by_cases h1 : c = 32
        · simp [h1]
        · by_cases h2 : c = 9
          · simp [h1, h2]
          · by_cases h3 : c = 10
            · simp [h1, h2, h3]
            · by_cases h4 : c = 13
              · simp [h1, h2, h3, h4]
              · simp [h1, h2, h3, h4]
      rcases hcs with ⟨hbl, hcs⟩ | ⟨hbl, q1, q2, q3, q4⟩
      · have HN : Hid (∀ n, Rr b s (q + 1) o ((w1.drewN n).setCell ⟨b, 1, none⟩ (.int .i64 ((q : Int) + 1))) ∧ skB false (rst s (q + 1)) = skB false (rst s p) ∧ Pt b w ((w1.drewN n).setCell ⟨b, 1, none⟩ (.int .i64 ((q : Int) + 1)))) := fun n => by
          have h1 := (HQ1.out.1.under (blw_drewN n (Below.refl _ w1))).at_ (q + 1) hlt2
          refine ⟨h1, ?_, Pt.set (HQ1.out.2.2.drewN n) _ _⟩
          rw [← HQ1.out.2.1, rst_cons hlt2, hc]
          simp [skB, hbl]
        have HQ2 := hid hq0
        clear HQ HQ1 hbl hq0
        rcases hcs with q1 | ⟨q1, q2⟩ | ⟨q1, q2, q3⟩ | ⟨q1, q2, q3, q4⟩
        all_goals
          go_wp2
          go_region
          all_goals
            go_wp2
            go_roundw
            case rel => exact ⟨q + 1, HN.out _⟩
            case measure => exact Nat.lt_of_le_of_lt (Nat.le_of_eq (congrArg (s.size - ·) (HN.out 1).1.pos)) (by rw [HQ2.out]; omega)
      · by_cases h59 : c = 59
        · have q5 : ((c.toNat : Int) == 59) = true := by rw [h59]; rfl
          have HK := hid (skB_comment_step hlt2 hc h59 hbl)
          have HC := hid (fun n => rd_comment (HQ1.out.1.under (blw_drewN n (Below.refl _ w1))))
          have HQ2 := hid hq0
          have hne : Hid (c ≠ 10) := by rw [h59]; exact (by decide : (59 : UInt8) ≠ 10)
          clear HQ hq0 hbl h59
          go_wp2
          go_region
          all_goals
            go_wp2_with fail
            refine (HC.out _).mono ?_
            rintro e w2 ⟨rfl, HX⟩
            obtain ⟨z, hz1, hz2, hz3, hz4⟩ := HX.out
            have HZ : Hid (Rr b s z o w2 ∧ skB false (rst s z) = skB false (rst s p) ∧ Pt b w w2) := hid ⟨hz1, by rw [← hz2, ← HK.out, HQ1.out.2.1], (HQ1.out.2.2.drewN _).trans hz4 (fun _ _ h => h)⟩
            have hz5 : q < z := hz3 hlt2 (by rw [hc]; exact hne.out)
            have hz6 := hz1.pos
            clear HX hz1 hz2 hz3 hz4 HQ1 HK
            go_wp2
            go_roundw
            case rel => exact ⟨z, HZ⟩
            case measure => rw [hz6, HQ2.out]; omega
        · have q5 : ((c.toNat : Int) == 59) = false := by
            have : ((c.toNat : Int) == 59) = decide (c = 59) := @u8b c 59 (by decide)
            rw [this, decide_eq_false h59]
          have HF : Hid (rst s q = skB false (rst s p)) := by
            have := HQ1.out.2.1
            rw [rst_cons hlt2, hc] at this
            rw [rst_cons hlt2, hc]
            simp only [skB, hbl, h59, if_false] at this
            exact this
          have HR := hid (fun n => HQ1.out.1.under (blw_drewN n (Below.refl _ w1)))
          clear HQ hq0 hbl h59
          go_wp2
          go_region
          all_goals
            go_wp2
            refine bodyPost_ret (results_none rfl _ _ _) rfl ?_
            exact ⟨rfl, q, HR.out 1, HF.out, HQ1.out.2.2.drewN 1⟩
end Go.Proofs.YtfobiknbjijphaaDoor
