/-
  The document's own space: find, copied, IsName.
-/
import Derived.Test.YtdackomidfofgaaStK
import Derived.Maps.AppendAt
namespace Go.Proofs.Ytdackomidfofgaa
open Go.RowKit Go.Maps
set_option linter.unusedVariables false
set_option maxRecDepth 100000
set_option maxHeartbeats 2000000

theorem z_isName (s : ByteArray) (w : World) : Calls Try.prog 23 #[.string s] w fun e w' => e = .returned (.bool (nm s)) ∧ w' = w := by
  by_cases h1 : 0 < s.size
  · by_cases h2 : s.size ≤ 11
    · have e1 : Hid (nm s = true) := (by unfold nm; simp [h1, h2] : nm s = true)
      have h1' : (1 : Int) ≤ (s.size : Int) := by omega
      have h2' : (s.size : Int) ≤ 11 := by omega
      go_enter Try.func23, Try.ntmps23
      go_wp2
      go_ret
      exact ⟨by rw [e1.out]; rfl, rfl⟩
    · have e1 : Hid (nm s = false) := (by unfold nm; simp [h2] : nm s = false)
      have h1' : (1 : Int) ≤ (s.size : Int) := by omega
      have h2' : decide ((s.size : Int) ≤ 11) = false := decide_eq_false (by omega)
      go_enter Try.func23, Try.ntmps23
      go_wp2
      go_ret
      exact ⟨by rw [e1.out]; rfl, rfl⟩
  · have e1 : Hid (nm s = false) := (by unfold nm; simp [h1] : nm s = false)
    have h1' : (s.size : Int) < 1 := by omega
    go_enter Try.func23, Try.ntmps23
    go_wp2
    go_ret
    exact ⟨by rw [e1.out]; rfl, rfl⟩
theorem z_copied (a0 : Option Addr) (n c : Nat) (f : Nat → Int) (w : World) (hbig : n ≤ 140737488355328) (hc : a0 = none → c = 0) (hf : From w a0 n f) :
    Calls Try.prog 43 #[.slice a0 n c] w fun e w' => ∃ v', e = .returned v' ∧ Own w' w.heap.size v' (lst f n) ∧ Below w.heap.size w w' := by
  have hm : Own (w.alloc (.cells #[] 5)) w.heap.size (.slice (some ⟨w.heap.size, 0, none⟩) 0 0) [] := World.ownsRow_made w #[] 0 (Nat.le_refl _) (Nat.zero_le _) rfl
  have HF : Hid (From (w.alloc (.cells #[] 5)) a0 n f) := hf.alloc (.cells #[] 5)
  clear hf
  go_enter Try.func43, Try.ntmps43
  go_wp2_with (at_builtin; refine wpList_app rfl _ _ rfl w.heap.size _ [] rfl hm a0 n c f rfl HF.out ?q1 ?q2 ?q3 ?_)
  case q1 => exact hc
  case q2 => simp; omega
  case q3 => simp
  intro v' w' ho hb
  go_wp2
  go_ret
  exact ⟨v', rfl, ho, ((Below.refl _ w).alloc (Nat.le_refl _) _).trans hb⟩

def zrow (p : Nat → Nat) (n : Nat) : List Value := (List.range n).map fun j => .pointer (some ⟨p j, 0, none⟩)
/-- The document's space: its slots' blocks, their names, and whether they got bytes. -/
structure Rz (B : Nat) (w : World) (X n : Nat) (p : Nat → Nat) (z : Nat → ByteArray) (hd : Nat → Bool) : Prop where
  cel : ∃ v ck, w.heap[X]? = some (.cells #[v, .int .i64 ck] 91 (0, 0)) ∧ w.ownsRow B 92 1 v n (zrow p n)
  slo : ∀ j, j < n → ∃ b, w.heap[p j]? = some (.cells #[.string (z j), .int .i64 0, b, .pointer none, .bool (hd j)] 96 (0, 0))
  low : B ≤ X ∧ ∀ j, j < n → B ≤ p j
theorem str_ne {a b : ByteArray} (h : a ≠ b) : (a.toList == b.toList) = false := by
  rw [ByteArray.toList_eq, ByteArray.toList_eq]
  simp only [beq_eq_false_iff_ne, ne_eq]
  intro e
  apply h
  cases a
  cases b
  exact congrArg ByteArray.mk (Array.toList_inj.1 e)
theorem row_cell {w : World} {B g n c : Nat} {p : Nat → Nat} (h : w.ownsRow B 92 1 (.slice (some ⟨g, 0, none⟩) n c) n (zrow p n)) (j : Nat) (hj : j < n) : w.cell? ⟨g, j, none⟩ = some (.pointer (some ⟨p j, 0, none⟩)) := by
  rw [h.cellAt j (by omega)]
  unfold zrow
  simp [hj]
theorem z_find_yes {B : Nat} {w : World} {X n : Nat} {p : Nat → Nat} {z : Nat → ByteArray} {hd : Nat → Bool} (h : Rz B w X n p z hd) (hn : n ≤ 1099511627776 * 1024) (s : ByteArray) (j : Nat) (hj : j < n) (he : z j = s) (hne : ∀ i, i < j → z i ≠ s) :
    Calls Try.prog 42 #[.pointer (some ⟨X, 0, none⟩), .string s] w fun e w' => e = .returned (.pointer (some ⟨p j, 0, none⟩)) ∧ w' = w := by
  obtain ⟨v, ck, hX, hrow⟩ := h.cel
  have hnn : v ≠ .slice none 0 0 := by
    rintro rfl
    rcases hrow.2 with ⟨_, h0⟩ | ⟨g, cap, cur, h1, _⟩
    · omega
    · cases h1
  rcases own_form hrow hnn with ⟨g, cap, rfl, _, _, hnc, hcm⟩
  have c0 : w.cell? ⟨X, 0, none⟩ = some (.slice (some ⟨g, 0, none⟩) n cap) := by rw [cells_at hX 0]; rfl
  have HR : Hid (∀ i, i < n → w.cell? ⟨g, i, none⟩ = some (.pointer (some ⟨p i, 0, none⟩)) ∧ w.cell? ⟨p i, 0, none⟩ = some (.string (z i))) := fun i hi => by
    obtain ⟨b, hb⟩ := h.slo i hi
    exact ⟨row_cell hrow i hi, by rw [cells_at hb 0]; rfl⟩
  have HNE : Hid (∀ i, i < j → z i ≠ s) := hne
  clear h hrow hX hne
  go_enter Try.func42, Try.ntmps42
  go_wp2
  go_loopw [13] (fun t wr => ∃ k : Nat, k ≤ j ∧ t = .int .i64 (k : Int) ∧ wr = w) (fun k _ => n - (intOf k).toNat)
  case atStart => exact ⟨0, Nat.zero_le _, rfl, rfl⟩
  case round =>
    obtain ⟨k, hk, rfl, rfl⟩ := hrel
    obtain ⟨c1, c2⟩ := HR.out k (by omega)
    have l1 : (k : Int) < (n : Int) := by omega
    have l2 : (0 : Int) ≤ (k : Int) := by omega
    by_cases e : k = j
    · subst e
      rw [he] at c2
      have hq : (s.toList == s.toList) = true := by simp
      clear he
      go_wp2
      go_ret
      exact ⟨rfl, rfl⟩
    · have hq := str_ne (HNE.out k (by omega))
      have hlt : k < j := by omega
      clear e
      go_wp2
      go_roundw
      case rel => exact ⟨k + 1, by omega, by go_num, trivial⟩
      case measure => simp [intOf]; omega
theorem infoZ : (Try.prog.info? 92).map (fun i => (i.zero, i.size, i.bytes)) = some (some (.pointer none), 1, 8) := by kernel_rfl
theorem zrow_succ (p : Nat → Nat) (n q : Nat) : zrow (fun j => if j < n then p j else q) (n + 1) = zrow p n ++ [.pointer (some ⟨q, 0, none⟩)] := by
  unfold zrow
  simp only [List.range_succ, List.map_append, List.map_singleton, Nat.lt_irrefl, if_false]
  congr 1
  apply List.map_congr_left
  intro j hj
  rw [if_pos (List.mem_range.1 hj)]
theorem z_find_no {B : Nat} {w : World} {X n : Nat} {p : Nat → Nat} {z : Nat → ByteArray} {hd : Nat → Bool} (h : Rz B w X n p z hd) (hB : B ≤ w.heap.size) (hn : n < 4398046511104) (s : ByteArray) (hne : ∀ i, i < n → z i ≠ s) :
    Calls Try.prog 42 #[.pointer (some ⟨X, 0, none⟩), .string s] w fun e w' => ∃ q, e = .returned (.pointer (some ⟨q, 0, none⟩)) ∧ Hid (Rz B w' X (n + 1) (fun j => if j < n then p j else q) (fun j => if j < n then z j else s) (fun j => if j < n then hd j else false) ∧ Below B w w' ∧ w.heap.size ≤ q ∧ ∀ b cs t, w.heap[b]? = some (.cells cs t (0, 0)) → t ≠ 92 → b ≠ X → w'.heap[b]? = some (.cells cs t (0, 0))) := by
  obtain ⟨i0, hi0, hz0, hz1, hz2⟩ := info_parts infoZ
  obtain ⟨v, ck, hX, hrow⟩ := h.cel
  obtain ⟨a, cap, rfl⟩ : ∃ a c, v = .slice a n c := by
    rcases hrow.2 with ⟨rfl, h0⟩ | ⟨g, cap, cur, rfl, _⟩
    · rw [h0]; exact ⟨_, _, rfl⟩
    · exact ⟨_, _, rfl⟩
  have c0 : w.cell? ⟨X, 0, none⟩ = some (.slice a n cap) := by rw [cells_at hX 0]; rfl
  have hXl : X < w.heap.size := (Array.getElem?_eq_some_iff.1 hX).1
  have HR : Hid (∀ i, i < n → ∃ g, a = some ⟨g, 0, none⟩ ∧ w.cell? ⟨g, i, none⟩ = some (.pointer (some ⟨p i, 0, none⟩)) ∧ w.cell? ⟨p i, 0, none⟩ = some (.string (z i))) := fun i hi => by
    obtain ⟨b, hb⟩ := h.slo i hi
    rcases hrow.2 with ⟨_, h0⟩ | ⟨g, cap', cur, h1, _⟩
    · omega
    · injection h1 with h1 h2 h3
      subst h1 h3
      exact ⟨g, rfl, row_cell hrow i hi, by rw [cells_at hb 0]; rfl⟩
  have HNE : Hid (∀ i, i < n → z i ≠ s) := hne
  obtain ⟨w1, hw1⟩ : ∃ w1, w1 = w.alloc (.cells #[.string s, .int .i64 0, .slice none 0 0, .pointer none, .bool false] 96) := ⟨_, rfl⟩
  obtain ⟨w2, hw2⟩ : ∃ w2, w2 = w1.alloc (.cells #[.pointer (some ⟨w.heap.size, 0, none⟩)] 92) := ⟨_, rfl⟩
  have hs1 : w1.heap.size = w.heap.size + 1 := by rw [hw1]; simp
  have hs2 : w2.heap.size = w.heap.size + 2 := by rw [hw2]; simp [hs1]
  have hB1 : Below w.heap.size w w1 := by rw [hw1]; exact (Below.refl _ w).alloc (Nat.le_refl _) _
  have hB2 : Below w1.heap.size w1 w2 := by rw [hw2]; exact (Below.refl _ w1).alloc (Nat.le_refl _) _
  have hBw2 : Below w.heap.size w w2 := hB1.trans (hB2.mono hB1.size)
  have hq1 : w1.heap[w.heap.size]? = some (.cells #[.string s, .int .i64 0, .slice none 0 0, .pointer none, .bool false] 96 (0, 0)) := by rw [hw1]; exact World.alloc_heap_new w _
  have hq2 := (hB2.block _ (by omega)).trans hq1
  have c01 : w1.cell? ⟨X, 0, none⟩ = some (.slice a n cap) := by rw [cells_at ((hB1.block _ hXl).trans hX) 0]; rfl
  have hrow2 : w2.ownsRow B 92 1 (.slice a n cap) n (zrow p n) := (Part.ofBelow (F := fun _ => False) hBw2).row hrow (fun _ _ h => h)
  have hcel : ∀ j u, [Value.pointer (some ⟨w.heap.size, 0, none⟩)][j]? = some u → w2.cell? ((⟨w1.heap.size, 0, none⟩ : Addr).add j) = some u := by rw [hw2]; exact cell_one_new _ _ _
  have HE : ∀ v' w3, w3.ownsRow B 92 1 v' (n + 1) (zrow p n ++ [.pointer (some ⟨w.heap.size, 0, none⟩)]) → w2.grownBy w3 (Value.slice a n cap).ownBlock → ∃ a' c', v' = .slice a' (n + 1) c' ∧ w3.cell? ⟨X, 0, none⟩ = some (.slice a n cap) ∧ w3.frozen? ⟨X, 0, none⟩ = false ∧ Hid (Rz B (w3.setCell ⟨X, 0, none⟩ v') X (n + 1) (fun j => if j < n then p j else w.heap.size) (fun j => if j < n then z j else s) (fun j => if j < n then hd j else false) ∧ Below B w (w3.setCell ⟨X, 0, none⟩ v') ∧ ∀ b cs t, w.heap[b]? = some (.cells cs t (0, 0)) → t ≠ 92 → b ≠ X → (w3.setCell ⟨X, 0, none⟩ v').heap[b]? = some (.cells cs t (0, 0))) := by
    intro v' w3 ho hg
    have hnob : ∀ b cs t, w2.heap[b]? = some (.cells cs t (0, 0)) → t ≠ 92 → some b ≠ (Value.slice a n cap).ownBlock := fun b cs t hb ht e => by
      rcases hrow2.2 with ⟨h1, _⟩ | ⟨g, cap', cur, h1, _, h3, _⟩
      · rw [h1] at e; cases e
      · rw [h1] at e
        have e : some b = some g := e
        injection e with e
        rw [← e, hb] at h3
        injection h3 with h3
        injection h3 with _ h3
        exact ht h3
    have hX2 := (hBw2.block _ hXl).trans hX
    have hX3 := (hg.block X (by omega) (hnob X _ _ hX2 (by decide))).trans hX2
    obtain ⟨a', c', rfl⟩ : ∃ a' c', v' = .slice a' (n + 1) c' := by
      rcases ho.2 with ⟨rfl, h0⟩ | ⟨g, cap', cur, rfl, _⟩
      · omega
      · exact ⟨_, _, rfl⟩
    have hbl : ∀ g, (Value.slice a n cap).ownBlock = some g → B ≤ g := fun g hg => (hrow2.lt g hg).1
    have hB3 : Below B w w3 := (hBw2.mono hB).grown hg (by omega) (fun k e => hbl k e)
    refine ⟨a', c', rfl, by rw [cells_at hX3 0]; rfl, cells_free hX3 0, ⟨⟨_, ck, heap_set_at (i := 0) hX3 _, ?_⟩, fun j hj => ?_, h.low.1, fun j hj => ?_⟩, hB3.setCell (p := ⟨X, 0, none⟩) h.low.1 _, fun b cs t hb ht hbX => ?_⟩
    · rw [zrow_succ]
      refine row_set ho (fun e => ?_) 0 _
      rcases ho.2 with ⟨h1, _⟩ | ⟨g, cap', cur, h1, _, h3, _⟩
      · rw [h1] at e; cases e
      · rw [h1] at e
        have e : some g = some X := e
        injection e with e
        rw [e, hX3] at h3
        injection h3 with h3
        injection h3 with _ h3
        exact absurd h3 (by decide)
    · by_cases hjn : j < n
      · obtain ⟨b, hb⟩ := h.slo j hjn
        have hb2 := (hBw2.block _ (Array.getElem?_eq_some_iff.1 hb).1).trans hb
        refine ⟨b, ?_⟩
        simp only [if_pos hjn]
        refine (heap_set_other w3 (fun e => ?_) 0 _).trans ((hg.block _ (Array.getElem?_eq_some_iff.1 hb2).1 (hnob _ _ _ hb2 (by decide))).trans hb2)
        rw [e, hX] at hb
        injection hb with hb
        injection hb with _ hb
        exact absurd hb (by decide)
      · refine ⟨.slice none 0 0, ?_⟩
        simp only [if_neg hjn]
        exact (heap_set_other w3 (by omega) 0 _).trans ((hg.block _ (by omega) (hnob _ _ _ hq2 (by decide))).trans hq2)
    · by_cases hjn : j < n
      · simp only [if_pos hjn]; exact h.low.2 j hjn
      · simp only [if_neg hjn]; exact hB
    · have hb2 := (hBw2.block _ (Array.getElem?_eq_some_iff.1 hb).1).trans hb
      exact (heap_set_other w3 hbX 0 _).trans ((hg.block _ (Array.getElem?_eq_some_iff.1 hb2).1 (hnob _ _ _ hb2 ht)).trans hb2)
  rw [hs1] at hcel
  rw [hw2, hw1] at HE hrow2 hcel
  rw [hw1] at c01
  clear h hrow hX hne hw1 hw2 hB1 hB2 hBw2 hq1 hq2 hs1 hs2
  go_enter Try.func42, Try.ntmps42
  go_wp2
  go_loopw [13] (fun t wr => ∃ k : Nat, k ≤ n ∧ t = .int .i64 (k : Int) ∧ wr = w) (fun k _ => n - (intOf k).toNat)
  case atStart => exact ⟨0, Nat.zero_le _, rfl, rfl⟩
  case round =>
    obtain ⟨k, hk, rfl, rfl⟩ := hrel
    by_cases hlt : k < n
    · obtain ⟨g, rfl, c1, c2⟩ := HR.out k hlt
      have l1 : (k : Int) < (n : Int) := by omega
      have l2 : (0 : Int) ≤ (k : Int) := by omega
      have hq := str_ne (HNE.out k hlt)
      go_wp2
      go_roundw
      case rel => exact ⟨k + 1, by omega, by go_num, trivial⟩
      case measure => simp [intOf]; omega
    · obtain rfl : k = n := by omega
      clear HR HNE
      go_wp2_with (at_builtin; refine wpList_append_own_at _ rfl _ _ 89 rfl B 92 i0 (.pointer none) 1 8 Try.underlying89 hi0 hz0 hz1 hz2 rfl (by decide) _ _ _ rfl hrow2 ⟨wr.heap.size + 1, 0, none⟩ 1 1 [.pointer (some ⟨wr.heap.size, 0, none⟩)] rfl rfl hcel (by simp [Value.oneCell']) (by unfold maxLen; omega) (by omega) (by simp; omega) ?_; intro v' w3 ho3 hg3 hnil3 hat3; obtain ⟨a', c', rfl, x1, x2, HZ⟩ := HE v' w3 ho3 hg3; clear ho3 hg3 hnil3 hat3)
      go_ret
      exact ⟨_, rfl, HZ.out.1, HZ.out.2.1, Nat.le_refl _, HZ.out.2.2⟩
end Go.Proofs.Ytdackomidfofgaa
