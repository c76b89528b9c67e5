/-
  A record's size in the log.
  Rows of pointers to transactions: what a row tells, a cell that is set, a beginning; the closure of state.leave, IndexFunc, DeleteFunc of one pointer.
  A manager's state: the transactions that are open; find, Contains, locked, reserve.
-/
import Derived.Test.YthfokciijcmhbaaGreatDoorGbf
import Derived.Test.YthfokciijcmhbaaGreatDoorGas
import Derived.Lib.SliceRun
import Derived.LaidEqlPtr
namespace Go.Proofs.YthfokciijcmhbaaGreatDoor
open Go.RowKit
set_option linter.unusedVariables false

theorem strF_len (f : Nat → Int) (m : Nat) : (strF f m).size = m := by
  show (strOfNums (lst f m)).size = m
  rw [strOfNums_size, lst_length]
theorem Bs.len {B : Nat} {w : World} {a : Option Addr} {n c : Nat} {xs : List Int} (h : Bs B w (.slice a n c) xs) : n = xs.length := by
  obtain ⟨a', c', e, _⟩ := h
  injection e
set_option maxRecDepth 100000 in
set_option maxHeartbeats 2000000 in
theorem c_size1 (t p o nm : Nat) (ah be : ByteArray) (w : World) (h2 : t ≤ 1099511627776) (h3 : p ≤ 100) (h4 : o ≤ 112) (h5 : ah.size ≤ 112) (h6 : be.size ≤ 112) (h7 : nm ≤ 1099511627776) : Calls Tryz.prog 52 #[.agg #[.int .i64 1, .int .i64 (t : Int), .int .i64 (p : Int), .int .i64 (o : Int), .string ah, .string be, .int .i64 (nm : Int)]] w fun r w' => r = .returned (.int .i64 (((putB (encB 1 t p o ah be nm).length).length + (encB 1 t p o ah be nm).length : Nat) : Int)) ∧ Below w.heap.size w w' := by
  obtain ⟨xs, hxs⟩ : ∃ xs, encB 1 t p o ah be nm = xs := ⟨_, rfl⟩
  have hl := (encB_len (k := 1) (t := t) (p := p) (o := o) (ah := ah) (be := be) (nm := nm) (by decide) h2 h3 h4 h5 h6 h7).2
  rw [if_pos rfl, hxs] at hl
  obtain ⟨ob, hO⟩ : ∃ ob, Obj.cells #[.int .i64 1, .int .i64 (t : Int), .int .i64 (p : Int), .int .i64 (o : Int), .string ah, .string be, .int .i64 (nm : Int)] 114 = ob := ⟨_, rfl⟩
  obtain ⟨W0, hW⟩ : ∃ W0, w.alloc ob = W0 := ⟨_, rfl⟩
  have hb0 : Below w.heap.size w W0 := by rw [← hW]; exact (Below.refl _ w).alloc (Nat.le_refl _) ob
  have h00 : W0.heap[w.heap.size]? = some (.cells #[.int .i64 1, .int .i64 (t : Int), .int .i64 (p : Int), .int .i64 (o : Int), .string ah, .string be, .int .i64 (nm : Int)] 114 (0, 0)) := by rw [← hW, ← hO]; exact heap_alloc_at _ _ _ rfl
  have x0 : W0.cell? ⟨w.heap.size, 0, none⟩ = some (.int .i64 1) := by rw [cells_at h00 0]; rfl
  have x1 : W0.cell? ⟨w.heap.size, 1, none⟩ = some (.int .i64 (t : Int)) := by rw [cells_at h00 1]; rfl
  have x2 : W0.cell? ⟨w.heap.size, 2, none⟩ = some (.int .i64 (p : Int)) := by rw [cells_at h00 2]; rfl
  have x3 : W0.cell? ⟨w.heap.size, 3, none⟩ = some (.int .i64 (o : Int)) := by rw [cells_at h00 3]; rfl
  have x4 : W0.cell? ⟨w.heap.size, 4, none⟩ = some (.string ah) := by rw [cells_at h00 4]; rfl
  have x5 : W0.cell? ⟨w.heap.size, 5, none⟩ = some (.string be) := by rw [cells_at h00 5]; rfl
  have x6 : W0.cell? ⟨w.heap.size, 6, none⟩ = some (.int .i64 (nm : Int)) := by rw [cells_at h00 6]; rfl
  have HE : Hid (Calls Tryz.prog 84 #[.agg #[.int .i64 1, .int .i64 (t : Int), .int .i64 (p : Int), .int .i64 (o : Int), .string ah, .string be, .int .i64 (nm : Int)]] W0 fun r w' => ∃ a n c, r = .returned (.slice a n c) ∧ Below w.heap.size w w' ∧ Hid (Bs 0 w' (.slice a n c) xs)) := (c_enc1 t p o nm ah be W0 h2 h3 h4 h5 h6 h7).mono fun r w' ⟨a, n, c, hr, hb, hs⟩ => ⟨a, n, c, hr, hb0.trans (hb.mono hb0.size), by rw [← hxs]; exact hs.out.mono (Nat.zero_le _)⟩
  have HT : Hid (∀ wq, Below w.heap.size w wq → Calls Tryz.prog 83 #[.slice none 0 0, .string (strF (fn xs) xs.length)] wq fun r w' => ∃ a c, r = .returned (.slice a ((putB xs.length).length + xs.length) c) ∧ Below w.heap.size w w') := fun wq hq => (c_text (Bs.nil 0 wq) (Nat.zero_le _) (by decide) (strF (fn xs) xs.length) (by rw [strF_len]; omega)).mono fun r w' ⟨a, n, c, hr, hb, hs⟩ => by
    have hn := hs.out.len
    unfold txB at hn
    rw [List.nil_append, List.length_append, strL_length, strF_len] at hn
    subst hn
    exact ⟨a, c, hr, hq.trans (hb.mono hq.size)⟩
  have hp : (putB xs.length).length ≤ 9 := putB_le _ (by omega)
  rw [hxs]
  clear h2 h3 h4 h5 h6 h7 h00 hxs
  go_enter Tryz.func52, Tryz.ntmps52
  go_wp2_with fail
  try rw [hO]
  try rw [hW]
  refine HE.out.mono ?_
  rintro r w1 ⟨a, n, c, rfl, hb1, hs⟩
  obtain rfl : n = xs.length := hs.out.len
  have hf : From w1 a xs.length (fn xs) := by
    obtain ⟨a', c', e, hf, _⟩ := hs.out
    injection e with e1
    subst e1
    exact hf
  have hcv := conv_from c hf
  clear x0 x1 x2 x3 x4 x5 x6 hf
  go_wp2_with fail
  refine (HT.out w1 hb1).mono ?_
  rintro r w2 ⟨a2, c2, rfl, hb2⟩
  clear hcv HT HE hs
  go_wp2
  go_ret
  exact ⟨rfl, hb2⟩
end Go.Proofs.YthfokciijcmhbaaGreatDoor

namespace Go.Proofs.YthfokciijcmhbaaGreatDoor
open Go.RowKit
set_option linter.unusedVariables false

namespace Tx
/-- A row of n pointers of the call's own. -/
def Rw (B0 : Nat) (w : World) (v : Value) (n : Nat) (f : Nat → Nat) : Prop := w.ownsRow B0 92 1 v n (rowL f n)
variable {B0 : Nat}
theorem Rw.ext {w : World} {v : Value} {n : Nat} {f g : Nat → Nat} (h : Rw B0 w v n f) (e : ∀ i, i < n → f i = g i) : Rw B0 w v n g := by
  unfold Rw at *
  rw [← rowL_ext e]; exact h
theorem Rw.open {w : World} {v : Value} {n : Nat} {f : Nat → Nat} (h : Rw B0 w v n f) : (v = .slice none 0 0 ∧ n = 0) ∨ ∃ g c cur, v = .slice (some ⟨g, 0, none⟩) n c ∧ w.heap[g]? = some (.cells cur 92 (0, 0)) ∧ cur.size = c ∧ n ≤ c ∧ c ≤ 9223372036854775807 ∧ ∀ j, j < n → cur[j]? = some (ptr (f j)) := by
  rcases h.2 with ⟨h1, h2⟩ | ⟨g, cap, cur, h1, h2, h3, h4, h5, h6, h7⟩
  · exact .inl ⟨h1, h2⟩
  · refine .inr ⟨g, cap, cur, h1, h3, by rw [h6, Nat.mul_one], h4, h5, fun j hj => ?_⟩
    have h8 := congrArg (fun l : List Value => l[j]?) h7
    simp only [Nat.mul_one, List.getElem?_take, if_pos hj] at h8
    rw [rowL_get f n j hj] at h8
    simpa using h8
theorem Rw.low {w : World} {g n c : Nat} {f : Nat → Nat} (h : Rw B0 w (.slice (some ⟨g, 0, none⟩) n c) n f) : B0 ≤ g := by
  rcases h.2 with ⟨h1, _⟩ | ⟨g', cap, cur, h1, h2, _⟩
  · cases h1
  · cases h1; exact h2
theorem Rw.mk {w : World} {g n c : Nat} {f : Nat → Nat} {cur : Array Value} (h0 : B0 ≤ g) (h1 : w.heap[g]? = some (.cells cur 92 (0, 0))) (h2 : cur.size = c) (h3 : n ≤ c) (h4 : c ≤ 9223372036854775807) (h5 : ∀ j, j < n → cur[j]? = some (ptr (f j))) : Rw B0 w (.slice (some ⟨g, 0, none⟩) n c) n f := by
  refine ⟨by rw [rowL_length, Nat.mul_one], .inr ⟨g, c, cur, rfl, h0, h1, h3, h4, by rw [h2, Nat.mul_one], ?_⟩⟩
  apply List.ext_getElem?
  intro i
  simp only [Nat.mul_one, List.getElem?_take]
  by_cases hi : i < n
  · rw [if_pos hi, rowL_get f n i hi]
    simpa using h5 i hi
  · rw [if_neg hi, List.getElem?_eq_none (by rw [rowL_length]; omega)]
theorem Rw.set {w : World} {g n c : Nat} {f : Nat → Nat} (h : Rw B0 w (.slice (some ⟨g, 0, none⟩) n c) n f) (j : Nat) (hj : j < n) (x : Nat) : Rw B0 (w.setCell ⟨g, j, none⟩ (ptr x)) (.slice (some ⟨g, 0, none⟩) n c) n (fun i => if i = j then x else f i) := by
  rcases h.open with ⟨h1, _⟩ | ⟨g', c', cur, h1, h2, h3, h4, h5, h6⟩
  · cases h1
  · cases h1
    refine Rw.mk h.low (heap_setCell_same w g j cur 92 _ h2) (by simpa using h3) h4 h5 (fun i hi => ?_)
    by_cases e : i = j
    · subst e
      rw [if_pos rfl]
      have : i < cur.size := by omega
      simp [this]
    · rw [if_neg e, Array.getElem?_setIfInBounds_ne (Ne.symm e)]
      exact h6 i hi
/-- The row without its last pointer, which is struck. -/
theorem Rw.less {w : World} {g n c : Nat} {f : Nat → Nat} (h : Rw B0 w (.slice (some ⟨g, 0, none⟩) (n + 1) c) (n + 1) f) (u : Value) : Rw B0 (w.setCell ⟨g, n, none⟩ u) (.slice (some ⟨g, 0, none⟩) n c) n f := by
  rcases h.open with ⟨h1, _⟩ | ⟨g', c', cur, h1, h2, h3, h4, h5, h6⟩
  · cases h1
  · cases h1
    refine Rw.mk h.low (heap_setCell_same w g n cur 92 _ h2) (by simpa using h3) (by omega) h5 (fun i hi => ?_)
    rw [Array.getElem?_setIfInBounds_ne (by omega)]
    exact h6 i (by omega)
theorem Rw.cell {w : World} {g n c : Nat} {f : Nat → Nat} (h : Rw B0 w (.slice (some ⟨g, 0, none⟩) n c) n f) (j : Nat) (hj : j < n) : w.cell? ⟨g, j, none⟩ = some (ptr (f j)) ∧ w.frozen? ⟨g, j, none⟩ = false := by
  rcases h.open with ⟨h1, _⟩ | ⟨g', c', cur, h1, h2, h3, h4, h5, h6⟩
  · cases h1
  · cases h1
    exact ⟨by rw [cells_at h2 j]; exact h6 j hj, cells_free h2 j⟩

theorem infoBuf : (Tryz.prog.info? 95).map (fun i => (i.zero, i.size, i.bytes)) = some (some (.agg #[.int .i64 0, .slice none 0 0, .slice none 0 0]), 3, 56) := by kernel_rfl
/-- A transaction's block. -/
def IsB (w : World) (b : Nat) : Prop := ∃ cs, w.heap[b]? = some (.cells cs 95 (0, 0))
theorem eql_buf {w : World} {x q : Nat} (hx : IsB w x) (hq : IsB w q) : (binOp .eql 92 (.pointer (some ⟨x, 0, none⟩)) (.pointer (some ⟨q, 0, none⟩))).run Tryz.prog w = .ok (.bool (decide (x = q))) w := by
  obtain ⟨j, hj, _, hs, _⟩ := info_parts infoBuf
  obtain ⟨cx, hx⟩ := hx
  obtain ⟨cq, hq⟩ := hq
  by_cases e : x = q
  · subst e
    rw [decide_eq_true rfl]
    exact run_eql_ptr_same w _ Tryz.underlying92 hj
  · rw [decide_eq_false e]
    exact run_eql_ptr_other w Tryz.underlying92 hj (by rw [hs]; decide) (fun h => e (by injection h)) hx hq
set_option maxRecDepth 100000 in
/-- The closure of leave: is it that transaction? -/
theorem c_drop (x q B : Nat) (w : World) (hB : w.cell? ⟨B, 0, none⟩ = some (ptr q)) (hx : IsB w x) (hq : IsB w q) : Calls Tryz.prog 88 #[ptr x, .pointer (some ⟨B, 0, none⟩)] w fun r w' => r = .returned (.bool (decide (x = q))) ∧ w' = w := by
  have heq := eql_buf hx hq
  unfold ptr at *
  generalize decide (x = q) = d at *
  clear hx hq
  go_enter Tryz.func88, Tryz.ntmps88
  go_wp2
  go_ret
  exact ⟨rfl, rfl⟩
set_option maxRecDepth 100000 in
set_option maxHeartbeats 2000000 in
theorem c_index {w : World} {v : Value} {n : Nat} {f : Nat → Nat} (h : Rw B0 w v n f) (hn : n ≤ 1000) (q B : Nat) (hB : w.cell? ⟨B, 0, none⟩ = some (ptr q)) (hf : ∀ j, j < n → IsB w (f j)) (hq : IsB w q) :
    Calls Tryz.prog 125 #[v, .func (.func 88) #[] #[.pointer (some ⟨B, 0, none⟩)]] w fun r w' => ∃ z, r = .returned (.int .i64 z) ∧ Ix f n q z ∧ w' = w := by
  have HC : Hid (∀ j, j < n → Calls Tryz.prog 88 #[ptr (f j), .pointer (some ⟨B, 0, none⟩)] w fun r w' => r = .returned (.bool (decide (f j = q))) ∧ w' = w) := fun j hj => c_drop (f j) q B w hB (hf j hj) hq
  clear hB hf hq
  rcases h.open with ⟨rfl, rfl⟩ | ⟨g, c, cur, rfl, h2, h3, h4, h5, h6⟩
  · go_enter Tryz.func125, Tryz.ntmps125
    go_wp2
    go_loopw [8] (fun s8 wr => s8 = .int .i64 0 ∧ wr = w) (fun _ _ => 0)
    case atStart => exact ⟨rfl, rfl⟩
    case round =>
      obtain ⟨rfl, rfl⟩ := hrel
      go_wp2
      go_ret
      exact ⟨-1, rfl, .inr ⟨rfl, fun j hj => absurd hj (by omega)⟩, rfl⟩
  · have HR : Hid (∀ j, j < n → w.cell? ⟨g, j, none⟩ = some (ptr (f j))) := fun j hj => (h.cell j hj).1
    clear h h2 h3 h6
    go_enter Tryz.func125, Tryz.ntmps125
    go_wp2
    go_loopw [8] (fun s8 wr => ∃ k : Nat, k ≤ n ∧ s8 = .int .i64 (k : Int) ∧ Hid (∀ j, j < k → f j ≠ q) ∧ wr = w) (fun k _ => n - (intOf k).toNat)
    case atStart => exact ⟨0, Nat.zero_le _, rfl, fun j hj => absurd hj (by omega), rfl⟩
    case round =>
      obtain ⟨k, hk, rfl, HJ, rfl⟩ := hrel
      by_cases hlt : k < n
      · have hc := HR.out k hlt
        have hcall : Hid (Calls Tryz.prog 88 #[ptr (f k), .pointer (some ⟨B, 0, none⟩)] wr fun r w' => r = .returned (.bool (decide (f k = q))) ∧ w' = wr) := HC.out k hlt
        have l1 : (k : Int) < (n : Int) := by omega
        have l2 : (0 : Int) ≤ (k : Int) := by omega
        have l3 : decide ((k : Int) < (n : Int)) = true := decide_eq_true l1
        unfold ptr at hc hcall
        by_cases he : f k = q
        · rw [decide_eq_true he] at hcall
          have HF : Hid (Ix f n q (k : Int)) := .inl ⟨k, hlt, rfl, he, HJ.out⟩
          clear he
          go_wp2_with fail
          refine hcall.out.mono ?_
          rintro r w1 ⟨rfl, hw⟩
          obtain rfl := hw.symm
          clear hw
          go_wp2
          go_ret
          exact ⟨_, rfl, HF.out, rfl⟩
        · rw [decide_eq_false he] at hcall
          have HF : Hid (∀ j, j < k + 1 → f j ≠ q) := fun j hj => by
            by_cases h : j < k
            · exact HJ.out j h
            · obtain rfl : j = k := by omega
              exact he
          go_wp2_with fail
          refine hcall.out.mono ?_
          rintro r w1 ⟨rfl, hw⟩
          obtain rfl := hw.symm
          clear hw
          go_wp2
          go_roundw
          case rel => exact ⟨k + 1, by omega, by go_num, HF, trivial⟩
          case measure => simp [intOf]; omega
      · obtain rfl : k = n := by omega
        go_wp2
        go_ret
        exact ⟨-1, rfl, .inr ⟨rfl, HJ.out⟩, rfl⟩
theorem zeroP (w : World) : (zeroValue 92).run Tryz.prog w = .ok (.pointer none) w := by kernel_rfl
/-- clear of a row's last pointer. -/
theorem run_clear_one {W : World} {g o c : Nat} {cur : Array Value} (hg : W.heap[g]? = some (.cells cur 92 (0, 0))) (hs : o < cur.size) (ty : TypeId) : (Builtin.clear_ #[86] ty #[.slice (some ⟨g, o, none⟩) 1 c]).run Tryz.prog W = .ok (.tuple #[]) (W.setCell ⟨g, o, none⟩ (.pointer none)) := by
  have hst := run_storeCells_cells (P := Tryz.prog) g o [.pointer none] 0 W (fun j hj => by
    have : j = 0 := by simpa using hj
    subst this
    rw [cells_at hg]
    simp
    omega) (fun j _ => cells_free hg _) (fun v hv => by simp at hv; rw [hv]; rfl)
  have hz : (Builtin.zeroCells (Value.pointer none).cells 1).toList = [.pointer none] := by simp [Builtin.zeroCells, Value.cells]
  simp only [Nat.add_zero] at hst
  have he : W.setCells g o [.pointer none] = W.setCell ⟨g, o, none⟩ (.pointer none) := rfl
  rw [he] at hst
  simp [Builtin.clear_, hz, hst]
set_option maxRecDepth 100000 in
set_option maxHeartbeats 4000000 in
theorem c_delete {w : World} {g n c : Nat} {f : Nat → Nat} (h : Rw B0 w (.slice (some ⟨g, 0, none⟩) n c) n f) (hn : n ≤ 1000) (q B k : Nat) (hk : k < n) (hfk : f k = q) (hap : ∀ i j, i < n → j < n → f i = f j → i = j) (hB : w.cell? ⟨B, 0, none⟩ = some (ptr q)) (hBg : B ≠ g) (hf : ∀ j, j < n → IsB w (f j)) :
    Calls Tryz.prog 87 #[.slice (some ⟨g, 0, none⟩) n c, .func (.func 88) #[] #[.pointer (some ⟨B, 0, none⟩)]] w fun r w' => r = .returned (.slice (some ⟨g, 0, none⟩) (n - 1) c) ∧ Hid (Rw B0 w' (.slice (some ⟨g, 0, none⟩) (n - 1) c) (n - 1) (dropAt f k) ∧ Part (fun b => b = g) w w') := by
  have hbg : ∀ j, j < n → f j ≠ g := fun j hj e => by
    obtain ⟨cs, hcs⟩ := hf j hj
    rcases h.open with ⟨h1, _⟩ | ⟨g', c', cur, h1, h2, _⟩
    · cases h1
    · cases h1
      rw [e, h2] at hcs
      have : 92 = 95 := by injection hcs with hcs; injection hcs
      omega
  have HI : Hid (Calls Tryz.prog 125 #[.slice (some ⟨g, 0, none⟩) n c, .func (.func 88) #[] #[.pointer (some ⟨B, 0, none⟩)]] w fun r w' => r = .returned (.int .i64 (k : Int)) ∧ w' = w) := (c_index h hn q B hB hf (hfk ▸ hf k hk)).mono fun r w' ⟨z, hr, hx, hw⟩ => by
    rcases hx with ⟨k', hk', rfl, e, _⟩ | ⟨_, e⟩
    · obtain rfl : k' = k := hap _ _ hk' hk (by rw [e, hfk])
      exact ⟨hr, hw⟩
    · exact absurd hfk (e k hk)
  -- a round's call
  have HC : Hid (∀ wr j, k < j → j < n → Part (fun b => b = g) w wr → Calls Tryz.prog 88 #[ptr (f j), .pointer (some ⟨B, 0, none⟩)] wr fun r w' => r = .returned (.bool false) ∧ w' = wr) := fun wr j h1 h2 hp => by
    have hb : ∀ i, i < n → IsB wr (f i) := fun i hi => by
      obtain ⟨cs, hcs⟩ := hf i hi
      exact ⟨cs, (hp.block _ (Array.getElem?_eq_some_iff.1 hcs).1 (hbg i hi)).trans hcs⟩
    have := c_drop (f j) q B wr (hp.cell (p := ⟨B, 0, none⟩) hBg hB) (hb j h2) (hfk ▸ hb k hk)
    rw [decide_eq_false (fun e => by have := hap j k h2 hk (by rw [e, hfk]); omega)] at this
    exact this
  have HS : Hid (∀ wr j, k < j → j < n → Rw B0 wr (.slice (some ⟨g, 0, none⟩) n c) n (shiftAt f k (j - 1)) → wr.cell? ⟨g, j, none⟩ = some (ptr (f j)) ∧ (∃ u, wr.cell? ⟨g, j - 1, none⟩ = some u) ∧ wr.frozen? ⟨g, j - 1, none⟩ = false ∧ Hid (Rw B0 (wr.setCell ⟨g, j - 1, none⟩ (ptr (f j))) (.slice (some ⟨g, 0, none⟩) n c) n (shiftAt f k j))) := fun wr j h1 h2 hr => by
    refine ⟨?_, ⟨_, (hr.cell (j - 1) (by omega)).1⟩, (hr.cell (j - 1) (by omega)).2, ?_⟩
    · have := (hr.cell j h2).1
      rw [show shiftAt f k (j - 1) j = f j by unfold shiftAt; rw [if_neg (by omega)]] at this
      exact this
    · refine (hr.set (j - 1) (by omega) (f j)).ext (fun i hi => ?_)
      unfold shiftAt
      by_cases e : i = j - 1
      · subst e
        rw [if_pos rfl, if_pos (by omega), show j - 1 + 1 = j by omega]
      · rw [if_neg e]
        by_cases e2 : k ≤ i ∧ i < j - 1
        · rw [if_pos e2, if_pos (by omega)]
        · rw [if_neg e2, if_neg (by omega)]
  have HL : Hid (∀ wr, Rw B0 wr (.slice (some ⟨g, 0, none⟩) n c) n (shiftAt f k (n - 1)) → Part (fun b => b = g) w wr → (∀ ty, (Builtin.clear_ #[86] ty #[.slice (some ⟨g, n - 1, none⟩) 1 (c - (n - 1))]).run Tryz.prog wr = .ok (.tuple #[]) (wr.setCell ⟨g, n - 1, none⟩ (.pointer none))) ∧ Hid (Rw B0 (wr.setCell ⟨g, n - 1, none⟩ (.pointer none)) (.slice (some ⟨g, 0, none⟩) (n - 1) c) (n - 1) (dropAt f k) ∧ Part (fun b => b = g) w (wr.setCell ⟨g, n - 1, none⟩ (.pointer none)))) := fun wr hr hp => by
    rcases hr.open with ⟨h1, _⟩ | ⟨g', c', cur, h1, h2, h3, h4, h5, h6⟩
    · cases h1
    · cases h1
      obtain ⟨m, rfl⟩ : ∃ m, n = m + 1 := ⟨n - 1, by omega⟩
      refine ⟨fun ty => run_clear_one h2 (by omega) ty, (hr.less _).ext (fun i hi => ?_), hp.setCell (p := ⟨g, m + 1 - 1, none⟩) (fun _ => rfl) _⟩
      unfold shiftAt dropAt
      by_cases e : i < k
      · rw [if_pos e, if_neg (by omega)]
      · rw [if_neg e, if_pos (by have hi : i < m := hi; omega)]
  have hc : n ≤ c ∧ c ≤ 9223372036854775807 := by
    rcases h.open with ⟨h1, _⟩ | ⟨g', c', cur, h1, h2, h3, h4, h5, h6⟩
    · cases h1
    · cases h1; exact ⟨h4, h5⟩
  have h0 : Hid (Rw B0 w (.slice (some ⟨g, 0, none⟩) n c) n (shiftAt f k k)) := h.ext (fun i hi => by unfold shiftAt; rw [if_neg (by omega)])
  clear h hap hB hf hbg hfk
  go_enter Tryz.func87, Tryz.ntmps87
  go_wp2_with fail
  refine HI.out.mono ?_
  rintro r w1 ⟨rfl, hw⟩
  obtain rfl : w = w1 := hw.symm
  clear hw HI
  have d0 : ((k : Int) == -1) = false := by simp
  have hk' : (k : Int) ≤ 1000 := by omega
  go_wp2
  go_loopw [5, 6] (fun s5 s6 wr => ∃ j : Nat, k < j ∧ j ≤ n ∧ s5 = .int .i64 ((j - 1 : Nat) : Int) ∧ s6 = .int .i64 (j : Int) ∧ Hid (Rw B0 wr (.slice (some ⟨g, 0, none⟩) n c) n (shiftAt f k (j - 1)) ∧ Part (fun b => b = g) w wr)) (fun _ s _ => n - (intOf s).toNat)
  case atStart => exact ⟨k + 1, Nat.lt_succ_self k, hk, rfl, rfl, h0.out, Part.refl _ _⟩
  case round =>
    obtain ⟨j, hkj, hjn, rfl, rfl, HE⟩ := hrel
    by_cases hlt : j < n
    · obtain ⟨x1, ⟨u, x2⟩, x3, HN⟩ := HS.out wr j hkj hlt HE.out.1
      have hcall : Hid (Calls Tryz.prog 88 #[ptr (f j), .pointer (some ⟨B, 0, none⟩)] wr fun r w' => r = .returned (.bool false) ∧ w' = wr) := HC.out wr j hkj hlt HE.out.2
      have HP : Hid (Part (fun b => b = g) w (wr.setCell ⟨g, j - 1, none⟩ (ptr (f j)))) := HE.out.2.setCell (p := ⟨g, j - 1, none⟩) (fun _ => rfl) _
      obtain ⟨i, hi⟩ : ∃ i, j - 1 = i := ⟨_, rfl⟩
      obtain rfl : j = i + 1 := by omega
      simp only [Nat.add_sub_cancel] at x2 x3 HN HP ⊢
      have l1 : ((i : Int) + 1) < (n : Int) := by omega
      have l2 : (0 : Int) ≤ (i : Int) := by omega
      have l3 : decide ((i : Int) + 1 < (n : Int)) = true := decide_eq_true l1
      have l4 : (i : Int) < (n : Int) := by omega
      have l5 : (i : Int) ≤ 1000 := by omega
      unfold ptr at x1 hcall HN HP
      clear HS HC HL h0 hi
      go_wp2_with fail
      refine hcall.out.mono ?_
      rintro r w1 ⟨rfl, hw⟩
      obtain rfl := hw.symm
      clear hw hcall
      go_wp2
      go_roundw
      case rel => exact ⟨i + 2, by omega, by omega, by go_num, by go_num, HN.out, HP.out⟩
      case measure => simp [intOf]; omega
    · obtain rfl : j = n := by omega
      obtain ⟨y1, HN⟩ := HL.out wr HE.out.1 HE.out.2
      obtain ⟨m, hm⟩ : ∃ m, j = m + 1 := ⟨j - 1, by omega⟩
      subst hm
      simp only [Nat.add_sub_cancel] at y1 HN ⊢
      have l1 : (0 : Int) ≤ (m : Int) := by omega
      have l2 : (m : Int) ≤ ((m + 1 : Nat) : Int) := by omega
      have l3 : (m : Int) ≤ 1000 := by omega
      have l4 : (m : Int) ≤ (c : Int) := by omega
      clear HS HC HL h0
      go_wp2
      go_ret
      exact ⟨rfl, HN⟩
end Tx
end Go.Proofs.YthfokciijcmhbaaGreatDoor

namespace Go.Proofs.YthfokciijcmhbaaGreatDoor
open Go.RowKit
set_option linter.unusedVariables false

/-- An update that is not taken back. -/
structure Up where
  num : Nat
  pg : Nat
  off : Nat
  ah : ByteArray
  be : ByteArray
def upL (no : Nat) (u : Up) : List Value := [.int .i64 (u.num : Int), .int .i64 1, .int .i64 (no : Int), .int .i64 (u.pg : Int), .int .i64 (u.off : Int), .string u.ah, .string u.be, .int .i64 0]
/-- A transaction that is open: its block, number, the pages that it changed, its updates. -/
structure Tr where
  b : Nat
  no : Nat
  pv : Value
  ps : List Nat
  uv : Value
  us : List Up
def psL (l : List Nat) : List Value := l.map (fun (p : Nat) => Value.int .i64 (p : Int))
def usL (no : Nat) (l : List Up) : List Value := (l.map (upL no)).flatten
def trO (x : Tr) : Obj := .cells #[.int .i64 (x.no : Int), x.pv, x.uv] 95
def mgO (g : Int) (S L la : Nat) (ov : Value) : Obj := .cells #[.int .i32 g, .int .u32 0, .pointer (some ⟨S + 1, 0, none⟩), .pointer (some ⟨L, 0, none⟩), .int .i64 6, .int .i64 (la : Int), ov] 88
/-- A block of the manager's: none of the pool's, of these types. -/
def Ours (B0 : Nat) (P : Nat → Prop) (w : World) (b : Nat) : Prop := B0 ≤ b ∧ ¬ P b ∧ ∃ cs t, w.heap[b]? = some (.cells cs t (0, 0)) ∧ (t = 88 ∨ t = 95 ∨ t = 92 ∨ t = 3 ∨ t = 163)
/-- The manager's state in memory: N transactions. -/
structure Mt (B0 : Nat) (P : Nat → Prop) (w : World) (Z S L : Nat) (g : Int) (la N : Nat) (T : Nat → Tr) : Prop where
  lay : ∃ ov, w.heap[Z]? = some (mgO g S L la ov) ∧ Tx.Rw B0 w ov N (fun j => (T j).b) ∧ ∀ b, ov.ownBlock = some b → ¬ P b
  tr : ∀ j, j < N → w.heap[(T j).b]? = some (trO (T j))
  pr : ∀ j, j < N → w.ownsRow B0 3 1 (T j).pv (T j).ps.length (psL (T j).ps)
  ur : ∀ j, j < N → w.ownsRow B0 163 8 (T j).uv (T j).us.length (usL (T j).no (T j).us)
  ap : ∀ i j, i < N → j < N → (T i).b = (T j).b → i = j
  pp : ∀ i j b, i < N → j < N → (T i).pv.ownBlock = some b → (T j).pv.ownBlock = some b → i = j
  uu : ∀ i j b, i < N → j < N → (T i).uv.ownBlock = some b → (T j).uv.ownBlock = some b → i = j
  out : ¬ P Z ∧ (∀ j, j < N → ¬ P (T j).b) ∧ (∀ j b, j < N → (T j).pv.ownBlock = some b → ¬ P b) ∧ ∀ j b, j < N → (T j).uv.ownBlock = some b → ¬ P b
  low : B0 ≤ Z ∧ ∀ j, j < N → B0 ≤ (T j).b
  nn : N ≤ 16
  sm : ∀ j, j < N → (T j).ps.length ≤ 1000 ∧ (T j).us.length ≤ 1000 ∧ (T j).no ≤ 1099511627776
  la_ : la ≤ 1099511627776
variable {B0 : Nat} {P P' : Nat → Prop} {w w' : World} {Z S L la N : Nat} {g : Int} {T : Nat → Tr}
theorem Mt.isB (k : Mt B0 P w Z S L g la N T) (j : Nat) (hj : j < N) : Tx.IsB w (T j).b := ⟨_, k.tr j hj⟩
theorem Mt.lt (k : Mt B0 P w Z S L g la N T) : Z < w.heap.size := by
  obtain ⟨ov, h, _⟩ := k.lay
  exact (Array.getElem?_eq_some_iff.1 h).1
theorem Mt.oursZ (k : Mt B0 P w Z S L g la N T) : Ours B0 P w Z := by
  obtain ⟨ov, h, _⟩ := k.lay
  exact ⟨k.low.1, k.out.1, _, _, h, .inl rfl⟩
theorem Mt.oursT (k : Mt B0 P w Z S L g la N T) (j : Nat) (hj : j < N) : Ours B0 P w (T j).b := ⟨k.low.2 j hj, k.out.2.1 j hj, _, _, k.tr j hj, .inr (.inl rfl)⟩
theorem Mt.oursP (k : Mt B0 P w Z S L g la N T) (j b : Nat) (hj : j < N) (hb : (T j).pv.ownBlock = some b) : Ours B0 P w b := by
  obtain ⟨cur, e⟩ := row_block (k.pr j hj) hb
  exact ⟨(World.ownsRow.lt (k.pr j hj) b hb).1, k.out.2.2.1 j b hj hb, _, _, e, .inr (.inr (.inr (.inl rfl)))⟩
theorem Mt.oursU (k : Mt B0 P w Z S L g la N T) (j b : Nat) (hj : j < N) (hb : (T j).uv.ownBlock = some b) : Ours B0 P w b := by
  obtain ⟨cur, e⟩ := row_block (k.ur j hj) hb
  exact ⟨(World.ownsRow.lt (k.ur j hj) b hb).1, k.out.2.2.2 j b hj hb, _, _, e, .inr (.inr (.inr (.inr rfl)))⟩
/-- What writes none of the manager's blocks leaves it. -/
theorem Mt.part {G : Nat → Prop} (k : Mt B0 P w Z S L g la N T) (hp : Part G w w') (hG : ∀ b, Ours B0 P w b → ¬ G b) (hP : ∀ b, P' b → P b ∨ w.heap.size ≤ b) : Mt B0 P' w' Z S L g la N T := by
  obtain ⟨ov, h1, h2, h3⟩ := k.lay
  have nP : ∀ b, Ours B0 P w b → ¬ P' b := fun b hb h => by
    rcases hP b h with h | h
    · exact hb.2.1 h
    · obtain ⟨_, _, _, _, e, _⟩ := hb
      have := (Array.getElem?_eq_some_iff.1 e).1
      omega
  have oo : ∀ b, ov.ownBlock = some b → Ours B0 P w b := fun b hb => by
    obtain ⟨cur, e⟩ := row_block h2 hb
    exact ⟨(World.ownsRow.lt h2 b hb).1, h3 b hb, _, _, e, .inr (.inr (.inl rfl))⟩
  exact ⟨⟨ov, (hp.block Z k.lt (hG _ k.oursZ)).trans h1, hp.row h2 (fun b hb => hG _ (oo b hb)), fun b hb => nP _ (oo b hb)⟩, fun j hj => (hp.block _ (Array.getElem?_eq_some_iff.1 (k.tr j hj)).1 (hG _ (k.oursT j hj))).trans (k.tr j hj), fun j hj => hp.row (k.pr j hj) (fun b hb => hG _ (k.oursP j b hj hb)), fun j hj => hp.row (k.ur j hj) (fun b hb => hG _ (k.oursU j b hj hb)), k.ap, k.pp, k.uu, ⟨nP _ k.oursZ, fun j hj => nP _ (k.oursT j hj), fun j b hj hb => nP _ (k.oursP j b hj hb), fun j b hj hb => nP _ (k.oursU j b hj hb)⟩, k.low, k.nn, k.sm, k.la_⟩
theorem Mt.below (k : Mt B0 P w Z S L g la N T) (hb : Below w.heap.size w w') : Mt B0 P w' Z S L g la N T := k.part (Part.ofBelow (F := fun _ => False) hb) (fun _ _ h => h) (fun _ h => .inl h)
/-- A pool's call leaves it. -/
theorem Mt.called (k : Mt B0 P w Z S L g la N T) (hp : Part (Fw B0 P w) w w') (hP : ∀ b, P' b → P b ∨ w.heap.size ≤ b) : Mt B0 P' w' Z S L g la N T := k.part hp (fun b ⟨_, h1, cs, t, e, ht⟩ hf => by
  rcases hf with hf | ⟨_, cs', t', fz, e', ht'⟩
  · exact h1 hf
  · rw [e] at e'
    injection e' with e'
    injection e' with _ e'
    subst e'
    rcases ht with rfl | rfl | rfl | rfl | rfl <;> rcases ht' with ht' | ht' <;> exact absurd ht' (by decide)) hP
/-- The manager's cells. -/
theorem Mt.cells (k : Mt B0 P w Z S L g la N T) : ∃ a c, (w.cell? ⟨Z, 0, none⟩ = some (.int .i32 g) ∧ w.cell? ⟨Z, 2, none⟩ = some (.pointer (some ⟨S + 1, 0, none⟩)) ∧ w.cell? ⟨Z, 3, none⟩ = some (.pointer (some ⟨L, 0, none⟩)) ∧ w.cell? ⟨Z, 4, none⟩ = some (.int .i64 6) ∧ w.cell? ⟨Z, 5, none⟩ = some (.int .i64 (la : Int)) ∧ w.cell? ⟨Z, 6, none⟩ = some (.slice a N c)) ∧ Hid (Tx.Rw B0 w (.slice a N c) N (fun j => (T j).b)) ∧ Hid (∀ j, j < N → ∃ g, a = some ⟨g, 0, none⟩ ∧ w.cell? ⟨g, j, none⟩ = some (.pointer (some ⟨(T j).b, 0, none⟩))) := by
  obtain ⟨ov, h, h2, _⟩ := k.lay
  have key : ∀ a c, ov = .slice a N c → _ := fun a c e => (⟨by rw [cells_at h 0]; rfl, by rw [cells_at h 2]; rfl, by rw [cells_at h 3]; rfl, by rw [cells_at h 4]; rfl, by rw [cells_at h 5]; rfl, by rw [cells_at h 6, ← e]; rfl⟩ : w.cell? ⟨Z, 0, none⟩ = some (.int .i32 g) ∧ w.cell? ⟨Z, 2, none⟩ = some (.pointer (some ⟨S + 1, 0, none⟩)) ∧ w.cell? ⟨Z, 3, none⟩ = some (.pointer (some ⟨L, 0, none⟩)) ∧ w.cell? ⟨Z, 4, none⟩ = some (.int .i64 6) ∧ w.cell? ⟨Z, 5, none⟩ = some (.int .i64 (la : Int)) ∧ w.cell? ⟨Z, 6, none⟩ = some (.slice a N c))
  rcases h2.open with ⟨e1, e2⟩ | ⟨gg, c, cur, e1, _⟩
  · rw [e2] at key h2 ⊢
    exact ⟨none, 0, key none 0 e1, by rw [← e1]; exact h2, fun j hj => absurd hj (by omega)⟩
  · rw [e1] at h2
    exact ⟨_, c, key _ c e1, h2, fun j hj => ⟨gg, rfl, (h2.cell j hj).1⟩⟩
/-- What find tells. -/
def Ft (T : Nat → Tr) (N : Nat) (z : Int) (r : Value) : Prop := (∃ k, k < N ∧ ((T k).no : Int) = z ∧ (∀ j, j < k → ((T j).no : Int) ≠ z) ∧ r = .pointer (some ⟨(T k).b, 0, none⟩)) ∨ ((∀ j, j < N → ((T j).no : Int) ≠ z) ∧ r = .pointer none)
set_option maxRecDepth 100000 in
set_option maxHeartbeats 2000000 in
theorem m_find (k : Mt B0 P w Z S L g la N T) (z : Int) : Calls Tryz.prog 35 #[.pointer (some ⟨Z, 0, none⟩), .int .i64 z] w fun r w' => ∃ v, r = .returned v ∧ Ft T N z v ∧ w' = w := by
  obtain ⟨a, c, ⟨_, _, _, _, _, c6⟩, _, HR⟩ := k.cells
  have nn := k.nn
  have HP : Hid (∀ j, j < N → w.cell? ⟨(T j).b, 0, none⟩ = some (.int .i64 ((T j).no : Int))) := fun j hj => by rw [cells_at (k.tr j hj) 0]; rfl
  clear k
  go_enter Tryz.func35, Tryz.ntmps35
  go_wp2
  go_loopw [12] (fun s wr => ∃ k : Nat, k ≤ N ∧ s = .int .i64 (k : Int) ∧ Hid (∀ j, j < k → ((T j).no : Int) ≠ z) ∧ wr = w) (fun k _ => N - (intOf k).toNat)
  case atStart => exact ⟨0, Nat.zero_le _, rfl, fun j hj => absurd hj (by omega), rfl⟩
  case round =>
    obtain ⟨k, hk, rfl, HJ, hw⟩ := hrel
    obtain rfl : w = wr := hw.symm
    clear hw
    by_cases hlt : k < N
    · obtain ⟨gg, rfl, hc⟩ := HR.out k hlt
      have hp := HP.out k hlt
      have l1 : (k : Int) < (N : Int) := by omega
      have l2 : (0 : Int) ≤ (k : Int) := by omega
      by_cases he : ((T k).no : Int) = z
      · have HF : Hid (Ft T N z (.pointer (some ⟨(T k).b, 0, none⟩))) := .inl ⟨k, hlt, he, HJ.out, rfl⟩
        have d1 : (((T k).no : Int) == z) = true := by simpa using he
        clear he
        go_wp2
        go_ret
        exact ⟨_, rfl, HF.out, rfl⟩
      · have HF : Hid (∀ j, j < k + 1 → ((T j).no : Int) ≠ z) := fun j hj => by
          by_cases h : j < k
          · exact HJ.out j h
          · obtain rfl : j = k := by omega
            exact he
        have d1 : (((T k).no : Int) == z) = false := by simpa using he
        clear he
        go_wp2
        go_roundw
        case rel => exact ⟨k + 1, by omega, by go_num, HF, trivial⟩
        case measure => simp [intOf]; omega
    · obtain rfl : k = N := by omega
      go_wp2
      go_ret
      exact ⟨_, rfl, .inr ⟨HJ.out, rfl⟩, rfl⟩
/-- slices.Contains of a row of numbers. -/
def Ci (l : List Nat) (z : Int) : Bool := l.any (fun (p : Nat) => decide ((p : Int) = z))
set_option maxRecDepth 100000 in
set_option maxHeartbeats 2000000 in
theorem c_contains {v : Value} {l : List Nat} (h : w.ownsRow B0 3 1 v l.length (psL l)) (z : Int) (hl : l.length ≤ 1000) : Calls Tryz.prog 86 #[v, .int .i64 z] w fun r w' => r = .returned (.bool (Ci l z)) ∧ w' = w := by
  obtain ⟨n, hn⟩ : ∃ n, l.length = n := ⟨_, rfl⟩
  have HI : Hid (Calls Tryz.prog 124 #[v, .int .i64 z] w fun r w' => ∃ y : Int, r = .returned (.int .i64 y) ∧ decide (0 ≤ y) = Ci l z ∧ w' = w) := by
    obtain ⟨a, c, rfl, HR⟩ : ∃ a c, v = .slice a n c ∧ Hid (∀ j, j < n → ∃ g, a = some ⟨g, 0, none⟩ ∧ w.cell? ⟨g, j, none⟩ = some (.int .i64 ((l.getD j 0 : Nat) : Int))) := by
      rw [hn] at h
      have h0 := h
      rcases h.2 with ⟨e, e2⟩ | ⟨gg, cap, cur, e, _⟩
      · exact ⟨none, 0, by rw [e, e2], fun j hj => absurd hj (by omega)⟩
      · subst e
        refine ⟨_, cap, rfl, fun j hj => ⟨gg, rfl, ?_⟩⟩
        have := World.ownsRow.cells (g := gg) h0 rfl j (.int .i64 ((l.getD j 0 : Nat) : Int)) (by unfold psL; rw [List.getElem?_map, List.getD_eq_getElem?_getD, List.getElem?_eq_getElem (by omega)]; rfl)
        rwa [Addr.add_lit, Nat.zero_add] at this
    have hn9 : n ≤ 1000 := by omega
    have HY : Hid (∀ k, k < n → ((l.getD k 0 : Nat) : Int) = z → Ci l z = true) := fun k hk e => by
      unfold Ci
      have hk' : k < l.length := by omega
      rw [List.getD_eq_getElem?_getD, List.getElem?_eq_getElem hk'] at e
      exact List.any_eq_true.2 ⟨_, List.getElem_mem hk', by simpa using e⟩
    have HN : Hid ((∀ j, j < n → ((l.getD j 0 : Nat) : Int) ≠ z) → Ci l z = false) := fun e => by
      unfold Ci
      rw [List.any_eq_false]
      intro x hx
      obtain ⟨j, hj, rfl⟩ := List.getElem_of_mem hx
      have := e j (by omega)
      rw [List.getD_eq_getElem?_getD, List.getElem?_eq_getElem hj] at this
      simpa using this
    clear h
    go_enter Tryz.func124, Tryz.ntmps124
    go_wp2
    go_loopw [8] (fun s wr => ∃ k : Nat, k ≤ n ∧ s = .int .i64 (k : Int) ∧ Hid (∀ j, j < k → ((l.getD j 0 : Nat) : Int) ≠ z) ∧ wr = w) (fun k _ => n - (intOf k).toNat)
    case atStart => exact ⟨0, Nat.zero_le _, rfl, fun j hj => absurd hj (by omega), rfl⟩
    case round =>
      obtain ⟨k, hk, rfl, HJ, hw⟩ := hrel
      obtain rfl : w = wr := hw.symm
      clear hw
      by_cases hlt : k < n
      · obtain ⟨gg, rfl, hc⟩ := HR.out k hlt
        have HYk : Hid (((l.getD k 0 : Nat) : Int) = z → Ci l z = true) := HY.out k hlt
        have HJk : Hid (((l.getD k 0 : Nat) : Int) ≠ z → ∀ j, j < k + 1 → ((l.getD j 0 : Nat) : Int) ≠ z) := fun e j hj => by
          by_cases h : j < k
          · exact HJ.out j h
          · obtain rfl : j = k := by omega
            exact e
        generalize l.getD k 0 = x at hc HYk HJk
        have l1 : (k : Int) < (n : Int) := by omega
        have l2 : (0 : Int) ≤ (k : Int) := by omega
        by_cases he : (x : Int) = z
        · have HF : Hid (decide (0 ≤ (k : Int)) = Ci l z) := by show decide (0 ≤ (k : Int)) = Ci l z; rw [HYk.out he, decide_eq_true l2]
          have d1 : (z == (x : Int)) = true := by simpa using he.symm
          clear he
          go_wp2
          go_ret
          exact ⟨_, rfl, HF.out, rfl⟩
        · have HF := HJk.out he
          have HF2 : Hid (∀ j, j < k + 1 → ((l.getD j 0 : Nat) : Int) ≠ z) := HF
          have d1 : (z == (x : Int)) = false := by simpa using fun e => he e.symm
          clear he HF
          go_wp2
          go_roundw
          case rel => exact ⟨k + 1, by omega, by go_num, HF2, trivial⟩
          case measure => simp [intOf]; omega
      · obtain rfl : k = n := by omega
        have HF : Hid (decide ((0 : Int) ≤ -1) = Ci l z) := by show decide ((0 : Int) ≤ -1) = Ci l z; rw [HN.out HJ.out]; rfl
        go_wp2
        go_ret
        exact ⟨_, rfl, HF.out, rfl⟩
  obtain ⟨va, vc, rfl⟩ : ∃ a c, v = .slice a n c := by
    rw [hn] at h
    rcases h.2 with ⟨e, e2⟩ | ⟨gg, cap, cur, e, _⟩
    · exact ⟨none, 0, by rw [e, e2]⟩
    · exact ⟨_, cap, e⟩
  clear h
  go_enter Tryz.func86, Tryz.ntmps86
  go_wp2_with fail
  refine HI.out.mono ?_
  rintro r w1 ⟨y, rfl, hy, hw⟩
  obtain rfl : w = w1 := hw.symm
  clear hw
  go_wp2
  go_ret
  exact ⟨by rw [← hy]; rfl, rfl⟩
end Go.Proofs.YthfokciijcmhbaaGreatDoor
