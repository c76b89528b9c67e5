/-
  Rows of pointers to buffers: what a row tells, a cell that is set, a beginning; the closure of table.drop, IndexFunc, DeleteFunc of one pointer.
-/
import Derived.Test.YtnaobkpncfbnaaaGreatDoorHpM
import Derived.Lib.SliceRun
import Derived.LaidEqlPtr
namespace Go.Proofs.YtnaobkpncfbnaaaGreatDoor
open Go.RowKit
set_option linter.unusedVariables false

def ptr (b : Nat) : Value := .pointer (some ⟨b, 0, none⟩)
def rowL (f : Nat → Nat) (n : Nat) : List Value := (List.range n).map (fun j => ptr (f j))
theorem rowL_length (f : Nat → Nat) (n : Nat) : (rowL f n).length = n := by simp [rowL]
theorem rowL_get (f : Nat → Nat) (n i : Nat) (h : i < n) : (rowL f n)[i]? = some (ptr (f i)) := by simp [rowL, h]
theorem rowL_ext {f g : Nat → Nat} {n : Nat} (e : ∀ i, i < n → f i = g i) : rowL f n = rowL g n := by
  unfold rowL
  exact List.map_congr_left fun i hi => by rw [e i (List.mem_range.1 hi)]
theorem rowL_snoc (f : Nat → Nat) (n : Nat) : rowL f n ++ [ptr (f n)] = rowL f (n + 1) := by
  unfold rowL
  rw [List.range_succ, List.map_append]
  rfl
/-- A row of n pointers of the call's own. -/
def Rw (B0 : Nat) (w : World) (v : Value) (n : Nat) (f : Nat → Nat) : Prop := w.ownsRow B0 97 1 v n (rowL f n)
variable {B0 : Nat}
theorem Rw.ext {w : World} {v : Value} {n : Nat} {f g : Nat → Nat} (h : Rw B0 w v n f) (e : ∀ i, i < n → f i = g i) : Rw B0 w v n g := by
  unfold Rw at *
  rw [← rowL_ext e]; exact h
theorem Rw.open {w : World} {v : Value} {n : Nat} {f : Nat → Nat} (h : Rw B0 w v n f) : (v = .slice none 0 0 ∧ n = 0) ∨ ∃ g c cur, v = .slice (some ⟨g, 0, none⟩) n c ∧ w.heap[g]? = some (.cells cur 97 (0, 0)) ∧ cur.size = c ∧ n ≤ c ∧ c ≤ 9223372036854775807 ∧ ∀ j, j < n → cur[j]? = some (ptr (f j)) := by
  rcases h.2 with ⟨h1, h2⟩ | ⟨g, cap, cur, h1, h2, h3, h4, h5, h6, h7⟩
  · exact .inl ⟨h1, h2⟩
  · refine .inr ⟨g, cap, cur, h1, h3, by rw [h6, Nat.mul_one], h4, h5, fun j hj => ?_⟩
    have h8 := congrArg (fun l : List Value => l[j]?) h7
    simp only [Nat.mul_one, List.getElem?_take, if_pos hj] at h8
    rw [rowL_get f n j hj] at h8
    simpa using h8
theorem Rw.low {w : World} {g n c : Nat} {f : Nat → Nat} (h : Rw B0 w (.slice (some ⟨g, 0, none⟩) n c) n f) : B0 ≤ g := by
  rcases h.2 with ⟨h1, _⟩ | ⟨g', cap, cur, h1, h2, _⟩
  · cases h1
  · cases h1; exact h2
theorem Rw.mk {w : World} {g n c : Nat} {f : Nat → Nat} {cur : Array Value} (h0 : B0 ≤ g) (h1 : w.heap[g]? = some (.cells cur 97 (0, 0))) (h2 : cur.size = c) (h3 : n ≤ c) (h4 : c ≤ 9223372036854775807) (h5 : ∀ j, j < n → cur[j]? = some (ptr (f j))) : Rw B0 w (.slice (some ⟨g, 0, none⟩) n c) n f := by
  refine ⟨by rw [rowL_length, Nat.mul_one], .inr ⟨g, c, cur, rfl, h0, h1, h3, h4, by rw [h2, Nat.mul_one], ?_⟩⟩
  apply List.ext_getElem?
  intro i
  simp only [Nat.mul_one, List.getElem?_take]
  by_cases hi : i < n
  · rw [if_pos hi, rowL_get f n i hi]
    simpa using h5 i hi
  · rw [if_neg hi, List.getElem?_eq_none (by rw [rowL_length]; omega)]
theorem Rw.set {w : World} {g n c : Nat} {f : Nat → Nat} (h : Rw B0 w (.slice (some ⟨g, 0, none⟩) n c) n f) (j : Nat) (hj : j < n) (x : Nat) : Rw B0 (w.setCell ⟨g, j, none⟩ (ptr x)) (.slice (some ⟨g, 0, none⟩) n c) n (fun i => if i = j then x else f i) := by
  rcases h.open with ⟨h1, _⟩ | ⟨g', c', cur, h1, h2, h3, h4, h5, h6⟩
  · cases h1
  · cases h1
    refine Rw.mk h.low (heap_setCell_same w g j cur 97 _ h2) (by simpa using h3) h4 h5 (fun i hi => ?_)
    by_cases e : i = j
    · subst e
      rw [if_pos rfl]
      have : i < cur.size := by omega
      simp [this]
    · rw [if_neg e, Array.getElem?_setIfInBounds_ne (Ne.symm e)]
      exact h6 i hi
/-- The row without its last pointer, which is struck. -/
theorem Rw.less {w : World} {g n c : Nat} {f : Nat → Nat} (h : Rw B0 w (.slice (some ⟨g, 0, none⟩) (n + 1) c) (n + 1) f) (u : Value) : Rw B0 (w.setCell ⟨g, n, none⟩ u) (.slice (some ⟨g, 0, none⟩) n c) n f := by
  rcases h.open with ⟨h1, _⟩ | ⟨g', c', cur, h1, h2, h3, h4, h5, h6⟩
  · cases h1
  · cases h1
    refine Rw.mk h.low (heap_setCell_same w g n cur 97 _ h2) (by simpa using h3) (by omega) h5 (fun i hi => ?_)
    rw [Array.getElem?_setIfInBounds_ne (by omega)]
    exact h6 i (by omega)
theorem Rw.cell {w : World} {g n c : Nat} {f : Nat → Nat} (h : Rw B0 w (.slice (some ⟨g, 0, none⟩) n c) n f) (j : Nat) (hj : j < n) : w.cell? ⟨g, j, none⟩ = some (ptr (f j)) ∧ w.frozen? ⟨g, j, none⟩ = false := by
  rcases h.open with ⟨h1, _⟩ | ⟨g', c', cur, h1, h2, h3, h4, h5, h6⟩
  · cases h1
  · cases h1
    exact ⟨by rw [cells_at h2 j]; exact h6 j hj, cells_free h2 j⟩
theorem ptr_eq (a b : Nat) : (ptr a = ptr b) ↔ a = b := ⟨fun h => by unfold ptr at h; injection h with h; injection h with h; injection h, fun h => by rw [h]⟩

theorem infoBuf : (Tryz.prog.info? 111).map (fun i => (i.zero, i.size, i.bytes)) = some (some (.agg #[.int .i64 0, .int .i64 0, .slice none 0 0, .int .i64 0, .int .i64 0]), 5, 56) := by kernel_rfl
/-- A buffer's block. -/
def IsB (w : World) (b : Nat) : Prop := ∃ cs, w.heap[b]? = some (.cells cs 111 (0, 0))
theorem eql_buf {w : World} {x q : Nat} (hx : IsB w x) (hq : IsB w q) : (binOp .eql 97 (.pointer (some ⟨x, 0, none⟩)) (.pointer (some ⟨q, 0, none⟩))).run Tryz.prog w = .ok (.bool (decide (x = q))) w := by
  obtain ⟨j, hj, _, hs, _⟩ := info_parts infoBuf
  obtain ⟨cx, hx⟩ := hx
  obtain ⟨cq, hq⟩ := hq
  by_cases e : x = q
  · subst e
    rw [decide_eq_true rfl]
    exact run_eql_ptr_same w _ Tryz.underlying97 hj
  · rw [decide_eq_false e]
    exact run_eql_ptr_other w Tryz.underlying97 hj (by rw [hs]; decide) (fun h => e (by injection h)) hx hq
set_option maxRecDepth 100000 in
/-- The closure of drop: is it that buffer? -/
theorem c_drop (x q B : Nat) (w : World) (hB : w.cell? ⟨B, 0, none⟩ = some (ptr q)) (hx : IsB w x) (hq : IsB w q) : Calls Tryz.prog 133 #[ptr x, .pointer (some ⟨B, 0, none⟩)] w fun r w' => r = .returned (.bool (decide (x = q))) ∧ w' = w := by
  have heq := eql_buf hx hq
  unfold ptr at *
  generalize decide (x = q) = d at *
  clear hx hq
  go_enter Tryz.func133, Tryz.ntmps133
  go_wp2
  go_ret
  exact ⟨rfl, rfl⟩
/-- Where a pointer stands in a row. -/
def Ix (f : Nat → Nat) (n q : Nat) (z : Int) : Prop := (∃ k : Nat, k < n ∧ z = (k : Int) ∧ f k = q ∧ ∀ j, j < k → f j ≠ q) ∨ (z = -1 ∧ ∀ j, j < n → f j ≠ q)
set_option maxRecDepth 100000 in
set_option maxHeartbeats 2000000 in
theorem c_index {w : World} {v : Value} {n : Nat} {f : Nat → Nat} (h : Rw B0 w v n f) (hn : n ≤ 1000) (q B : Nat) (hB : w.cell? ⟨B, 0, none⟩ = some (ptr q)) (hf : ∀ j, j < n → IsB w (f j)) (hq : IsB w q) :
    Calls Tryz.prog 145 #[v, .func (.func 133) #[] #[.pointer (some ⟨B, 0, none⟩)]] w fun r w' => ∃ z, r = .returned (.int .i64 z) ∧ Ix f n q z ∧ w' = w := by
  have HC : Hid (∀ j, j < n → Calls Tryz.prog 133 #[ptr (f j), .pointer (some ⟨B, 0, none⟩)] w fun r w' => r = .returned (.bool (decide (f j = q))) ∧ w' = w) := fun j hj => c_drop (f j) q B w hB (hf j hj) hq
  clear hB hf hq
  rcases h.open with ⟨rfl, rfl⟩ | ⟨g, c, cur, rfl, h2, h3, h4, h5, h6⟩
  · go_enter Tryz.func145, Tryz.ntmps145
    go_wp2
    go_loopw [8] (fun s8 wr => s8 = .int .i64 0 ∧ wr = w) (fun _ _ => 0)
    case atStart => exact ⟨rfl, rfl⟩
    case round =>
      obtain ⟨rfl, rfl⟩ := hrel
      go_wp2
      go_ret
      exact ⟨-1, rfl, .inr ⟨rfl, fun j hj => absurd hj (by omega)⟩, rfl⟩
  · have HR : Hid (∀ j, j < n → w.cell? ⟨g, j, none⟩ = some (ptr (f j))) := fun j hj => (h.cell j hj).1
    clear h h2 h3 h6
    go_enter Tryz.func145, Tryz.ntmps145
    go_wp2
    go_loopw [8] (fun s8 wr => ∃ k : Nat, k ≤ n ∧ s8 = .int .i64 (k : Int) ∧ Hid (∀ j, j < k → f j ≠ q) ∧ wr = w) (fun k _ => n - (intOf k).toNat)
    case atStart => exact ⟨0, Nat.zero_le _, rfl, fun j hj => absurd hj (by omega), rfl⟩
    case round =>
      obtain ⟨k, hk, rfl, HJ, rfl⟩ := hrel
      by_cases hlt : k < n
      · have hc := HR.out k hlt
        have hcall : Hid (Calls Tryz.prog 133 #[ptr (f k), .pointer (some ⟨B, 0, none⟩)] wr fun r w' => r = .returned (.bool (decide (f k = q))) ∧ w' = wr) := HC.out k hlt
        have l1 : (k : Int) < (n : Int) := by omega
        have l2 : (0 : Int) ≤ (k : Int) := by omega
        have l3 : decide ((k : Int) < (n : Int)) = true := decide_eq_true l1
        unfold ptr at hc hcall
        by_cases he : f k = q
        · rw [decide_eq_true he] at hcall
          have HF : Hid (Ix f n q (k : Int)) := .inl ⟨k, hlt, rfl, he, HJ.out⟩
          clear he
          go_wp2_with fail
          refine hcall.out.mono ?_
          rintro r w1 ⟨rfl, hw⟩
          obtain rfl := hw.symm
          clear hw
          go_wp2
          go_ret
          exact ⟨_, rfl, HF.out, rfl⟩
        · rw [decide_eq_false he] at hcall
          have HF : Hid (∀ j, j < k + 1 → f j ≠ q) := fun j hj => by
            by_cases h : j < k
            · exact HJ.out j h
            · obtain rfl : j = k := by omega
              exact he
          go_wp2_with fail
          refine hcall.out.mono ?_
          rintro r w1 ⟨rfl, hw⟩
          obtain rfl := hw.symm
          clear hw
          go_wp2
          go_roundw
          case rel => exact ⟨k + 1, by omega, by go_num, HF, trivial⟩
          case measure => simp [intOf]; omega
      · obtain rfl : k = n := by omega
        go_wp2
        go_ret
        exact ⟨-1, rfl, .inr ⟨rfl, HJ.out⟩, rfl⟩
theorem zeroP (w : World) : (zeroValue 97).run Tryz.prog w = .ok (.pointer none) w := by kernel_rfl
/-- clear of a row's last pointer. -/
theorem run_clear_one {W : World} {g o c : Nat} {cur : Array Value} (hg : W.heap[g]? = some (.cells cur 97 (0, 0))) (hs : o < cur.size) (ty : TypeId) : (Builtin.clear_ #[87] ty #[.slice (some ⟨g, o, none⟩) 1 c]).run Tryz.prog W = .ok (.tuple #[]) (W.setCell ⟨g, o, none⟩ (.pointer none)) := by
  have hst := run_storeCells_cells (P := Tryz.prog) g o [.pointer none] 0 W (fun j hj => by
    have : j = 0 := by simpa using hj
    subst this
    rw [cells_at hg]
    simp
    omega) (fun j _ => cells_free hg _) (fun v hv => by simp at hv; rw [hv]; rfl)
  have hz : (Builtin.zeroCells (Value.pointer none).cells 1).toList = [.pointer none] := by simp [Builtin.zeroCells, Value.cells]
  simp only [Nat.add_zero] at hst
  have he : W.setCells g o [.pointer none] = W.setCell ⟨g, o, none⟩ (.pointer none) := rfl
  rw [he] at hst
  simp [Builtin.clear_, hz, hst]
/-- A row's numbers without the one at k. -/
def dropAt (f : Nat → Nat) (k : Nat) : Nat → Nat := fun i => if i < k then f i else f (i + 1)
/-- .. while they are being shifted: those from k on below j are the next ones. -/
def shiftAt (f : Nat → Nat) (k j : Nat) : Nat → Nat := fun i => if k ≤ i ∧ i < j then f (i + 1) else f i
set_option maxRecDepth 100000 in
set_option maxHeartbeats 4000000 in
theorem c_delete {w : World} {g n c : Nat} {f : Nat → Nat} (h : Rw B0 w (.slice (some ⟨g, 0, none⟩) n c) n f) (hn : n ≤ 1000) (q B k : Nat) (hk : k < n) (hfk : f k = q) (hap : ∀ i j, i < n → j < n → f i = f j → i = j) (hB : w.cell? ⟨B, 0, none⟩ = some (ptr q)) (hBg : B ≠ g) (hf : ∀ j, j < n → IsB w (f j)) :
    Calls Tryz.prog 132 #[.slice (some ⟨g, 0, none⟩) n c, .func (.func 133) #[] #[.pointer (some ⟨B, 0, none⟩)]] w fun r w' => r = .returned (.slice (some ⟨g, 0, none⟩) (n - 1) c) ∧ Hid (Rw B0 w' (.slice (some ⟨g, 0, none⟩) (n - 1) c) (n - 1) (dropAt f k) ∧ Part (fun b => b = g) w w') := by
  have hbg : ∀ j, j < n → f j ≠ g := fun j hj e => by
    obtain ⟨cs, hcs⟩ := hf j hj
    rcases h.open with ⟨h1, _⟩ | ⟨g', c', cur, h1, h2, _⟩
    · cases h1
    · cases h1
      rw [e, h2] at hcs
      have : 97 = 111 := by injection hcs with hcs; injection hcs
      omega
  have HI : Hid (Calls Tryz.prog 145 #[.slice (some ⟨g, 0, none⟩) n c, .func (.func 133) #[] #[.pointer (some ⟨B, 0, none⟩)]] w fun r w' => r = .returned (.int .i64 (k : Int)) ∧ w' = w) := (c_index h hn q B hB hf (hfk ▸ hf k hk)).mono fun r w' ⟨z, hr, hx, hw⟩ => by
    rcases hx with ⟨k', hk', rfl, e, _⟩ | ⟨_, e⟩
    · obtain rfl : k' = k := hap _ _ hk' hk (by rw [e, hfk])
      exact ⟨hr, hw⟩
    · exact absurd hfk (e k hk)
  -- a round's call
  have HC : Hid (∀ wr j, k < j → j < n → Part (fun b => b = g) w wr → Calls Tryz.prog 133 #[ptr (f j), .pointer (some ⟨B, 0, none⟩)] wr fun r w' => r = .returned (.bool false) ∧ w' = wr) := fun wr j h1 h2 hp => by
    have hb : ∀ i, i < n → IsB wr (f i) := fun i hi => by
      obtain ⟨cs, hcs⟩ := hf i hi
      exact ⟨cs, (hp.block _ (Array.getElem?_eq_some_iff.1 hcs).1 (hbg i hi)).trans hcs⟩
    have := c_drop (f j) q B wr (hp.cell (p := ⟨B, 0, none⟩) hBg hB) (hb j h2) (hfk ▸ hb k hk)
    rw [decide_eq_false (fun e => by have := hap j k h2 hk (by rw [e, hfk]); omega)] at this
    exact this
  have HS : Hid (∀ wr j, k < j → j < n → Rw B0 wr (.slice (some ⟨g, 0, none⟩) n c) n (shiftAt f k (j - 1)) → wr.cell? ⟨g, j, none⟩ = some (ptr (f j)) ∧ (∃ u, wr.cell? ⟨g, j - 1, none⟩ = some u) ∧ wr.frozen? ⟨g, j - 1, none⟩ = false ∧ Hid (Rw B0 (wr.setCell ⟨g, j - 1, none⟩ (ptr (f j))) (.slice (some ⟨g, 0, none⟩) n c) n (shiftAt f k j))) := fun wr j h1 h2 hr => by
    refine ⟨?_, ⟨_, (hr.cell (j - 1) (by omega)).1⟩, (hr.cell (j - 1) (by omega)).2, ?_⟩
    · have := (hr.cell j h2).1
      rw [show shiftAt f k (j - 1) j = f j by unfold shiftAt; rw [if_neg (by omega)]] at this
      exact this
    · refine (hr.set (j - 1) (by omega) (f j)).ext (fun i hi => ?_)
      unfold shiftAt
      by_cases e : i = j - 1
      · subst e
        rw [if_pos rfl, if_pos (by omega), show j - 1 + 1 = j by omega]
      · rw [if_neg e]
        by_cases e2 : k ≤ i ∧ i < j - 1
        · rw [if_pos e2, if_pos (by omega)]
        · rw [if_neg e2, if_neg (by omega)]
  have HL : Hid (∀ wr, Rw B0 wr (.slice (some ⟨g, 0, none⟩) n c) n (shiftAt f k (n - 1)) → Part (fun b => b = g) w wr → (∀ ty, (Builtin.clear_ #[87] ty #[.slice (some ⟨g, n - 1, none⟩) 1 (c - (n - 1))]).run Tryz.prog wr = .ok (.tuple #[]) (wr.setCell ⟨g, n - 1, none⟩ (.pointer none))) ∧ Hid (Rw B0 (wr.setCell ⟨g, n - 1, none⟩ (.pointer none)) (.slice (some ⟨g, 0, none⟩) (n - 1) c) (n - 1) (dropAt f k) ∧ Part (fun b => b = g) w (wr.setCell ⟨g, n - 1, none⟩ (.pointer none)))) := fun wr hr hp => by
    rcases hr.open with ⟨h1, _⟩ | ⟨g', c', cur, h1, h2, h3, h4, h5, h6⟩
    · cases h1
    · cases h1
      obtain ⟨m, rfl⟩ : ∃ m, n = m + 1 := ⟨n - 1, by omega⟩
      refine ⟨fun ty => run_clear_one h2 (by omega) ty, (hr.less _).ext (fun i hi => ?_), hp.setCell (p := ⟨g, m + 1 - 1, none⟩) (fun _ => rfl) _⟩
      unfold shiftAt dropAt
      by_cases e : i < k
      · rw [if_pos e, if_neg (by omega)]
      · rw [if_neg e, if_pos (by have hi : i < m := hi; omega)]
  have hc : n ≤ c ∧ c ≤ 9223372036854775807 := by
    rcases h.open with ⟨h1, _⟩ | ⟨g', c', cur, h1, h2, h3, h4, h5, h6⟩
    · cases h1
    · cases h1; exact ⟨h4, h5⟩
  have h0 : Hid (Rw B0 w (.slice (some ⟨g, 0, none⟩) n c) n (shiftAt f k k)) := h.ext (fun i hi => by unfold shiftAt; rw [if_neg (by omega)])
  clear h hap hB hf hbg hfk
  go_enter Tryz.func132, Tryz.ntmps132
  go_wp2_with fail
  refine HI.out.mono ?_
  rintro r w1 ⟨rfl, hw⟩
  obtain rfl : w = w1 := hw.symm
  clear hw HI
  have d0 : ((k : Int) == -1) = false := by simp
  have hk' : (k : Int) ≤ 1000 := by omega
  go_wp2
  go_loopw [5, 6] (fun s5 s6 wr => ∃ j : Nat, k < j ∧ j ≤ n ∧ s5 = .int .i64 ((j - 1 : Nat) : Int) ∧ s6 = .int .i64 (j : Int) ∧ Hid (Rw B0 wr (.slice (some ⟨g, 0, none⟩) n c) n (shiftAt f k (j - 1)) ∧ Part (fun b => b = g) w wr)) (fun _ s _ => n - (intOf s).toNat)
  case atStart => exact ⟨k + 1, Nat.lt_succ_self k, hk, rfl, rfl, h0.out, Part.refl _ _⟩
  case round =>
    obtain ⟨j, hkj, hjn, rfl, rfl, HE⟩ := hrel
    by_cases hlt : j < n
    · obtain ⟨x1, ⟨u, x2⟩, x3, HN⟩ := HS.out wr j hkj hlt HE.out.1
      have hcall : Hid (Calls Tryz.prog 133 #[ptr (f j), .pointer (some ⟨B, 0, none⟩)] wr fun r w' => r = .returned (.bool false) ∧ w' = wr) := HC.out wr j hkj hlt HE.out.2
      have HP : Hid (Part (fun b => b = g) w (wr.setCell ⟨g, j - 1, none⟩ (ptr (f j)))) := HE.out.2.setCell (p := ⟨g, j - 1, none⟩) (fun _ => rfl) _
      obtain ⟨i, hi⟩ : ∃ i, j - 1 = i := ⟨_, rfl⟩
      obtain rfl : j = i + 1 := by omega
      simp only [Nat.add_sub_cancel] at x2 x3 HN HP ⊢
      have l1 : ((i : Int) + 1) < (n : Int) := by omega
      have l2 : (0 : Int) ≤ (i : Int) := by omega
      have l3 : decide ((i : Int) + 1 < (n : Int)) = true := decide_eq_true l1
      have l4 : (i : Int) < (n : Int) := by omega
      have l5 : (i : Int) ≤ 1000 := by omega
      unfold ptr at x1 hcall HN HP
      clear HS HC HL h0 hi
      go_wp2_with fail
      refine hcall.out.mono ?_
      rintro r w1 ⟨rfl, hw⟩
      obtain rfl := hw.symm
      clear hw hcall
      go_wp2
      go_roundw
      case rel => exact ⟨i + 2, by omega, by omega, by go_num, by go_num, HN.out, HP.out⟩
      case measure => simp [intOf]; omega
    · obtain rfl : j = n := by omega
      obtain ⟨y1, HN⟩ := HL.out wr HE.out.1 HE.out.2
      obtain ⟨m, hm⟩ : ∃ m, j = m + 1 := ⟨j - 1, by omega⟩
      subst hm
      simp only [Nat.add_sub_cancel] at y1 HN ⊢
      have l1 : (0 : Int) ≤ (m : Int) := by omega
      have l2 : (m : Int) ≤ ((m + 1 : Nat) : Int) := by omega
      have l3 : (m : Int) ≤ 1000 := by omega
      have l4 : (m : Int) ≤ (c : Int) := by omega
      clear HS HC HL h0
      go_wp2
      go_ret
      exact ⟨rfl, HN⟩
end Go.Proofs.YtnaobkpncfbnaaaGreatDoor
