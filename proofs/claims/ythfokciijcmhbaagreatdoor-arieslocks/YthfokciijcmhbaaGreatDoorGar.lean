/-
  Rows of pointers to buffers: what a row tells, a cell that is set, a beginning; the closure of table.drop, IndexFunc, DeleteFunc of one pointer.
  A pool's state: the buffers that are held; find, idle, drop, use.
  A pool's table: drop, use.
-/
import Derived.Test.YthfokciijcmhbaaGreatDoorGaq
import Derived.Lib.SliceRun
import Derived.LaidEqlPtr
namespace Go.Proofs.YthfokciijcmhbaaGreatDoor
open Go.RowKit
set_option linter.unusedVariables false

def ptr (b : Nat) : Value := .pointer (some ⟨b, 0, none⟩)
def rowL (f : Nat → Nat) (n : Nat) : List Value := (List.range n).map (fun j => ptr (f j))
theorem rowL_length (f : Nat → Nat) (n : Nat) : (rowL f n).length = n := by simp [rowL]
theorem rowL_get (f : Nat → Nat) (n i : Nat) (h : i < n) : (rowL f n)[i]? = some (ptr (f i)) := by simp [rowL, h]
theorem rowL_ext {f g : Nat → Nat} {n : Nat} (e : ∀ i, i < n → f i = g i) : rowL f n = rowL g n := by
  unfold rowL
  exact List.map_congr_left fun i hi => by rw [e i (List.mem_range.1 hi)]
theorem rowL_snoc (f : Nat → Nat) (n : Nat) : rowL f n ++ [ptr (f n)] = rowL f (n + 1) := by
  unfold rowL
  rw [List.range_succ, List.map_append]
  rfl
/-- A row of n pointers of the call's own. -/
def Rw (B0 : Nat) (w : World) (v : Value) (n : Nat) (f : Nat → Nat) : Prop := w.ownsRow B0 166 1 v n (rowL f n)
variable {B0 : Nat}
theorem Rw.ext {w : World} {v : Value} {n : Nat} {f g : Nat → Nat} (h : Rw B0 w v n f) (e : ∀ i, i < n → f i = g i) : Rw B0 w v n g := by
  unfold Rw at *
  rw [← rowL_ext e]; exact h
theorem Rw.open {w : World} {v : Value} {n : Nat} {f : Nat → Nat} (h : Rw B0 w v n f) : (v = .slice none 0 0 ∧ n = 0) ∨ ∃ g c cur, v = .slice (some ⟨g, 0, none⟩) n c ∧ w.heap[g]? = some (.cells cur 166 (0, 0)) ∧ cur.size = c ∧ n ≤ c ∧ c ≤ 9223372036854775807 ∧ ∀ j, j < n → cur[j]? = some (ptr (f j)) := by
  rcases h.2 with ⟨h1, h2⟩ | ⟨g, cap, cur, h1, h2, h3, h4, h5, h6, h7⟩
  · exact .inl ⟨h1, h2⟩
  · refine .inr ⟨g, cap, cur, h1, h3, by rw [h6, Nat.mul_one], h4, h5, fun j hj => ?_⟩
    have h8 := congrArg (fun l : List Value => l[j]?) h7
    simp only [Nat.mul_one, List.getElem?_take, if_pos hj] at h8
    rw [rowL_get f n j hj] at h8
    simpa using h8
theorem Rw.low {w : World} {g n c : Nat} {f : Nat → Nat} (h : Rw B0 w (.slice (some ⟨g, 0, none⟩) n c) n f) : B0 ≤ g := by
  rcases h.2 with ⟨h1, _⟩ | ⟨g', cap, cur, h1, h2, _⟩
  · cases h1
  · cases h1; exact h2
theorem Rw.mk {w : World} {g n c : Nat} {f : Nat → Nat} {cur : Array Value} (h0 : B0 ≤ g) (h1 : w.heap[g]? = some (.cells cur 166 (0, 0))) (h2 : cur.size = c) (h3 : n ≤ c) (h4 : c ≤ 9223372036854775807) (h5 : ∀ j, j < n → cur[j]? = some (ptr (f j))) : Rw B0 w (.slice (some ⟨g, 0, none⟩) n c) n f := by
  refine ⟨by rw [rowL_length, Nat.mul_one], .inr ⟨g, c, cur, rfl, h0, h1, h3, h4, by rw [h2, Nat.mul_one], ?_⟩⟩
  apply List.ext_getElem?
  intro i
  simp only [Nat.mul_one, List.getElem?_take]
  by_cases hi : i < n
  · rw [if_pos hi, rowL_get f n i hi]
    simpa using h5 i hi
  · rw [if_neg hi, List.getElem?_eq_none (by rw [rowL_length]; omega)]
theorem Rw.set {w : World} {g n c : Nat} {f : Nat → Nat} (h : Rw B0 w (.slice (some ⟨g, 0, none⟩) n c) n f) (j : Nat) (hj : j < n) (x : Nat) : Rw B0 (w.setCell ⟨g, j, none⟩ (ptr x)) (.slice (some ⟨g, 0, none⟩) n c) n (fun i => if i = j then x else f i) := by
  rcases h.open with ⟨h1, _⟩ | ⟨g', c', cur, h1, h2, h3, h4, h5, h6⟩
  · cases h1
  · cases h1
    refine Rw.mk h.low (heap_setCell_same w g j cur 166 _ h2) (by simpa using h3) h4 h5 (fun i hi => ?_)
    by_cases e : i = j
    · subst e
      rw [if_pos rfl]
      have : i < cur.size := by omega
      simp [this]
    · rw [if_neg e, Array.getElem?_setIfInBounds_ne (Ne.symm e)]
      exact h6 i hi
/-- The row without its last pointer, which is struck. -/
theorem Rw.less {w : World} {g n c : Nat} {f : Nat → Nat} (h : Rw B0 w (.slice (some ⟨g, 0, none⟩) (n + 1) c) (n + 1) f) (u : Value) : Rw B0 (w.setCell ⟨g, n, none⟩ u) (.slice (some ⟨g, 0, none⟩) n c) n f := by
  rcases h.open with ⟨h1, _⟩ | ⟨g', c', cur, h1, h2, h3, h4, h5, h6⟩
  · cases h1
  · cases h1
    refine Rw.mk h.low (heap_setCell_same w g n cur 166 _ h2) (by simpa using h3) (by omega) h5 (fun i hi => ?_)
    rw [Array.getElem?_setIfInBounds_ne (by omega)]
    exact h6 i (by omega)
theorem Rw.cell {w : World} {g n c : Nat} {f : Nat → Nat} (h : Rw B0 w (.slice (some ⟨g, 0, none⟩) n c) n f) (j : Nat) (hj : j < n) : w.cell? ⟨g, j, none⟩ = some (ptr (f j)) ∧ w.frozen? ⟨g, j, none⟩ = false := by
  rcases h.open with ⟨h1, _⟩ | ⟨g', c', cur, h1, h2, h3, h4, h5, h6⟩
  · cases h1
  · cases h1
    exact ⟨by rw [cells_at h2 j]; exact h6 j hj, cells_free h2 j⟩
theorem ptr_eq (a b : Nat) : (ptr a = ptr b) ↔ a = b := ⟨fun h => by unfold ptr at h; injection h with h; injection h with h; injection h, fun h => by rw [h]⟩

theorem infoBuf : (Tryz.prog.info? 170).map (fun i => (i.zero, i.size, i.bytes)) = some (some (.agg #[.int .i64 0, .int .i64 0, .slice none 0 0, .int .i64 0, .int .i64 0]), 5, 56) := by kernel_rfl
/-- A buffer's block. -/
def IsB (w : World) (b : Nat) : Prop := ∃ cs, w.heap[b]? = some (.cells cs 170 (0, 0))
theorem eql_buf {w : World} {x q : Nat} (hx : IsB w x) (hq : IsB w q) : (binOp .eql 166 (.pointer (some ⟨x, 0, none⟩)) (.pointer (some ⟨q, 0, none⟩))).run Tryz.prog w = .ok (.bool (decide (x = q))) w := by
  obtain ⟨j, hj, _, hs, _⟩ := info_parts infoBuf
  obtain ⟨cx, hx⟩ := hx
  obtain ⟨cq, hq⟩ := hq
  by_cases e : x = q
  · subst e
    rw [decide_eq_true rfl]
    exact run_eql_ptr_same w _ Tryz.underlying166 hj
  · rw [decide_eq_false e]
    exact run_eql_ptr_other w Tryz.underlying166 hj (by rw [hs]; decide) (fun h => e (by injection h)) hx hq
set_option maxRecDepth 100000 in
/-- The closure of drop: is it that buffer? -/
theorem c_drop (x q B : Nat) (w : World) (hB : w.cell? ⟨B, 0, none⟩ = some (ptr q)) (hx : IsB w x) (hq : IsB w q) : Calls Tryz.prog 170 #[ptr x, .pointer (some ⟨B, 0, none⟩)] w fun r w' => r = .returned (.bool (decide (x = q))) ∧ w' = w := by
  have heq := eql_buf hx hq
  unfold ptr at *
  generalize decide (x = q) = d at *
  clear hx hq
  go_enter Tryz.func170, Tryz.ntmps170
  go_wp2
  go_ret
  exact ⟨rfl, rfl⟩
/-- Where a pointer stands in a row. -/
def Ix (f : Nat → Nat) (n q : Nat) (z : Int) : Prop := (∃ k : Nat, k < n ∧ z = (k : Int) ∧ f k = q ∧ ∀ j, j < k → f j ≠ q) ∨ (z = -1 ∧ ∀ j, j < n → f j ≠ q)
set_option maxRecDepth 100000 in
set_option maxHeartbeats 2000000 in
theorem c_index {w : World} {v : Value} {n : Nat} {f : Nat → Nat} (h : Rw B0 w v n f) (hn : n ≤ 1000) (q B : Nat) (hB : w.cell? ⟨B, 0, none⟩ = some (ptr q)) (hf : ∀ j, j < n → IsB w (f j)) (hq : IsB w q) :
    Calls Tryz.prog 184 #[v, .func (.func 170) #[] #[.pointer (some ⟨B, 0, none⟩)]] w fun r w' => ∃ z, r = .returned (.int .i64 z) ∧ Ix f n q z ∧ w' = w := by
  have HC : Hid (∀ j, j < n → Calls Tryz.prog 170 #[ptr (f j), .pointer (some ⟨B, 0, none⟩)] w fun r w' => r = .returned (.bool (decide (f j = q))) ∧ w' = w) := fun j hj => c_drop (f j) q B w hB (hf j hj) hq
  clear hB hf hq
  rcases h.open with ⟨rfl, rfl⟩ | ⟨g, c, cur, rfl, h2, h3, h4, h5, h6⟩
  · go_enter Tryz.func184, Tryz.ntmps184
    go_wp2
    go_loopw [8] (fun s8 wr => s8 = .int .i64 0 ∧ wr = w) (fun _ _ => 0)
    case atStart => exact ⟨rfl, rfl⟩
    case round =>
      obtain ⟨rfl, rfl⟩ := hrel
      go_wp2
      go_ret
      exact ⟨-1, rfl, .inr ⟨rfl, fun j hj => absurd hj (by omega)⟩, rfl⟩
  · have HR : Hid (∀ j, j < n → w.cell? ⟨g, j, none⟩ = some (ptr (f j))) := fun j hj => (h.cell j hj).1
    clear h h2 h3 h6
    go_enter Tryz.func184, Tryz.ntmps184
    go_wp2
    go_loopw [8] (fun s8 wr => ∃ k : Nat, k ≤ n ∧ s8 = .int .i64 (k : Int) ∧ Hid (∀ j, j < k → f j ≠ q) ∧ wr = w) (fun k _ => n - (intOf k).toNat)
    case atStart => exact ⟨0, Nat.zero_le _, rfl, fun j hj => absurd hj (by omega), rfl⟩
    case round =>
      obtain ⟨k, hk, rfl, HJ, rfl⟩ := hrel
      by_cases hlt : k < n
      · have hc := HR.out k hlt
        have hcall : Hid (Calls Tryz.prog 170 #[ptr (f k), .pointer (some ⟨B, 0, none⟩)] wr fun r w' => r = .returned (.bool (decide (f k = q))) ∧ w' = wr) := HC.out k hlt
        have l1 : (k : Int) < (n : Int) := by omega
        have l2 : (0 : Int) ≤ (k : Int) := by omega
        have l3 : decide ((k : Int) < (n : Int)) = true := decide_eq_true l1
        unfold ptr at hc hcall
        by_cases he : f k = q
        · rw [decide_eq_true he] at hcall
          have HF : Hid (Ix f n q (k : Int)) := .inl ⟨k, hlt, rfl, he, HJ.out⟩
          clear he
          go_wp2_with fail
          refine hcall.out.mono ?_
          rintro r w1 ⟨rfl, hw⟩
          obtain rfl := hw.symm
          clear hw
          go_wp2
          go_ret
          exact ⟨_, rfl, HF.out, rfl⟩
        · rw [decide_eq_false he] at hcall
          have HF : Hid (∀ j, j < k + 1 → f j ≠ q) := fun j hj => by
            by_cases h : j < k
            · exact HJ.out j h
            · obtain rfl : j = k := by omega
              exact he
          go_wp2_with fail
          refine hcall.out.mono ?_
          rintro r w1 ⟨rfl, hw⟩
          obtain rfl := hw.symm
          clear hw
          go_wp2
          go_roundw
          case rel => exact ⟨k + 1, by omega, by go_num, HF, trivial⟩
          case measure => simp [intOf]; omega
      · obtain rfl : k = n := by omega
        go_wp2
        go_ret
        exact ⟨-1, rfl, .inr ⟨rfl, HJ.out⟩, rfl⟩
theorem zeroP (w : World) : (zeroValue 166).run Tryz.prog w = .ok (.pointer none) w := by kernel_rfl
/-- clear of a row's last pointer. -/
theorem run_clear_one {W : World} {g o c : Nat} {cur : Array Value} (hg : W.heap[g]? = some (.cells cur 166 (0, 0))) (hs : o < cur.size) (ty : TypeId) : (Builtin.clear_ #[139] ty #[.slice (some ⟨g, o, none⟩) 1 c]).run Tryz.prog W = .ok (.tuple #[]) (W.setCell ⟨g, o, none⟩ (.pointer none)) := by
  have hst := run_storeCells_cells (P := Tryz.prog) g o [.pointer none] 0 W (fun j hj => by
    have : j = 0 := by simpa using hj
    subst this
    rw [cells_at hg]
    simp
    omega) (fun j _ => cells_free hg _) (fun v hv => by simp at hv; rw [hv]; rfl)
  have hz : (Builtin.zeroCells (Value.pointer none).cells 1).toList = [.pointer none] := by simp [Builtin.zeroCells, Value.cells]
  simp only [Nat.add_zero] at hst
  have he : W.setCells g o [.pointer none] = W.setCell ⟨g, o, none⟩ (.pointer none) := rfl
  rw [he] at hst
  simp [Builtin.clear_, hz, hst]
/-- A row's numbers without the one at k. -/
def dropAt (f : Nat → Nat) (k : Nat) : Nat → Nat := fun i => if i < k then f i else f (i + 1)
/-- .. while they are being shifted: those from k on below j are the next ones. -/
def shiftAt (f : Nat → Nat) (k j : Nat) : Nat → Nat := fun i => if k ≤ i ∧ i < j then f (i + 1) else f i
set_option maxRecDepth 100000 in
set_option maxHeartbeats 4000000 in
theorem c_delete {w : World} {g n c : Nat} {f : Nat → Nat} (h : Rw B0 w (.slice (some ⟨g, 0, none⟩) n c) n f) (hn : n ≤ 1000) (q B k : Nat) (hk : k < n) (hfk : f k = q) (hap : ∀ i j, i < n → j < n → f i = f j → i = j) (hB : w.cell? ⟨B, 0, none⟩ = some (ptr q)) (hBg : B ≠ g) (hf : ∀ j, j < n → IsB w (f j)) :
    Calls Tryz.prog 169 #[.slice (some ⟨g, 0, none⟩) n c, .func (.func 170) #[] #[.pointer (some ⟨B, 0, none⟩)]] w fun r w' => r = .returned (.slice (some ⟨g, 0, none⟩) (n - 1) c) ∧ Hid (Rw B0 w' (.slice (some ⟨g, 0, none⟩) (n - 1) c) (n - 1) (dropAt f k) ∧ Part (fun b => b = g) w w') := by
  have hbg : ∀ j, j < n → f j ≠ g := fun j hj e => by
    obtain ⟨cs, hcs⟩ := hf j hj
    rcases h.open with ⟨h1, _⟩ | ⟨g', c', cur, h1, h2, _⟩
    · cases h1
    · cases h1
      rw [e, h2] at hcs
      have : 166 = 170 := by injection hcs with hcs; injection hcs
      omega
  have HI : Hid (Calls Tryz.prog 184 #[.slice (some ⟨g, 0, none⟩) n c, .func (.func 170) #[] #[.pointer (some ⟨B, 0, none⟩)]] w fun r w' => r = .returned (.int .i64 (k : Int)) ∧ w' = w) := (c_index h hn q B hB hf (hfk ▸ hf k hk)).mono fun r w' ⟨z, hr, hx, hw⟩ => by
    rcases hx with ⟨k', hk', rfl, e, _⟩ | ⟨_, e⟩
    · obtain rfl : k' = k := hap _ _ hk' hk (by rw [e, hfk])
      exact ⟨hr, hw⟩
    · exact absurd hfk (e k hk)
  -- a round's call
  have HC : Hid (∀ wr j, k < j → j < n → Part (fun b => b = g) w wr → Calls Tryz.prog 170 #[ptr (f j), .pointer (some ⟨B, 0, none⟩)] wr fun r w' => r = .returned (.bool false) ∧ w' = wr) := fun wr j h1 h2 hp => by
    have hb : ∀ i, i < n → IsB wr (f i) := fun i hi => by
      obtain ⟨cs, hcs⟩ := hf i hi
      exact ⟨cs, (hp.block _ (Array.getElem?_eq_some_iff.1 hcs).1 (hbg i hi)).trans hcs⟩
    have := c_drop (f j) q B wr (hp.cell (p := ⟨B, 0, none⟩) hBg hB) (hb j h2) (hfk ▸ hb k hk)
    rw [decide_eq_false (fun e => by have := hap j k h2 hk (by rw [e, hfk]); omega)] at this
    exact this
  have HS : Hid (∀ wr j, k < j → j < n → Rw B0 wr (.slice (some ⟨g, 0, none⟩) n c) n (shiftAt f k (j - 1)) → wr.cell? ⟨g, j, none⟩ = some (ptr (f j)) ∧ (∃ u, wr.cell? ⟨g, j - 1, none⟩ = some u) ∧ wr.frozen? ⟨g, j - 1, none⟩ = false ∧ Hid (Rw B0 (wr.setCell ⟨g, j - 1, none⟩ (ptr (f j))) (.slice (some ⟨g, 0, none⟩) n c) n (shiftAt f k j))) := fun wr j h1 h2 hr => by
    refine ⟨?_, ⟨_, (hr.cell (j - 1) (by omega)).1⟩, (hr.cell (j - 1) (by omega)).2, ?_⟩
    · have := (hr.cell j h2).1
      rw [show shiftAt f k (j - 1) j = f j by unfold shiftAt; rw [if_neg (by omega)]] at this
      exact this
    · refine (hr.set (j - 1) (by omega) (f j)).ext (fun i hi => ?_)
      unfold shiftAt
      by_cases e : i = j - 1
      · subst e
        rw [if_pos rfl, if_pos (by omega), show j - 1 + 1 = j by omega]
      · rw [if_neg e]
        by_cases e2 : k ≤ i ∧ i < j - 1
        · rw [if_pos e2, if_pos (by omega)]
        · rw [if_neg e2, if_neg (by omega)]
  have HL : Hid (∀ wr, Rw B0 wr (.slice (some ⟨g, 0, none⟩) n c) n (shiftAt f k (n - 1)) → Part (fun b => b = g) w wr → (∀ ty, (Builtin.clear_ #[139] ty #[.slice (some ⟨g, n - 1, none⟩) 1 (c - (n - 1))]).run Tryz.prog wr = .ok (.tuple #[]) (wr.setCell ⟨g, n - 1, none⟩ (.pointer none))) ∧ Hid (Rw B0 (wr.setCell ⟨g, n - 1, none⟩ (.pointer none)) (.slice (some ⟨g, 0, none⟩) (n - 1) c) (n - 1) (dropAt f k) ∧ Part (fun b => b = g) w (wr.setCell ⟨g, n - 1, none⟩ (.pointer none)))) := fun wr hr hp => by
    rcases hr.open with ⟨h1, _⟩ | ⟨g', c', cur, h1, h2, h3, h4, h5, h6⟩
    · cases h1
    · cases h1
      obtain ⟨m, rfl⟩ : ∃ m, n = m + 1 := ⟨n - 1, by omega⟩
      refine ⟨fun ty => run_clear_one h2 (by omega) ty, (hr.less _).ext (fun i hi => ?_), hp.setCell (p := ⟨g, m + 1 - 1, none⟩) (fun _ => rfl) _⟩
      unfold shiftAt dropAt
      by_cases e : i < k
      · rw [if_pos e, if_neg (by omega)]
      · rw [if_neg e, if_pos (by have hi : i < m := hi; omega)]
  have hc : n ≤ c ∧ c ≤ 9223372036854775807 := by
    rcases h.open with ⟨h1, _⟩ | ⟨g', c', cur, h1, h2, h3, h4, h5, h6⟩
    · cases h1
    · cases h1; exact ⟨h4, h5⟩
  have h0 : Hid (Rw B0 w (.slice (some ⟨g, 0, none⟩) n c) n (shiftAt f k k)) := h.ext (fun i hi => by unfold shiftAt; rw [if_neg (by omega)])
  clear h hap hB hf hbg hfk
  go_enter Tryz.func169, Tryz.ntmps169
  go_wp2_with fail
  refine HI.out.mono ?_
  rintro r w1 ⟨rfl, hw⟩
  obtain rfl : w = w1 := hw.symm
  clear hw HI
  have d0 : ((k : Int) == -1) = false := by simp
  have hk' : (k : Int) ≤ 1000 := by omega
  go_wp2
  go_loopw [5, 6] (fun s5 s6 wr => ∃ j : Nat, k < j ∧ j ≤ n ∧ s5 = .int .i64 ((j - 1 : Nat) : Int) ∧ s6 = .int .i64 (j : Int) ∧ Hid (Rw B0 wr (.slice (some ⟨g, 0, none⟩) n c) n (shiftAt f k (j - 1)) ∧ Part (fun b => b = g) w wr)) (fun _ s _ => n - (intOf s).toNat)
  case atStart => exact ⟨k + 1, Nat.lt_succ_self k, hk, rfl, rfl, h0.out, Part.refl _ _⟩
  case round =>
    obtain ⟨j, hkj, hjn, rfl, rfl, HE⟩ := hrel
    by_cases hlt : j < n
    · obtain ⟨x1, ⟨u, x2⟩, x3, HN⟩ := HS.out wr j hkj hlt HE.out.1
      have hcall : Hid (Calls Tryz.prog 170 #[ptr (f j), .pointer (some ⟨B, 0, none⟩)] wr fun r w' => r = .returned (.bool false) ∧ w' = wr) := HC.out wr j hkj hlt HE.out.2
      have HP : Hid (Part (fun b => b = g) w (wr.setCell ⟨g, j - 1, none⟩ (ptr (f j)))) := HE.out.2.setCell (p := ⟨g, j - 1, none⟩) (fun _ => rfl) _
      obtain ⟨i, hi⟩ : ∃ i, j - 1 = i := ⟨_, rfl⟩
      obtain rfl : j = i + 1 := by omega
      simp only [Nat.add_sub_cancel] at x2 x3 HN HP ⊢
      have l1 : ((i : Int) + 1) < (n : Int) := by omega
      have l2 : (0 : Int) ≤ (i : Int) := by omega
      have l3 : decide ((i : Int) + 1 < (n : Int)) = true := decide_eq_true l1
      have l4 : (i : Int) < (n : Int) := by omega
      have l5 : (i : Int) ≤ 1000 := by omega
      unfold ptr at x1 hcall HN HP
      clear HS HC HL h0 hi
      go_wp2_with fail
      refine hcall.out.mono ?_
      rintro r w1 ⟨rfl, hw⟩
      obtain rfl := hw.symm
      clear hw hcall
      go_wp2
      go_roundw
      case rel => exact ⟨i + 2, by omega, by omega, by go_num, by go_num, HN.out, HP.out⟩
      case measure => simp [intOf]; omega
    · obtain rfl : j = n := by omega
      obtain ⟨y1, HN⟩ := HL.out wr HE.out.1 HE.out.2
      obtain ⟨m, hm⟩ : ∃ m, j = m + 1 := ⟨j - 1, by omega⟩
      subst hm
      simp only [Nat.add_sub_cancel] at y1 HN ⊢
      have l1 : (0 : Int) ≤ (m : Int) := by omega
      have l2 : (m : Int) ≤ ((m + 1 : Nat) : Int) := by omega
      have l3 : (m : Int) ≤ 1000 := by omega
      have l4 : (m : Int) ≤ (c : Int) := by omega
      clear HS HC HL h0
      go_wp2
      go_ret
      exact ⟨rfl, HN⟩
end Go.Proofs.YthfokciijcmhbaaGreatDoor

namespace Go.Proofs.YthfokciijcmhbaaGreatDoor
open Go.RowKit
set_option linter.unusedVariables false

/-- A buffer: its block, page, record, the record that made it dirty, pins; its load. -/
structure Bf where
  b : Nat
  pg : Nat
  ls : Nat
  fi : Nat
  pn : Nat
  ld : Value
def bufO (x : Bf) : Obj := .cells #[.int .i64 (x.pg : Int), .int .i64 (x.ls : Int), x.ld, .int .i64 (x.fi : Int), .int .i64 (x.pn : Int)] 170
def stO (m : Int) (D L fr pg bf : Nat) (held : Value) : Obj := .cells #[.int .i32 m, .int .u32 0, .pointer (some ⟨D, 0, none⟩), .pointer (some ⟨L, 0, none⟩), .int .i64 (fr : Int), .int .i64 (pg : Int), .int .i64 (bf : Int), held] 143
/-- A pool's state in memory. -/
structure Ps (B0 : Nat) (w : World) (S : Nat) (m : Int) (D L fr pg bf n : Nat) (X : Nat → Bf) : Prop where
  lay : ∃ held, w.heap[S]? = some (stO m D L fr pg bf held) ∧ Rw B0 w held n (fun j => (X j).b)
  buf : ∀ j, j < n → w.heap[(X j).b]? = some (bufO (X j))
  apart : ∀ i j, i < n → j < n → (X i).b = (X j).b → i = j
  nn : n ≤ 100
  low : B0 ≤ S
variable {B0 : Nat}
theorem Ps.isB {w : World} {S D L fr pg bf n : Nat} {m : Int} {X : Nat → Bf} (k : Ps B0 w S m D L fr pg bf n X) (j : Nat) (hj : j < n) : IsB w (X j).b := ⟨_, k.buf j hj⟩
theorem Ps.lt {w : World} {S D L fr pg bf n : Nat} {m : Int} {X : Nat → Bf} (k : Ps B0 w S m D L fr pg bf n X) : S < w.heap.size := by
  obtain ⟨held, h, _⟩ := k.lay
  exact (Array.getElem?_eq_some_iff.1 h).1
/-- What may change of a pool: its state's block, and rows of pointers to buffers. -/
def Fr (B0 S : Nat) (w : World) (b : Nat) : Prop := B0 ≤ b ∧ (b = S ∨ ∃ cs fz, w.heap[b]? = some (.cells cs 166 fz))
theorem Rw.part {w w' : World} {v : Value} {n : Nat} {f : Nat → Nat} {F : Nat → Prop} (h : Rw B0 w v n f) (hp : Part F w w') (hn : ∀ k, v.ownBlock = some k → ¬ F k) : Rw B0 w' v n f := hp.row h hn
theorem Ps.part {w w' : World} {S D L fr pg bf n : Nat} {m : Int} {X : Nat → Bf} {F : Nat → Prop} (k : Ps B0 w S m D L fr pg bf n X) (hp : Part F w w') (hS : ¬ F S) (hF : ∀ b cs t, F b → w.heap[b]? = some (.cells cs t (0, 0)) → t ≠ 166 ∧ t ≠ 170) : Ps B0 w' S m D L fr pg bf n X := by
  obtain ⟨held, h1, h2⟩ := k.lay
  refine ⟨⟨held, (hp.block S (Array.getElem?_eq_some_iff.1 h1).1 hS).trans h1, h2.part hp (fun b hb hf => ?_)⟩, fun j hj => ?_, k.apart, k.nn, k.low⟩
  · rcases h2.open with ⟨e, _⟩ | ⟨g, c, cur, e, hg, _⟩
    · rw [e] at hb; cases hb
    · rw [e] at hb
      have hb : some g = some b := hb
      injection hb with hb
      subst hb
      exact (hF g _ _ hf hg).1 rfl
  · exact (hp.block _ (Array.getElem?_eq_some_iff.1 (k.buf j hj)).1 (fun hf => (hF _ _ _ hf (k.buf j hj)).2 rfl)).trans (k.buf j hj)
theorem Ps.below {w w' : World} {S D L fr pg bf n : Nat} {m : Int} {X : Nat → Bf} (k : Ps B0 w S m D L fr pg bf n X) (hb : Below w.heap.size w w') : Ps B0 w' S m D L fr pg bf n X :=
  k.part (Part.ofBelow (F := fun _ => False) hb) (fun h => h) (fun _ _ _ h => h.elim)

/-- What find tells. -/
def Fd (X : Nat → Bf) (n : Nat) (z : Int) (r : Value) : Prop := (∃ k, k < n ∧ ((X k).pg : Int) = z ∧ (∀ j, j < k → ((X j).pg : Int) ≠ z) ∧ r = ptr (X k).b) ∨ ((∀ j, j < n → ((X j).pg : Int) ≠ z) ∧ r = .pointer none)
set_option maxRecDepth 100000 in
set_option maxHeartbeats 2000000 in
theorem t_find {w : World} {S D L fr pg bf n : Nat} {m : Int} {X : Nat → Bf} (k : Ps B0 w S m D L fr pg bf n X) (z : Int) : Calls Tryz.prog 126 #[.pointer (some ⟨S, 7, none⟩), .int .i64 z] w fun r w' => ∃ v, r = .returned v ∧ Fd X n z v ∧ w' = w := by
  obtain ⟨held, h1, h2⟩ := k.lay
  have nn := k.nn
  have c7 : w.cell? ⟨S, 7, none⟩ = some held := by rw [cells_at h1 7]; rfl
  have HP : Hid (∀ j, j < n → w.cell? ⟨(X j).b, 0, none⟩ = some (.int .i64 ((X j).pg : Int))) := fun j hj => by rw [cells_at (k.buf j hj) 0]; rfl
  rcases h2.open with ⟨rfl, rfl⟩ | ⟨g, c, cur, rfl, g2, g3, g4, g5, g6⟩
  · clear k h1 h2 HP
    go_enter Tryz.func126, Tryz.ntmps126
    go_wp2
    go_loopw [12] (fun s wr => s = .int .i64 0 ∧ wr = w) (fun _ _ => 0)
    case atStart => exact ⟨rfl, rfl⟩
    case round =>
      obtain ⟨rfl, rfl⟩ := hrel
      go_wp2
      go_ret
      exact ⟨_, rfl, .inr ⟨fun j hj => absurd hj (by omega), rfl⟩, rfl⟩
  · have HR : Hid (∀ j, j < n → w.cell? ⟨g, j, none⟩ = some (ptr (X j).b)) := fun j hj => (h2.cell j hj).1
    clear k h1 h2 g2 g3 g6
    go_enter Tryz.func126, Tryz.ntmps126
    go_wp2
    go_loopw [12] (fun s wr => ∃ k : Nat, k ≤ n ∧ s = .int .i64 (k : Int) ∧ Hid (∀ j, j < k → ((X j).pg : Int) ≠ z) ∧ wr = w) (fun k _ => n - (intOf k).toNat)
    case atStart => exact ⟨0, Nat.zero_le _, rfl, fun j hj => absurd hj (by omega), rfl⟩
    case round =>
      obtain ⟨k, hk, rfl, HJ, rfl⟩ := hrel
      by_cases hlt : k < n
      · have hc := HR.out k hlt
        have hp := HP.out k hlt
        have l1 : (k : Int) < (n : Int) := by omega
        have l2 : (0 : Int) ≤ (k : Int) := by omega
        unfold ptr at hc
        by_cases he : ((X k).pg : Int) = z
        · have HF : Hid (Fd X n z (ptr (X k).b)) := .inl ⟨k, hlt, he, HJ.out, rfl⟩
          unfold ptr at HF
          have d1 : (((X k).pg : Int) == z) = true := by simpa using he
          clear he
          go_wp2
          go_ret
          exact ⟨_, rfl, HF.out, rfl⟩
        · have HF : Hid (∀ j, j < k + 1 → ((X j).pg : Int) ≠ z) := fun j hj => by
            by_cases h : j < k
            · exact HJ.out j h
            · obtain rfl : j = k := by omega
              exact he
          have d1 : (((X k).pg : Int) == z) = false := by simpa using he
          clear he
          go_wp2
          go_roundw
          case rel => exact ⟨k + 1, by omega, by go_num, HF, trivial⟩
          case measure => simp [intOf]; omega
      · obtain rfl : k = n := by omega
        go_wp2
        go_ret
        exact ⟨_, rfl, .inr ⟨HJ.out, rfl⟩, rfl⟩
/-- What idle tells. -/
def Id0 (X : Nat → Bf) (n : Nat) (r : Value) : Prop := (∃ k, k < n ∧ (X k).pn = 0 ∧ (∀ j, j < k → (X j).pn ≠ 0) ∧ r = ptr (X k).b) ∨ ((∀ j, j < n → (X j).pn ≠ 0) ∧ r = .pointer none)
set_option maxRecDepth 100000 in
set_option maxHeartbeats 2000000 in
theorem t_idle {w : World} {S D L fr pg bf n : Nat} {m : Int} {X : Nat → Bf} (k : Ps B0 w S m D L fr pg bf n X) : Calls Tryz.prog 152 #[.pointer (some ⟨S, 7, none⟩)] w fun r w' => ∃ v, r = .returned v ∧ Id0 X n v ∧ w' = w := by
  obtain ⟨held, h1, h2⟩ := k.lay
  have nn := k.nn
  have c7 : w.cell? ⟨S, 7, none⟩ = some held := by rw [cells_at h1 7]; rfl
  have HP : Hid (∀ j, j < n → w.cell? ⟨(X j).b, 4, none⟩ = some (.int .i64 ((X j).pn : Int))) := fun j hj => by rw [cells_at (k.buf j hj) 4]; rfl
  rcases h2.open with ⟨rfl, rfl⟩ | ⟨g, c, cur, rfl, g2, g3, g4, g5, g6⟩
  · clear k h1 h2 HP
    go_enter Tryz.func152, Tryz.ntmps152
    go_wp2
    go_loopw [10] (fun s wr => s = .int .i64 0 ∧ wr = w) (fun _ _ => 0)
    case atStart => exact ⟨rfl, rfl⟩
    case round =>
      obtain ⟨rfl, rfl⟩ := hrel
      go_wp2
      go_ret
      exact ⟨_, rfl, .inr ⟨fun j hj => absurd hj (by omega), rfl⟩, rfl⟩
  · have HR : Hid (∀ j, j < n → w.cell? ⟨g, j, none⟩ = some (ptr (X j).b)) := fun j hj => (h2.cell j hj).1
    clear k h1 h2 g2 g3 g6
    go_enter Tryz.func152, Tryz.ntmps152
    go_wp2
    go_loopw [10] (fun s wr => ∃ k : Nat, k ≤ n ∧ s = .int .i64 (k : Int) ∧ Hid (∀ j, j < k → (X j).pn ≠ 0) ∧ wr = w) (fun k _ => n - (intOf k).toNat)
    case atStart => exact ⟨0, Nat.zero_le _, rfl, fun j hj => absurd hj (by omega), rfl⟩
    case round =>
      obtain ⟨k, hk, rfl, HJ, rfl⟩ := hrel
      by_cases hlt : k < n
      · have hc := HR.out k hlt
        have hp := HP.out k hlt
        have l1 : (k : Int) < (n : Int) := by omega
        have l2 : (0 : Int) ≤ (k : Int) := by omega
        unfold ptr at hc
        by_cases he : (X k).pn = 0
        · have HF : Hid (Id0 X n (ptr (X k).b)) := .inl ⟨k, hlt, he, HJ.out, rfl⟩
          unfold ptr at HF
          have d1 : (((X k).pn : Int) == 0) = true := by simpa using he
          clear he
          go_wp2
          go_ret
          exact ⟨_, rfl, HF.out, rfl⟩
        · have HF : Hid (∀ j, j < k + 1 → (X j).pn ≠ 0) := fun j hj => by
            by_cases h : j < k
            · exact HJ.out j h
            · obtain rfl : j = k := by omega
              exact he
          have d1 : (((X k).pn : Int) == 0) = false := by simpa using he
          clear he
          go_wp2
          go_roundw
          case rel => exact ⟨k + 1, by omega, by go_num, HF, trivial⟩
          case measure => simp [intOf]; omega
      · obtain rfl : k = n := by omega
        go_wp2
        go_ret
        exact ⟨_, rfl, .inr ⟨HJ.out, rfl⟩, rfl⟩
end Go.Proofs.YthfokciijcmhbaaGreatDoor

namespace Go.Proofs.YthfokciijcmhbaaGreatDoor
open Go.RowKit
set_option linter.unusedVariables false
variable {B0 : Nat}

set_option maxRecDepth 100000 in
theorem c_delete_no {w : World} {v : Value} {n : Nat} {f : Nat → Nat} (h : Rw B0 w v n f) (hn : n ≤ 1000) (q B : Nat) (hno : ∀ j, j < n → f j ≠ q) (hB : w.cell? ⟨B, 0, none⟩ = some (ptr q)) (hf : ∀ j, j < n → IsB w (f j)) (hq : IsB w q) :
    Calls Tryz.prog 169 #[v, .func (.func 170) #[] #[.pointer (some ⟨B, 0, none⟩)]] w fun r w' => r = .returned v ∧ w' = w := by
  have HI : Hid (Calls Tryz.prog 184 #[v, .func (.func 170) #[] #[.pointer (some ⟨B, 0, none⟩)]] w fun r w' => r = .returned (.int .i64 (-1)) ∧ w' = w) := (c_index h hn q B hB hf hq).mono fun r w' ⟨z, hr, hx, hw⟩ => by
    rcases hx with ⟨k', hk', rfl, e, _⟩ | ⟨rfl, e⟩
    · exact absurd e (hno k' hk')
    · exact ⟨hr, hw⟩
  clear h hno hB hf hq
  go_enter Tryz.func169, Tryz.ntmps169
  go_wp2_with fail
  refine HI.out.mono ?_
  rintro r w1 ⟨rfl, hw⟩
  obtain rfl : w = w1 := hw.symm
  clear hw HI
  go_wp2
  go_ret
  exact ⟨rfl, rfl⟩
def dropX (X : Nat → Bf) (k : Nat) : Nat → Bf := fun i => if i < k then X i else X (i + 1)
def snocX (X : Nat → Bf) (n : Nat) (y : Bf) : Nat → Bf := fun i => if i = n then y else X i
theorem stO_held {w : World} {S D L fr pg bf : Nat} {m : Int} {held v : Value} (h : w.heap[S]? = some (stO m D L fr pg bf held)) : (w.setCell ⟨S, 7, none⟩ v).heap[S]? = some (stO m D L fr pg bf v) := heap_set_at h v
theorem Fr.at {w w' : World} {S b : Nat} (h : Below w.heap.size w w') (hb : b < w.heap.size) (k : Fr B0 S w' b) : Fr B0 S w b := by
  rcases k with ⟨h0, k | ⟨cs, fz, k⟩⟩
  · exact ⟨h0, .inl k⟩
  · exact ⟨h0, .inr ⟨cs, fz, by rw [← h.block b hb]; exact k⟩⟩
/-- What comes of a row that was written anew, and of its new slice in the state. -/
theorem Ps.renew {w w1 w2 : World} {S D L fr pg bf n n' : Nat} {m : Int} {X X' : Nat → Bf} {v : Value} (k : Ps B0 w S m D L fr pg bf n X) (b1 : Below w.heap.size w w1) (p2 : Part (Fr B0 S w1) w1 w2) (hS : w2.heap[S]? = w1.heap[S]?) (hr : Rw B0 w2 v n' (fun j => (X' j).b)) (hb : ∀ j, j < n' → w1.heap[(X' j).b]? = some (bufO (X' j))) (ha : ∀ i j, i < n' → j < n' → (X' i).b = (X' j).b → i = j) (hn : n' ≤ 100) :
    Ps B0 (w2.setCell ⟨S, 7, none⟩ v) S m D L fr pg bf n' X' ∧ Part (Fr B0 S w) w (w2.setCell ⟨S, 7, none⟩ v) := by
  obtain ⟨held, h1, h2⟩ := k.lay
  have hlt := k.lt
  have e1 : w1.heap[S]? = some (stO m D L fr pg bf held) := (b1.block S hlt).trans h1
  have e2 := hS.trans e1
  have hvS : v.ownBlock ≠ some S := fun e => by
    rcases hr.open with ⟨h, _⟩ | ⟨g, c, cur, h, hg, _⟩
    · rw [h] at e; cases e
    · rw [h] at e
      have e : some g = some S := e
      injection e with e
      rw [e, e2] at hg
      injection hg with hg
      injection hg with _ hg
      exact absurd hg (by decide)
  have hbS : ∀ j, j < n' → (X' j).b ≠ S := fun j hj e => by
    have := hb j hj
    rw [e, e1] at this
    injection this with this
    injection this with _ this
    exact absurd this (by decide)
  refine ⟨⟨⟨v, stO_held e2, ?_⟩, fun j hj => ?_, ha, hn, k.low⟩, ?_⟩
  · exact row_set hr hvS 7 v
  · rw [heap_set_other w2 (hbS j hj)]
    refine (p2.block _ (Array.getElem?_eq_some_iff.1 (hb j hj)).1 (fun hf => ?_)).trans (hb j hj)
    rcases hf with ⟨_, e | ⟨cs, fz, e⟩⟩
    · exact hbS j hj e
    · rw [hb j hj] at e
      injection e with e
      injection e with _ e
      exact absurd e (by decide)
  · have p1 : Part (Fr B0 S w) w w2 := (Part.ofBelow (F := Fr B0 S w) b1).trans p2 (fun i hi hf => hf.at b1 hi)
    exact p1.setCell (p := ⟨S, 7, none⟩) (fun _ => ⟨k.low, .inl rfl⟩) v

set_option maxRecDepth 100000 in
set_option maxHeartbeats 2000000 in
theorem t_drop {w : World} {S D L fr pg bf n : Nat} {m : Int} {X : Nat → Bf} (k : Ps B0 w S m D L fr pg bf n X) (i : Nat) (hi : i < n) : Calls Tryz.prog 154 #[.pointer (some ⟨S, 7, none⟩), ptr (X i).b] w fun r w' => r = .returned (.tuple #[]) ∧ Hid (Ps B0 w' S m D L fr pg bf (n - 1) (dropX X i) ∧ Part (Fr B0 S w) w w') := by
  obtain ⟨held, h1, h2⟩ := k.lay
  have nn := k.nn
  have hlt := k.lt
  obtain ⟨o, ho⟩ : ∃ o, Obj.cells #[ptr (X i).b] 166 = o := ⟨_, rfl⟩
  have bo : Below w.heap.size w (w.alloc o) := (Below.refl _ w).alloc (Nat.le_refl _) o
  have hbox : (w.alloc o).heap[w.heap.size]? = some (.cells #[ptr (X i).b] 166 (0, 0)) := by rw [← ho]; exact heap_alloc_at _ _ _ rfl
  have kq := k.below bo
  have e1 : (w.alloc o).heap[S]? = some (stO m D L fr pg bf held) := (bo.block S hlt).trans h1
  have c7 : (w.alloc o).cell? ⟨S, 7, none⟩ = some held := by rw [cells_at e1 7]; rfl
  rcases h2.open with ⟨rfl, rfl⟩ | ⟨g, c, cur, rfl, g2, g3, g4, g5, g6⟩
  · exact absurd hi (by omega)
  · have hgl : g < w.heap.size := (Array.getElem?_eq_some_iff.1 g2).1
    have hgS : g ≠ S := fun e => by
      rw [e, h1] at g2
      injection g2 with g2
      injection g2 with _ g2
      exact absurd g2 (by decide)
    have h2' : Rw B0 (w.alloc o) (.slice (some ⟨g, 0, none⟩) n c) n (fun j => (X j).b) := h2.part (Part.ofBelow (F := fun _ => False) bo) (fun _ _ h => h)
    have HD : Hid (Calls Tryz.prog 169 #[.slice (some ⟨g, 0, none⟩) n c, .func (.func 170) #[] #[.pointer (some ⟨w.heap.size, 0, none⟩)]] (w.alloc o) fun r w' => r = .returned (.slice (some ⟨g, 0, none⟩) (n - 1) c) ∧ w'.cell? ⟨S, 7, none⟩ = some (.slice (some ⟨g, 0, none⟩) n c) ∧ w'.frozen? ⟨S, 7, none⟩ = false ∧ Hid (Ps B0 (w'.setCell ⟨S, 7, none⟩ (.slice (some ⟨g, 0, none⟩) (n - 1) c)) S m D L fr pg bf (n - 1) (dropX X i) ∧ Part (Fr B0 S w) w (w'.setCell ⟨S, 7, none⟩ (.slice (some ⟨g, 0, none⟩) (n - 1) c)))) :=
      (c_delete h2' (by omega) (X i).b w.heap.size i hi rfl k.apart (by rw [cells_at hbox 0]; rfl) (by omega) (fun j hj => kq.isB j hj)).mono fun r w' ⟨hr, HE⟩ => by
        have hS : w'.heap[S]? = (w.alloc o).heap[S]? := HE.out.2.block S (by simp; omega) (Ne.symm hgS)
        have e2 := hS.trans e1
        refine ⟨hr, by rw [cells_at e2 7]; rfl, cells_free e2 7, ?_⟩
        refine k.renew bo (HE.out.2.mono (fun q hq e => ⟨by rw [e]; exact h2.low, .inr ⟨cur, (0, 0), by rw [e]; exact (bo.block g hgl).trans g2⟩⟩)) hS (HE.out.1.ext (fun j hj => ?_)) (fun j hj => ?_) (fun a b ha hb e => ?_) (by omega)
        · show dropAt (fun j => (X j).b) i j = (dropX X i j).b
          unfold dropAt dropX
          by_cases h : j < i
          · rw [if_pos h, if_pos h]
          · rw [if_neg h, if_neg h]
        · unfold dropX
          by_cases h : j < i
          · rw [if_pos h]; exact kq.buf j (by omega)
          · rw [if_neg h]; exact kq.buf (j + 1) (by omega)
        · unfold dropX at e
          by_cases h : a < i
          · rw [if_pos h] at e
            by_cases h' : b < i
            · rw [if_pos h'] at e; exact k.apart a b (by omega) (by omega) e
            · rw [if_neg h'] at e; have := k.apart a (b + 1) (by omega) (by omega) e; omega
          · rw [if_neg h] at e
            by_cases h' : b < i
            · rw [if_pos h'] at e; have := k.apart (a + 1) b (by omega) (by omega) e; omega
            · rw [if_neg h'] at e; have := k.apart (a + 1) (b + 1) (by omega) (by omega) e; omega
    clear k kq h1 h2 h2' g2 g3 g6 e1 hbox bo
    unfold ptr at ho ⊢
    go_enter Tryz.func154, Tryz.ntmps154
    go_wp2_with fail
    try rw [ho]
    refine HD.out.mono ?_
    rintro r w1 ⟨rfl, x1, x2, HE⟩
    go_wp2
    go_end0
    exact ⟨rfl, HE⟩
set_option maxRecDepth 100000 in
set_option maxHeartbeats 2000000 in
/-- drop of a buffer that is not held. -/
theorem t_drop_no {w : World} {S D L fr pg bf n : Nat} {m : Int} {X : Nat → Bf} (k : Ps B0 w S m D L fr pg bf n X) (q : Nat) (hq : IsB w q) (hno : ∀ j, j < n → (X j).b ≠ q) : Calls Tryz.prog 154 #[.pointer (some ⟨S, 7, none⟩), ptr q] w fun r w' => r = .returned (.tuple #[]) ∧ Hid (Ps B0 w' S m D L fr pg bf n X ∧ Part (Fr B0 S w) w w') := by
  obtain ⟨held, h1, h2⟩ := k.lay
  have nn := k.nn
  have hlt := k.lt
  obtain ⟨a7, l7, rfl⟩ : ∃ a c, held = .slice a n c := by
    rcases h2.open with ⟨rfl, rfl⟩ | ⟨g, c, cur, rfl, _⟩
    · exact ⟨none, 0, rfl⟩
    · exact ⟨_, c, rfl⟩
  obtain ⟨o, ho⟩ : ∃ o, Obj.cells #[ptr q] 166 = o := ⟨_, rfl⟩
  have bo : Below w.heap.size w (w.alloc o) := (Below.refl _ w).alloc (Nat.le_refl _) o
  have hbox : (w.alloc o).heap[w.heap.size]? = some (.cells #[ptr q] 166 (0, 0)) := by rw [← ho]; exact heap_alloc_at _ _ _ rfl
  have kq := k.below bo
  have e1 : (w.alloc o).heap[S]? = some (stO m D L fr pg bf (.slice a7 n l7)) := (bo.block S hlt).trans h1
  have c7 : (w.alloc o).cell? ⟨S, 7, none⟩ = some (.slice a7 n l7) := by rw [cells_at e1 7]; rfl
  have f7 := cells_free e1 7
  have h2' : Rw B0 (w.alloc o) (.slice a7 n l7) n (fun j => (X j).b) := h2.part (Part.ofBelow (F := fun _ => False) bo) (fun _ _ h => h)
  have hq' : IsB (w.alloc o) q := by
    obtain ⟨cs, hcs⟩ := hq
    exact ⟨cs, (bo.block q (Array.getElem?_eq_some_iff.1 hcs).1).trans hcs⟩
  have HD : Hid (Calls Tryz.prog 169 #[.slice a7 n l7, .func (.func 170) #[] #[.pointer (some ⟨w.heap.size, 0, none⟩)]] (w.alloc o) fun r w' => r = .returned (.slice a7 n l7) ∧ w' = w.alloc o) := c_delete_no h2' (by omega) q w.heap.size hno (by rw [cells_at hbox 0]; rfl) (fun j hj => kq.isB j hj) hq'
  have HE : Hid (Ps B0 ((w.alloc o).setCell ⟨S, 7, none⟩ (.slice a7 n l7)) S m D L fr pg bf n X ∧ Part (Fr B0 S w) w ((w.alloc o).setCell ⟨S, 7, none⟩ (.slice a7 n l7))) := k.renew bo (Part.refl _ _) rfl h2' (fun j hj => kq.buf j hj) k.apart nn
  clear k kq h1 h2 h2' e1 hbox bo hq hq' hno
  unfold ptr at ho ⊢
  go_enter Tryz.func154, Tryz.ntmps154
  go_wp2_with fail
  try rw [ho]
  refine HD.out.mono ?_
  rintro r w1 ⟨rfl, hw⟩
  rw [← hw] at HE c7 f7
  clear hw HD ho
  go_wp2
  go_end0
  exact ⟨rfl, HE⟩
theorem infoP : (Tryz.prog.info? 166).map (fun i => (i.zero, i.size, i.bytes)) = some (some (.pointer none), 1, 8) := by kernel_rfl
set_option maxRecDepth 100000 in
set_option maxHeartbeats 2000000 in
/-- use, told by what its drop leaves: the buffer goes behind those. -/
theorem t_use {w : World} {S D L fr pg bf n : Nat} {m : Int} {X : Nat → Bf} {y : Bf} (hn : n < 100) (hd : Calls Tryz.prog 154 #[.pointer (some ⟨S, 7, none⟩), ptr y.b] w fun r w' => r = .returned (.tuple #[]) ∧ Hid (Ps B0 w' S m D L fr pg bf n X ∧ Part (Fr B0 S w) w w')) (hy : w.heap[y.b]? = some (bufO y)) (hS : y.b ≠ S) (hno : ∀ j, j < n → (X j).b ≠ y.b) :
    Calls Tryz.prog 128 #[.pointer (some ⟨S, 7, none⟩), ptr y.b] w fun r w' => r = .returned (.tuple #[]) ∧ Hid (Ps B0 w' S m D L fr pg bf (n + 1) (snocX X n y) ∧ Part (Fr B0 S w) w w') := by
  obtain ⟨i0, hi0, hz0, hz1, hz2⟩ := info_parts infoP
  have HD : Hid (Calls Tryz.prog 154 #[.pointer (some ⟨S, 7, none⟩), ptr y.b] w fun r w' => r = .returned (.tuple #[]) ∧ ∃ (held : Value) (a7 : Option Addr) (l7 : Nat), Hid (∀ o, B0 ≤ (w'.alloc o).heap.size) ∧ Hid (w'.ownsRow B0 166 1 held n (rowL (fun j => (X j).b) n)) ∧ held = .slice a7 n l7 ∧ w'.cell? ⟨S, 7, none⟩ = some held ∧ Hid (∀ v' o w2, o = Obj.cells #[ptr y.b] 166 → w2.ownsRow B0 166 1 v' (n + 1) (rowL (fun j => (X j).b) n ++ [ptr y.b]) → (w'.alloc o).grownBy w2 held.ownBlock → (∃ u, w2.cell? ⟨S, 7, none⟩ = some u) ∧ w2.frozen? ⟨S, 7, none⟩ = false ∧ Hid (Ps B0 (w2.setCell ⟨S, 7, none⟩ v') S m D L fr pg bf (n + 1) (snocX X n y) ∧ Part (Fr B0 S w) w (w2.setCell ⟨S, 7, none⟩ v')))) := hd.mono fun r w' ⟨hr, HE⟩ => by
    obtain ⟨k, hp⟩ := HE.out
    obtain ⟨held, h1, h2⟩ := k.lay
    have hlt := k.lt
    have hyl : y.b < w.heap.size := (Array.getElem?_eq_some_iff.1 hy).1
    have hy' : w'.heap[y.b]? = some (bufO y) := (hp.block y.b hyl (fun hf => by
      rcases hf with ⟨_, e | ⟨cs, fz, e⟩⟩
      · exact hS e
      · rw [hy] at e
        injection e with e
        injection e with _ e
        exact absurd e (by decide))).trans hy
    obtain ⟨a7, l7, e7⟩ : ∃ a c, held = .slice a n c := by
      rcases h2.open with ⟨e, e'⟩ | ⟨g, c, cur, e, _⟩
      · exact ⟨none, 0, by rw [e, e']⟩
      · exact ⟨_, c, e⟩
    have hc7 : w'.cell? ⟨S, 7, none⟩ = some held := by rw [cells_at h1 7]; rfl
    refine ⟨hr, held, a7, l7, fun o => (by have := k.low; simp; omega), h2, e7, hc7, fun v' o w2 ho hw2 hg2 => ?_⟩
    have bo : Below w'.heap.size w' (w'.alloc o) := (Below.refl _ w').alloc (Nat.le_refl _) o
    have hb7 : held.ownBlock ≠ some S := fun e => by
      rcases h2.open with ⟨h, _⟩ | ⟨g, c, cur, h, hg, _⟩
      · rw [h] at e; cases e
      · rw [h] at e
        have e : some g = some S := e
        injection e with e
        rw [e, h1] at hg
        injection hg with hg
        injection hg with _ hg
        exact absurd hg (by decide)
    have e1 : (w'.alloc o).heap[S]? = some (stO m D L fr pg bf held) := (bo.block S hlt).trans h1
    have hSe : w2.heap[S]? = (w'.alloc o).heap[S]? := hg2.block S (by simp; omega) (fun e => hb7 e.symm)
    have e2 := hSe.trans e1
    have p2 : Part (Fr B0 S (w'.alloc o)) (w'.alloc o) w2 := (Part.refl _ _).grown hg2 (fun q hq _ => by
      rcases h2.open with ⟨h, _⟩ | ⟨g, c, cur, h, hg, _⟩
      · rw [h] at hq; cases hq
      · rw [h] at hq
        have hq : some g = some q := hq
        injection hq with hq
        subst hq
        refine ⟨Rw.low (h ▸ h2), .inr ?_⟩
        exact ⟨cur, (0, 0), (bo.block g (Array.getElem?_eq_some_iff.1 hg).1).trans hg⟩)
    have kq := k.below bo
    have hrow : Rw B0 w2 v' (n + 1) (fun j => (snocX X n y j).b) := by
      unfold Rw
      rw [← rowL_snoc]
      have e3 : ptr ((fun j => (snocX X n y j).b) n) = ptr y.b := by show ptr (snocX X n y n).b = _; unfold snocX; rw [if_pos rfl]
      have e4 : rowL (fun j => (snocX X n y j).b) n = rowL (fun j => (X j).b) n := rowL_ext (fun j hj => by show (snocX X n y j).b = _; unfold snocX; rw [if_neg (by omega)])
      rw [e3, e4]
      exact hw2
    obtain ⟨q1, q2⟩ := k.renew bo p2 hSe hrow (fun j hj => by
      unfold snocX
      by_cases e : j = n
      · rw [if_pos e]; exact (bo.block y.b (Array.getElem?_eq_some_iff.1 hy').1).trans hy'
      · rw [if_neg e]; exact kq.buf j (by omega)) (fun a b ha hb e => by
      unfold snocX at e
      by_cases h : a = n
      · rw [if_pos h] at e
        by_cases h' : b = n
        · omega
        · rw [if_neg h'] at e; exact absurd e.symm (hno b (by omega))
      · rw [if_neg h] at e
        by_cases h' : b = n
        · rw [if_pos h'] at e; exact absurd e (hno a (by omega))
        · rw [if_neg h'] at e; exact k.apart a b (by omega) (by omega) e) (by omega)
    exact ⟨⟨_, by rw [cells_at e2 7]; rfl⟩, cells_free e2 7, q1, hp.trans q2 (fun b hb hf => by
      rcases hf with ⟨h0, e | ⟨cs, fz, e⟩⟩
      · exact ⟨h0, .inl e⟩
      · by_cases hF : Fr B0 S w b
        · exact hF
        · exact ⟨h0, .inr ⟨cs, fz, by rw [← hp.block b hb hF]; exact e⟩⟩)⟩
  clear hd hy hS hno
  have hn' : (n : Int) ≤ 100 := by omega
  generalize hyb : y.b = q at *
  go_enter Tryz.func128, Tryz.ntmps128
  go_wp2_with fail
  refine HD.out.mono ?_
  rintro r w1 ⟨rfl, held, a7, l7, HZ, HR, rfl, hc7, HN⟩
  have HA : Hid (∀ o, (w1.alloc o).ownsRow B0 166 1 (.slice a7 n l7) n (rowL (fun j => (X j).b) n)) := fun o => (Part.ofBelow (F := fun _ => False) ((Below.refl _ w1).alloc (Nat.le_refl _) o)).row HR.out (fun _ _ h => h)
  obtain ⟨nw, hnw⟩ : ∃ nw, ([ptr q] : List Value) = nw := ⟨_, rfl⟩
  have hl1 : nw.length = 1 * 1 := by rw [← hnw]; rfl
  have HO1 : Hid (∀ u ∈ nw, u.oneCell' = true) := by rw [← hnw]; exact fun u hu => by simp at hu; rw [hu]; rfl
  have HN2 : Hid (∀ v' w2, w2.ownsRow B0 166 1 v' (n + 1) (rowL (fun j => (X j).b) n ++ nw) → (w1.alloc (Obj.cells #[.pointer (some ⟨q, 0, none⟩)] 166)).grownBy w2 (Value.slice a7 n l7).ownBlock → (∃ u, w2.cell? ⟨S, 7, none⟩ = some u) ∧ w2.frozen? ⟨S, 7, none⟩ = false ∧ Hid (Ps B0 (w2.setCell ⟨S, 7, none⟩ v') S m D L fr pg bf (n + 1) (snocX X n y) ∧ Part (Fr B0 S w) w (w2.setCell ⟨S, 7, none⟩ v'))) := fun v' w2 h g => HN.out v' _ w2 rfl (by rw [hnw]; exact h) g
  have HL : Hid (∀ j u, nw[j]? = some u → (w1.alloc (Obj.cells #[.pointer (some ⟨q, 0, none⟩)] 166)).cell? ((⟨w1.heap.size, 0, none⟩ : Addr).add j) = some u) := fun j u hu => by
    rw [← hnw] at hu
    rw [Addr.add_lit, Nat.zero_add, cells_at (heap_alloc_at _ _ _ rfl) j]
    simpa [ptr] using hu
  clear hnw HN
  unfold ptr
  go_wp2_with (at_builtin; refine wpList_append_own_at _ rfl _ _ 139 rfl B0 166 i0 (.pointer none) 1 8 Tryz.underlying139 hi0 hz0 hz1 hz2 rfl (by decide) (.slice a7 n l7) n (rowL (fun j => (X j).b) n) rfl (HA.out _) ⟨w1.heap.size, 0, none⟩ 1 1 nw rfl hl1 ?q1 ?q2 ?q3 ?q4 ?q5 ?_)
  case q1 => exact HL.out
  case q2 => exact HO1.out
  case q3 => unfold maxLen; omega
  case q4 => omega
  case q5 => exact HZ.out _
  intro v2 w2 ho2 hg2 _ hat
  obtain ⟨⟨u, x1⟩, x2, HE⟩ := HN2.out v2 w2 ho2 hg2
  obtain ⟨a2, c2, rfl⟩ : ∃ a c, v2 = .slice a (n + 1) c := by
    rcases ho2.2 with ⟨h, h'⟩ | ⟨g, cap, cur, h, _⟩
    · omega
    · exact ⟨_, cap, h⟩
  clear HN2 HA HL ho2 hg2 hat hc7 HR
  go_wp2
  go_end0
  exact ⟨rfl, HE⟩
end Go.Proofs.YthfokciijcmhbaaGreatDoor
