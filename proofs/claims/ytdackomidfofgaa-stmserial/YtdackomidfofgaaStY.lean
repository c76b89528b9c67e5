/-
  The law's helpers: name; whether a slot among some has the name.
-/
import Derived.Test.YtdackomidfofgaaStX
namespace Go.Proofs.Ytdackomidfofgaa
open Go.RowKit Go.Maps
set_option linter.unusedVariables false
set_option linter.unusedSimpArgs false
set_option maxRecDepth 100000
set_option maxHeartbeats 2000000

/-- One of the three names. -/
def nme (n : Nat) : ByteArray := if n % 3 = 0 then ⟨#[97]⟩ else if n % 3 = 1 then ⟨#[98]⟩ else ⟨#[99]⟩
theorem nme_size (n : Nat) : (nme n).size = 1 := by
  unfold nme
  split
  · rfl
  · split <;> rfl
theorem l_name (p q : Int) (s : ByteArray) (a : Option Addr) (n c : Nat) (w : World) :
    Calls Try.prog 13 #[.agg #[.int .i64 p, .int .i64 q, .string s, .slice a n c]] w fun e w' => e = .returned (.string (nme s.size)) ∧ Below w.heap.size w w' := by
  have HB : ∀ o1 o2, Hid (Below w.heap.size w ((w.alloc o1).alloc o2)) := fun o1 o2 => ((Below.refl _ w).alloc (Nat.le_refl _) o1).alloc (by simp) o2
  have h3 : s.size % 3 = 0 ∨ s.size % 3 = 1 ∨ s.size % 3 = 2 := by omega
  have key : ∀ (z : ByteArray) (k : Nat), s.size % 3 = k → nme s.size = z → Hid (nme s.size = z) := fun z k _ h => h
  rcases h3 with h | h | h
  · have hn := key ⟨#[97]⟩ 0 h (by unfold nme; rw [h]; rfl)
    clear key
    go_enter Try.func13, Try.ntmps13
    go_wp2
    go_ret
    exact ⟨by rw [hn.out]; rfl, (HB _ _).out⟩
  · have hn := key ⟨#[98]⟩ 1 h (by unfold nme; rw [h]; rfl)
    clear key
    go_enter Try.func13, Try.ntmps13
    go_wp2
    go_ret
    exact ⟨by rw [hn.out]; rfl, (HB _ _).out⟩
  · have hn := key ⟨#[99]⟩ 2 h (by unfold nme; rw [h]; rfl)
    clear key
    go_enter Try.func13, Try.ntmps13
    go_wp2
    go_ret
    exact ⟨by rw [hn.out]; rfl, (HB _ _).out⟩
/-- A Do in memory. -/
structure Dob (w : World) (b : Nat) (p q : Int) (s : ByteArray) (a : Option Addr) (n c : Nat) : Prop where
  cel : w.heap[b]? = some (.cells #[.int .i64 p, .int .i64 q, .string s, .slice a n c] 32 (0, 0))
theorem Dob.below {w w' : World} {b : Nat} {p q : Int} {s : ByteArray} {a : Option Addr} {n c : Nat} (h : Dob w b p q s a n c) (hb : Below w.heap.size w w') : Dob w' b p q s a n c := ⟨(hb.block _ (Array.getElem?_eq_some_iff.1 h.cel).1).trans h.cel⟩
theorem l_is (ky : ByteArray) (vr : Int) (v : Option Addr) (vn vc : Nat) (kb : Nat) (p q : Int) (s : ByteArray) (a : Option Addr) (n c : Nat) (w : World) (hk : Dob w kb p q s a n c) :
    Calls Try.prog 12 #[.agg #[.string ky, .int .i64 vr, .slice v vn vc], .pointer (some ⟨kb, 0, none⟩)] w fun e w' => e = .returned (.bool (ky.toList == (nme s.size).toList)) ∧ Below w.heap.size w w' := by
  have hb0 : Below w.heap.size w (w.alloc (.cells #[.string ky, .int .i64 vr, .slice v vn vc] 44)) := (Below.refl _ w).alloc (Nat.le_refl _) _
  have hk0 := hk.below hb0
  obtain ⟨W, hW⟩ : ∃ W, W = w.alloc (.cells #[.string ky, .int .i64 vr, .slice v vn vc] 44) := ⟨_, rfl⟩
  have hnew : W.heap[w.heap.size]? = some (.cells #[.string ky, .int .i64 vr, .slice v vn vc] 44 (0, 0)) := by rw [hW]; exact World.alloc_heap_new w _
  rw [← hW] at hb0 hk0
  have d0 : W.drew.cell? ⟨kb, 0, none⟩ = some (.int .i64 p) := by have := cells_at hk0.cel 0; exact this
  have d1 : W.drew.cell? ⟨kb, 1, none⟩ = some (.int .i64 q) := by have := cells_at hk0.cel 1; exact this
  have d2 : W.drew.cell? ⟨kb, 2, none⟩ = some (.string s) := by have := cells_at hk0.cel 2; exact this
  have d3 : W.drew.cell? ⟨kb, 3, none⟩ = some (.slice a n c) := by have := cells_at hk0.cel 3; exact this
  have e0 : W.drew.cell? ⟨w.heap.size, 0, none⟩ = some (.string ky) := by have := cells_at hnew 0; exact this
  have HC := l_name p q s a n c W.drew
  have HS : ∀ w2, Below W.drew.heap.size W.drew w2 → w2.cell? ⟨w.heap.size, 0, none⟩ = some (.string ky) ∧ Hid (Below w.heap.size w w2) := fun w2 h => by
    refine ⟨?_, hb0.trans ((Below.trans (blw_drewN 1 (Below.refl _ W)) h).mono hb0.size)⟩
    rw [cells_at ((h.block _ (by show _ < W.heap.size; exact (Array.getElem?_eq_some_iff.1 hnew).1)).trans hnew) 0]; rfl
  clear hk hk0 hnew hb0
  go_enter Try.func12, Try.ntmps12
  go_wp2
  rw [← hW]
  clear hW
  go_region_with (go_at_call 13; refine HC.mono ?_; rintro e w2 ⟨rfl, hb2⟩; obtain ⟨x1, x2⟩ := HS w2 hb2; clear hb2)
  all_goals
    go_wp2
    go_ret
    exact ⟨rfl, x2.out⟩
theorem flat_at : ∀ (zs : List Zs) (k : Nat) (z : Zs), zs[k]? = some z → ∀ j, j < 3 → (zs.flatMap Zs.cs)[k * 3 + j]? = z.cs[j]?
  | [], k, z, h, j, hj => by cases h
  | y :: r, 0, z, h, j, hj => by
    obtain rfl : y = z := by simpa using h
    rw [List.flatMap_cons, Nat.zero_mul, Nat.zero_add, List.getElem?_append_left (by show j < 3; exact hj)]
  | y :: r, k + 1, z, h, j, hj => by
    have ih := flat_at r k z (by simpa using h) j hj
    rw [List.flatMap_cons, List.getElem?_append_right (by show 3 ≤ _; omega)]
    rw [show (k + 1) * 3 + j - y.cs.length = k * 3 + j by show (k + 1) * 3 + j - 3 = _; omega]
    exact ih
/-- One of a row of slots, in memory. -/
theorem Rls.at {W : World} {B : Nat} {v : Value} {zs : List Zs} (h : Rls W B v zs) {k : Nat} {z : Zs} (hk : zs[k]? = some z) : ∃ g cap a c, v = .slice (some ⟨g, 0, none⟩) zs.length cap ∧ z.val = .slice a z.xs.length c ∧ From W a z.xs.length (fn z.xs) ∧
    W.cell? ⟨g, k * 3, none⟩ = some (.string ⟨z.ky.toArray⟩) ∧ W.cell? ⟨g, k * 3 + 1, none⟩ = some (.int .i64 z.ver) ∧ W.cell? ⟨g, k * 3 + 2, none⟩ = some (.slice a z.xs.length c) := by
  have hlt : k < zs.length := (List.getElem?_eq_some_iff.1 hk).1
  have hzo := h.own z (List.mem_of_getElem? hk)
  obtain ⟨a, c, hv⟩ := hzo.slice
  have hF : From W a z.xs.length (fn z.xs) := by
    have := hzo
    rw [hv] at this
    rcases this.2 with ⟨h1, h2⟩ | ⟨g, cap, cur, h1, _, h2, _, _, h3, h4⟩
    · injection h1 with h1 h5 h6
      exact .inl ⟨h1, h2⟩
    · injection h1 with h1 h5 h6
      refine .inr ⟨⟨g, 0, none⟩, h1, fun i hi => ?_⟩
      rw [Addr.add_lit, Nat.zero_add, cells_at h2 i, ← Array.getElem?_toList]
      have h7 : (cur.toList.take (z.xs.length * 1))[i]? = cur.toList[i]? := List.getElem?_take_of_lt (by omega)
      rw [← h7, h4, List.getElem?_map, List.getElem?_eq_getElem hi]
      show some (Value.int .u8 z.xs[i]) = some (.int .u8 (z.xs.getD i 0))
      simp [List.getD, List.getElem?_eq_getElem hi]
  rcases h.row.2 with ⟨h1, h2⟩ | ⟨g, cap, cur, h1, _, h2, _, _, h3, h4⟩
  · omega
  · have key : ∀ j, j < 3 → W.cell? ⟨g, k * 3 + j, none⟩ = z.cs[j]? := fun j hj => by
      rw [cells_at h2, ← Array.getElem?_toList, ← flat_at zs k z hk j hj, ← h4, List.getElem?_take_of_lt (by omega)]
    refine ⟨g, cap, a, c, h1, hv, hF, key 0 (by omega), key 1 (by omega), ?_⟩
    rw [key 2 (by omega), ← hv]
    rfl
theorem Rls.below {W W' : World} {B : Nat} {v : Value} {zs : List Zs} (h : Rls W B v zs) (hb : Below W.heap.size W W') : Rls W' B v zs := h.kept (F := fun _ => False) (.ofBelow hb) (fun _ _ _ h => h.elim)
theorem l_idx {w : World} {B : Nat} {v : Value} {zs : List Zs} (hR : Rls w B v zs) (hN : zs.length ≤ 1099511627776) (kb : Nat) (p q : Int) (s : ByteArray) (a : Option Addr) (n c : Nat) (hk : Dob w kb p q s a n c) :
    Calls Try.prog 31 #[v, .func (.func 12) #[] #[.pointer (some ⟨kb, 0, none⟩)]] w fun e w' => ∃ i : Int, e = .returned (.int .i64 i) ∧ (0 ≤ i ↔ ∃ z ∈ zs, z.ky = (nme s.size).data.toList) ∧ Below w.heap.size w w' := by
  obtain ⟨av, cv, rfl⟩ := row_slice hR.row
  go_enter Try.func31, Try.ntmps31
  go_wp2
  go_loopw [8] (fun s' wr => ∃ k : Nat, k ≤ zs.length ∧ s' = .int .i64 (k : Int) ∧ Hid (∀ j z, j < k → zs[j]? = some z → z.ky ≠ (nme s.size).data.toList) ∧ Below w.heap.size w wr) (fun k _ => zs.length - (intOf k).toNat)
  case atStart => exact ⟨0, Nat.zero_le _, rfl, fun j z hj => absurd hj (by omega), Below.refl _ _⟩
  case round =>
    obtain ⟨k, hkl, rfl, HJ, hB⟩ := hrel
    by_cases hlt : k < zs.length
    · obtain ⟨z, hz⟩ : ∃ z, zs[k]? = some z := ⟨_, List.getElem?_eq_getElem hlt⟩
      obtain ⟨g, cap, za, zc, e1, hzv, hF, c0, c1, c2⟩ := (hR.below hB).at hz
      injection e1 with e1 _ e3
      subst e1
      subst e3
      have l1 : (k : Int) < (zs.length : Int) := by omega
      have l2 : (0 : Int) ≤ (k : Int) := by omega
      have HI := l_is ⟨z.ky.toArray⟩ z.ver za z.xs.length zc kb p q s a n c wr (hk.below hB)
      have HB2 : ∀ w2, Below wr.heap.size wr w2 → Hid (Below w.heap.size w w2) := fun w2 h => hB.trans (h.mono hB.size)
      have hq : ((⟨z.ky.toArray⟩ : ByteArray).toList == (nme s.size).toList) = decide (z.ky = (nme s.size).data.toList) := by
        rw [ByteArray.toList_eq, ByteArray.toList_eq]
        show (z.ky.toArray.toList == _) = _
        rw [List.toList_toArray]
        by_cases h : z.ky = (nme s.size).data.toList
        · rw [h]; simp
        · rw [decide_eq_false h]; simpa using h
      rw [hq] at HI
      by_cases hd : z.ky = (nme s.size).data.toList
      · rw [decide_eq_true hd] at HI
        have HE : Hid (∃ z ∈ zs, z.ky = (nme s.size).data.toList) := ⟨z, List.mem_of_getElem? hz, hd⟩
        clear hR hk hz hzv hF hq hd HJ hB
        go_wp2_with (go_at_call 12; refine HI.mono ?_; rintro e w2 ⟨rfl, hb2⟩)
        go_ret
        exact ⟨(k : Int), rfl, ⟨fun _ => HE.out, fun _ => l2⟩, (HB2 _ hb2).out⟩
      · rw [decide_eq_false hd] at HI
        have HE : Hid (∀ j z, j < k + 1 → zs[j]? = some z → z.ky ≠ (nme s.size).data.toList) := fun j y hj hy => by
          by_cases hjk : j < k
          · exact HJ.out j y hjk hy
          · obtain rfl : j = k := by omega
            rw [hz] at hy
            cases hy
            exact hd
        clear hR hk hz hzv hF hq hd HJ hB
        go_wp2_with (go_at_call 12; refine HI.mono ?_; rintro e w2 ⟨rfl, hb2⟩)
        go_roundw
        case rel => exact ⟨k + 1, by omega, by go_num, HE, (HB2 _ hb2).out⟩
        case measure => simp [intOf]; omega
    · obtain rfl : k = zs.length := by omega
      have HE : Hid (¬ ∃ z ∈ zs, z.ky = (nme s.size).data.toList) := fun ⟨z, hz, e⟩ => by
        obtain ⟨j, hj, hz⟩ := List.getElem_of_mem hz
        exact HJ.out j z hj (by rw [List.getElem?_eq_getElem hj, hz]) e
      clear hR hk HJ
      go_wp2
      go_ret
      exact ⟨-1, rfl, ⟨fun h => absurd h (by decide), fun h => absurd h HE.out⟩, hB⟩
theorem l_con {w : World} {B : Nat} {v : Value} {zs : List Zs} (hR : Rls w B v zs) (hN : zs.length ≤ 1099511627776) (kb : Nat) (p q : Int) (s : ByteArray) (a : Option Addr) (n c : Nat) (hk : Dob w kb p q s a n c) :
    Calls Try.prog 10 #[v, .func (.func 12) #[] #[.pointer (some ⟨kb, 0, none⟩)]] w fun e w' => ∃ b : Bool, e = .returned (.bool b) ∧ (b = true ↔ ∃ z ∈ zs, z.ky = (nme s.size).data.toList) ∧ Below w.heap.size w w' := by
  have HI := l_idx hR hN kb p q s a n c hk
  obtain ⟨av, cv, rfl⟩ := row_slice hR.row
  clear hR hk
  go_enter Try.func10, Try.ntmps10
  go_wp2_with (go_at_call 31; refine HI.mono ?_; rintro e w2 ⟨i, rfl, hi, hb2⟩; have hi' : Hid (0 ≤ i ↔ ∃ z ∈ zs, z.ky = (nme s.size).data.toList) := hi; clear hi)
  go_ret
  exact ⟨decide (0 ≤ i), rfl, by rw [decide_eq_true_iff]; exact hi'.out, hb2⟩
end Go.Proofs.Ytdackomidfofgaa
