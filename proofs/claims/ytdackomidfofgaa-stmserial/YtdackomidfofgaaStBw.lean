/-
  inOrder over a map of bytes: its iterator hands out each entry once. Condition: no more than 2^40 entries.
-/
import Derived.Test.YtdackomidfofgaaStB
namespace Go.Proofs.Ytdackomidfofgaa
open Go.RowKit Go.Maps Go.Sort Go.Shelf
set_option linter.unusedVariables false
attribute [local go_sem] Oper.semAt_some

/-- An entry. -/
abbrev Eb := { x : List UInt8 × Option Addr × Nat × Nat // x.1.length ≤ maxLen }
def Eb.ky (x : Eb) : List UInt8 := x.1.1
def Eb.vl (x : Eb) : Value := .slice x.1.2.1 x.1.2.2.1 x.1.2.2.2
def Eb.kv (x : Eb) : Kv := (x.ky, x.vl)
theorem Eb.short (x : Eb) : x.ky.length ≤ maxLen := x.2
theorem zeroEb (w : World) : (zeroValue 30).run Try.prog w = .ok (.slice none 0 0) w := by kernel_rfl

set_option maxRecDepth 100000 in
set_option maxHeartbeats 2000000 in
theorem Eb.ord1 (n : Nat) (hn : 1 ≤ n) (l Bx b : Nat) (A : List Eb) (hlen : A.length ≤ 1099511627776) (J Jx : List Eb → World → Prop) (W : World) (hJ : AbidesFrom W.heap.size J)
    (hY : ∀ pre x W1, J pre W1 → pre.length < A.length → x ∈ A → YieldAt Fence.wide (n - 1) Try.prog l #[.string ⟨(Eb.ky x).toArray⟩, Eb.vl x] W1 fun e W' =>
      (e = .returned (.bool true) ∧ J (pre ++ [x]) W' ∧ Kq Bx b W1 W') ∨ (e = .returned (.bool false) ∧ Jx (pre ++ [x]) W'))
    (hBx : W.heap[Bx]? = some (.cells #[.map (some b)] 28 (0, 0))) (hM : Mp W b (A.map Eb.kv)) (h0 : J [] W) :
    CallsIn Fence.wide n Try.prog 45 #[.func (.yield l) #[] #[], .pointer (some ⟨Bx, 0, none⟩)] W fun e W' => (∃ v, e = .returned v) ∧
      ((∃ ys, ys.Perm A ∧ J ys W') ∨ (∃ pre, (∃ suf, (pre ++ suf).Perm A) ∧ Jx pre W')) := by
  obtain ⟨i0, hi, hz0, hz1, hz2⟩ := info_parts info9
  have hro : Fence.wide.round = none := rfl
  have hown : W.ownsMap Try.prog 9 idR b A.length (toD (A.map Eb.kv)) := by have := hM; unfold Mp at this; rw [List.length_map] at this; exact this
  have hsz : Maps.size (toD (A.map Eb.kv)) = A.length := by rw [toD_size, List.length_map]
  have hbl := hM.lt
  have hBl : Bx < W.heap.size := (Array.getElem?_eq_some_iff.1 hBx).1
  have hbc : W.cell? ⟨Bx, 0, none⟩ = some (.map (some b)) := by rw [cells_at hBx 0]; rfl
  refine callsIn_of_wp Try.func45 rfl trivial ?_ hro
  simp only [Try.ntmps45, List.size_toArray, List.length_cons, List.length_nil, Nat.reduceAdd, Nat.reduceSub, Array.replicate_succ, Array.replicate_zero, List.push_toArray, List.append_toArray, List.nil_append, List.cons_append]
  gi_wp2_with (first
    | (gi_at_len; refine wpListIn_len_own _ rfl _ 28 rfl 9 30 Try.underlying28 _ b A.length _ rfl hown ?_; rw [hsz])
    | (gi_at_make; refine wpListIn_make_own _ rfl _ _ 69 rfl W.heap.size 9 i0 (.string ⟨#[]⟩) 1 Try.underlying69 hi hz0 hz1 _ _ _ A.length rfl rfl rfl (by rw [hz2]; omega) (by unfold maxLen; omega) (Nat.le_refl _) ?_; intro w1 hrow1 hg1; have hbc1 : w1.cell? ⟨Bx, 0, none⟩ = some (.map (some b)) := (World.cell?_of_block (w := W) (hg1.block Bx hBl (by simp))).trans hbc)
    | (gi_at_range; refine wpListIn_range_own _ rfl _ 28 rfl 9 30 law9 Try.underlying28 _ b A.length _ rfl (hown.kept hg1 (by simp)) ?_; intro w0 hrg0 hg0 hs0)
    | gi_in)
  go_frame
  gi_loopw [3] (fun v wr => ∃ (left : Lit → Bool) (cnt : Nat) (ss : List (List UInt8)), wr.ranges Try.prog 9 idR b w1.heap.size A.length (toD (A.map Eb.kv)) left cnt ∧ ss.length + cnt ≤ A.length ∧
      wr.ownsRow W.heap.size 9 1 v ss.length (ss.map encStr) ∧ v ≠ .slice none 0 0 ∧ Collected (toD (A.map Eb.kv)) left ss ∧ Below W.heap.size W wr)
    (fun _ wr => wr.rangeLeft b w1.heap.size)
  case atStart =>
    exact ⟨_, _, [], hrg0, by rw [hsz]; simp, hrow1.kept hg0 (Or.inr (by simp [Value.ownBlock])), by simp, Collected.start _,
      ((Below.refl _ _).grown hg1 (Nat.le_refl _) (fun j hj => by cases hj)).grown hg0 hg1.size (fun j hj => by cases hj)⟩
  case round =>
    obtain ⟨left, cnt, ss, hrg, hcs, hrow, hnn, hC, hnx⟩ := hrel
    gi_wp2_with (first
      | (gi_at_next; refine wpListIn_next_ranges _ rfl _ rfl 9 law9 idR encStr (fun v : Value => v) (fun key kl hk => by obtain ⟨x, hx, _⟩ := Maps.keyOf_str Try.underlying9 hk; exact ⟨x, hx⟩) (fun v y hv => ⟨v, rfl⟩) b w1.heap.size A.length _ _ _ rfl hrg ?_ ?_)
      | gi_in)
    · -- nothing is left: the names are sorted, and handed out one by one
      intro hc0 hl0
      rcases hrow.2 with ⟨hnil, _⟩ | ⟨g, cap, cur, rfl, hbase, hb, h1, h2, h3, h4⟩
      · exact absurd hnil hnn
      have hH : Holds encStr wr g 0 ss.toArray := holds_of_block hb (by simpa using h4)
      have hgl : g < wr.heap.size := (Array.getElem?_eq_some_iff.1 hb).1
      have hc := Try.slices_Sort_string g 0 cap ss wr hH hgl (by omega)
      have hpm : ss.Perm (A.map Eb.ky) := by
        have := hC.perm hown law9 Try.underlying9 hl0
        rw [keys_toD, List.map_map] at this
        exact this
      obtain ⟨xs, hxp, hxe⟩ := lift_perm Eb.ky (ss.mergeSort fun x y => decide (x ≤ y)) A ((List.mergeSort_perm _ _).trans hpm)
      have hxl : xs.length = ss.length := by have := congrArg List.length hxe; rw [List.length_map, List.length_mergeSort] at this; exact this
      have hxA : xs.length = A.length := hxp.length_eq
      have HW : ∀ w', (∃ n os, w' = grow (putRow encStr (Sort.ahead wr n) g 0 (ss.mergeSort fun x y => decide (x ≤ y)).toArray) os) → Hid (w'.ownsRow W.heap.size 9 1 (.slice (some ⟨g, 0, none⟩) ss.length cap) ss.length (xs.map fun x => encStr x.ky) ∧ Below W.heap.size W w') := by
        rintro w' ⟨nn, os, rfl⟩
        refine ⟨?_, hnx.grown (grownBy_sorted _) hnx.size (fun j hj => by cases hj; exact hbase)⟩
        have := ownsRow_sorted (n := nn) (os := os) (ts := ss.mergeSort fun x y => decide (x ≤ y)) (by simp) hbase hb h1 h2 h3
        rw [← hxe, List.map_map] at this
        rw [← hxe]
        exact this
      clear hxe hpm hH h4 h3 hb hrow hC hrg hbc
      gi_wp2_with (refine ⟨trivial, ?_⟩; gi_at_call 46; refine (callsIn_wide.2 hc).mono ?_; rintro e w' ⟨rfl, hw'⟩)
      obtain ⟨hrow', hB'⟩ := (HW w' hw').out
      clear HW hw' hc hnx hgl hnn
      have hJ0 : J [] w' := hJ [] W w' none h0 (grown_of_below hB') (fun r e => by cases e)
      have hBx' : w'.heap[Bx]? = some (.cells #[.map (some b)] 28 (0, 0)) := (hB'.block Bx hBl).trans hBx
      have hM' : Mp w' b (A.map Eb.kv) := hM.heap (hB'.block b hbl)
      have hkeys := hM.keys
      have HC : Hid (∀ (w2 : World) (k : Nat) (x : Eb), Kq Bx b w' w2 → xs[k]? = some x → w2.cell? ⟨g, k, none⟩ = some (.string ⟨x.ky.toArray⟩) ∧ w2.cell? ⟨Bx, 0, none⟩ = some (.map (some b)) ∧ (Instr.lookup 28 (.map (some b)) (.string ⟨x.ky.toArray⟩) false).run Try.prog w2 = .ok x.vl w2) := by
        intro w2 k x hk hx
        rcases hrow'.2 with ⟨h, _⟩ | ⟨g', cap', cur', h, _, hg', _, _, hcs', htk⟩
        · cases h
        · cases h
          refine ⟨?_, ?_, ?_⟩
          · have hkl : k < ss.length := by rw [← hxl]; exact (List.getElem?_eq_some_iff.1 hx).1
            rw [cells_at (hk.rows g _ _ hg') k]
            have h5 : (cur'.toList.take (ss.length * 1))[k]? = some (encStr x.ky) := by rw [htk, List.getElem?_map, hx]; rfl
            rw [List.getElem?_take_of_lt (by omega), Array.getElem?_toList] at h5
            exact h5
          · rw [cells_at (hk.box.trans hBx') 0]; rfl
          · have hl := (hM'.heap hk.map).look Try.underlying28 (zeroEb w2) (s := ⟨x.ky.toArray⟩) (by show x.ky.toArray.size ≤ _; simpa using x.short)
            have hm : x ∈ A := hxp.mem_iff.1 (List.mem_of_getElem? hx)
            have h6 : lk (A.map Eb.kv) x.ky = some x.vl := lk_in hkeys (p := x.kv) (List.mem_map.2 ⟨x, hm, rfl⟩)
            rw [hl]
            show Result.ok ((lk (A.map Eb.kv) x.ky).getD _) w2 = _
            rw [h6]
            rfl
      clear hrow' hBx' hM' hkeys hBx hM hown hsz
      rw [← hxl]
      have HxA : Hid (xs.length = A.length) := hxA
      clear hxl hxA h1 h2
      gi_loopw [24] (fun i wr => ∃ k : Nat, i = .int .i64 (k : Int) ∧ k ≤ xs.length ∧ J (xs.take k) wr ∧ Kq Bx b w' wr) (fun i _ => xs.length - (intOf i).toNat)
      case atStart => exact ⟨0, rfl, Nat.zero_le _, hJ0, Kq.refl _ _ _⟩
      case round =>
        obtain ⟨k, rfl, hk, hJs, hnx⟩ := hrel
        by_cases hlt : k < xs.length
        · obtain ⟨x, hx⟩ : ∃ x, xs[k]? = some x := ⟨_, List.getElem?_eq_getElem hlt⟩
          obtain ⟨hc1, hc2, hc3⟩ := HC.out _ k x hnx hx
          obtain ⟨fn, tmps, assign, body, hy, hR⟩ := hY _ x _ hJs (by rw [List.length_take, ← HxA.out]; omega) (hxp.mem_iff.1 (List.mem_of_getElem? hx))
          have Htk : Hid (xs.take (k + 1) = xs.take k ++ [x]) := take_next xs k x hx
          have hk0 : (0 : Int) ≤ (k : Int) := by omega
          have hk1 : (k : Int) < (xs.length : Int) := by omega
          have hkb : (k : Int) + 1 < 9223372036854775807 := by have := HxA.out; omega
          clear hx HC HxA hcs hlen hc0 hl0 hlt hJ hJ0 h0 hB' hrow1 hrg0 hg0 hs0 hg1
          gi_wp2
          refine hR.mono ?_
          rintro e W3 (⟨rfl, hJ3, hk3⟩ | ⟨rfl, hJx3⟩)
          · gi_wp2
            go_roundw
            case rel => exact ⟨k + 1, by first | rfl | go_num, by omega, by rw [Htk.out]; exact hJ3, hnx.trans hk3⟩
            case measure => simp [intOf]; omega
          · gi_wp2
            refine bodyPost_ret (results_none rfl _ _ _) rfl ?_
            exact ⟨⟨_, rfl⟩, .inr ⟨_, ⟨xs.drop (k + 1), by rw [← Htk.out, List.take_append_drop]; exact hxp⟩, hJx3⟩⟩
        · obtain rfl : k = xs.length := by omega
          gi_wp2
          go_end0
          exact ⟨⟨_, rfl⟩, .inl ⟨xs, hxp, by rw [List.take_length] at hJs; exact hJs⟩⟩
    · -- an entry has come: its key goes to the row's end
      intro x c kl yd yp w2 cnt2 hkey hlk hv hat hrg2 hlt hg2 hs2 hen
      obtain ⟨x', ex, rfl, _⟩ := Maps.keyOf_str Try.underlying9 hkey
      obtain rfl : x = x' := encStr_inj ex
      have hrow2 := hrow.kept hg2 (Or.inr (row_ne_iter hrow hrg).symm)
      clear hs2
      gi_wp2_with (first
        | (gi_at_builtin; refine wpListIn_append_own _ rfl _ _ 69 rfl W.heap.size 9 i0 (.string ⟨#[]⟩) 1 16 Try.underlying69 hi hz0 hz1 hz2 rfl (by decide) _ _ _ rfl (hrow2.alloc _) ⟨w2.heap.size, 0, none⟩ 1 1 [encStr x] rfl rfl (cell_one_new _ _ _) (by simp [Value.oneCell', encStr]) (by unfold maxLen at *; omega) (by omega) (by have := hnx.size; have := hg2.size; simp; omega) ?_; intro v' w3 hown' hg3 hnil3; go_frame)
        | gi_in)
      have hrg3 := (hrg2.alloc _).kept hg3 (row_ne_low hrow2 hbl) (row_ne_iter hrow2 hrg2)
      go_roundw
      case rel =>
        refine ⟨_, cnt2, ss ++ [x], hrg3, by simp; omega, by simpa using hown', fun hv' => by have := (hnil3.1 hv').2; omega, hC.step hlk hat, ?_⟩
        exact ((hnx.grown hg2 hnx.size (fun j hj => by cases hj; exact hg1.size)).alloc (by have := hnx.size; have := hg2.size; omega) _).grown hg3 (by have := hnx.size; have := hg2.size; simp; omega) (fun j hj => (hrow2.lt j hj).1)
      case measure => rw [hrg3.left_eq, hrg.left_eq]; exact hlt
/-- inOrder itself: the map is boxed; the function value captures the box. -/
theorem Eb.mk (b : Nat) (w : World) :
    Calls Try.prog 33 #[.map (some b)] w fun e w' => e = .returned (.func (.func 45) #[] #[.pointer (some ⟨w.heap.size, 0, none⟩)]) ∧ w' = w.alloc (.cells #[.map (some b)] 28) := by
  go_enter Try.func33, Try.ntmps33
  go_wp2
  go_ret
  exact ⟨rfl, rfl⟩
/-- What it hands back: each entry, once. -/
theorem Eb.stops (n : Nat) (hn : 1 ≤ n) (Bx b : Nat) (A : List Eb) (hlen : A.length ≤ 1099511627776) (w : World) (hBx : w.heap[Bx]? = some (.cells #[.map (some b)] 28 (0, 0))) (hM : Mp w b (A.map Eb.kv)) :
    SeqStopsK Fence.wide n Try.prog 45 #[.pointer (some ⟨Bx, 0, none⟩)] (fun x : Eb => #[Value.string ⟨x.ky.toArray⟩, x.vl]) (Kq Bx b) (fun ys => ys.Perm A) (fun pre => ∃ suf, (pre ++ suf).Perm A) A.length w :=
  fun l J Jx W hW hJ _ hY h0 => Eb.ord1 n hn l Bx b A hlen J Jx W hJ (fun pre x W1 h1 h2 _ => hY pre x W1 h1 h2) ((hW.block Bx (Array.getElem?_eq_some_iff.1 hBx).1).trans hBx) (hM.heap (hW.block b hM.lt)) h0
/-- The same, where each is known to be an entry of the map. -/
theorem Eb.stopsM (n : Nat) (hn : 1 ≤ n) (Bx b : Nat) (A : List Eb) (hlen : A.length ≤ 1099511627776) (w : World) (hBx : w.heap[Bx]? = some (.cells #[.map (some b)] 28 (0, 0))) (hM : Mp w b (A.map Eb.kv)) :
    SeqStopsK Fence.wide n Try.prog 45 #[.pointer (some ⟨Bx, 0, none⟩)] (fun x : { x : Eb // x ∈ A } => #[Value.string ⟨x.1.ky.toArray⟩, x.1.vl]) (Kq Bx b) (fun ys => (ys.map Subtype.val).Perm A) (fun pre => ∃ suf, (pre.map Subtype.val ++ suf).Perm A) A.length w := by
  intro l J Jx W hW hJ hJx hY h0
  have up : ∀ {G : List { x : Eb // x ∈ A } → World → Prop}, AbidesFrom W.heap.size G → AbidesFrom W.heap.size (fun (ys : List Eb) V => ∃ zs : List { x : Eb // x ∈ A }, zs.map Subtype.val = ys ∧ G zs V) := fun hG s V V' row ⟨zs, e, h⟩ hg hr => ⟨zs, e, hG zs V V' row h hg hr⟩
  have H := Eb.ord1 n hn l Bx b A hlen (fun ys V => ∃ zs : List { x : Eb // x ∈ A }, zs.map Subtype.val = ys ∧ J zs V) (fun ys V => ∃ zs : List { x : Eb // x ∈ A }, zs.map Subtype.val = ys ∧ Jx zs V) W (up hJ) (fun pre x W1 ⟨zs, e, h1⟩ h2 hx => by
    have h3 := hY zs ⟨x, hx⟩ W1 h1 (by rw [← e, List.length_map] at h2; exact h2)
    obtain ⟨fn, tmps, assign, body, hy, hR⟩ := h3
    refine ⟨fn, tmps, assign, body, hy, hR.mono ?_⟩
    rintro e' W' (⟨r, h4, h5⟩ | ⟨r, h4⟩)
    · exact .inl ⟨r, ⟨zs ++ [⟨x, hx⟩], by rw [List.map_append, e]; rfl, h4⟩, h5⟩
    · exact .inr ⟨r, ⟨zs ++ [⟨x, hx⟩], by rw [List.map_append, e]; rfl, h4⟩⟩) ((hW.block Bx (Array.getElem?_eq_some_iff.1 hBx).1).trans hBx) (hM.heap (hW.block b hM.lt)) ⟨[], rfl, h0⟩
  refine CallsIn.mono H ?_
  rintro e' W' ⟨h1, h2⟩
  refine ⟨h1, ?_⟩
  rcases h2 with ⟨ys, hp, zs, e, h⟩ | ⟨pre, ⟨suf, hp⟩, zs, e, h⟩
  · exact .inl ⟨zs, by show (zs.map Subtype.val).Perm A; rw [e]; exact hp, h⟩
  · exact .inr ⟨zs, ⟨suf, by rw [e]; exact hp⟩, h⟩
end Go.Proofs.Ytdackomidfofgaa
