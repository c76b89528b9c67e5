/-
  SessionPacks: the law's walk.
-/
import Derived.Test.YtdcclfnbpckioaaGreatDoorSpM
namespace Go.Proofs.YtdcclfnbpckioaaGreatDoor
open Go.RowKit Go.Shelf
set_option linter.unusedVariables false
set_option linter.unusedSimpArgs false
set_option maxRecDepth 100000
set_option maxHeartbeats 4000000

theorem own_lst {w : World} {B : Nat} {v : Value} {f : Nat → Int} {n : Nat} (h : Own w B v (lst f n)) : ∃ a c, v = .slice a n c ∧ From w a n f ∧ (a = none → c = 0) ∧ n ≤ c ∧ (∀ x, a = some x → ∃ k, x = ⟨k, 0, none⟩) := by
  obtain ⟨a, c, h1, h2, h3, h4, h5, h6⟩ := h.open
  rw [lst_length] at h1 h2 h4
  refine ⟨a, c, h1, ?_, h3, h4, fun x hx => ?_⟩
  · rcases h2 with h2 | ⟨x, e, h2⟩
    · exact .inl h2
    · refine .inr ⟨x, e, fun i hi => ?_⟩
      rw [h2 i hi, fn, lst_getD f n i hi]
  · obtain ⟨k, e, _⟩ := h6 x hx
    exact ⟨k, e⟩
/-- The reply's box. -/
structure Rbx (w : World) (p : Nat) (ri : ByteArray) (st se wy : Int) (rt : ByteArray) : Prop where
  c0 : w.cell? ⟨p, 0, none⟩ = some (.string ri)
  c1 : w.cell? ⟨p, 1, none⟩ = some (.int .i64 st)
  c2 : w.cell? ⟨p, 2, none⟩ = some (.int .i64 se)
  c3 : w.cell? ⟨p, 3, none⟩ = some (.int .i64 wy)
  c4 : w.cell? ⟨p, 4, none⟩ = some (.string rt)
theorem Rbx.of {w w' : World} {ri : ByteArray} {st se wy : Int} {rt : ByteArray} (hb : Below (w.alloc (rpb ri st se wy rt)).heap.size (w.alloc (rpb ri st se wy rt)) w') : Rbx w' w.heap.size ri st se wy rt := by
  have hn := heap_alloc_at w (rpb ri st se wy rt) _ rfl
  have h1 : w'.heap[w.heap.size]? = some (rpb ri st se wy rt) := (hb.block _ (Array.getElem?_eq_some_iff.1 hn).1).trans hn
  have k := fun i => cells_at (w := w') h1 i
  exact ⟨k 0, k 1, k 2, k 3, k 4⟩
/-- A change in its box, with its bytes. -/
structure Cbx (w : World) (S p : Nat) (ky : List UInt8) (v : Value) (xs : List Int) : Prop where
  cel : w.heap[p]? = some (.cells #[.string ⟨ky.toArray⟩, v, .bool false] 31 (0, 0))
  own : Own w S v xs
theorem Cbx.below {w w' : World} {S p : Nat} {ky : List UInt8} {v : Value} {xs : List Int} (h : Cbx w S p ky v xs) (hb : Below w.heap.size w w') : Cbx w' S p ky v xs :=
  ⟨(hb.block _ (Array.getElem?_eq_some_iff.1 h.cel).1).trans h.cel, h.own.below hb (Nat.le_refl _)⟩
theorem Cbx.new {w : World} {S : Nat} {ky : List UInt8} {v : Value} {xs : List Int} (h : Own w S v xs) : Cbx (w.alloc (.cells #[.string ⟨ky.toArray⟩, v, .bool false] 31)) S w.heap.size ky v xs :=
  ⟨heap_alloc_at w _ _ rfl, h.below ((Below.refl _ w).alloc (Nat.le_refl _) _) (Nat.le_refl _)⟩
/-- A call that tells a change: as ChO, from a world that is past w2. -/
theorem cho {w2 W : World} {f : FuncId} {args : Array Value} {ky : List UInt8} {xs : List Int} {er : Int} (hb : Below w2.heap.size w2 W) (h : Calls Tryz.prog f args W (ChO W ky xs er)) :
    Calls Tryz.prog f args W fun e w' => ∃ a m c, e = .returned (.tuple #[.agg #[.string ⟨ky.toArray⟩, .slice a m c, .bool false], .int .i64 er]) ∧ Hid (Own w' w2.heap.size (.slice a m c) xs ∧ Below W.heap.size W w') ∧ Below w2.heap.size w2 w' := by
  refine h.mono ?_
  rintro e w' ⟨v, rfl, q1, q2⟩
  obtain ⟨a, m, c, rfl⟩ := own_sl q1
  exact ⟨a, m, c, rfl, ⟨q1.mono hb.size, q2⟩, hb.trans (q2.mono hb.size)⟩
theorem pkL_xs (id : Int) (f : Nat → Int) (n : Nat) (x : List UInt8 × List Int) (hx : x ∈ pkL id f n) : x.2.length ≤ 1401 := by
  unfold pkL at hx
  split at hx
  · unfold pk at hx
    obtain ⟨i, _, rfl⟩ := List.mem_map.1 hx
    show (pkX f n i).length ≤ _
    unfold pkX
    rw [List.length_append, lst_length]
    have : ckL n i ≤ 1400 := by unfold ckL; omega
    split <;> simp <;> omega
  · cases hx
theorem blw_drew {B : Nat} {a w : World} (h : Below B a w) : Below B a w.drew := h.trans ⟨rfl, rfl, rfl, Nat.le_refl _, fun _ _ => rfl⟩
theorem pkL_len (id : Int) (f : Nat → Int) (n : Nat) : (pkL id f n).length ≤ 1000 := by
  unfold pkL
  split
  · rename_i h
    unfold pk pkN
    rw [List.length_map, List.length_range]
    omega
  · simp
theorem packs_walk (id : Int) (ao : Option Addr) (n c : Nat) (f : Nat → Int) (ri : ByteArray) (st se wy : Int) (rt nm : ByteArray) (w : World) (hn : n ≤ 140737488355328) (hf : From w ao n f) (h0 : ao = none → c = 0) (hc : n ≤ c) (hri : ri.size ≤ 140737488355328) (hnm : nm.size ≤ 140737488355328) (ht : Tab w) (hp : Lib.TabIs Tryz.prog w "internal/strconv.uint64pow10" .u64 Lib.pow10Tab) :
    Calls Tryz.prog 3 #[.int .i64 id, .slice ao n c, .agg #[.string ri, .int .i64 st, .int .i64 se, .int .i64 wy, .string rt], .string nm] w fun e w' => e = .returned (.bool true) ∧ Below w.heap.size w w' := by
  obtain ⟨W1, hW1⟩ : ∃ W1, W1 = w.alloc (rpb ri st se wy rt) := ⟨_, rfl⟩
  have hb1 : Below w.heap.size w W1 := by rw [hW1]; exact (Below.refl _ w).alloc (Nat.le_refl _) _
  have HCl := clone ao n c f W1 hn (hf.below hb1 (Nat.le_refl _))
  have HB1 : Hid (Below w.heap.size w W1) := hb1
  have HRb : Hid (∀ w', Below W1.heap.size W1 w' → Rbx w' w.heap.size ri st se wy rt) := fun w' hb => by
    rw [hW1] at hb
    exact Rbx.of hb
  have H5 : Hid (∀ w2 (ag : Option Addr) (cg : Nat), Below W1.heap.size W1 w2 → From w2 ag n f → n ≤ cg → (∀ x, ag = some x → ∃ k, x = ⟨k, 0, none⟩) → Calls Tryz.prog 5 #[.int .i64 id, .slice ag n cg] w2 fun e w' => ∃ a m c, e = .returned (.tuple #[.slice a m c, .int .i64 (pkE id n)]) ∧ Hid (∃ zs, Rlc w' w2.heap.size (.slice a m c) zs ∧ zs.map (fun z => (z.ky, z.xs)) = pkL id f n) ∧ Below w2.heap.size w2 w') := fun w2 ag cg q1 q2 q3 q4 => by
    refine (j_packA id ag n cg f w2 hn q2 q3 q4 (tab_below hp (hb1.trans (q1.mono hb1.size)))).mono ?_
    rintro e w' ⟨v, zs, rfl, r1, r2, r3⟩
    obtain ⟨a, c, rfl⟩ := own_slice r1.row
    exact ⟨a, _, c, rfl, ⟨zs, r1, r2⟩, r3⟩
  have H6 : Hid (∀ w2 w3, Below W1.heap.size W1 w2 → Below w2.heap.size w2 w3 → Calls Tryz.prog 6 #[.int .i64 id, .slice ao n c] w3 fun e w' => ∃ a m c, e = .returned (.tuple #[.slice a m c, .int .i64 (pkE id n)]) ∧ Hid (ChR w' (.slice a m c) (pkL id f n) ∧ Below w3.heap.size w3 w') ∧ Below w2.heap.size w2 w') := fun w2 w3 q1 q2 => by
    have hbw : Below w.heap.size w w3 := (hb1.trans (q1.mono hb1.size)).trans (q2.mono (Nat.le_trans hb1.size q1.size))
    refine (z_packA id ao n c f w3 hn (hf.below hbw (Nat.le_refl _)) h0 hc).mono ?_
    rintro e w' ⟨v, zs, rfl, r1, r2, r3⟩
    obtain ⟨a, c, rfl⟩ := own_slice r1.row
    have := r1.rd
    rw [r2] at this
    exact ⟨a, _, c, rfl, ⟨this, r3⟩, q2.trans (r3.mono q2.size)⟩
  have H7 : Hid (∀ w2 W, Below w2.heap.size w2 W → Calls Tryz.prog 7 #[.int .i64 id] W fun e w' => ∃ a m c, e = .returned (.tuple #[.agg #[.string ⟨(cntK id).toArray⟩, .slice a m c, .bool false], .int .i64 (cntE id)]) ∧ Hid (Own w' w2.heap.size (.slice a m c) (cntB id) ∧ Below W.heap.size W w') ∧ Below w2.heap.size w2 w') := fun w2 W hb => cho hb (j_count id W)
  have H8 : Hid (∀ w2 W, Below w2.heap.size w2 W → Calls Tryz.prog 8 #[.int .i64 id] W fun e w' => ∃ a m c, e = .returned (.tuple #[.agg #[.string ⟨(cntK id).toArray⟩, .slice a m c, .bool false], .int .i64 (cntE id)]) ∧ Hid (Own w' w2.heap.size (.slice a m c) (cntB id) ∧ Below W.heap.size W w') ∧ Below w2.heap.size w2 w') := fun w2 W hb => cho hb (z_count id W)
  have H9 : Hid (∀ w2 W, Below W1.heap.size W1 w2 → Below w2.heap.size w2 W → Calls Tryz.prog 9 #[.agg #[.string ri, .int .i64 st, .int .i64 se, .int .i64 wy, .string rt]] W fun e w' => ∃ a m c, e = .returned (.tuple #[.agg #[.string ⟨(cchK ri st se wy rt).toArray⟩, .slice a m c, .bool false], .int .i64 (repE ri st se wy rt)]) ∧ Hid (Own w' w2.heap.size (.slice a m c) (cchB ri st se wy rt) ∧ Below W.heap.size W w') ∧ Below w2.heap.size w2 w') := fun w2 W q1 hb => by
    have hbw : Below w.heap.size w W := (hb1.trans (q1.mono hb1.size)).trans (hb.mono (Nat.le_trans hb1.size q1.size))
    exact cho hb (j_cache ri st se wy rt hri W (ht.below hbw (Nat.le_refl _)))
  have H10 : Hid (∀ w2 W, Below w2.heap.size w2 W → Calls Tryz.prog 10 #[.agg #[.string ri, .int .i64 st, .int .i64 se, .int .i64 wy, .string rt]] W fun e w' => ∃ a m c, e = .returned (.tuple #[.agg #[.string ⟨(cchK ri st se wy rt).toArray⟩, .slice a m c, .bool false], .int .i64 (repE ri st se wy rt)]) ∧ Hid (Own w' w2.heap.size (.slice a m c) (cchB ri st se wy rt) ∧ Below W.heap.size W w') ∧ Below w2.heap.size w2 w') := fun w2 W hb => cho hb (z_cache ri st se wy rt hri W)
  have H11 : Hid (∀ w2 W (ag : Option Addr) (cg : Nat), From w2 ag n f → Below w2.heap.size w2 W → Calls Tryz.prog 11 #[.string nm, .slice ag n cg] W fun e w' => ∃ a m c, e = .returned (.tuple #[.agg #[.string ⟨(rtK nm n).toArray⟩, .slice a m c, .bool false], .int .i64 (rtE nm n)]) ∧ Hid (Own w' w2.heap.size (.slice a m c) (rtB nm f n) ∧ Below W.heap.size W w') ∧ Below w2.heap.size w2 w') := fun w2 W ag cg q1 hb => cho hb (j_root nm hnm ag n cg f W hn (q1.below hb (Nat.le_refl _)))
  have H12 : Hid (∀ w2 W, Below W1.heap.size W1 w2 → Below w2.heap.size w2 W → Calls Tryz.prog 12 #[.string nm, .slice ao n c] W fun e w' => ∃ a m c, e = .returned (.tuple #[.agg #[.string ⟨(rtK nm n).toArray⟩, .slice a m c, .bool false], .int .i64 (rtE nm n)]) ∧ Hid (Own w' w2.heap.size (.slice a m c) (rtB nm f n) ∧ Below W.heap.size W w') ∧ Below w2.heap.size w2 w') := fun w2 W q1 hb => by
    have hbw : Below w.heap.size w W := (hb1.trans (q1.mono hb1.size)).trans (hb.mono (Nat.le_trans hb1.size q1.size))
    exact cho hb (z_root nm hnm ao n c f W hn (hf.below hbw (Nat.le_refl _)) h0)
  have HFb : Hid (∀ W, Below W1.heap.size W1 W → From W ao n f) := fun W q1 => hf.below (hb1.trans (q1.mono hb1.size)) (Nat.le_refl _)
  have HS1 : Hid (∀ W, Below W1.heap.size W1 W → Below w.heap.size w W) := fun W q1 => hb1.trans (q1.mono hb1.size)
  have hW2 := hW1
  unfold rpb at hW2
  clear hW1 hb1 hf h0 hc ht hp
  go_enter Tryz.func3, Tryz.ntmps3
  go_wp2_with fail
  rw [← hW2]
  clear hW2
  refine HCl.mono ?_
  clear HCl
  rintro e w2 ⟨vg, rfl, og, bg⟩
  obtain ⟨ag, cg, rfl, fg, ng, lg, kg⟩ := own_lst og
  have HG : Hid (From w2 ag n f) := fg
  have P5 := H5.out w2 ag cg bg fg lg kg
  have P6 := H6.out w2
  have R2 : Hid (∀ W, Below w2.heap.size w2 W → Rbx W w.heap.size ri st se wy rt ∧ Below W1.heap.size W1 W) := fun W q => ⟨HRb.out W (bg.trans (q.mono bg.size)), bg.trans (q.mono bg.size)⟩
  have BG : Hid (Below W1.heap.size W1 w2) := bg
  clear H5 fg lg kg og HRb
  go_wp2_with (first
    | (go_at_call 5; refine P5.mono ?_; clear P5; rintro e w3 ⟨ax, mx, cx, rfl, HX3, b3⟩; have P6' := P6 w3 bg b3; clear P6)
    | (go_at_call 6; refine P6'.mono ?_; clear P6'; rintro e w4 ⟨ay, my, cy, rfl, HY4, b4⟩; have P7 := H7.out w2 w4 b4; clear H7)
    | (go_at_call 7; refine P7.mono ?_; clear P7; rintro e w5 ⟨a5, m5, c5, rfl, HC5, b5⟩; have b5a := b5.alloc b5.size (.cells #[.string ⟨(cntK id).toArray⟩, .slice a5 m5 c5, .bool false] 31); have P8 := H8.out w2 _ b5a; clear H8)
    | (go_at_call 8; refine P8.mono ?_; clear P8; rintro e w6 ⟨a6, m6, c6, rfl, HC6, b6⟩; have b6a := b6.alloc b6.size (.cells #[.string ⟨(cntK id).toArray⟩, .slice a6 m6 c6, .bool false] 31); have P9 := H9.out w2 _ bg b6a; clear H9; obtain ⟨⟨r60, r61, r62, r63, r64⟩, _⟩ := R2.out _ b6a)
    | (go_at_call 9; refine P9.mono ?_; clear P9; rintro e w7 ⟨a7, m7, c7, rfl, HC7, b7⟩; have b7a := b7.alloc b7.size (.cells #[.string ⟨(cchK ri st se wy rt).toArray⟩, .slice a7 m7 c7, .bool false] 31); have P10 := H10.out w2 _ b7a; clear H10; obtain ⟨⟨r70, r71, r72, r73, r74⟩, _⟩ := R2.out _ b7a)
    | (go_at_call 10; refine P10.mono ?_; clear P10; rintro e w8 ⟨a8, m8, c8, rfl, HC8, b8⟩; have b8a := b8.alloc b8.size (.cells #[.string ⟨(cchK ri st se wy rt).toArray⟩, .slice a8 m8 c8, .bool false] 31); have P11 := H11.out w2 _ ag cg HG.out b8a; clear H11)
    | (go_at_call 11; refine P11.mono ?_; clear P11; rintro e w9 ⟨a9, m9, c9, rfl, HC9, b9⟩; have b9a := b9.alloc b9.size (.cells #[.string ⟨(rtK nm n).toArray⟩, .slice a9 m9 c9, .bool false] 31); have P12 := H12.out w2 _ bg b9a; clear H12)
    | (go_at_call 12; refine P12.mono ?_; clear P12; rintro e w10 ⟨a10, m10, c10, rfl, HC10, b10⟩; have b10a := b10.alloc b10.size (.cells #[.string ⟨(rtK nm n).toArray⟩, .slice a10 m10 c10, .bool false] 31)))
  have D10 : Below (w10.heap.size) w10 (w10.alloc (.cells #[.string ⟨(rtK nm n).toArray⟩, .slice a10 m10 c10, .bool false] 31)) := (Below.refl _ w10).alloc (Nat.le_refl _) _
  have E9 : Below (w9.alloc (.cells #[.string ⟨(rtK nm n).toArray⟩, .slice a9 m9 c9, .bool false] 31)).heap.size (w9.alloc (.cells #[.string ⟨(rtK nm n).toArray⟩, .slice a9 m9 c9, .bool false] 31)) (w10.alloc (.cells #[.string ⟨(rtK nm n).toArray⟩, .slice a10 m10 c10, .bool false] 31)) := HC10.out.2.trans (D10.mono HC10.out.2.size)
  have D9 : Below w9.heap.size w9 (w10.alloc (.cells #[.string ⟨(rtK nm n).toArray⟩, .slice a10 m10 c10, .bool false] 31)) := ((Below.refl _ w9).alloc (Nat.le_refl _) (.cells #[.string ⟨(rtK nm n).toArray⟩, .slice a9 m9 c9, .bool false] 31)).trans (E9.mono (by rw [World.size_alloc]; omega))
  have E8 : Below (w8.alloc (.cells #[.string ⟨(cchK ri st se wy rt).toArray⟩, .slice a8 m8 c8, .bool false] 31)).heap.size (w8.alloc (.cells #[.string ⟨(cchK ri st se wy rt).toArray⟩, .slice a8 m8 c8, .bool false] 31)) (w10.alloc (.cells #[.string ⟨(rtK nm n).toArray⟩, .slice a10 m10 c10, .bool false] 31)) := HC9.out.2.trans (D9.mono HC9.out.2.size)
  have D8 : Below w8.heap.size w8 (w10.alloc (.cells #[.string ⟨(rtK nm n).toArray⟩, .slice a10 m10 c10, .bool false] 31)) := ((Below.refl _ w8).alloc (Nat.le_refl _) (.cells #[.string ⟨(cchK ri st se wy rt).toArray⟩, .slice a8 m8 c8, .bool false] 31)).trans (E8.mono (by rw [World.size_alloc]; omega))
  have E7 : Below (w7.alloc (.cells #[.string ⟨(cchK ri st se wy rt).toArray⟩, .slice a7 m7 c7, .bool false] 31)).heap.size (w7.alloc (.cells #[.string ⟨(cchK ri st se wy rt).toArray⟩, .slice a7 m7 c7, .bool false] 31)) (w10.alloc (.cells #[.string ⟨(rtK nm n).toArray⟩, .slice a10 m10 c10, .bool false] 31)) := HC8.out.2.trans (D8.mono HC8.out.2.size)
  have D7 : Below w7.heap.size w7 (w10.alloc (.cells #[.string ⟨(rtK nm n).toArray⟩, .slice a10 m10 c10, .bool false] 31)) := ((Below.refl _ w7).alloc (Nat.le_refl _) (.cells #[.string ⟨(cchK ri st se wy rt).toArray⟩, .slice a7 m7 c7, .bool false] 31)).trans (E7.mono (by rw [World.size_alloc]; omega))
  have E6 : Below (w6.alloc (.cells #[.string ⟨(cntK id).toArray⟩, .slice a6 m6 c6, .bool false] 31)).heap.size (w6.alloc (.cells #[.string ⟨(cntK id).toArray⟩, .slice a6 m6 c6, .bool false] 31)) (w10.alloc (.cells #[.string ⟨(rtK nm n).toArray⟩, .slice a10 m10 c10, .bool false] 31)) := HC7.out.2.trans (D7.mono HC7.out.2.size)
  have D6 : Below w6.heap.size w6 (w10.alloc (.cells #[.string ⟨(rtK nm n).toArray⟩, .slice a10 m10 c10, .bool false] 31)) := ((Below.refl _ w6).alloc (Nat.le_refl _) (.cells #[.string ⟨(cntK id).toArray⟩, .slice a6 m6 c6, .bool false] 31)).trans (E6.mono (by rw [World.size_alloc]; omega))
  have E5 : Below (w5.alloc (.cells #[.string ⟨(cntK id).toArray⟩, .slice a5 m5 c5, .bool false] 31)).heap.size (w5.alloc (.cells #[.string ⟨(cntK id).toArray⟩, .slice a5 m5 c5, .bool false] 31)) (w10.alloc (.cells #[.string ⟨(rtK nm n).toArray⟩, .slice a10 m10 c10, .bool false] 31)) := HC6.out.2.trans (D6.mono HC6.out.2.size)
  have D5 : Below w5.heap.size w5 (w10.alloc (.cells #[.string ⟨(rtK nm n).toArray⟩, .slice a10 m10 c10, .bool false] 31)) := ((Below.refl _ w5).alloc (Nat.le_refl _) (.cells #[.string ⟨(cntK id).toArray⟩, .slice a5 m5 c5, .bool false] 31)).trans (E5.mono (by rw [World.size_alloc]; omega))
  have D4 : Below w4.heap.size w4 (w10.alloc (.cells #[.string ⟨(rtK nm n).toArray⟩, .slice a10 m10 c10, .bool false] 31)) := HC5.out.2.trans (D5.mono HC5.out.2.size)
  have D3 : Below w3.heap.size w3 (w10.alloc (.cells #[.string ⟨(rtK nm n).toArray⟩, .slice a10 m10 c10, .bool false] 31)) := HY4.out.2.trans (D4.mono HY4.out.2.size)
  have K5 : Hid (Cbx (w10.alloc (.cells #[.string ⟨(rtK nm n).toArray⟩, .slice a10 m10 c10, .bool false] 31)) w2.heap.size w5.heap.size (cntK id) (.slice a5 m5 c5) (cntB id)) := (Cbx.new HC5.out.1).below E5
  have K6 : Hid (Cbx (w10.alloc (.cells #[.string ⟨(rtK nm n).toArray⟩, .slice a10 m10 c10, .bool false] 31)) w2.heap.size w6.heap.size (cntK id) (.slice a6 m6 c6) (cntB id)) := (Cbx.new HC6.out.1).below E6
  have K7 : Hid (Cbx (w10.alloc (.cells #[.string ⟨(rtK nm n).toArray⟩, .slice a10 m10 c10, .bool false] 31)) w2.heap.size w7.heap.size (cchK ri st se wy rt) (.slice a7 m7 c7) (cchB ri st se wy rt)) := (Cbx.new HC7.out.1).below E7
  have K8 : Hid (Cbx (w10.alloc (.cells #[.string ⟨(rtK nm n).toArray⟩, .slice a10 m10 c10, .bool false] 31)) w2.heap.size w8.heap.size (cchK ri st se wy rt) (.slice a8 m8 c8) (cchB ri st se wy rt)) := (Cbx.new HC8.out.1).below E8
  have K9 : Hid (Cbx (w10.alloc (.cells #[.string ⟨(rtK nm n).toArray⟩, .slice a10 m10 c10, .bool false] 31)) w2.heap.size w9.heap.size (rtK nm n) (.slice a9 m9 c9) (rtB nm f n)) := (Cbx.new HC9.out.1).below E9
  have K10 : Hid (Cbx (w10.alloc (.cells #[.string ⟨(rtK nm n).toArray⟩, .slice a10 m10 c10, .bool false] 31)) w2.heap.size w10.heap.size (rtK nm n) (.slice a10 m10 c10) (rtB nm f n)) := Cbx.new HC10.out.1
  have HX : Hid (∃ zs, Rlc (w10.alloc (.cells #[.string ⟨(rtK nm n).toArray⟩, .slice a10 m10 c10, .bool false] 31)) w2.heap.size (.slice ax mx cx) zs ∧ zs.map (fun z => (z.ky, z.xs)) = pkL id f n) := by
    obtain ⟨zs, q1, q2⟩ := HX3.out
    exact ⟨zs, q1.below D3, q2⟩
  have HY : Hid (ChR (w10.alloc (.cells #[.string ⟨(rtK nm n).toArray⟩, .slice a10 m10 c10, .bool false] 31)) (.slice ay my cy) (pkL id f n)) := HY4.out.1.below D4
  have HWA : Hid (Below w2.heap.size w2 (w10.alloc (.cells #[.string ⟨(rtK nm n).toArray⟩, .slice a10 m10 c10, .bool false] 31))) := b10a
  clear D3 D4 D5 D6 D7 D8 D9 D10 E5 E6 E7 E8 E9 HC5 HC6 HC7 HC8 HC9 HC10 HX3 HY4 b3 b4 b5 b6 b7 b8 b9 b10 b5a b6a b7a b8a b9a b10a r60 r61 r62 r63 r64 r70 r71 r72 r73 r74
  generalize w10.alloc (.cells #[.string ⟨(rtK nm n).toArray⟩, .slice a10 m10 c10, .bool false] 31) = WA at *
  generalize w5.heap.size = p5 at *
  generalize w6.heap.size = p6 at *
  generalize w7.heap.size = p7 at *
  generalize w8.heap.size = p8 at *
  generalize w9.heap.size = p9 at *
  generalize w10.heap.size = p10 at *
  have HKS : Hid (∀ wq, Below WA.heap.size WA wq → wq.cell? ⟨p5, 0, none⟩ = some (.string ⟨(cntK id).toArray⟩) ∧ wq.cell? ⟨p5, 1, none⟩ = some (.slice a5 m5 c5) ∧ wq.cell? ⟨p5, 2, none⟩ = some (.bool false) ∧ wq.cell? ⟨p6, 0, none⟩ = some (.string ⟨(cntK id).toArray⟩) ∧ wq.cell? ⟨p6, 1, none⟩ = some (.slice a6 m6 c6) ∧ wq.cell? ⟨p6, 2, none⟩ = some (.bool false) ∧ wq.cell? ⟨p7, 0, none⟩ = some (.string ⟨(cchK ri st se wy rt).toArray⟩) ∧ wq.cell? ⟨p7, 1, none⟩ = some (.slice a7 m7 c7) ∧ wq.cell? ⟨p7, 2, none⟩ = some (.bool false) ∧ wq.cell? ⟨p8, 0, none⟩ = some (.string ⟨(cchK ri st se wy rt).toArray⟩) ∧ wq.cell? ⟨p8, 1, none⟩ = some (.slice a8 m8 c8) ∧ wq.cell? ⟨p8, 2, none⟩ = some (.bool false) ∧ wq.cell? ⟨p9, 0, none⟩ = some (.string ⟨(rtK nm n).toArray⟩) ∧ wq.cell? ⟨p9, 1, none⟩ = some (.slice a9 m9 c9) ∧ wq.cell? ⟨p9, 2, none⟩ = some (.bool false) ∧ wq.cell? ⟨p10, 0, none⟩ = some (.string ⟨(rtK nm n).toArray⟩) ∧ wq.cell? ⟨p10, 1, none⟩ = some (.slice a10 m10 c10) ∧ wq.cell? ⟨p10, 2, none⟩ = some (.bool false)) := fun wq hb => by
    have y5 := (K5.out.below hb).cel
    have y6 := (K6.out.below hb).cel
    have y7 := (K7.out.below hb).cel
    have y8 := (K8.out.below hb).cel
    have y9 := (K9.out.below hb).cel
    have y10 := (K10.out.below hb).cel
    exact ⟨cells_at y5 0, cells_at y5 1, cells_at y5 2, cells_at y6 0, cells_at y6 1, cells_at y6 2, cells_at y7 0, cells_at y7 1, cells_at y7 2, cells_at y8 0, cells_at y8 1, cells_at y8 2, cells_at y9 0, cells_at y9 1, cells_at y9 2, cells_at y10 0, cells_at y10 1, cells_at y10 2⟩
  have HOne : Hid (∀ (ky : List UInt8) (a : Option Addr) (m c : Nat) (xs : List Int), Own WA w2.heap.size (.slice a m c) xs → ∀ wq, Below WA.heap.size WA wq → Calls Tryz.prog 13 #[.agg #[.string ⟨ky.toArray⟩, .slice a m c, .bool false]] wq fun e w' => ∃ a' c', e = .returned (.slice a' 1 c') ∧ Hid (ChR w' (.slice a' 1 c') [(ky, xs)] ∧ Below wq.heap.size wq w') ∧ Below WA.heap.size WA w') := fun ky a m c xs ho wq hb => by
    refine (one_ch ky (.slice a m c) xs w2.heap.size wq (ho.below hb (Nat.le_refl _))).mono ?_
    rintro e w' ⟨v', rfl, q1, q2⟩
    obtain ⟨a', c', rfl, q3⟩ := q1
    exact ⟨a', c', rfl, ⟨⟨a', c', rfl, q3⟩, q2⟩, hb.trans (q2.mono hb.size)⟩
  have HSm : Hid (∀ (ky : List UInt8) (xs : List Int) (wq wq' : World) (a1 a2 : Option Addr) (c1 c2 : Nat), ChR wq (.slice a1 1 c1) [(ky, xs)] → Below wq.heap.size wq wq' → ChR wq' (.slice a2 1 c2) [(ky, xs)] → Below WA.heap.size WA wq' → Calls Tryz.prog 14 #[.slice a1 1 c1, .slice a2 1 c2] wq' fun e w' => e = .returned (.bool true) ∧ Below WA.heap.size WA w') := fun ky xs wq wq' a1 a2 c1 c2 q1 q2 q3 q4 => by
    refine (same_ch _ _ [(ky, xs)] wq' (by simp) (q1.below q2) q3).mono ?_
    rintro e w' ⟨rfl, q5⟩
    exact ⟨rfl, q4.trans (q5.mono q4.size)⟩
  have HA1 : Hid (∀ wq, Below WA.heap.size WA wq → Calls Tryz.prog 14 #[.slice ax mx cx, .slice ay my cy] wq fun e w' => e = .returned (.bool true) ∧ Below WA.heap.size WA w') := fun wq hb => by
    obtain ⟨zs, q1, q2⟩ := HX.out
    have q3 := q1.rd
    rw [q2] at q3
    refine (same_ch _ _ (pkL id f n) wq (pkL_len id f n) (q3.below hb) (HY.out.below hb)).mono ?_
    rintro e w' ⟨rfl, q5⟩
    exact ⟨rfl, hb.trans (q5.mono hb.size)⟩
  have g0 : Below WA.heap.size WA WA := Below.refl _ _
  have S0 := HKS.out WA (Below.refl _ _)
  go_region_held2 (fun wq => wq.cell? ⟨p5, 0, none⟩ = some (.string ⟨(cntK id).toArray⟩) ∧ wq.cell? ⟨p5, 1, none⟩ = some (.slice a5 m5 c5) ∧ wq.cell? ⟨p5, 2, none⟩ = some (.bool false) ∧ wq.cell? ⟨p6, 0, none⟩ = some (.string ⟨(cntK id).toArray⟩) ∧ wq.cell? ⟨p6, 1, none⟩ = some (.slice a6 m6 c6) ∧ wq.cell? ⟨p6, 2, none⟩ = some (.bool false) ∧ wq.cell? ⟨p7, 0, none⟩ = some (.string ⟨(cchK ri st se wy rt).toArray⟩) ∧ wq.cell? ⟨p7, 1, none⟩ = some (.slice a7 m7 c7) ∧ wq.cell? ⟨p7, 2, none⟩ = some (.bool false) ∧ wq.cell? ⟨p8, 0, none⟩ = some (.string ⟨(cchK ri st se wy rt).toArray⟩) ∧ wq.cell? ⟨p8, 1, none⟩ = some (.slice a8 m8 c8) ∧ wq.cell? ⟨p8, 2, none⟩ = some (.bool false) ∧ wq.cell? ⟨p9, 0, none⟩ = some (.string ⟨(rtK nm n).toArray⟩) ∧ wq.cell? ⟨p9, 1, none⟩ = some (.slice a9 m9 c9) ∧ wq.cell? ⟨p9, 2, none⟩ = some (.bool false) ∧ wq.cell? ⟨p10, 0, none⟩ = some (.string ⟨(rtK nm n).toArray⟩) ∧ wq.cell? ⟨p10, 1, none⟩ = some (.slice a10 m10 c10) ∧ wq.cell? ⟨p10, 2, none⟩ = some (.bool false)) (first | assumption | exact HKS.out _ (by assumption)) (first
      | (go_at_call 14; refine (HSm.out _ _ u8 _ x8 x9 y8 y9 HR8.out.1 (by first | exact HR9.out.2 | exact blw_drew HR9.out.2) (by first | exact HR9.out.1 | exact HR9.out.1.below (blw_drew (Below.refl _ _))) (by first | exact g9 | exact blw_drew g9)).mono ?_; rintro e u10 ⟨rfl, g10⟩)
      | (go_at_call 13; refine (HOne.out (rtK nm n) a10 m10 c10 _ K10.out.own _ (by first | exact g8 | exact blw_drew g8)).mono ?_; rintro e u9 ⟨x9, y9, rfl, HR9, g9⟩)
      | (go_at_call 13; refine (HOne.out (rtK nm n) a9 m9 c9 _ K9.out.own _ (by first | exact g7 | exact blw_drew g7)).mono ?_; rintro e u8 ⟨x8, y8, rfl, HR8, g8⟩)
      | (go_at_call 14; refine (HSm.out _ _ u5 _ x5 x6 y5 y6 HR5.out.1 (by first | exact HR6.out.2 | exact blw_drew HR6.out.2) (by first | exact HR6.out.1 | exact HR6.out.1.below (blw_drew (Below.refl _ _))) (by first | exact g6 | exact blw_drew g6)).mono ?_; rintro e u7 ⟨rfl, g7⟩)
      | (go_at_call 13; refine (HOne.out (cchK ri st se wy rt) a8 m8 c8 _ K8.out.own _ (by first | exact g5 | exact blw_drew g5)).mono ?_; rintro e u6 ⟨x6, y6, rfl, HR6, g6⟩)
      | (go_at_call 13; refine (HOne.out (cchK ri st se wy rt) a7 m7 c7 _ K7.out.own _ (by first | exact g4 | exact blw_drew g4)).mono ?_; rintro e u5 ⟨x5, y5, rfl, HR5, g5⟩)
      | (go_at_call 14; refine (HSm.out _ _ u2 _ x2 x3 y2 y3 HR2.out.1 (by first | exact HR3.out.2 | exact blw_drew HR3.out.2) (by first | exact HR3.out.1 | exact HR3.out.1.below (blw_drew (Below.refl _ _))) (by first | exact g3 | exact blw_drew g3)).mono ?_; rintro e u4 ⟨rfl, g4⟩)
      | (go_at_call 13; refine (HOne.out (cntK id) a6 m6 c6 _ K6.out.own _ (by first | exact g2 | exact blw_drew g2)).mono ?_; rintro e u3 ⟨x3, y3, rfl, HR3, g3⟩)
      | (go_at_call 13; refine (HOne.out (cntK id) a5 m5 c5 _ K5.out.own _ (by first | exact g1 | exact blw_drew g1)).mono ?_; rintro e u2 ⟨x2, y2, rfl, HR2, g2⟩)
      | (go_at_call 14; refine (HA1.out _ (by first | exact g0 | exact blw_drew g0)).mono ?_; clear HA1; rintro e u1 ⟨rfl, g1⟩))
  obtain ⟨zs, hR, hL⟩ := HX.out
  have HM : mx = zs.length := by
    obtain ⟨a', c', e⟩ := own_slice hR.row
    injection e
  have hm40 : mx ≤ 1000 := by
    have := pkL_len id f n
    rw [← hL, List.length_map] at this
    omega
  have HSp0 : Hid (Spo w2.heap.size WA u10) := Spo.ofBelow g10 HWA.out.size
  have HStep : Hid (∀ wr, Spo w2.heap.size WA wr → ∀ k, k < mx → ∃ (g : Nat) (ky : ByteArray) (a : Option Addr) (m c : Nat), ax = some ⟨g, 0, none⟩ ∧ wr.cell? ⟨g, k * 3, none⟩ = some (.string ky) ∧ wr.cell? ⟨g, k * 3 + 1, none⟩ = some (.slice a m c) ∧ wr.cell? ⟨g, k * 3 + 2, none⟩ = some (.bool false) ∧ Byt w2.heap.size wr (.slice a m c)) := fun wr hw k hk => by
    obtain ⟨z, hz⟩ : ∃ z, zs[k]? = some z := ⟨_, List.getElem?_eq_getElem (by omega)⟩
    have hlt : k < zs.length := (List.getElem?_eq_some_iff.1 hz).1
    have hzo := hR.own z (List.mem_of_getElem? hz)
    have hzx : z.xs.length ≤ 1401 := pkL_xs id f n (z.ky, z.xs) (by rw [← hL]; exact List.mem_map.2 ⟨z, List.mem_of_getElem? hz, rfl⟩)
    have hby := (hzo.byt (by omega)).sp hw
    obtain ⟨a, m, c, hv⟩ := own_sl hzo
    rcases hR.row.2 with ⟨h1, h2⟩ | ⟨g, cap, cur, h1, _, h2, _, _, h3, h4⟩
    · omega
    · have h2' := hw.keep g cur 31 (0, 0) (by decide) h2
      have key : ∀ j, j < 3 → wr.cell? ⟨g, k * 3 + j, none⟩ = z.cs[j]? := fun j hj => by
        rw [cells_at h2', ← Array.getElem?_toList, ← flat_at zs k z hz j hj, ← h4, List.getElem?_take_of_lt (by omega)]
      injection h1 with h1 _ _
      rw [hv] at hby
      refine ⟨g, _, a, m, c, h1, key 0 (by omega), ?_, key 2 (by omega), hby⟩
      rw [key 1 (by omega)]
      show some z.val = _
      rw [hv]
  have HEnd : Hid (∀ wr, Spo w2.heap.size WA wr → wr.cell? ⟨p9, 1, none⟩ = some (.slice a9 m9 c9) ∧ Calls Tryz.prog 15 #[.slice a9 m9 c9] wr fun e w' => e = .returned (.tuple #[]) ∧ Hid (Spo w2.heap.size WA w')) := fun wr hw => by
    have hx : (rtB nm f n).length ≤ 140737488355328 := by
      unfold rtB
      split
      · rw [lst_length]; exact hn
      · simp
    refine ⟨cells_at (hw.keep _ _ _ _ (by decide) K9.out.cel) 1, (spoilB _ w2.heap.size wr ((K9.out.own.byt hx).sp hw)).mono ?_⟩
    rintro e w' ⟨rfl, q⟩
    exact ⟨rfl, hw.trans q⟩
  have HEq : Hid (∀ wr, Spo w2.heap.size WA wr → (Calls Tryz.prog 16 #[.slice ag n cg, .slice ao n c] wr fun e w' => e = .returned (.bool true) ∧ w' = wr) ∧ Below w.heap.size w wr) := fun wr hw => by
    have hb : Below w2.heap.size w2 wr := HWA.out.trans hw.bel
    refine ⟨equal_yes ag ao n cg n c f f wr (HG.out.below hb (Nat.le_refl _)) ((HFb.out w2 BG.out).below hb (Nat.le_refl _)) (show Hid (lst f n = lst f n) from rfl), ?_⟩
    have h1 := HS1.out w2 BG.out
    exact h1.trans (hb.mono h1.size)
  clear hR hL HX HM S0 K5 K6 K7 K8 K9 K10 HKS HOne HSm HR2 HR3 HR5 HR6 HR8 HR9 g1 g2 g3 g4 g5 g6 g7 g8 g9 g10 g0 HY HG HFb HS1 bg R2 HB1
  go_wp2
  go_loopw [128] (fun s wr => ∃ k : Nat, k ≤ mx ∧ s = .int .i64 (k : Int) ∧ Hid (Spo w2.heap.size WA wr)) (fun s _ => mx - (intOf s).toNat)
  case atStart => exact ⟨0, Nat.zero_le _, rfl, HSp0⟩
  case round =>
    obtain ⟨k, hk, rfl, hsp⟩ := hrel
    clear HSp0
    by_cases hlt : k < mx
    · have hlt' : (k : Int) < (mx : Int) := by omega
      have hk0 : (0 : Int) ≤ (k : Int) := by omega
      obtain ⟨g, ky, a, m, c', rfl, q0, q1, q2, hby⟩ := HStep.out wr hsp.out k hlt
      have HSS : Hid (∀ o, Calls Tryz.prog 15 #[.slice a m c'] (wr.alloc o) fun e w' => e = .returned (.tuple #[]) ∧ Hid (Spo w2.heap.size WA w')) := fun o => by
        have hx : w2.heap.size ≤ wr.heap.size := Nat.le_trans HWA.out.size hsp.out.bel.size
        refine (spoilB _ w2.heap.size (wr.alloc o) (hby.sp ((Spo.refl _ wr).alloc hx o))).mono ?_
        rintro e w' ⟨rfl, q⟩
        exact ⟨rfl, (hsp.out.alloc hx o).trans q⟩
      clear hby HStep HEnd HEq
      go_wp2_with (go_at_call 15; refine (HSS.out _).mono ?_; clear HSS; rintro e w3' ⟨rfl, hq⟩)
      go_roundw
      case rel => exact ⟨k + 1, by omega, by go_num, hq⟩
      case measure => simp [intOf]; omega
    · obtain rfl : k = mx := by omega
      obtain ⟨q1, HE1⟩ := HEnd.out wr hsp.out
      clear HStep HEnd
      go_wp2_with (first
        | (go_at_call 15; refine HE1.mono ?_; clear HE1; rintro e w3' ⟨rfl, hq⟩; obtain ⟨HE2, HBf⟩ := HEq.out _ hq.out)
        | (go_at_call 16; refine HE2.mono ?_; rintro e w4' ⟨rfl, hz⟩; rw [hz]; clear hz))
      go_ret
      exact ⟨rfl, HBf⟩
end Go.Proofs.YtdcclfnbpckioaaGreatDoor
