/-
  A log as Room and Append see it (Lg): contracts of Room, Last, put and Append.
-/
import Derived.Test.YtpajodcmaindfabDoorFresh3
import Derived.Test.YtpajodcmaindfabDoorPuts
namespace Go.Proofs.YtpajodcmaindfabDoor
open Go.RowKit
set_option linter.unusedVariables false

set_option maxHeartbeats 400000 in
theorem lMissing (L T : Nat) (w : World) (h0 : w.cell? ⟨L, 0, none⟩ = some (.pointer (some ⟨T, 0, none⟩))) : Calls Tryd.prog 17 #[.pointer (some ⟨L, 0, none⟩)] w fun e w' => e = .returned (.bool false) ∧ w' = w := by
  go_enter Tryd.func17, Tryd.ntmps17
  go_wp2
  go_ret
  exact ⟨rfl, rfl⟩
set_option maxHeartbeats 400000 in
theorem lRoom (L T s p t : Nat) (c : Nat) (a : Option Addr) (w : World) (hs : s ≤ 4096) (hp : p ≤ 4096) (ht : t ≤ 1000000) (h0 : w.cell? ⟨L, 0, none⟩ = some (.pointer (some ⟨T, 0, none⟩))) (h2 : w.cell? ⟨T, 2, none⟩ = some (.int .i64 (s : Int))) (h6 : w.cell? ⟨T, 6, none⟩ = some (.int .i64 (p : Int))) (h7 : w.cell? ⟨T, 7, none⟩ = some (.slice a t c)) :
    Calls Tryd.prog 7 #[.pointer (some ⟨L, 0, none⟩)] w fun e w' => e = .returned (.int .i64 (((s : Int) - p) * 112 - t)) ∧ ∃ q, w' = w.drewN q := by
  go_enter Tryd.func7, Tryd.ntmps7
  go_wp2_with fail
  refine (lMissing L T w h0).mono ?_
  rintro e w1 ⟨rfl, hw⟩
  obtain rfl : w = w1 := hw.symm
  clear hw
  go_wp2_with fail
  go_quiet (fail)
  go_wp2
  go_ret
  exact ⟨rfl, _, rfl⟩
set_option maxHeartbeats 400000 in
theorem lLast (L T : Nat) (z : Int) (w : World) (h0 : w.cell? ⟨L, 0, none⟩ = some (.pointer (some ⟨T, 0, none⟩))) (h4 : w.cell? ⟨T, 4, none⟩ = some (.int .i64 z)) :
    Calls Tryd.prog 9 #[.pointer (some ⟨L, 0, none⟩)] w fun e w' => e = .returned (.int .i64 z) ∧ w' = w := by
  go_enter Tryd.func9, Tryd.ntmps9
  go_wp2_with fail
  refine (lMissing L T w h0).mono ?_
  rintro e w1 ⟨rfl, hw⟩
  obtain rfl : w = w1 := hw.symm
  clear hw
  go_wp2
  go_ret
  exact ⟨rfl, rfl⟩

/-- A log whose first sector is that of its tail: of s sectors, with tl bytes, last the last record's number; all that it has lies at or above B, but for the struct and the state. -/
structure Lg (w : World) (L T B s tl last : Nat) : Prop where
  l0 : w.cell? ⟨L, 0, none⟩ = some (.pointer (some ⟨T, 0, none⟩))
  c2 : w.cell? ⟨T, 2, none⟩ = some (.int .i64 (s : Int))
  c4 : w.cell? ⟨T, 4, none⟩ = some (.int .i64 (last : Int))
  c6 : w.cell? ⟨T, 6, none⟩ = some (.int .i64 0)
  tail : ∃ v xs, w.cell? ⟨T, 7, none⟩ = some v ∧ Own w B v xs ∧ xs.length = tl
  fz : ∀ i, w.frozen? ⟨T, i, none⟩ = false
  hL : L < B
  hT : T < B
  ne : L ≠ T
  hB : B ≤ w.heap.size
  room : tl ≤ s * 112
  le : last ≤ tl
  hs : s ≤ 4096

theorem Lg.below {w w' : World} {L T B s tl last B' : Nat} (h : Lg w L T B s tl last) (hb : Below B' w w') (hB' : w.heap.size ≤ B') : Lg w' L T B s tl last := by
  obtain ⟨l0, c2, c4, c6, ⟨v, xs, t1, t2, t3⟩, fz, hL, hT, ne, hB, room, le, hs⟩ := h
  have key : ∀ p v, w.cell? p = some v → w'.cell? p = some v := fun p v hp => by
    rw [hb.cell (p := p) (Nat.lt_of_lt_of_le (World.block_lt_of_cell? w _ hp) hB')]; exact hp
  refine ⟨key _ _ l0, key _ _ c2, key _ _ c4, key _ _ c6, ⟨v, xs, key _ _ t1, t2.below hb hB', t3⟩, fun i => ?_, hL, hT, ne, Nat.le_trans hB hb.size, room, le, hs⟩
  rw [World.frozen?_of_block (w := w) (hb.block T (by omega))]
  exact fz i

theorem lgRoom {w : World} {L T B s tl last : Nat} (h : Lg w L T B s tl last) :
    Calls Tryd.prog 7 #[.pointer (some ⟨L, 0, none⟩)] w fun e w' => e = .returned (.int .i64 ((s * 112 - tl : Nat) : Int)) ∧ ∃ q, w' = w.drewN q := by
  obtain ⟨l0, c2, c4, c6, ⟨v, xs, t1, t2, t3⟩, fz, hL, hT, ne, hB, room, le, hs⟩ := h
  obtain ⟨ao, c, rfl, _⟩ := t2.open
  rw [t3] at t1
  have := lRoom L T s 0 tl c ao w hs (by omega) (by omega) l0 c2 c6 t1
  have e : (((s : Int) - ((0 : Nat) : Int)) * 112 - (tl : Int)) = ((s * 112 - tl : Nat) : Int) := by omega
  rw [e] at this
  exact this
theorem lgLast {w : World} {L T B s tl last : Nat} (h : Lg w L T B s tl last) :
    Calls Tryd.prog 9 #[.pointer (some ⟨L, 0, none⟩)] w fun e w' => e = .returned (.int .i64 (last : Int)) ∧ w' = w := lLast L T last w h.l0 h.c4

section
variable {w : World} {ops : Array Oper} {rest : List Oper} {o : Oper} {a : Act} {Q : Exit → Act → World → Prop}
/-- wpList_app, with what stays told by blocks. -/
theorem wpList_appG (hgd : o.guard = none) (s x : Operand) (ho : o.op = .call { callee := .builtin .append, args := #[s, x], argTypes := #[32, 32] })
    (B : Nat) (v : Value) (xs : List Int) (hs : a.eval s = v) (hown : Own w B v xs) (ao : Option Addr) (m c : Nat) (f : Nat → Int) (hx : a.eval x = .slice ao m c) (hf : From w ao m f) (hc0 : ao = none → c = 0)
    (hbig : xs.length + m ≤ 140737488355328) (hB : B ≤ w.heap.size)
    (h : ∀ v' w', Own w' B v' (xs ++ lst f m) → Below B w w' → (∀ k, k < w.heap.size → some k ≠ v.ownBlock → w'.heap[k]? = w.heap[k]?) → wpList Tryd.prog ops Q rest (a.put o.dst v') w') : wpList Tryd.prog ops Q (o :: rest) a w := by
  obtain ⟨i0, hi, hz0, hz1, hz2⟩ := info_parts info5
  rcases hf with ⟨h1, h2⟩ | ⟨ad, h1, h2⟩
  · subst h1 h2
    rw [hc0 rfl] at hx
    refine wpList_append_own_none hgd s x 32 ho B 5 i0 1 Tryd.underlying32 hi v xs.length (xs.map (Value.int .u8)) hs hown hx (h v w ?_ (Below.refl _ _) (fun _ _ _ => rfl))
    simpa [lst] using hown
  · subst h1
    refine wpList_append_own w hgd s x 32 ho B 5 i0 (.int .u8 0) 1 1 Tryd.underlying32 hi hz0 hz1 hz2 rfl (by decide) v xs.length (xs.map (Value.int .u8)) hs hown ad m c ((lst f m).map (Value.int .u8)) hx (by simp [lst_length]) ?_ ?_ (by unfold maxLen; omega) (by omega) hB ?_
    · intro j u hj
      have hjm : j < m := by
        have := (List.getElem?_eq_some_iff.1 hj).1
        simpa [lst_length] using this
      rw [h2 j hjm]
      rw [List.getElem?_map, lst_get f m j hjm] at hj
      simpa using hj
    · intro u hu
      obtain ⟨y, _, rfl⟩ := List.mem_map.1 hu
      rfl
    · intro v' w' h3 h4 _
      refine h v' w' ?_ ((Below.refl _ w).grown h4 hB (fun q hq => (World.ownsRow.lt hown q hq).1)) (fun k hk hne => h4.block k hk hne)
      unfold Own
      rw [List.length_append, lst_length, List.map_append]
      exact h3
end

set_option maxHeartbeats 1000000 in
theorem lput (v : Value) (B : Nat) (xs : List Int) (g : Nat) (a1 a2 : Option Addr) (n1 c1 n2 c2 : Nat) (f1 f2 : Nat → Int) (w : World) (hown : Own w B v xs) (hB : B ≤ w.heap.size) (hg : g < w.heap.size) (hgv : some g ≠ v.ownBlock)
    (h0 : w.cell? ⟨g, 0, none⟩ = some (.slice a1 n1 c1)) (h1 : w.cell? ⟨g, 1, none⟩ = some (.slice a2 n2 c2)) (hf1 : From w a1 n1 f1) (hf2 : ∀ w', Below B w w' → From w' a2 n2 f2) (k1 : a1 = none → c1 = 0) (k2 : a2 = none → c2 = 0) (hbig : xs.length + n1 + n2 ≤ 140737488355328) :
    Calls Tryd.prog 19 #[v, .slice (some ⟨g, 0, none⟩) 2 2] w fun e w' => ∃ v', e = .returned v' ∧ Own w' B v' (xs ++ lst f1 n1 ++ lst f2 n2) ∧ Below B w w' := by
  have HF1 : Hid (From w a1 n1 f1) := hf1
  have HF2 : Hid (∀ w', Below B w w' → From w' a2 n2 f2) := hf2
  have HK : Hid (∀ w' : World, (∀ k, k < w.heap.size → some k ≠ v.ownBlock → w'.heap[k]? = w.heap[k]?) → w'.cell? ⟨g, 1, none⟩ = some (.slice a2 n2 c2)) := fun w' hk => by
    rw [World.cell?_of_block (w := w) (hk g hg hgv)]
    exact h1
  clear hf1 hf2 hgv
  go_enter Tryd.func19, Tryd.ntmps19
  go_wp2
  refine wp_loop_rounds 3 ?_
  rw [rounds_succ]
  go_wp2_with (at_builtin; refine wpList_appG rfl _ _ rfl B _ xs rfl hown a1 n1 c1 f1 rfl HF1.out k1 ?q2 hB ?_)
  case q2 => omega
  intro v1 w1 ho1 hb1 hk1
  have hs1 := hb1.size
  have hc := HK.out w1 hk1
  have HF3 : Hid (From w1 a2 n2 f2) := HF2.out w1 hb1
  have hll : (xs ++ lst f1 n1).length = xs.length + n1 := by rw [List.length_append, lst_length]
  clear HK hk1 HF1 HF2 hown h0 h1
  go_wp2
  rw [rounds_succ]
  go_wp2_with (at_builtin; refine wpList_app rfl _ _ rfl B _ (xs ++ lst f1 n1) rfl ho1 a2 n2 c2 f2 rfl HF3.out k2 ?q2 ?q3 ?_)
  case q2 => omega
  case q3 => omega
  intro v2 w2 ho2 hb2
  clear ho1 hc HF3
  go_wp2
  rw [rounds_succ]
  go_wp2
  go_ret
  exact ⟨v2, rfl, by rw [List.append_assoc]; exact ho2, hb1.trans hb2⟩

theorem putB_lt {n : Nat} (h : n < 128) : (putB n).length = 1 := by rw [putB_small n h]; rfl
theorem putB_ge {n : Nat} (h : 128 ≤ n) (h2 : n ≤ 2000) : (putB n).length = 2 := by rw [putB_more n (by omega), List.length_cons, putB_small (n / 128) (by omega)]; rfl

set_option maxHeartbeats 400000 in
theorem append_empty (L T B s tl last c : Nat) (a0 : Option Addr) (w : World) (h : Lg w L T B s tl last) :
    Calls Tryd.prog 8 #[.pointer (some ⟨L, 0, none⟩), .slice a0 0 c] w fun e w' => e = .returned (.tuple #[.int .i64 0, .int .i64 1]) ∧ w' = w := by
  have H : Hid (Lg w L T B s tl last) := h
  clear h
  go_enter Tryd.func8, Tryd.ntmps8
  go_wp2_with fail
  refine (lMissing L T w H.out.l0).mono ?_
  rintro e w1 ⟨rfl, hw⟩
  obtain rfl : w = w1 := hw.symm
  clear hw
  go_wp2
  go_ret2
  exact ⟨rfl, rfl⟩
set_option maxHeartbeats 400000 in
theorem append_long (L T B s tl last n c : Nat) (a0 : Option Addr) (w : World) (h : Lg w L T B s tl last) (hn : 2000 < n) :
    Calls Tryd.prog 8 #[.pointer (some ⟨L, 0, none⟩), .slice a0 n c] w fun e w' => e = .returned (.tuple #[.int .i64 0, .int .i64 12]) ∧ w' = w := by
  have H : Hid (Lg w L T B s tl last) := h
  clear h
  have g1 : ((n : Int) == 0) = false := by simp; omega
  have g2 : (2000 : Int) < (n : Int) := by omega
  go_enter Tryd.func8, Tryd.ntmps8
  go_wp2_with fail
  refine (lMissing L T w H.out.l0).mono ?_
  rintro e w1 ⟨rfl, hw⟩
  obtain rfl : w = w1 := hw.symm
  clear hw
  go_wp2
  go_ret2
  exact ⟨rfl, rfl⟩
set_option maxHeartbeats 1000000 in
theorem append_full (L T B s tl last n c : Nat) (a0 : Option Addr) (w : World) (h : Lg w L T B s tl last) (h1 : 0 < n) (h2 : n ≤ 2000) (hf : s * 112 - tl < (putB n).length + n) :
    Calls Tryd.prog 8 #[.pointer (some ⟨L, 0, none⟩), .slice a0 n c] w fun e w' => e = .returned (.tuple #[.int .i64 0, .int .i64 4]) ∧ Lg w' L T B s tl last ∧ Below w.heap.size w w' := by
  have H : Hid (Lg w L T B s tl last) := h
  have hroom := h.room
  have hs := h.hs
  clear h
  have g1 : ((n : Int) == 0) = false := by simp; omega
  have g2 : ¬ (2000 : Int) < (n : Int) := by omega
  have hlen := putB_le n (by omega)
  go_enter Tryd.func8, Tryd.ntmps8
  go_wp2_with fail
  refine (lMissing L T w H.out.l0).mono ?_
  rintro e w1 ⟨rfl, hw⟩
  obtain rfl : w = w1 := hw.symm
  clear hw
  go_wp2_with fail
  refine (wPut none 0 0 (fun _ => 0) (n : Int) w (by omega) (.inl ⟨rfl, rfl⟩) (fun _ => rfl) (by omega)).mono ?_
  rintro e w1 ⟨v1, rfl, ho1, hb1⟩
  rw [Int.toNat_natCast, show lst (fun _ => 0) 0 ++ putB n = putB n from rfl] at ho1
  obtain ⟨al, cl, rfl, hfl, hal, _, _, _⟩ := ho1.open
  have H1 : Hid (Lg w1 L T B s tl last) := H.out.below hb1 (Nat.le_refl _)
  obtain ⟨R, hR⟩ : ∃ R, s * 112 - tl = R := ⟨_, rfl⟩
  rw [hR] at hf
  have HR : Hid (s * 112 - tl = R) := hR
  obtain ⟨ln, hln⟩ : ∃ ln, (putB n).length = ln := ⟨_, rfl⟩
  rw [hln] at hf hlen ⊢
  have g3 : (R : Int) < (ln : Int) + (n : Int) := by omega
  clear hR hln hfl
  go_wp2_with fail
  refine (lgRoom H1.out).mono ?_
  rintro e w2 ⟨rfl, q, rfl⟩
  rw [HR.out]
  go_wp2
  go_ret2
  exact ⟨rfl, H1.out.below (blw_drewN q (Below.refl _ _)) (Nat.le_refl _), blw_drewN q hb1⟩
end Go.Proofs.YtpajodcmaindfabDoor
