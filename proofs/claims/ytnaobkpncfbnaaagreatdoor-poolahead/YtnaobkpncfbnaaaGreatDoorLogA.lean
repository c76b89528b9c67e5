/-
  Contracts of a log's Room, First, Last, Forced, put and Append, over a log in memory (LogW). Conditions: the log lies apart from its tail (told by the blocks' types).
-/
import Derived.Test.YtnaobkpncfbnaaaGreatDoorLogX
import Derived.Test.YtnaobkpncfbnaaaGreatDoorPuts
import Derived.Maps.AppendAt
import Derived.Deep.DeepMust
namespace Go.Proofs.YtnaobkpncfbnaaaGreatDoor
open Go.RowKit
set_option linter.unusedVariables false

set_option maxHeartbeats 400000 in
theorem lRoom (L T s p t : Nat) (c : Nat) (a : Option Addr) (w : World) (hs : s ≤ 4096) (hp : p ≤ 4096) (ht : t ≤ 1000000) (h0 : w.cell? ⟨L, 0, none⟩ = some (.pointer (some ⟨T, 0, none⟩))) (h2 : w.cell? ⟨T, 2, none⟩ = some (.int .i64 (s : Int))) (h6 : w.cell? ⟨T, 6, none⟩ = some (.int .i64 (p : Int))) (h7 : w.cell? ⟨T, 7, none⟩ = some (.slice a t c)) :
    Calls Tryz.prog 38 #[.pointer (some ⟨L, 0, none⟩)] w fun e w' => e = .returned (.int .i64 (((s : Int) - p) * 112 - t)) ∧ ∃ q, w' = w.drewN q := by
  go_enter Tryz.func38, Tryz.ntmps38
  go_wp2_with fail
  refine (lMissing L T w h0).mono ?_
  rintro e w1 ⟨rfl, hw⟩
  obtain rfl : w = w1 := hw.symm
  clear hw
  go_wp2_with fail
  go_quiet (fail)
  go_wp2
  go_ret
  exact ⟨rfl, _, rfl⟩
set_option maxHeartbeats 400000 in
theorem lFirst (L T : Nat) (z : Int) (w : World) (h0 : w.cell? ⟨L, 0, none⟩ = some (.pointer (some ⟨T, 0, none⟩))) (h4 : w.cell? ⟨T, 3, none⟩ = some (.int .i64 z)) :
    Calls Tryz.prog 35 #[.pointer (some ⟨L, 0, none⟩)] w fun e w' => e = .returned (.int .i64 z) ∧ w' = w := by
  go_enter Tryz.func35, Tryz.ntmps35
  go_wp2_with fail
  refine (lMissing L T w h0).mono ?_
  rintro e w1 ⟨rfl, hw⟩
  obtain rfl : w = w1 := hw.symm
  clear hw
  go_wp2
  go_ret
  exact ⟨rfl, rfl⟩
set_option maxHeartbeats 400000 in
theorem lForced (L T : Nat) (z : Int) (w : World) (h0 : w.cell? ⟨L, 0, none⟩ = some (.pointer (some ⟨T, 0, none⟩))) (h4 : w.cell? ⟨T, 5, none⟩ = some (.int .i64 z)) :
    Calls Tryz.prog 14 #[.pointer (some ⟨L, 0, none⟩)] w fun e w' => e = .returned (.int .i64 z) ∧ w' = w := by
  go_enter Tryz.func14, Tryz.ntmps14
  go_wp2_with fail
  refine (lMissing L T w h0).mono ?_
  rintro e w1 ⟨rfl, hw⟩
  obtain rfl : w = w1 := hw.symm
  clear hw
  go_wp2
  go_ret
  exact ⟨rfl, rfl⟩
theorem LogW.l0 {w : World} {L T D from_ sectors first last forced place : Nat} {vt : Value} (h : LogW w L T D from_ sectors first last forced place vt) : w.cell? ⟨L, 0, none⟩ = some (.pointer (some ⟨T, 0, none⟩)) := by rw [cells_at h.hL 0]; rfl
theorem LogW.below {w w' : World} {L T D from_ sectors first last forced place : Nat} {vt : Value} (h : LogW w L T D from_ sectors first last forced place vt) (hb : Below w.heap.size w w') : LogW w' L T D from_ sectors first last forced place vt :=
  ⟨(hb.block L (Array.getElem?_eq_some_iff.1 h.hL).1).trans h.hL, (hb.block T (Array.getElem?_eq_some_iff.1 h.hT).1).trans h.hT⟩
theorem LogW.part {w w' : World} {F : Nat → Prop} {L T D from_ sectors first last forced place : Nat} {vt : Value} (h : LogW w L T D from_ sectors first last forced place vt) (hb : Part F w w') (h1 : ¬ F L) (h2 : ¬ F T) : LogW w' L T D from_ sectors first last forced place vt :=
  ⟨(hb.block L (Array.getElem?_eq_some_iff.1 h.hL).1 h1).trans h.hL, (hb.block T (Array.getElem?_eq_some_iff.1 h.hT).1 h2).trans h.hT⟩
/-- A row of bytes lies in no block of another type. -/
theorem Own.ne {w : World} {B : Nat} {v : Value} {xs : List Int} (h : Own w B v xs) {k : Nat} {cs : Array Value} {t : TypeId} {fz : Nat × Nat} (hk : w.heap[k]? = some (.cells cs t fz)) (ht : t ≠ 5) : v.ownBlock ≠ some k := by
  intro e
  unfold Own World.ownsRow at h
  rcases h.2 with ⟨rfl, _⟩ | ⟨g, cap, cur, rfl, h2, h3, _⟩
  · cases e
  · obtain rfl : g = k := Option.some.inj e
    rw [hk] at h3
    cases h3
    exact ht rfl

/-- How a row of bytes grows: nothing but its own block, and what is new. -/
def Grow (w w' : World) (v v' : Value) : Prop := Part (fun k => some k = v.ownBlock) w w' ∧ ∀ k, v'.ownBlock = some k → some k = v.ownBlock ∨ w.heap.size ≤ k
theorem Grow.trans {a b c : World} {u v x : Value} (h : Grow a b u v) (k : Grow b c v x) : Grow a c u x := by
  refine ⟨h.1.trans k.1 (fun i hi e => ?_), fun i e => ?_⟩
  · rcases h.2 i e.symm with h2 | h2
    · exact h2
    · omega
  · rcases k.2 i e with h2 | h2
    · exact h.2 i h2.symm
    · exact .inr (Nat.le_trans h.1.size h2)

section
variable {w : World} {ops : Array Oper} {rest : List Oper} {o : Oper} {a : Act} {Q : Exit → Act → World → Prop}
/-- wpList_app, with what stays told by blocks. -/
theorem wpList_appH (hgd : o.guard = none) (s x : Operand) (ho : o.op = .call { callee := .builtin .append, args := #[s, x], argTypes := #[36, 36] })
    (B : Nat) (v : Value) (xs : List Int) (hs : a.eval s = v) (hown : Own w B v xs) (ao : Option Addr) (m c : Nat) (f : Nat → Int) (hx : a.eval x = .slice ao m c) (hf : From w ao m f) (hc0 : ao = none → c = 0)
    (hbig : xs.length + m ≤ 140737488355328) (hB : B ≤ w.heap.size)
    (h : ∀ v' w', Own w' B v' (xs ++ lst f m) → Grow w w' v v' → wpList Tryz.prog ops Q rest (a.put o.dst v') w') : wpList Tryz.prog ops Q (o :: rest) a w := by
  obtain ⟨i0, hi, hz0, hz1, hz2⟩ := info_parts info5
  rcases hf with ⟨h1, h2⟩ | ⟨ad, h1, h2⟩
  · subst h1 h2
    rw [hc0 rfl] at hx
    refine wpList_append_own_none hgd s x 36 ho B 5 i0 1 Tryz.underlying36 hi v xs.length (xs.map (Value.int .u8)) hs hown hx (h v w ?_ ⟨Part.refl _ _, fun k hk => .inl hk.symm⟩)
    simpa [lst] using hown
  · subst h1
    refine wpList_append_own_at w hgd s x 36 ho B 5 i0 (.int .u8 0) 1 1 Tryz.underlying36 hi hz0 hz1 hz2 rfl (by decide) v xs.length (xs.map (Value.int .u8)) hs hown ad m c ((lst f m).map (Value.int .u8)) hx (by simp [lst_length]) ?_ ?_ (by unfold maxLen; omega) (by omega) hB ?_
    · intro j u hj
      have hjm : j < m := by
        have := (List.getElem?_eq_some_iff.1 hj).1
        simpa [lst_length] using this
      rw [h2 j hjm]
      rw [List.getElem?_map, lst_get f m j hjm] at hj
      simpa using hj
    · intro u hu
      obtain ⟨y, _, rfl⟩ := List.mem_map.1 hu
      rfl
    · intro v' w' h3 h4 _ h5
      refine h v' w' ?_ ⟨(Part.refl _ w).grown h4 (fun k e _ => e.symm), fun k e => ?_⟩
      · unfold Own
        rw [List.length_append, lst_length, List.map_append]
        exact h3
      · rcases h5 with h5 | h5
        · exact .inl (e.symm.trans h5)
        · rw [h5] at e
          cases e
          exact .inr (Nat.le_refl _)
end

set_option maxHeartbeats 1000000 in
theorem lputH (v : Value) (B : Nat) (xs : List Int) (g : Nat) (a1 a2 : Option Addr) (n1 c1 n2 c2 : Nat) (f1 f2 : Nat → Int) (w : World) (hown : Own w B v xs) (hB : B ≤ w.heap.size) (hg : g < w.heap.size) (hgv : some g ≠ v.ownBlock)
    (h0 : w.cell? ⟨g, 0, none⟩ = some (.slice a1 n1 c1)) (h1 : w.cell? ⟨g, 1, none⟩ = some (.slice a2 n2 c2)) (hf1 : From w a1 n1 f1) (hf2 : ∀ w', Part (fun k => some k = v.ownBlock) w w' → From w' a2 n2 f2) (k1 : a1 = none → c1 = 0) (k2 : a2 = none → c2 = 0) (hbig : xs.length + n1 + n2 ≤ 140737488355328) :
    Calls Tryz.prog 39 #[v, .slice (some ⟨g, 0, none⟩) 2 2] w fun e w' => ∃ v', e = .returned v' ∧ Own w' B v' (xs ++ lst f1 n1 ++ lst f2 n2) ∧ Grow w w' v v' := by
  have HF1 : Hid (From w a1 n1 f1) := hf1
  have HF2 : Hid (∀ w', Part (fun k => some k = v.ownBlock) w w' → From w' a2 n2 f2) := hf2
  have HK : Hid (∀ w' : World, Part (fun k => some k = v.ownBlock) w w' → w'.cell? ⟨g, 1, none⟩ = some (.slice a2 n2 c2)) := fun w' hk => by
    rw [World.cell?_of_block (w := w) (hk.block g hg hgv)]
    exact h1
  clear hf1 hf2 hgv
  go_enter Tryz.func39, Tryz.ntmps39
  go_wp2
  refine wp_loop_rounds 3 ?_
  rw [rounds_succ]
  go_wp2_with (at_builtin; refine wpList_appH rfl _ _ rfl B _ xs rfl hown a1 n1 c1 f1 rfl HF1.out k1 ?q2 hB ?_)
  case q2 => omega
  intro v1 w1 ho1 hg1
  have hs1 := hg1.1.size
  have hc := HK.out w1 hg1.1
  have HF3 : Hid (From w1 a2 n2 f2) := HF2.out w1 hg1.1
  have hll : (xs ++ lst f1 n1).length = xs.length + n1 := by rw [List.length_append, lst_length]
  have HG : Hid (Grow w w1 v v1) := hg1
  clear HK hg1 HF1 HF2 hown h0 h1
  go_wp2
  rw [rounds_succ]
  go_wp2_with (at_builtin; refine wpList_appH rfl _ _ rfl B _ (xs ++ lst f1 n1) rfl ho1 a2 n2 c2 f2 rfl HF3.out k2 ?r2 ?r3 ?_)
  case r2 => omega
  case r3 => omega
  intro v2 w2 ho2 hg2
  have HG2 : Hid (Grow w w2 v v2) := HG.out.trans hg2
  clear ho1 hc HF3 HG hg2
  go_wp2
  rw [rounds_succ]
  go_wp2
  go_ret
  exact ⟨v2, rfl, by rw [List.append_assoc]; exact ho2, HG2.out⟩

theorem putB_lt {n : Nat} (h : n < 128) : (putB n).length = 1 := by rw [putB_small n h]; rfl
theorem putB_ge {n : Nat} (h : 128 ≤ n) (h2 : n ≤ 2000) : (putB n).length = 2 := by rw [putB_more n (by omega), List.length_cons, putB_small (n / 128) (by omega)]; rfl

set_option maxHeartbeats 400000 in
theorem appL_empty (L T c : Nat) (a0 : Option Addr) (w : World) (l0 : w.cell? ⟨L, 0, none⟩ = some (.pointer (some ⟨T, 0, none⟩))) :
    Calls Tryz.prog 9 #[.pointer (some ⟨L, 0, none⟩), .slice a0 0 c] w fun e w' => e = .returned (.tuple #[.int .i64 0, .int .i64 1]) ∧ w' = w := by
  go_enter Tryz.func9, Tryz.ntmps9
  go_wp2_with fail
  refine (lMissing L T w l0).mono ?_
  rintro e w1 ⟨rfl, hw⟩
  obtain rfl : w = w1 := hw.symm
  clear hw
  go_wp2
  go_ret2
  exact ⟨rfl, rfl⟩
set_option maxHeartbeats 400000 in
theorem appL_long (L T n c : Nat) (a0 : Option Addr) (w : World) (l0 : w.cell? ⟨L, 0, none⟩ = some (.pointer (some ⟨T, 0, none⟩))) (hn : 2000 < n) :
    Calls Tryz.prog 9 #[.pointer (some ⟨L, 0, none⟩), .slice a0 n c] w fun e w' => e = .returned (.tuple #[.int .i64 0, .int .i64 12]) ∧ w' = w := by
  have g1 : ((n : Int) == 0) = false := by simp; omega
  have g2 : (2000 : Int) < (n : Int) := by omega
  go_enter Tryz.func9, Tryz.ntmps9
  go_wp2_with fail
  refine (lMissing L T w l0).mono ?_
  rintro e w1 ⟨rfl, hw⟩
  obtain rfl : w = w1 := hw.symm
  clear hw
  go_wp2
  go_ret2
  exact ⟨rfl, rfl⟩
theorem lwRoom {w : World} {L T D from_ sectors first last forced place B : Nat} {vt : Value} {xs : List Int} (h : LogW w L T D from_ sectors first last forced place vt) (ho : Own w B vt xs) (hs : sectors ≤ 4096) (hr : place * 112 + xs.length ≤ sectors * 112) :
    Calls Tryz.prog 38 #[.pointer (some ⟨L, 0, none⟩)] w fun e w' => e = .returned (.int .i64 ((sectors * 112 - place * 112 - xs.length : Nat) : Int)) ∧ ∃ q, w' = w.drewN q := by
  obtain ⟨ao, c, rfl, _⟩ := ho.open
  have := lRoom L T sectors place xs.length c ao w hs (by omega) (by omega) h.l0 (by rw [cells_at h.hT 2]; rfl) (by rw [cells_at h.hT 6]; rfl) (by rw [cells_at h.hT 7]; rfl)
  have e : (((sectors : Int) - (place : Int)) * 112 - (xs.length : Int)) = ((sectors * 112 - place * 112 - xs.length : Nat) : Int) := by omega
  rw [e] at this
  exact this
set_option maxHeartbeats 1000000 in
theorem appL_full (L T D from_ sectors first last forced place B n c : Nat) (vt : Value) (xs : List Int) (a0 : Option Addr) (w : World) (h : LogW w L T D from_ sectors first last forced place vt) (ho : Own w B vt xs) (hs : sectors ≤ 4096) (hr : place * 112 + xs.length ≤ sectors * 112) (h1 : 0 < n) (h2 : n ≤ 2000) (hf : sectors * 112 - place * 112 - xs.length < (putB n).length + n ∨ 4611686018427387904 ≤ last) :
    Calls Tryz.prog 9 #[.pointer (some ⟨L, 0, none⟩), .slice a0 n c] w fun e w' => e = .returned (.tuple #[.int .i64 0, .int .i64 4]) ∧ Below w.heap.size w w' := by
  have hl0 := h.l0
  have g1 : ((n : Int) == 0) = false := by simp; omega
  have g2 : ¬ (2000 : Int) < (n : Int) := by omega
  have hlen := putB_le n (by omega)
  have H : Hid (LogW w L T D from_ sectors first last forced place vt) := h
  have HO : Hid (Own w B vt xs) := ho
  clear h ho
  go_enter Tryz.func9, Tryz.ntmps9
  go_wp2_with fail
  refine (lMissing L T w hl0).mono ?_
  rintro e w1 ⟨rfl, hw⟩
  obtain rfl : w = w1 := hw.symm
  clear hw
  go_wp2_with fail
  refine (wPut none 0 0 (fun _ => 0) (n : Int) w (by omega) (.inl ⟨rfl, rfl⟩) (fun _ => rfl) (by omega)).mono ?_
  rintro e w1 ⟨v1, rfl, ho1, hb1⟩
  rw [Int.toNat_natCast, show lst (fun _ => 0) 0 ++ putB n = putB n from rfl] at ho1
  obtain ⟨al, cl, rfl, hfl, hal, _, _, _⟩ := ho1.open
  have H1 := H.out.below hb1
  have l1 := H1.l0
  have l4 : w1.cell? ⟨T, 4, none⟩ = some (.int .i64 (last : Int)) := by rw [cells_at H1.hT 4]; rfl
  have CR := lwRoom H1 (HO.out.below hb1 (Nat.le_refl _)) hs hr
  obtain ⟨R, hR⟩ : ∃ R, sectors * 112 - place * 112 - xs.length = R := ⟨_, rfl⟩
  rw [hR] at hf CR
  obtain ⟨ln, hln⟩ : ∃ ln, (putB n).length = ln := ⟨_, rfl⟩
  rw [hln] at hf hlen ⊢
  clear hR hln hfl H1 hr
  go_wp2_with fail
  refine CR.mono ?_
  rintro e w2 ⟨rfl, q, rfl⟩
  have l1' : (w1.drewN q).cell? ⟨L, 0, none⟩ = some (.pointer (some ⟨T, 0, none⟩)) := l1
  have l4' : (w1.drewN q).cell? ⟨T, 4, none⟩ = some (.int .i64 (last : Int)) := l4
  by_cases hlt : R < ln + n
  · have g3 : (R : Int) < (ln : Int) + (n : Int) := by omega
    clear hf hlt
    go_wp2
    go_ret2
    exact ⟨rfl, blw_drewN q hb1⟩
  · have g3 : ¬ (R : Int) < (ln : Int) + (n : Int) := by omega
    have g4 : decide ((4611686018427387904 : Int) ≤ (last : Int)) = true := by simp; omega
    clear hf hlt
    go_wp2
    go_ret2
    exact ⟨rfl, blw_drewN q hb1⟩
end Go.Proofs.YtnaobkpncfbnaaaGreatDoor
