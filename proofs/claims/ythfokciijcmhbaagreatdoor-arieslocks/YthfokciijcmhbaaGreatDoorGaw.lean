/-
  Contracts of a log's Room, First, Last, Forced, put and Append, over a log in memory (LogW). Conditions: the log lies apart from its tail (told by the blocks' types).
  state.save of a buffer that is dirty, or not.
  state.save, walked.
-/
import Derived.Test.YthfokciijcmhbaaGreatDoorGau
import Derived.Test.YthfokciijcmhbaaGreatDoorGav
import Derived.Maps.AppendAt
import Derived.Deep.DeepMust
import Derived.Test.YthfokciijcmhbaaGreatDoorGat
import Derived.StillTailTactics
namespace Go.Proofs.YthfokciijcmhbaaGreatDoor
open Go.RowKit
set_option linter.unusedVariables false

set_option maxHeartbeats 400000 in
theorem lRoom (L T s p t : Nat) (c : Nat) (a : Option Addr) (w : World) (hs : s ≤ 4096) (hp : p ≤ 4096) (ht : t ≤ 1000000) (h0 : w.cell? ⟨L, 0, none⟩ = some (.pointer (some ⟨T, 0, none⟩))) (h2 : w.cell? ⟨T, 2, none⟩ = some (.int .i64 (s : Int))) (h6 : w.cell? ⟨T, 6, none⟩ = some (.int .i64 (p : Int))) (h7 : w.cell? ⟨T, 7, none⟩ = some (.slice a t c)) :
    Calls Tryz.prog 51 #[.pointer (some ⟨L, 0, none⟩)] w fun e w' => e = .returned (.int .i64 (((s : Int) - p) * 112 - t)) ∧ ∃ q, w' = w.drewN q := by
  go_enter Tryz.func51, Tryz.ntmps51
  go_wp2_with fail
  refine (lMissing L T w h0).mono ?_
  rintro e w1 ⟨rfl, hw⟩
  obtain rfl : w = w1 := hw.symm
  clear hw
  go_wp2_with fail
  go_quiet (fail)
  go_wp2
  go_ret
  exact ⟨rfl, _, rfl⟩
set_option maxHeartbeats 400000 in
theorem lLast (L T : Nat) (z : Int) (w : World) (h0 : w.cell? ⟨L, 0, none⟩ = some (.pointer (some ⟨T, 0, none⟩))) (h4 : w.cell? ⟨T, 4, none⟩ = some (.int .i64 z)) :
    Calls Tryz.prog 96 #[.pointer (some ⟨L, 0, none⟩)] w fun e w' => e = .returned (.int .i64 z) ∧ w' = w := by
  go_enter Tryz.func96, Tryz.ntmps96
  go_wp2_with fail
  refine (lMissing L T w h0).mono ?_
  rintro e w1 ⟨rfl, hw⟩
  obtain rfl : w = w1 := hw.symm
  clear hw
  go_wp2
  go_ret
  exact ⟨rfl, rfl⟩
set_option maxHeartbeats 400000 in
theorem lFirst (L T : Nat) (z : Int) (w : World) (h0 : w.cell? ⟨L, 0, none⟩ = some (.pointer (some ⟨T, 0, none⟩))) (h4 : w.cell? ⟨T, 3, none⟩ = some (.int .i64 z)) :
    Calls Tryz.prog 70 #[.pointer (some ⟨L, 0, none⟩)] w fun e w' => e = .returned (.int .i64 z) ∧ w' = w := by
  go_enter Tryz.func70, Tryz.ntmps70
  go_wp2_with fail
  refine (lMissing L T w h0).mono ?_
  rintro e w1 ⟨rfl, hw⟩
  obtain rfl : w = w1 := hw.symm
  clear hw
  go_wp2
  go_ret
  exact ⟨rfl, rfl⟩
set_option maxHeartbeats 400000 in
theorem lForced (L T : Nat) (z : Int) (w : World) (h0 : w.cell? ⟨L, 0, none⟩ = some (.pointer (some ⟨T, 0, none⟩))) (h4 : w.cell? ⟨T, 5, none⟩ = some (.int .i64 z)) :
    Calls Tryz.prog 158 #[.pointer (some ⟨L, 0, none⟩)] w fun e w' => e = .returned (.int .i64 z) ∧ w' = w := by
  go_enter Tryz.func158, Tryz.ntmps158
  go_wp2_with fail
  refine (lMissing L T w h0).mono ?_
  rintro e w1 ⟨rfl, hw⟩
  obtain rfl : w = w1 := hw.symm
  clear hw
  go_wp2
  go_ret
  exact ⟨rfl, rfl⟩
theorem LogW.l0 {w : World} {L T D from_ sectors first last forced place : Nat} {vt : Value} (h : LogW w L T D from_ sectors first last forced place vt) : w.cell? ⟨L, 0, none⟩ = some (.pointer (some ⟨T, 0, none⟩)) := by rw [cells_at h.hL 0]; rfl
theorem LogW.below {w w' : World} {L T D from_ sectors first last forced place : Nat} {vt : Value} (h : LogW w L T D from_ sectors first last forced place vt) (hb : Below w.heap.size w w') : LogW w' L T D from_ sectors first last forced place vt :=
  ⟨(hb.block L (Array.getElem?_eq_some_iff.1 h.hL).1).trans h.hL, (hb.block T (Array.getElem?_eq_some_iff.1 h.hT).1).trans h.hT⟩
theorem LogW.part {w w' : World} {F : Nat → Prop} {L T D from_ sectors first last forced place : Nat} {vt : Value} (h : LogW w L T D from_ sectors first last forced place vt) (hb : Part F w w') (h1 : ¬ F L) (h2 : ¬ F T) : LogW w' L T D from_ sectors first last forced place vt :=
  ⟨(hb.block L (Array.getElem?_eq_some_iff.1 h.hL).1 h1).trans h.hL, (hb.block T (Array.getElem?_eq_some_iff.1 h.hT).1 h2).trans h.hT⟩
/-- A row of bytes lies in no block of another type. -/
theorem Own.ne {w : World} {B : Nat} {v : Value} {xs : List Int} (h : Own w B v xs) {k : Nat} {cs : Array Value} {t : TypeId} {fz : Nat × Nat} (hk : w.heap[k]? = some (.cells cs t fz)) (ht : t ≠ 5) : v.ownBlock ≠ some k := by
  intro e
  unfold Own World.ownsRow at h
  rcases h.2 with ⟨rfl, _⟩ | ⟨g, cap, cur, rfl, h2, h3, _⟩
  · cases e
  · obtain rfl : g = k := Option.some.inj e
    rw [hk] at h3
    cases h3
    exact ht rfl

/-- How a row of bytes grows: nothing but its own block, and what is new. -/
def Grow (w w' : World) (v v' : Value) : Prop := Part (fun k => some k = v.ownBlock) w w' ∧ ∀ k, v'.ownBlock = some k → some k = v.ownBlock ∨ w.heap.size ≤ k
theorem Grow.trans {a b c : World} {u v x : Value} (h : Grow a b u v) (k : Grow b c v x) : Grow a c u x := by
  refine ⟨h.1.trans k.1 (fun i hi e => ?_), fun i e => ?_⟩
  · rcases h.2 i e.symm with h2 | h2
    · exact h2
    · omega
  · rcases k.2 i e with h2 | h2
    · exact h.2 i h2.symm
    · exact .inr (Nat.le_trans h.1.size h2)

section
variable {w : World} {ops : Array Oper} {rest : List Oper} {o : Oper} {a : Act} {Q : Exit → Act → World → Prop}
/-- wpList_app, with what stays told by blocks. -/
theorem wpList_appH (hgd : o.guard = none) (s x : Operand) (ho : o.op = .call { callee := .builtin .append, args := #[s, x], argTypes := #[47, 47] })
    (B : Nat) (v : Value) (xs : List Int) (hs : a.eval s = v) (hown : Own w B v xs) (ao : Option Addr) (m c : Nat) (f : Nat → Int) (hx : a.eval x = .slice ao m c) (hf : From w ao m f) (hc0 : ao = none → c = 0)
    (hbig : xs.length + m ≤ 140737488355328) (hB : B ≤ w.heap.size)
    (h : ∀ v' w', Own w' B v' (xs ++ lst f m) → Grow w w' v v' → wpList Tryz.prog ops Q rest (a.put o.dst v') w') : wpList Tryz.prog ops Q (o :: rest) a w := by
  obtain ⟨i0, hi, hz0, hz1, hz2⟩ := info_parts info5
  rcases hf with ⟨h1, h2⟩ | ⟨ad, h1, h2⟩
  · subst h1 h2
    rw [hc0 rfl] at hx
    refine wpList_append_own_none hgd s x 47 ho B 5 i0 1 Tryz.underlying47 hi v xs.length (xs.map (Value.int .u8)) hs hown hx (h v w ?_ ⟨Part.refl _ _, fun k hk => .inl hk.symm⟩)
    simpa [lst] using hown
  · subst h1
    refine wpList_append_own_at w hgd s x 47 ho B 5 i0 (.int .u8 0) 1 1 Tryz.underlying47 hi hz0 hz1 hz2 rfl (by decide) v xs.length (xs.map (Value.int .u8)) hs hown ad m c ((lst f m).map (Value.int .u8)) hx (by simp [lst_length]) ?_ ?_ (by unfold maxLen; omega) (by omega) hB ?_
    · intro j u hj
      have hjm : j < m := by
        have := (List.getElem?_eq_some_iff.1 hj).1
        simpa [lst_length] using this
      rw [h2 j hjm]
      rw [List.getElem?_map, lst_get f m j hjm] at hj
      simpa using hj
    · intro u hu
      obtain ⟨y, _, rfl⟩ := List.mem_map.1 hu
      rfl
    · intro v' w' h3 h4 _ h5
      refine h v' w' ?_ ⟨(Part.refl _ w).grown h4 (fun k e _ => e.symm), fun k e => ?_⟩
      · unfold Own
        rw [List.length_append, lst_length, List.map_append]
        exact h3
      · rcases h5 with h5 | h5
        · exact .inl (e.symm.trans h5)
        · rw [h5] at e
          cases e
          exact .inr (Nat.le_refl _)
end

set_option maxHeartbeats 1000000 in
theorem lputH (v : Value) (B : Nat) (xs : List Int) (g : Nat) (a1 a2 : Option Addr) (n1 c1 n2 c2 : Nat) (f1 f2 : Nat → Int) (w : World) (hown : Own w B v xs) (hB : B ≤ w.heap.size) (hg : g < w.heap.size) (hgv : some g ≠ v.ownBlock)
    (h0 : w.cell? ⟨g, 0, none⟩ = some (.slice a1 n1 c1)) (h1 : w.cell? ⟨g, 1, none⟩ = some (.slice a2 n2 c2)) (hf1 : From w a1 n1 f1) (hf2 : ∀ w', Part (fun k => some k = v.ownBlock) w w' → From w' a2 n2 f2) (k1 : a1 = none → c1 = 0) (k2 : a2 = none → c2 = 0) (hbig : xs.length + n1 + n2 ≤ 140737488355328) :
    Calls Tryz.prog 129 #[v, .slice (some ⟨g, 0, none⟩) 2 2] w fun e w' => ∃ v', e = .returned v' ∧ Own w' B v' (xs ++ lst f1 n1 ++ lst f2 n2) ∧ Grow w w' v v' := by
  have HF1 : Hid (From w a1 n1 f1) := hf1
  have HF2 : Hid (∀ w', Part (fun k => some k = v.ownBlock) w w' → From w' a2 n2 f2) := hf2
  have HK : Hid (∀ w' : World, Part (fun k => some k = v.ownBlock) w w' → w'.cell? ⟨g, 1, none⟩ = some (.slice a2 n2 c2)) := fun w' hk => by
    rw [World.cell?_of_block (w := w) (hk.block g hg hgv)]
    exact h1
  clear hf1 hf2 hgv
  go_enter Tryz.func129, Tryz.ntmps129
  go_wp2
  refine wp_loop_rounds 3 ?_
  rw [rounds_succ]
  go_wp2_with (at_builtin; refine wpList_appH rfl _ _ rfl B _ xs rfl hown a1 n1 c1 f1 rfl HF1.out k1 ?q2 hB ?_)
  case q2 => omega
  intro v1 w1 ho1 hg1
  have hs1 := hg1.1.size
  have hc := HK.out w1 hg1.1
  have HF3 : Hid (From w1 a2 n2 f2) := HF2.out w1 hg1.1
  have hll : (xs ++ lst f1 n1).length = xs.length + n1 := by rw [List.length_append, lst_length]
  have HG : Hid (Grow w w1 v v1) := hg1
  clear HK hg1 HF1 HF2 hown h0 h1
  go_wp2
  rw [rounds_succ]
  go_wp2_with (at_builtin; refine wpList_appH rfl _ _ rfl B _ (xs ++ lst f1 n1) rfl ho1 a2 n2 c2 f2 rfl HF3.out k2 ?r2 ?r3 ?_)
  case r2 => omega
  case r3 => omega
  intro v2 w2 ho2 hg2
  have HG2 : Hid (Grow w w2 v v2) := HG.out.trans hg2
  clear ho1 hc HF3 HG hg2
  go_wp2
  rw [rounds_succ]
  go_wp2
  go_ret
  exact ⟨v2, rfl, by rw [List.append_assoc]; exact ho2, HG2.out⟩

theorem putB_lt {n : Nat} (h : n < 128) : (putB n).length = 1 := by rw [putB_small n h]; rfl
theorem putB_ge {n : Nat} (h : 128 ≤ n) (h2 : n ≤ 2000) : (putB n).length = 2 := by rw [putB_more n (by omega), List.length_cons, putB_small (n / 128) (by omega)]; rfl

set_option maxHeartbeats 400000 in
theorem appL_empty (L T c : Nat) (a0 : Option Addr) (w : World) (l0 : w.cell? ⟨L, 0, none⟩ = some (.pointer (some ⟨T, 0, none⟩))) :
    Calls Tryz.prog 92 #[.pointer (some ⟨L, 0, none⟩), .slice a0 0 c] w fun e w' => e = .returned (.tuple #[.int .i64 0, .int .i64 1]) ∧ w' = w := by
  go_enter Tryz.func92, Tryz.ntmps92
  go_wp2_with fail
  refine (lMissing L T w l0).mono ?_
  rintro e w1 ⟨rfl, hw⟩
  obtain rfl : w = w1 := hw.symm
  clear hw
  go_wp2
  go_ret2
  exact ⟨rfl, rfl⟩
set_option maxHeartbeats 400000 in
theorem appL_long (L T n c : Nat) (a0 : Option Addr) (w : World) (l0 : w.cell? ⟨L, 0, none⟩ = some (.pointer (some ⟨T, 0, none⟩))) (hn : 2000 < n) :
    Calls Tryz.prog 92 #[.pointer (some ⟨L, 0, none⟩), .slice a0 n c] w fun e w' => e = .returned (.tuple #[.int .i64 0, .int .i64 12]) ∧ w' = w := by
  have g1 : ((n : Int) == 0) = false := by simp; omega
  have g2 : (2000 : Int) < (n : Int) := by omega
  go_enter Tryz.func92, Tryz.ntmps92
  go_wp2_with fail
  refine (lMissing L T w l0).mono ?_
  rintro e w1 ⟨rfl, hw⟩
  obtain rfl : w = w1 := hw.symm
  clear hw
  go_wp2
  go_ret2
  exact ⟨rfl, rfl⟩
theorem lwRoom {w : World} {L T D from_ sectors first last forced place B : Nat} {vt : Value} {xs : List Int} (h : LogW w L T D from_ sectors first last forced place vt) (ho : Own w B vt xs) (hs : sectors ≤ 4096) (hr : place * 112 + xs.length ≤ sectors * 112) :
    Calls Tryz.prog 51 #[.pointer (some ⟨L, 0, none⟩)] w fun e w' => e = .returned (.int .i64 ((sectors * 112 - place * 112 - xs.length : Nat) : Int)) ∧ ∃ q, w' = w.drewN q := by
  obtain ⟨ao, c, rfl, _⟩ := ho.open
  have := lRoom L T sectors place xs.length c ao w hs (by omega) (by omega) h.l0 (by rw [cells_at h.hT 2]; rfl) (by rw [cells_at h.hT 6]; rfl) (by rw [cells_at h.hT 7]; rfl)
  have e : (((sectors : Int) - (place : Int)) * 112 - (xs.length : Int)) = ((sectors * 112 - place * 112 - xs.length : Nat) : Int) := by omega
  rw [e] at this
  exact this
set_option maxHeartbeats 1000000 in
theorem appL_full (L T D from_ sectors first last forced place B n c : Nat) (vt : Value) (xs : List Int) (a0 : Option Addr) (w : World) (h : LogW w L T D from_ sectors first last forced place vt) (ho : Own w B vt xs) (hs : sectors ≤ 4096) (hr : place * 112 + xs.length ≤ sectors * 112) (h1 : 0 < n) (h2 : n ≤ 2000) (hf : sectors * 112 - place * 112 - xs.length < (putB n).length + n ∨ 4611686018427387904 ≤ last) :
    Calls Tryz.prog 92 #[.pointer (some ⟨L, 0, none⟩), .slice a0 n c] w fun e w' => e = .returned (.tuple #[.int .i64 0, .int .i64 4]) ∧ Below w.heap.size w w' := by
  have hl0 := h.l0
  have g1 : ((n : Int) == 0) = false := by simp; omega
  have g2 : ¬ (2000 : Int) < (n : Int) := by omega
  have hlen := putB_le n (by omega)
  have H : Hid (LogW w L T D from_ sectors first last forced place vt) := h
  have HO : Hid (Own w B vt xs) := ho
  clear h ho
  go_enter Tryz.func92, Tryz.ntmps92
  go_wp2_with fail
  refine (lMissing L T w hl0).mono ?_
  rintro e w1 ⟨rfl, hw⟩
  obtain rfl : w = w1 := hw.symm
  clear hw
  go_wp2_with fail
  refine (wPut none 0 0 (fun _ => 0) (n : Int) w (by omega) (.inl ⟨rfl, rfl⟩) (fun _ => rfl) (by omega)).mono ?_
  rintro e w1 ⟨v1, rfl, ho1, hb1⟩
  rw [Int.toNat_natCast, show lst (fun _ => 0) 0 ++ putB n = putB n from rfl] at ho1
  obtain ⟨al, cl, rfl, hfl, hal, _, _, _⟩ := ho1.open
  have H1 := H.out.below hb1
  have l1 := H1.l0
  have l4 : w1.cell? ⟨T, 4, none⟩ = some (.int .i64 (last : Int)) := by rw [cells_at H1.hT 4]; rfl
  have CR := lwRoom H1 (HO.out.below hb1 (Nat.le_refl _)) hs hr
  obtain ⟨R, hR⟩ : ∃ R, sectors * 112 - place * 112 - xs.length = R := ⟨_, rfl⟩
  rw [hR] at hf CR
  obtain ⟨ln, hln⟩ : ∃ ln, (putB n).length = ln := ⟨_, rfl⟩
  rw [hln] at hf hlen ⊢
  clear hR hln hfl H1 hr
  go_wp2_with fail
  refine CR.mono ?_
  rintro e w2 ⟨rfl, q, rfl⟩
  have l1' : (w1.drewN q).cell? ⟨L, 0, none⟩ = some (.pointer (some ⟨T, 0, none⟩)) := l1
  have l4' : (w1.drewN q).cell? ⟨T, 4, none⟩ = some (.int .i64 (last : Int)) := l4
  by_cases hlt : R < ln + n
  · have g3 : (R : Int) < (ln : Int) + (n : Int) := by omega
    clear hf hlt
    go_wp2
    go_ret2
    exact ⟨rfl, blw_drewN q hb1⟩
  · have g3 : ¬ (R : Int) < (ln : Int) + (n : Int) := by omega
    have g4 : decide ((4611686018427387904 : Int) ≤ (last : Int)) = true := by simp; omega
    clear hf hlt
    go_wp2
    go_ret2
    exact ⟨rfl, blw_drewN q hb1⟩
set_option maxRecDepth 100000 in
set_option maxHeartbeats 1000000 in
theorem reset_full (L T D from_ sectors first last forced place : Nat) (vt : Value) (w : World) (h : LogW w L T D from_ sectors first last forced place vt) (hl : 4611686018427387904 ≤ last) :
    Calls Tryz.prog 98 #[.pointer (some ⟨L, 0, none⟩)] w fun r w' => r = .returned (.int .i64 4) ∧ w' = w := by
  have l0 := h.l0
  have c4 : w.cell? ⟨T, 4, none⟩ = some (.int .i64 (last : Int)) := by rw [cells_at h.hT 4]; rfl
  have hl1 : decide ((4611686018427387904 : Int) ≤ (last : Int)) = true := by simp; omega
  clear hl h
  go_enter Tryz.func98, Tryz.ntmps98
  go_wp2_with fail
  refine (lMissing L T w l0).mono ?_
  rintro r w0 ⟨rfl, hw⟩
  obtain rfl : w = w0 := hw.symm
  clear hw
  go_wp2
  go_ret
  exact ⟨rfl, rfl⟩
end Go.Proofs.YthfokciijcmhbaaGreatDoor

namespace Go.Proofs.YthfokciijcmhbaaGreatDoor
open Go.RowKit
set_option linter.unusedVariables false

variable {B0 : Nat} {A : Ax} {w w1 : World} {P : Nat → Prop} {S D L bf n M last forced : Nat} {m : Int} {X : Nat → Bf} {e : Nat → Int} {ln : Nat → Nat} {lo : Nat → Nat → Int}
theorem Pw.more (k : Pw B0 A w P S m D L bf n X M e last forced ln lo) {M' : Nat} (h : M ≤ M') : Pw B0 A w P S m D L bf n X M' e last forced ln lo := by
  obtain ⟨T, F, vt, s1, s2⟩ := k.lay
  exact { k with lay := ⟨T, F, vt, s1.mono h, s2⟩ }
theorem pw_encode (k : Pw B0 A w P S m D L bf n X M e last forced ln lo) (i : Nat) (hi : i < n) (h0 : 0 < (X i).ls) {g c : Nat} (hd : (X i).ld = .slice (some ⟨g, 0, none⟩) 112 c) (wq : World) (hq : Dr0 w wq) : Calls Tryz.prog 159 #[.int .i64 ((X i).ls : Int), .slice (some ⟨g, 0, none⟩) 112 c] wq fun r w' => ∃ g' c', r = .returned (.tuple #[.slice (some ⟨g', 0, none⟩) 128 c', .int .i64 0]) ∧ Hid (Pw B0 A w' P S m D L bf n X M e last forced ln lo ∧ Below w.heap.size w w' ∧ From w' (some ⟨g', 0, none⟩) 128 (pg (X i).ls (lo (X i).pg)) ∧ w.heap.size ≤ g') := by
  have kq := k.below hq.below
  have hl := k.lm (X i).pg
  rw [← (k.cl i hi).2.2.1] at hl
  have ho := kq.ld i hi
  rw [hd] at ho
  have hs := (hq.below (B := 0)).size
  refine (wEnc_seal g 0 c (X i).ls (lo (X i).pg) wq (fun j hj => ?_) (k.by_ _) hl (.inl h0) kq.tab).mono fun r w' ⟨v', hr, ho', hb⟩ => ?_
  · rw [Nat.zero_add]
    have h := World.ownsRow.cells (g := g) ho rfl j (.int .u8 (lo (X i).pg j)) (by rw [List.getElem?_map, lst_get _ 112 j hj]; rfl)
    rw [Addr.add_lit, Nat.zero_add] at h
    exact h
  · obtain ⟨g', c', e1, hg', _⟩ := own_some ho' (by decide)
    subst e1
    refine ⟨g', c', hr, kq.below hb, (hq.below (B := w.heap.size)).trans (hb.mono hs), ?_, ?_⟩
    · refine .inr ⟨_, rfl, fun j hj => ?_⟩
      have h := World.ownsRow.cells (g := g') ho' rfl j (.int .u8 (pg (X i).ls (lo (X i).pg) j)) (by rw [List.getElem?_map, lst_get _ 128 j hj]; rfl)
      exact h
    · rcases ho'.2 with ⟨e1, _⟩ | ⟨g2, cap, cur, e1, hg, _⟩
      · cases e1
      · injection e1 with e1
        injection e1 with e1
        injection e1 with e1
        omega
theorem pw_write (k : Pw B0 A w P S m D L bf n X M e last forced ln lo) (i : Nat) (hi : i < n) (h0 : 0 < (X i).ls) (hM : M ≤ 1000000) (hA : A → (X i).ls ≤ forced) {w3 : World} {g c : Nat} (h : Pw B0 A w3 P S m D L bf n X M e last forced ln lo ∧ Below w.heap.size w w3 ∧ From w3 (some ⟨g, 0, none⟩) 128 (pg (X i).ls (lo (X i).pg)) ∧ w.heap.size ≤ g) (wq : World) (hq : Dr0 w3 wq) (t : Int) (ht : t = 40 + ((X i).pg : Int)) :
    Calls Tryz.prog 141 #[.pointer (some ⟨D, 0, none⟩), .int .i64 t, .slice (some ⟨g, 0, none⟩) 128 c] wq fun r w' => r = .returned (.int .i64 0) ∧ Hid (w'.heap[(X i).b]? = some (bufO (X i)) ∧ w'.heap[S]? = w.heap[S]? ∧ ∃ P' e', Pw B0 A (w'.setCell ⟨(X i).b, 3, none⟩ (.int .i64 0)) P' S m D L bf n (cleanX X i) (M + 1) e' last forced ln lo ∧ Part (Fq B0 P w) w (w'.setCell ⟨(X i).b, 3, none⟩ (.int .i64 0)) ∧ ∀ b, P' b → P b ∨ w.heap.size ≤ b) := by
  obtain ⟨k3, b3, hf, hg⟩ := h
  subst ht
  have kq := k3.below hq.below
  have hfq : From wq (some ⟨g, 0, none⟩) 128 (pg (X i).ls (lo (X i).pg)) := hf.below (B := w3.heap.size) hq.below (Nat.le_refl _)
  have bq : Below w.heap.size w wq := b3.trans ((hq.below (B := w3.heap.size)).mono b3.size)
  obtain ⟨T, F, vt, s1, s2, s3, s4, s5⟩ := kq.lay
  obtain ⟨z1, z2, z3, z4, z5⟩ := k.cl i hi
  have := sdWrite D (40 + (X i).pg) 46 M (fun b => F b ∧ Dt wq b) e g 0 c (pg (X i).ls (lo (X i).pg)) wq s1.typed (by omega) (by omega) hfq (pg_by _ (k.by_ _)) (fun h => by have := k.lt g (s3 g h.1); omega)
  rw [show ((40 + (X i).pg : Nat) : Int) = 40 + ((X i).pg : Int) by omega] at this
  refine this.mono fun r w' ⟨hr, hs, hp⟩ => ?_
  have hnt : ∀ b cs t, (F b ∧ Dt wq b) → wq.heap[b]? = some (.cells cs t (0, 0)) → t ≠ 170 ∧ t ≠ 143 := fun b cs t hf e => by
    obtain ⟨_, cs', t', e', ht⟩ := hf
    rw [e'] at e
    injection e with e
    injection e with _ e
    subst e
    rcases ht with rfl | rfl | rfl | rfl <;> decide
  have hb := kq.ps.buf i hi
  have hb' := (hp.block _ (Array.getElem?_eq_some_iff.1 hb).1 (fun hf => (hnt _ _ _ hf hb).1 rfl)).trans hb
  obtain ⟨held, hS, _⟩ := kq.ps.lay
  have hS' := (hp.block S (Array.getElem?_eq_some_iff.1 hS).1 (fun hf => (hnt _ _ _ hf hS).2 rfl)).trans (bq.block S k.ps.lt)
  obtain ⟨q1, q2⟩ := kq.wrote i hi hA h0 (s2.less (F' := fun b => F b ∧ Dt wq b) (fun b h => h.1)) (fun b h => s3 b h.1) s4 s5 (fun b h => h.2) hs hp
  have hsz := bq.size
  refine ⟨hr, hb', hS', _, _, q1, ?_, fun b hb => hb.imp id (fun h => by omega)⟩
  exact (Part.ofBelow (F := Fq B0 P w) bq).trans q2 (fun b hb hf => by
    rcases hf with hf | ⟨hB, cs, t, fz, e', ht⟩
    · exact .inl hf
    · rw [bq.block b hb] at e'
      exact .inr ⟨hB, cs, t, fz, e', ht⟩)
theorem pw_forced (k : Pw B0 A w P S m D L bf n X M e last forced ln lo) : Calls Tryz.prog 158 #[.pointer (some ⟨L, 0, none⟩)] w fun r w' => r = .returned (.int .i64 (forced : Int)) ∧ w' = w := by
  obtain ⟨T, F, vt, s1, s2, _⟩ := k.lay
  obtain ⟨q, place, tl, f, h1, _⟩ := s2.lay
  exact lForced L T _ w (by rw [cells_at h1.hL 0]; rfl) (by rw [cells_at h1.hT 5]; rfl)
end Go.Proofs.YthfokciijcmhbaaGreatDoor

namespace Go.Proofs.YthfokciijcmhbaaGreatDoor
open Go.RowKit
set_option linter.unusedVariables false

variable {B0 : Nat} {A : Ax} {w w1 : World} {P : Nat → Prop} {S D L bf n M last forced : Nat} {m : Int} {X : Nat → Bf} {e : Nat → Int} {ln : Nat → Nat} {lo : Nat → Nat → Int}
/-- What lies behind a call that wrote the i-th buffer. -/
def Svd (B0 : Nat) (A : Ax) (w : World) (P : Nat → Prop) (S : Nat) (m : Int) (D L bf n : Nat) (X : Nat → Bf) (M last forced : Nat) (ln : Nat → Nat) (lo : Nat → Nat → Int) (w' : World) : Prop := ∃ P' e' fo', Pw B0 A w' P' S m D L bf n X M e' last fo' ln lo ∧ forced ≤ fo' ∧ Part (Fq B0 P w) w w' ∧ ∀ b, P' b → P b ∨ w.heap.size ≤ b
theorem s_saveC (k : Pw B0 A w P S m D L bf n X M e last forced ln lo) (i : Nat) (hi : i < n) (hx : (X i).fi = 0) : Calls Tryz.prog 133 #[.pointer (some ⟨S, 0, none⟩), ptr (X i).b] w fun r w' => r = .returned (.int .i64 0) ∧ Svd B0 A w P S m D L bf n (cleanX X i) (M + 1) last forced ln lo w' :=
  (s_save S (X i) w (k.ps.buf i hi) hx).mono fun r w' ⟨h1, h2⟩ => ⟨h1, by subst h2; exact ⟨P, e, forced, by rw [clean_same X hx]; exact k.more (by omega), Nat.le_refl _, Part.refl _ _, fun b hb => .inl hb⟩⟩
set_option maxRecDepth 100000 in
set_option maxHeartbeats 4000000 in
theorem s_saveN (k : Pw B0 A w P S m D L bf n X M e last forced ln lo) (i : Nat) (hi : i < n) (hM : M ≤ 1000000) (hx : 0 < (X i).fi) (hF : (X i).ls ≤ forced) : Calls Tryz.prog 133 #[.pointer (some ⟨S, 0, none⟩), ptr (X i).b] w fun r w' => r = .returned (.int .i64 0) ∧ Svd B0 A w P S m D L bf n (cleanX X i) (M + 1) last forced ln lo w' := by
  obtain ⟨held, h1, h2⟩ := k.ps.lay
  have hb := k.ps.buf i hi
  obtain ⟨z1, z2, z3, z4, z5⟩ := k.cl i hi
  obtain ⟨g, c, hd, _⟩ := own_some (k.ld i hi) (by decide)
  obtain ⟨q, hqb⟩ : ∃ q, (X i).b = q := ⟨_, rfl⟩
  obtain ⟨y, hy⟩ : ∃ y, (X i).ls = y := ⟨_, rfl⟩
  obtain ⟨p, hp⟩ : ∃ p, (X i).pg = p := ⟨_, rfl⟩
  have HD : Hid (Calls Tryz.prog 151 #[ptr (X i).b] w fun r w' => r = .returned (.bool true) ∧ w' = w) := (s_dirtyG (X i) w hb).mono fun r w' ⟨h1, h2⟩ => ⟨by rw [h1, decide_eq_true hx], h2⟩
  have HFo : Hid (∀ q, Calls Tryz.prog 158 #[.pointer (some ⟨L, 0, none⟩)] (w.drewN q) fun r w' => r = .returned (.int .i64 (forced : Int)) ∧ w' = w.drewN q) := fun q => pw_forced (k.below (blw_drewN q (Below.refl _ w)))
  have HB : Hid (∀ wq, Below w.heap.size w wq → wq.cell? ⟨q, 1, none⟩ = some (.int .i64 (y : Int)) ∧ wq.cell? ⟨q, 2, none⟩ = some (.slice (some ⟨g, 0, none⟩) 112 c) ∧ wq.cell? ⟨q, 0, none⟩ = some (.int .i64 (p : Int)) ∧ wq.cell? ⟨S, 2, none⟩ = some (.pointer (some ⟨D, 0, none⟩)) ∧ wq.cell? ⟨S, 4, none⟩ = some (.int .i64 40) ∧ wq.cell? ⟨S, 3, none⟩ = some (.pointer (some ⟨L, 0, none⟩))) := fun wq hq => by
    have e1 := (hq.block _ (Array.getElem?_eq_some_iff.1 hb).1).trans hb
    have e2 := (hq.block S k.ps.lt).trans h1
    rw [← hqb, ← hy, ← hp, ← hd]
    exact ⟨by rw [cells_at e1 1]; rfl, by rw [cells_at e1 2]; rfl, by rw [cells_at e1 0]; rfl, by rw [cells_at e2 2]; rfl, by rw [cells_at e2 4]; rfl, by rw [cells_at e2 3]; rfl⟩
  have HEn : Hid (∀ wq, Dr0 w wq → Calls Tryz.prog 159 #[.int .i64 (y : Int), .slice (some ⟨g, 0, none⟩) 112 c] wq fun r w' => ∃ g' c', r = .returned (.tuple #[.slice (some ⟨g', 0, none⟩) 128 c', .int .i64 0]) ∧ Below w.heap.size w w' ∧ Hid (Pw B0 A w' P S m D L bf n X M e last forced ln lo ∧ Below w.heap.size w w' ∧ From w' (some ⟨g', 0, none⟩) 128 (pg (X i).ls (lo (X i).pg)) ∧ w.heap.size ≤ g')) := fun wq hq => by
    rw [← hy]
    exact (pw_encode k i hi (z5 hx) hd wq hq).mono fun r w' ⟨g', c', h1, h2⟩ => ⟨g', c', h1, h2.out.2.1, h2⟩
  have HWr : Hid (∀ w3 g' c', Pw B0 A w3 P S m D L bf n X M e last forced ln lo ∧ Below w.heap.size w w3 ∧ From w3 (some ⟨g', 0, none⟩) 128 (pg (X i).ls (lo (X i).pg)) ∧ w.heap.size ≤ g' → ∀ wq t, Dr0 w3 wq → t = 40 + (p : Int) → Calls Tryz.prog 141 #[.pointer (some ⟨D, 0, none⟩), .int .i64 t, .slice (some ⟨g', 0, none⟩) 128 c'] wq fun r w' => r = .returned (.int .i64 0) ∧ (w'.cell? ⟨q, 0, none⟩ = some (.int .i64 (p : Int)) ∧ w'.cell? ⟨S, 2, none⟩ = some (.pointer (some ⟨D, 0, none⟩)) ∧ w'.cell? ⟨S, 4, none⟩ = some (.int .i64 40)) ∧ Hid (w'.cell? ⟨q, 3, none⟩ = some (.int .i64 ((X i).fi : Int)) ∧ w'.frozen? ⟨q, 3, none⟩ = false ∧ Svd B0 A w P S m D L bf n (cleanX X i) (M + 1) last forced ln lo (w'.setCell ⟨q, 3, none⟩ (.int .i64 0)))) := fun w3 g' c' h wq t hq ht => by
    rw [← hqb]
    refine (pw_write k i hi (z5 hx) hM (fun _ => hF) h wq hq t (by rw [ht, hp])).mono fun r w' ⟨j0, j⟩ => ?_
    obtain ⟨j1, j2, P', e', j3, j4, j5⟩ := j.out
    have e2 := j2.trans h1
    rw [← hp]
    exact ⟨j0, ⟨by rw [cells_at j1 0]; rfl, by rw [cells_at e2 2]; rfl, by rw [cells_at e2 4]; rfl⟩, by rw [cells_at j1 3]; rfl, cells_free j1 3, P', e', forced, j3, Nat.le_refl _, j4, j5⟩
  have hyf : (y : Int) ≤ (forced : Int) := by omega
  have d1 : decide ((forced : Int) < (y : Int)) = false := decide_eq_false (by omega)
  have hp1 : (p : Int) < 6 := by omega
  have hp0 : (0 : Int) ≤ (p : Int) := by omega
  rw [hqb] at HD ⊢
  unfold ptr at *
  clear k h1 h2 hb z1 z2 z3 z4 z5 hd hqb hy hp hx hF hi
  obtain ⟨u1, u2, u0, uS2, uS4, uS3⟩ := HB.out w (Below.refl _ w)
  go_enter Tryz.func133, Tryz.ntmps133
  go_wp2_with fail
  refine HD.out.mono ?_
  rintro r w1 ⟨rfl, hw⟩
  obtain rfl : w = w1 := hw.symm
  clear hw HD
  go_wp2_with fail
  go_quiet (first
    | (go_at_call 158; exact Calls.quiet_of_same (HFo.out _)))
  have q1 : Dr0 w (w.drewN nq) := ⟨nq, rfl⟩
  have b1 : Below w.heap.size w (w.drewN nq) := q1.below
  clear u1 u2 u0 uS2 uS4 uS3 HFo
  obtain ⟨u1, u2, u0, uS2, uS4, uS3⟩ := HB.out _ b1
  generalize w.drewN nq = w1 at *
  go_wp2_with fail
  go_region_held2 (fun wq => wq.cell? ⟨q, 1, none⟩ = some (.int .i64 (y : Int)) ∧ wq.cell? ⟨q, 2, none⟩ = some (.slice (some ⟨g, 0, none⟩) 112 c))
    (first | exact ⟨(HB.out _ (by assumption)).1, (HB.out _ (by assumption)).2.1⟩ | exact ⟨(HB.out _ (blw_drewN 1 (by assumption))).1, (HB.out _ (blw_drewN 1 (by assumption))).2.1⟩ | go_keep)
    (first
      | (go_at_call 159; refine (HEn.out _ (by first | exact q1 | exact q1.drew)).mono ?_; rintro e' w3 ⟨g', c', rfl, k2, HE⟩))
  clear u1 u2 u0 uS2 uS4 uS3 HEn
  obtain ⟨u1, u2, u0, uS2, uS4, uS3⟩ := HB.out _ k2
  have q3 : Dr0 w3 w3 := Dr0.refl _
  have b3 : Below w3.heap.size w3 w3 := Below.refl _ w3
  have HB3 : Hid (∀ wq, Below w3.heap.size w3 wq → wq.cell? ⟨q, 0, none⟩ = some (.int .i64 (p : Int)) ∧ wq.cell? ⟨S, 2, none⟩ = some (.pointer (some ⟨D, 0, none⟩)) ∧ wq.cell? ⟨S, 4, none⟩ = some (.int .i64 40)) := fun wq hq => by
    obtain ⟨v1, v2, v0, vS2, vS4, vS3⟩ := HB.out wq (k2.trans (hq.mono k2.size))
    exact ⟨v0, vS2, vS4⟩
  have HW3 : Hid (∀ wq t, Dr0 w3 wq → t = 40 + (p : Int) → Calls Tryz.prog 141 #[.pointer (some ⟨D, 0, none⟩), .int .i64 t, .slice (some ⟨g', 0, none⟩) 128 c'] wq fun r w' => r = .returned (.int .i64 0) ∧ (w'.cell? ⟨q, 0, none⟩ = some (.int .i64 (p : Int)) ∧ w'.cell? ⟨S, 2, none⟩ = some (.pointer (some ⟨D, 0, none⟩)) ∧ w'.cell? ⟨S, 4, none⟩ = some (.int .i64 40)) ∧ Hid (w'.cell? ⟨q, 3, none⟩ = some (.int .i64 ((X i).fi : Int)) ∧ w'.frozen? ⟨q, 3, none⟩ = false ∧ Svd B0 A w P S m D L bf n (cleanX X i) (M + 1) last forced ln lo (w'.setCell ⟨q, 3, none⟩ (.int .i64 0)))) := fun wq t hq ht => HWr.out w3 g' c' HE.out wq t hq ht
  clear HB HWr HE k2 q1 b1 u1 u2 uS3
  go_wp2_with fail
  go_region_held2 (fun wq => wq.cell? ⟨q, 0, none⟩ = some (.int .i64 (p : Int)) ∧ wq.cell? ⟨S, 2, none⟩ = some (.pointer (some ⟨D, 0, none⟩)) ∧ wq.cell? ⟨S, 4, none⟩ = some (.int .i64 40))
    (first | assumption | exact HB3.out _ (by assumption) | exact HB3.out _ (blw_drewN 1 (by assumption)) | go_keep)
    (first
      | (go_at_call 141; refine (HW3.out _ _ (by first | exact q3 | exact q3.drew) (by first | rfl | (simp only [IntKind.wrap_i64]; omega))).mono ?_; rintro e' w4 ⟨rfl, HS4, HF⟩))
  obtain ⟨v3, x3, _⟩ := HF.out
  clear HB3 HW3
  go_wp2
  go_ret
  exact ⟨rfl, HF.out.2.2⟩
end Go.Proofs.YthfokciijcmhbaaGreatDoor
