/-
  Contract of datum's writeParts, as far as write is known. Printed by tools/mkdt.py.
  Contract of datum's write.
-/
import Derived.Test.YtpjgdpfpgpaenaaDoorGam
namespace Go.Proofs.YtpjgdpfpgpaenaaDoor
open Go.RowKit
set_option linter.unusedVariables false

theorem Bd.lt {B b : Nat} {l : List UInt8} {w : World} (h : Bd B b l w) : b < w.heap.size := h.1.elim (fun x => x.lt) (fun x => x.lt)
theorem Kp.box {B b : Nat} {w w' : World} (h : Kp B b w w') {g : Nat} {cs : Array Value} {T : TypeId} {fz : Nat × Nat} (h0 : w.heap[g]? = some (.cells cs T fz)) (hg : g ≠ b) (hT : T ≠ 5) : w'.heap[g]? = some (.cells cs T fz) :=
  h.2 g _ h0 (fun e => hg (Option.some.inj e)) (fun c f e => hT (by injection e))
/-- What write does, as far as so many data. -/
def WOk (w0 : World) (B b N : Nat) : Prop := ∀ (d : Dt) (v : Value) (L : List UInt8) (w : World), d.siz < N → DAt w0 d v → Below w0.heap.size w0 w → Bd B b L w → L.length + 8 * d.wt ≤ 140737488355328 →
  Calls Tryd.prog 30 #[.pointer (some ⟨b, 0, none⟩), v] w fun e w' => e = .returned (.tuple #[]) ∧ Hid (Bd B b (L ++ d.out) w' ∧ Kp B b w w')
set_option maxRecDepth 100000 in
set_option maxHeartbeats 4000000 in
theorem dt_parts {w0 : World} {B b N : Nat} (hwB : w0.heap.size ≤ B) (IH : Hid (WOk w0 B b N)) {k : Int} {t : ByteArray} {l m : List Dt} {a a2 : Option Addr} {n1 n2 c c2 : Nat} (hn1 : l.length = n1) (hn2 : m.length = n2) {X Y : Nat → Nat → Value}
    (hl : ∀ j (h : j < l.length), DAt w0 l[j] (vx X j)) (hm : ∀ j (h : j < m.length), DAt w0 m[j] (vx Y j)) (ra : RowAt w0 a l.length X) (rb : RowAt w0 a2 m.length Y) (hc1 : (n1 : Int) ≤ 9223372036854775807) (hc2 : (n2 : Int) ≤ 9223372036854775807)
    (L : List UInt8) (w : World) (hN : (Dt.node k t l m).siz < N + 1) (hbw : Below w0.heap.size w0 w) (hB : Bd B b L w) (hL : L.length + 7 + 8 * (wtL l + wtL m) ≤ 140737488355328) :
    Calls Tryd.prog 43 #[.pointer (some ⟨b, 0, none⟩), .agg #[.int .i64 k, .string t, .slice a n1 c, .slice a2 n2 c2]] w fun e w' => e = .returned (.tuple #[]) ∧ Hid (Bd B b (L ++ 40 :: (outL false l ++ outT m ++ [41])) w' ∧ Kp B b w w') := by
  obtain ⟨W1, hW1⟩ : ∃ W1, w.alloc (.cells #[.int .i64 k, .string t, .slice a n1 c, .slice a2 n2 c2] 42) = W1 := ⟨_, rfl⟩
  obtain ⟨G, hG⟩ : ∃ G, w.heap.size = G := ⟨_, rfl⟩
  have h0 : W1.heap[G]? = some (.cells #[.int .i64 k, .string t, .slice a n1 c, .slice a2 n2 c2] 42 (0, 0)) := by rw [← hW1]; exact heap_alloc_at _ _ _ hG.symm
  have hGb : G ≠ b := by have := hB.lt; omega
  have hB1 : Bd B b L W1 := by rw [← hW1]; exact hB.alloc _
  have hK1 : Kp B b w W1 := by rw [← hW1]; exact (Kp.refl _ _ _).alloc hB.2 _
  have HV : Hid (∀ V, Kp B b W1 V → Below w0.heap.size w0 V ∧ V.cell? ⟨G, 2, none⟩ = some (.slice a n1 c) ∧ V.cell? ⟨G, 3, none⟩ = some (.slice a2 n2 c2) ∧ Kp B b w V) := fun V h => by
    have e := h.box h0 hGb (by decide)
    exact ⟨hbw.trans ((hK1.trans h).1.mono hwB), by rw [cells_at e 2]; rfl, by rw [cells_at e 3]; rfl, hK1.trans h⟩
  have HLn : Hid (L.length + 7 + 8 * (wtL l + wtL m) ≤ 140737488355328) := hL
  have H0 := hid (b_byte hB1 40 (by have := HLn.out; omega))
  have hNl : Hid (∀ j (h : j < l.length), l[j].siz < N) := fun j h => Nat.lt_of_lt_of_le (siz_l k t l m j h) (Nat.le_of_lt_succ hN)
  have hNm : Hid (∀ j (h : j < m.length), m[j].siz < N) := fun j h => Nat.lt_of_lt_of_le (siz_m k t l m j h) (Nat.le_of_lt_succ hN)
  clear h0 hB1 hK1 hB hbw hL hN hwB hGb
  go_enter Tryd.func43, Tryd.ntmps43
  go_wp2_with fail
  try rw [hW1]
  try rw [hG]
  try go_wp2_with fail
  refine H0.out.mono ?_
  rintro e w2 ⟨rfl, hb2⟩
  obtain ⟨-, y2, y3, -⟩ := HV.out w2 hb2.out.2
  have HS0 : Hid (Bd B b (L ++ 40 :: outL false (l.take 0)) w2 ∧ Kp B b W1 w2) := hb2
  clear hb2 H0
  go_wp2_with fail
  go_loopw [13] (fun i wr => ∃ j : Nat, i = .int .i64 (j : Int) ∧ j ≤ n1 ∧ Hid (Bd B b (L ++ 40 :: outL false (l.take j)) wr ∧ Kp B b W1 wr)) (fun i _ => n1 - (intOf i).toNat)
  case atStart => exact ⟨0, rfl, Nat.zero_le _, HS0⟩
  case round =>
    clear HS0 y2 y3 hW1
    obtain ⟨j, rfl, hj, HB⟩ := hrel
    by_cases hlt : j < n1
    · have l1 : (j : Int) < (n1 : Int) := by omega
      have l2 : (0 : Int) ≤ (j : Int) := by omega
      have hjl : j < l.length := by rw [hn1]; exact hlt
      obtain ⟨g, o, rfl, hX⟩ := ra (by omega)
      have hw0 := (HV.out wr HB.out.2).1
      have hXw : ∀ i, i < 4 → wr.cell? ⟨g, o + j * 4 + i, none⟩ = some (X j i) := fun i hi => (hw0.cell (World.block_lt_of_cell? w0 _ (hX j hjl i hi))).trans (hX j hjl i hi)
      obtain ⟨ax, nx, cx, bx, mx, dx, e0, e1, e2, e3⟩ := (hl j hjl).form
      have hvx : vx X j = .agg #[.int .i64 l[j].kd, .string l[j].tx, .slice ax nx cx, .slice bx mx dx] := by unfold vx; rw [e0, e1, e2, e3]
      have hdj := hl j hjl
      have hsz1 := hNl.out j hjl
      have hwt := wtL_next hjl
      have hsn := take_snoc l j hjl
      rw [hvx] at hdj
      obtain ⟨x, hx⟩ : ∃ x, l[j] = x := ⟨_, rfl⟩
      rw [hx] at hdj hsz1 hvx e0 e1 hwt hsn
      have x0 : wr.cell? ⟨g, o + j * 4, none⟩ = some (X j 0) := hXw 0 (by decide)
      have x1 := hXw 1 (by decide)
      have x2 := hXw 2 (by decide)
      have x3 := hXw 3 (by decide)
      rw [e0] at x0
      rw [e1] at x1
      rw [e2] at x2
      rw [e3] at x3
      obtain ⟨V, hV⟩ : ∃ V, wr.alloc (.cells #[.int .i64 x.kd, .string x.tx, .slice ax nx cx, .slice bx mx dx] 42) = V := ⟨_, rfl⟩
      obtain ⟨gv, hgv⟩ : ∃ gv, wr.heap.size = gv := ⟨_, rfl⟩
      have hVn : V.heap[gv]? = some (.cells #[.int .i64 x.kd, .string x.tx, .slice ax nx cx, .slice bx mx dx] 42 (0, 0)) := by rw [← hV]; exact heap_alloc_at _ _ _ hgv.symm
      have hgb : gv ≠ b := by have := HB.out.1.lt; omega
      have hKV : Kp B b W1 V := by rw [← hV]; exact HB.out.2.alloc HB.out.1.2 _
      have hBV : Bd B b (L ++ 40 :: outL false (l.take j)) V := by rw [← hV]; exact HB.out.1.alloc _
      have HP : Hid (∀ V', Kp B b V V' → V'.cell? ⟨gv, 0, none⟩ = some (.int .i64 x.kd) ∧ V'.cell? ⟨gv, 1, none⟩ = some (.string x.tx) ∧ V'.cell? ⟨gv, 2, none⟩ = some (.slice ax nx cx) ∧ V'.cell? ⟨gv, 3, none⟩ = some (.slice bx mx dx)) := fun V' h => by
        have e := h.box hVn hgb (by decide)
        exact ⟨by rw [cells_at e 0]; rfl, by rw [cells_at e 1]; rfl, by rw [cells_at e 2]; rfl, by rw [cells_at e 3]; rfl⟩
      have HI : Hid (∀ V', Kp B b V V' → ∀ L', Bd B b L' V' → L'.length + 8 * x.wt ≤ 140737488355328 → Calls Tryd.prog 30 #[.pointer (some ⟨b, 0, none⟩), .agg #[.int .i64 x.kd, .string x.tx, .slice ax nx cx, .slice bx mx dx]] V' fun e w' => e = .returned (.tuple #[]) ∧ Hid (Bd B b (L' ++ x.out) w' ∧ Kp B b V' w')) := fun V' hk L' hb' hl' => IH.out x _ L' V' hsz1 hdj (HV.out V' (hKV.trans hk)).1 hb' hl'
      have hlen : (L ++ 40 :: outL false (l.take j)).length + 8 * x.wt + 1 ≤ 140737488355328 := by
        have h1 := outL_le false (l.take j)
        have h2 : True := trivial
        have h3 := HLn.out
        simp only [List.length_append, List.length_cons]
        omega
      have HK : Hid (Kp B b W1 V) := hKV
      have HSn : Hid (l.take (j + 1) = l.take j ++ [x]) := hsn
      obtain ⟨p0, p1, p2, p3⟩ := HP.out V (Kp.refl _ _ _)
      clear e0 e1 e2 e3 hvx hXw hw0 hdj hsz1 hwt hsn hVn hgb hKV
      by_cases hj0 : 0 < j
      · have l3 : (0 : Int) < (j : Int) := by omega
        have H1 := hid (b_byte hBV 32 (by omega))
        have HLe : Hid ((L ++ 40 :: outL false (l.take j)).length + 8 * x.wt + 1 ≤ 140737488355328) := hlen
        clear hBV hlen
        go_wp2_with fail
        refine H1.out.mono ?_
        rintro e w3 ⟨rfl, hb3⟩
        obtain ⟨q0, q1, q2, q3⟩ := HP.out w3 hb3.out.2
        have H2 := hid (HI.out w3 hb3.out.2 _ hb3.out.1 (by have := HLe.out; simp only [List.length_append, List.length_cons, List.length_nil] at this ⊢; omega))
        go_wp2_with fail
        refine H2.out.mono ?_
        rintro e w4 ⟨rfl, hb4⟩
        have HS : Hid (Bd B b (L ++ 40 :: outL false (l.take (j + 1))) w4 ∧ Kp B b W1 w4) := by
          refine hid ⟨?_, HK.out.trans (hb3.out.2.trans hb4.out.2)⟩
          have e := hb4.out.1
          have hne : (l.take j).isEmpty = false := by
            cases hh : l.take j with
            | nil => have := congrArg List.length hh; rw [List.length_take, List.length_nil] at this; omega
            | cons => rfl
          rw [HSn.out, outL_app, hne]
          simpa using e
        clear HB hb3 hb4
        go_wp2
        go_roundw
        case rel => exact ⟨j + 1, by go_num, by omega, HS⟩
        case measure => simp [intOf]; omega
      · have l3 : ¬ (0 : Int) < (j : Int) := by omega
        have H2 := hid (HI.out V (Kp.refl _ _ _) _ hBV (by omega))
        clear hBV hlen
        go_wp2_with fail
        refine H2.out.mono ?_
        rintro e w4 ⟨rfl, hb4⟩
        have HS : Hid (Bd B b (L ++ 40 :: outL false (l.take (j + 1))) w4 ∧ Kp B b W1 w4) := by
          refine hid ⟨?_, HK.out.trans hb4.out.2⟩
          have e := hb4.out.1
          obtain rfl : j = 0 := by omega
          rw [HSn.out, outL_app]
          simpa using e
        clear HB hb4
        go_wp2
        go_roundw
        case rel => exact ⟨j + 1, by go_num, by omega, HS⟩
        case measure => simp [intOf]; omega
    · obtain rfl : j = n1 := by omega
      have HS0 : Hid (Bd B b (L ++ 40 :: (outL false l ++ outT (m.take 0))) wr ∧ Kp B b W1 wr) := by
        have e := HB.out
        rw [← hn1, List.take_length] at e
        refine hid ?_
        simpa [outT] using e
      obtain ⟨-, y2, y3, -⟩ := HV.out wr HS0.out.2
      clear HB
      go_wp2_with fail
      go_loopw [29] (fun i wr => ∃ j : Nat, i = .int .i64 (j : Int) ∧ j ≤ n2 ∧ Hid (Bd B b (L ++ 40 :: (outL false l ++ outT (m.take j))) wr ∧ Kp B b W1 wr)) (fun i _ => n2 - (intOf i).toNat)
      case atStart => exact ⟨0, rfl, Nat.zero_le _, HS0⟩
      case round =>
        clear HS0 y2 y3
        obtain ⟨j, rfl, hj, HB⟩ := hrel
        by_cases hlt : j < n2
        · have l1 : (j : Int) < (n2 : Int) := by omega
          have l2 : (0 : Int) ≤ (j : Int) := by omega
          have hjl : j < m.length := by rw [hn2]; exact hlt
          obtain ⟨g, o, rfl, hX⟩ := rb (by omega)
          have hw0 := (HV.out wr HB.out.2).1
          have hXw : ∀ i, i < 4 → wr.cell? ⟨g, o + j * 4 + i, none⟩ = some (Y j i) := fun i hi => (hw0.cell (World.block_lt_of_cell? w0 _ (hX j hjl i hi))).trans (hX j hjl i hi)
          obtain ⟨ax, nx, cx, bx, mx, dx, e0, e1, e2, e3⟩ := (hm j hjl).form
          have hvx : vx Y j = .agg #[.int .i64 m[j].kd, .string m[j].tx, .slice ax nx cx, .slice bx mx dx] := by unfold vx; rw [e0, e1, e2, e3]
          have hdj := hm j hjl
          have hsz1 := hNm.out j hjl
          have hwt := wtL_next hjl
          have hsn := take_snoc m j hjl
          rw [hvx] at hdj
          obtain ⟨x, hx⟩ : ∃ x, m[j] = x := ⟨_, rfl⟩
          rw [hx] at hdj hsz1 hvx e0 e1 hwt hsn
          have x0 : wr.cell? ⟨g, o + j * 4, none⟩ = some (Y j 0) := hXw 0 (by decide)
          have x1 := hXw 1 (by decide)
          have x2 := hXw 2 (by decide)
          have x3 := hXw 3 (by decide)
          rw [e0] at x0
          rw [e1] at x1
          rw [e2] at x2
          rw [e3] at x3
          obtain ⟨V, hV⟩ : ∃ V, wr.alloc (.cells #[.int .i64 x.kd, .string x.tx, .slice ax nx cx, .slice bx mx dx] 42) = V := ⟨_, rfl⟩
          obtain ⟨gv, hgv⟩ : ∃ gv, wr.heap.size = gv := ⟨_, rfl⟩
          have hVn : V.heap[gv]? = some (.cells #[.int .i64 x.kd, .string x.tx, .slice ax nx cx, .slice bx mx dx] 42 (0, 0)) := by rw [← hV]; exact heap_alloc_at _ _ _ hgv.symm
          have hgb : gv ≠ b := by have := HB.out.1.lt; omega
          have hKV : Kp B b W1 V := by rw [← hV]; exact HB.out.2.alloc HB.out.1.2 _
          have hBV : Bd B b (L ++ 40 :: (outL false l ++ outT (m.take j))) V := by rw [← hV]; exact HB.out.1.alloc _
          have HP : Hid (∀ V', Kp B b V V' → V'.cell? ⟨gv, 0, none⟩ = some (.int .i64 x.kd) ∧ V'.cell? ⟨gv, 1, none⟩ = some (.string x.tx) ∧ V'.cell? ⟨gv, 2, none⟩ = some (.slice ax nx cx) ∧ V'.cell? ⟨gv, 3, none⟩ = some (.slice bx mx dx)) := fun V' h => by
            have e := h.box hVn hgb (by decide)
            exact ⟨by rw [cells_at e 0]; rfl, by rw [cells_at e 1]; rfl, by rw [cells_at e 2]; rfl, by rw [cells_at e 3]; rfl⟩
          have HI : Hid (∀ V', Kp B b V V' → ∀ L', Bd B b L' V' → L'.length + 8 * x.wt ≤ 140737488355328 → Calls Tryd.prog 30 #[.pointer (some ⟨b, 0, none⟩), .agg #[.int .i64 x.kd, .string x.tx, .slice ax nx cx, .slice bx mx dx]] V' fun e w' => e = .returned (.tuple #[]) ∧ Hid (Bd B b (L' ++ x.out) w' ∧ Kp B b V' w')) := fun V' hk L' hb' hl' => IH.out x _ L' V' hsz1 hdj (HV.out V' (hKV.trans hk)).1 hb' hl'
          have hlen : (L ++ 40 :: (outL false l ++ outT (m.take j))).length + 8 * x.wt + 3 ≤ 140737488355328 := by
            have h1 := outL_le false l
            have h2 := outT_le (m.take j)
            have h3 := HLn.out
            simp only [List.length_append, List.length_cons]
            omega
          have HK : Hid (Kp B b W1 V) := hKV
          have HSn : Hid (m.take (j + 1) = m.take j ++ [x]) := hsn
          obtain ⟨p0, p1, p2, p3⟩ := HP.out V (Kp.refl _ _ _)
          clear e0 e1 e2 e3 hvx hXw hw0 hdj hsz1 hwt hsn hVn hgb hKV
          have H1 := hid (b_str hBV ⟨#[32, 46, 32]⟩ (by show _ + 3 ≤ _; omega))
          have HLe : Hid ((L ++ 40 :: (outL false l ++ outT (m.take j))).length + 8 * x.wt + 3 ≤ 140737488355328) := hlen
          clear hBV hlen
          go_wp2_with fail
          refine H1.out.mono ?_
          rintro e w3 ⟨rfl, hb3⟩
          obtain ⟨q0, q1, q2, q3⟩ := HP.out w3 hb3.out.2
          have H2 := hid (HI.out w3 hb3.out.2 _ hb3.out.1 (by have := HLe.out; simp only [List.length_append, List.length_cons, List.length_nil] at this ⊢; omega))
          go_wp2_with fail
          refine H2.out.mono ?_
          rintro e w4 ⟨rfl, hb4⟩
          have HS : Hid (Bd B b (L ++ 40 :: (outL false l ++ outT (m.take (j + 1)))) w4 ∧ Kp B b W1 w4) := by
            refine hid ⟨?_, HK.out.trans (hb3.out.2.trans hb4.out.2)⟩
            have e := hb4.out.1
            rw [HSn.out, outT_app]
            simpa using e
          clear HB hb3 hb4
          go_wp2
          go_roundw
          case rel => exact ⟨j + 1, by go_num, by omega, HS⟩
          case measure => simp [intOf]; omega
        · obtain rfl : j = n2 := by omega
          have HS1 : Hid (Bd B b (L ++ 40 :: (outL false l ++ outT m)) wr ∧ Kp B b W1 wr) := by
            have e := HB.out
            rw [← hn2, List.take_length] at e
            exact e
          have H9 := hid (b_byte HS1.out.1 41 (by
            have h1 := outL_le false l
            have h2 := outT_le m
            have h3 := HLn.out
            simp only [List.length_append, List.length_cons]
            omega))
          clear HB
          go_wp2_with fail
          refine H9.out.mono ?_
          rintro e w4 ⟨rfl, hb4⟩
          have HS : Hid (Bd B b (L ++ 40 :: (outL false l ++ outT m ++ [41])) w4 ∧ Kp B b w w4) := by
            refine hid ⟨?_, (HV.out w4 (HS1.out.2.trans hb4.out.2)).2.2.2⟩
            have e := hb4.out.1
            simpa using e
          clear hb4 H9 HS1
          go_wp2
          refine bodyPost_end (results_none rfl _ _ _) rfl ?_
          exact ⟨rfl, HS⟩
end Go.Proofs.YtpjgdpfpgpaenaaDoor

namespace Go.Proofs.YtpjgdpfpgpaenaaDoor
open Go.RowKit
set_option linter.unusedVariables false
set_option linter.unusedSimpArgs false

set_option maxRecDepth 100000 in
set_option maxHeartbeats 4000000 in
theorem dt_write {w0 : World} {B b : Nat} (hwB : w0.heap.size ≤ B) (N : Nat) : WOk w0 B b N := by
  induction N with
  | zero => exact fun d v L w h _ _ _ _ => absurd h (Nat.not_lt_zero _)
  | succ N ih =>
    intro d v L w hN hd hbw hB hL
    have IH : Hid (WOk w0 B b N) := ih
    clear ih
    cases hd with
    | mk k t l m a a2 c c2 X Y hl hm ra rb sz =>
      obtain ⟨n1, hn1⟩ : ∃ n1, l.length = n1 := ⟨_, rfl⟩
      obtain ⟨n2, hn2⟩ : ∃ n2, m.length = n2 := ⟨_, rfl⟩
      rw [hn1, hn2]
      obtain ⟨W1, hW1⟩ : ∃ W1, w.alloc (.cells #[.int .i64 k, .string t, .slice a n1 c, .slice a2 n2 c2] 42) = W1 := ⟨_, rfl⟩
      obtain ⟨G, hG⟩ : ∃ G, w.heap.size = G := ⟨_, rfl⟩
      have h0 : W1.heap[G]? = some (.cells #[.int .i64 k, .string t, .slice a n1 c, .slice a2 n2 c2] 42 (0, 0)) := by rw [← hW1]; exact heap_alloc_at _ _ _ hG.symm
      have hGb : G ≠ b := by have := hB.lt; omega
      have hB1 : Bd B b L W1 := by rw [← hW1]; exact hB.alloc _
      have hK1 : Kp B b w W1 := by rw [← hW1]; exact (Kp.refl _ _ _).alloc hB.2 _
      have HV : Hid (∀ V, Kp B b W1 V → Below w0.heap.size w0 V ∧ (V.cell? ⟨G, 0, none⟩ = some (.int .i64 k) ∧ V.cell? ⟨G, 1, none⟩ = some (.string t) ∧ V.cell? ⟨G, 2, none⟩ = some (.slice a n1 c) ∧ V.cell? ⟨G, 3, none⟩ = some (.slice a2 n2 c2)) ∧ Kp B b w V) := fun V h => by
        have e := h.box h0 hGb (by decide)
        exact ⟨hbw.trans ((hK1.trans h).1.mono hwB), ⟨by rw [cells_at e 0]; rfl, by rw [cells_at e 1]; rfl, by rw [cells_at e 2]; rfl, by rw [cells_at e 3]; rfl⟩, hK1.trans h⟩
      have HLn : Hid (L.length + 8 * (1 + t.size + (wtL l + wtL m)) ≤ 140737488355328) := hL
      have HPs : Hid (∀ V L', Kp B b W1 V → Bd B b L' V → L'.length ≤ L.length + 1 → Calls Tryd.prog 43 #[.pointer (some ⟨b, 0, none⟩), .agg #[.int .i64 k, .string t, .slice a n1 c, .slice a2 n2 c2]] V fun e w' => e = .returned (.tuple #[]) ∧ Hid (Bd B b (L' ++ 40 :: (outL false l ++ outT m ++ [41])) w' ∧ Kp B b V w')) := fun V L' hk hb' hl' => dt_parts hwB IH hn1 hn2 hl hm ra rb (by omega) (by omega) L' V hN (HV.out V hk).1 hb' (by have := HLn.out; omega)
      have HO : Hid ((Dt.node k t l m).out = if k = 3 then strL t else if sqB k then (if k = 6 then [35] else []) ++ (40 :: (outL false l ++ outT m ++ [41])) else t.data.toList) := rfl
      obtain ⟨-, ⟨y0, y1, y2, y3⟩, -⟩ := HV.out W1 (Kp.refl _ _ _)
      have HB1 := hid hB1
      clear h0 hB1 hK1 hB hbw hL hN hwB hGb hl hm ra rb sz
      by_cases h3 : k = 3
      · have d3 : (k == 3) = true := by simpa using h3
        have H1 := hid (dt_wstring HB1.out t (by have := HLn.out; omega))
        have hT : Hid ((Dt.node k t l m).out = strL t) := hid (by rw [HO.out, if_pos h3])
        clear h3
        go_enter Tryd.func30, Tryd.ntmps30
        go_wp2_with fail
        try rw [hW1]
        try rw [hG]
        try go_wp2_with fail
        refine H1.out.mono ?_
        rintro e w2 ⟨rfl, hb2⟩
        have HS : Hid (Bd B b (L ++ (Dt.node k t l m).out) w2 ∧ Kp B b w w2) := hid ⟨by rw [hT.out]; exact hb2.out.1, (HV.out w2 hb2.out.2).2.2⟩
        go_wp2
        refine bodyPost_end (results_none rfl _ _ _) rfl ?_
        exact ⟨rfl, HS⟩
      · have d3 : (k == 3) = false := by simpa using h3
        by_cases h6 : k = 6
        · have d6 : (k == 6) = true := by simpa using h6
          have H1 := hid (b_str HB1.out ⟨#[35]⟩ (by have := HLn.out; show _ + 1 ≤ _; omega))
          have hT : Hid ((Dt.node k t l m).out = [35] ++ (40 :: (outL false l ++ outT m ++ [41]))) := hid (by rw [HO.out, h6]; rfl)
          clear h3 h6
          go_enter Tryd.func30, Tryd.ntmps30
          go_wp2_with fail
          try rw [hW1]
          try rw [hG]
          try go_wp2_with fail
          refine H1.out.mono ?_
          rintro e w2 ⟨rfl, hb2⟩
          obtain ⟨-, ⟨x0, x1, x2, x3⟩, -⟩ := HV.out w2 hb2.out.2
          have H2 := hid (HPs.out w2 _ hb2.out.2 hb2.out.1 (by simp))
          go_wp2_with fail
          refine H2.out.mono ?_
          rintro e w3 ⟨rfl, hb3⟩
          have HS : Hid (Bd B b (L ++ (Dt.node k t l m).out) w3 ∧ Kp B b w w3) := hid ⟨by rw [hT.out, ← List.append_assoc]; exact hb3.out.1, (HV.out w3 (hb2.out.2.trans hb3.out.2)).2.2⟩
          go_wp2
          refine bodyPost_end (results_none rfl _ _ _) rfl ?_
          exact ⟨rfl, HS⟩
        · have d6 : (k == 6) = false := by simpa using h6
          by_cases h5 : k = 5
          · have d5 : (k == 5) = true := by simpa using h5
            have H2 := hid (HPs.out W1 _ (Kp.refl _ _ _) HB1.out (by omega))
            have hT : Hid ((Dt.node k t l m).out = (40 :: (outL false l ++ outT m ++ [41]))) := hid (by rw [HO.out, h5]; rfl)
            clear h3 h6 h5
            go_enter Tryd.func30, Tryd.ntmps30
            go_wp2_with fail
            try rw [hW1]
            try rw [hG]
            try go_wp2_with fail
            refine H2.out.mono ?_
            rintro e w3 ⟨rfl, hb3⟩
            have HS : Hid (Bd B b (L ++ (Dt.node k t l m).out) w3 ∧ Kp B b w w3) := hid ⟨by rw [hT.out]; exact hb3.out.1, (HV.out w3 hb3.out.2).2.2⟩
            go_wp2
            refine bodyPost_end (results_none rfl _ _ _) rfl ?_
            exact ⟨rfl, HS⟩
          · have d5 : (k == 5) = false := by simpa using h5
            have H1 := hid (b_str HB1.out t (by have := HLn.out; omega))
            have hT : Hid ((Dt.node k t l m).out = t.data.toList) := hid (by rw [HO.out, if_neg h3, if_neg (by unfold sqB; rw [d5, d6]; decide)])
            clear h3 h6 h5
            go_enter Tryd.func30, Tryd.ntmps30
            go_wp2_with fail
            try rw [hW1]
            try rw [hG]
            try go_wp2_with fail
            refine H1.out.mono ?_
            rintro e w2 ⟨rfl, hb2⟩
            have HS : Hid (Bd B b (L ++ (Dt.node k t l m).out) w2 ∧ Kp B b w w2) := hid ⟨by rw [hT.out]; exact hb2.out.1, (HV.out w2 hb2.out.2).2.2⟩
            go_wp2
            refine bodyPost_end (results_none rfl _ _ _) rfl ?_
            exact ⟨rfl, HS⟩
end Go.Proofs.YtpjgdpfpgpaenaaDoor
