/-
  The same data twice: SameData, SameDatum say so.
  Is: an error is the number at a place that it says.
-/
import Derived.Test.YtfobiknbjijphaaDoorGap
import Derived.Test.YtfobiknbjijphaaDoorGbg
namespace Go.Proofs.YtfobiknbjijphaaDoor
open Go.RowKit
set_option linter.unusedVariables false
set_option linter.unusedSimpArgs false

/-- A row of data. -/
def AS (w : World) (l : List Dt) (v : Value) : Prop :=
  ∃ a c X, v = .slice a l.length c ∧ (l.length ≤ c ∧ c ≤ 9223372036854775807) ∧ RowAt w a l.length X ∧ ∀ j (h : j < l.length), DAt w l[j] (vx X j)
theorem SS.as {lo : Nat} {x : Option Nat} {w : World} {l : List Dt} {v : Value} (h : SS lo x w l v) : AS w l v := by
  obtain ⟨a, c, X, h1, h2, h3, h4⟩ := h
  exact ⟨a, c, X, h1, h2, h3.mono fun a u hc => (cutW_cell.1 hc).2, fun j hj => (h4 j hj).at_⟩
theorem DAt.as {w : World} {d : Dt} {v : Value} (h : DAt w d v) : ∃ v1 v2, v = .agg #[.int .i64 d.kd, .string d.tx, v1, v2] ∧ AS w d.its v1 ∧ AS w d.tl v2 := by
  cases h with
  | mk k t l m a b c c2 X Y hl hm ra rb sz => exact ⟨_, _, rfl, ⟨a, c, X, rfl, ⟨sz.1, sz.2.1⟩, ra, hl⟩, ⟨b, c2, Y, rfl, ⟨sz.2.2.1, sz.2.2.2.1⟩, rb, hm⟩⟩
theorem AS.under {w w' : World} {l : List Dt} {v : Value} (h : AS w l v) (hb : Below w.heap.size w w') : AS w' l v := by
  obtain ⟨a, c, X, h1, h2, h3, h4⟩ := h
  exact ⟨a, c, X, h1, h2, h3.below hb, fun j hj => (h4 j hj).under hb⟩
/-- Twice the same datum. -/
def Same2 (x : Dt) : Prop := ∀ (V : World) (u1 u2 : Value), DAt V x u1 → DAt V x u2 → Calls Tryd.prog 14 #[u1, u2] V fun e w' => e = .returned (.bool true) ∧ Hid (Below V.heap.size V w')
set_option maxHeartbeats 8000000 in
theorem eq_func {w : World} {l : List Dt} {v1 v2 : Value} (h1 : AS w l v1) (h2 : AS w l v2) (HI : Hid (∀ x ∈ l, Same2 x)) :
    Calls Tryd.prog 15 #[v1, v2, .func (.func 14) #[] #[]] w fun e w' => e = .returned (.bool true) ∧ Hid (Below w.heap.size w w') := by
  obtain ⟨a, c, X, rfl, hc, ra, hl⟩ := h1
  obtain ⟨b, c2, Y, rfl, hc2, rb, hm⟩ := h2
  obtain ⟨n, hn⟩ : ∃ n, l.length = n := ⟨_, rfl⟩
  have Hl := hid hl
  have Hm := hid hm
  have Hn := hid hn
  rw [hn] at ra rb hc ⊢
  have hnb : (n : Int) ≤ 9223372036854775807 := by omega
  clear hl hm hc hc2
  go_enter Tryd.func15, Tryd.ntmps15
  go_wp2_with fail
  go_loopw [17] (fun i wr => ∃ j : Nat, i = .int .i64 (j : Int) ∧ j ≤ n ∧ Hid (Below w.heap.size w wr)) (fun i _ => n - (intOf i).toNat)
  case atStart => exact ⟨0, rfl, Nat.zero_le _, Below.refl _ _⟩
  case round =>
    obtain ⟨j, rfl, hj, HB⟩ := hrel
    by_cases hlt : j < n
    · have l1 : (j : Int) < (n : Int) := by omega
      have l2 : (0 : Int) ≤ (j : Int) := by omega
      have hjl : j < l.length := by rw [hn]; exact hlt
      obtain ⟨g, o, rfl, hX⟩ := ra (by omega)
      obtain ⟨g2, o2, rfl, hY⟩ := rb (by omega)
      have hXw : ∀ i, i < 4 → wr.cell? ⟨g, o + j * 4 + i, none⟩ = some (X j i) := fun i hi => (HB.out.cell (World.block_lt_of_cell? w _ (hX j hlt i hi))).trans (hX j hlt i hi)
      have hYw : ∀ i, i < 4 → wr.cell? ⟨g2, o2 + j * 4 + i, none⟩ = some (Y j i) := fun i hi => (HB.out.cell (World.block_lt_of_cell? w _ (hY j hlt i hi))).trans (hY j hlt i hi)
      obtain ⟨ax, nx, cx, bx, mx, dx, e0, e1, e2, e3⟩ := (Hl.out j hjl).form
      obtain ⟨ay, ny, cy, by_, my, dy, f0, f1, f2, f3⟩ := (Hm.out j hjl).form
      have hvx : vx X j = .agg #[.int .i64 l[j].kd, .string l[j].tx, .slice ax nx cx, .slice bx mx dx] := by unfold vx; rw [e0, e1, e2, e3]
      have hvy : vx Y j = .agg #[.int .i64 l[j].kd, .string l[j].tx, .slice ay ny cy, .slice by_ my dy] := by unfold vx; rw [f0, f1, f2, f3]
      have hdx := (Hl.out j hjl).under HB.out
      have hdy := (Hm.out j hjl).under HB.out
      rw [hvx] at hdx
      rw [hvy] at hdy
      obtain ⟨x, hx⟩ : ∃ x, l[j] = x := ⟨_, rfl⟩
      have hmem : x ∈ l := by rw [← hx]; exact List.getElem_mem _
      rw [hx] at hdx hdy e0 e1 f0 f1
      have x0 : wr.cell? ⟨g, o + j * 4, none⟩ = some (X j 0) := hXw 0 (by decide)
      have x1 := hXw 1 (by decide)
      have x2 := hXw 2 (by decide)
      have x3 := hXw 3 (by decide)
      have y0 : wr.cell? ⟨g2, o2 + j * 4, none⟩ = some (Y j 0) := hYw 0 (by decide)
      have y1 := hYw 1 (by decide)
      have y2 := hYw 2 (by decide)
      have y3 := hYw 3 (by decide)
      rw [e0] at x0
      rw [e1] at x1
      rw [e2] at x2
      rw [e3] at x3
      rw [f0] at y0
      rw [f1] at y1
      rw [f2] at y2
      rw [f3] at y3
      clear e0 e1 e2 e3 f0 f1 f2 f3 hvx hvy hXw hYw
      have lx : g < wr.heap.size := World.block_lt_of_cell? wr _ x0
      have ly : g2 < wr.heap.size := World.block_lt_of_cell? wr _ y0
      have HD : Hid (∀ V, Below wr.heap.size wr V → Calls Tryd.prog 14 #[.agg #[.int .i64 x.kd, .string x.tx, .slice ax nx cx, .slice bx mx dx], .agg #[.int .i64 x.kd, .string x.tx, .slice ay ny cy, .slice by_ my dy]] V fun e w' => e = .returned (.bool true) ∧ Hid (Below w.heap.size w w')) := hid fun V hV => by
        refine (HI.out x hmem V _ _ (hdx.under hV) (hdy.under hV)).mono ?_
        rintro e w' ⟨h1, h2⟩
        exact ⟨h1, HB.out.trans ((hV.trans (h2.out.mono hV.size)).mono HB.out.size)⟩
      obtain ⟨V, hV⟩ : ∃ V, (wr.alloc (.cells #[.int .i64 x.kd, .string x.tx, .slice ax nx cx, .slice bx mx dx] 34)).alloc (.cells #[.int .i64 x.kd, .string x.tx, .slice ay ny cy, .slice by_ my dy] 34) = V := ⟨_, rfl⟩
      have HC := hid (HD.out V (by rw [← hV]; exact ((Below.refl _ wr).alloc (Nat.le_refl _) _).alloc (by rw [World.size_alloc]; omega) _))
      have HV := hid hV
      clear HD hdx hdy hV
      go_wp2_with fail
      rw [HV.out]
      refine HC.out.mono ?_
      clear HC HV
      rintro e w3 ⟨rfl, hb3⟩
      go_wp2
      go_roundw
      case rel => exact ⟨j + 1, by go_num, by omega, hb3⟩
      case measure => simp [intOf]; omega
    · obtain rfl : j = n := by omega
      go_wp2_with fail
      go_ret
      exact ⟨rfl, HB⟩
theorem same_data {w : World} {l : List Dt} {v1 v2 : Value} (h1 : AS w l v1) (h2 : AS w l v2) (HI : Hid (∀ x ∈ l, Same2 x)) :
    Calls Tryd.prog 10 #[v1, v2] w fun e w' => e = .returned (.bool true) ∧ Hid (Below w.heap.size w w') := by
  have HE := hid (eq_func h1 h2 HI)
  clear h1 h2 HI
  go_enter Tryd.func10, Tryd.ntmps10
  go_wp2_with fail
  refine HE.out.mono ?_
  clear HE
  rintro e w3 ⟨rfl, hb3⟩
  go_wp2
  go_ret
  exact ⟨rfl, hb3⟩
theorem siz_its {d x : Dt} (h : x ∈ d.its ∨ x ∈ d.tl) : x.siz < d.siz := by
  cases d with
  | node k t l m =>
    rcases h with h | h
    · obtain ⟨j, hj, rfl⟩ := List.getElem_of_mem h
      exact siz_l k t l m j hj
    · obtain ⟨j, hj, rfl⟩ := List.getElem_of_mem h
      exact siz_m k t l m j hj
set_option maxHeartbeats 4000000 in
theorem same_datum (N : Nat) : ∀ d : Dt, d.siz < N → Same2 d := by
  induction N with
  | zero => exact fun d h => absurd h (Nat.not_lt_zero _)
  | succ N ih =>
    intro d hN w u1 u2 h1 h2
    obtain ⟨p1, p2, rfl, a1, a2⟩ := h1.as
    obtain ⟨q1, q2, rfl, b1, b2⟩ := h2.as
    obtain ⟨ap1, cp1, _, rfl, _⟩ := id a1
    obtain ⟨ap2, cp2, _, rfl, _⟩ := id a2
    obtain ⟨aq1, cq1, _, rfl, _⟩ := id b1
    obtain ⟨aq2, cq2, _, rfl, _⟩ := id b2
    have HI1 : Hid (∀ x ∈ d.its, Same2 x) := hid fun x hx => ih x (by have := siz_its (.inl hx); omega)
    have HI2 : Hid (∀ x ∈ d.tl, Same2 x) := hid fun x hx => ih x (by have := siz_its (.inr hx); omega)
    obtain ⟨B, hB⟩ : ∃ B, w.heap.size = B := ⟨_, rfl⟩
    obtain ⟨W, hW⟩ : ∃ W, (w.alloc (.cells #[.int .i64 d.kd, .string d.tx, .slice ap1 d.its.length cp1, .slice ap2 d.tl.length cp2] 34)).alloc (.cells #[.int .i64 d.kd, .string d.tx, .slice aq1 d.its.length cq1, .slice aq2 d.tl.length cq2] 34) = W := ⟨_, rfl⟩
    have hb : Below w.heap.size w W := by rw [← hW]; exact ((Below.refl _ w).alloc (Nat.le_refl _) _).alloc (by rw [World.size_alloc]; omega) _
    have H1 := hid (same_data (a1.under hb) (b1.under hb) HI1)
    have H2 : Hid (∀ V, Below W.heap.size W V → Calls Tryd.prog 10 #[.slice ap2 d.tl.length cp2, .slice aq2 d.tl.length cq2] V fun e w' => e = .returned (.bool true) ∧ Hid (Below w.heap.size w w')) := hid fun V hV => by
      have hV' : Below w.heap.size w V := hb.trans (hV.mono hb.size)
      refine (same_data (a2.under hV') (b2.under hV') HI2).mono ?_
      rintro e w' ⟨h1, h2⟩
      exact ⟨h1, hV'.trans (h2.out.mono hV'.size)⟩
    have z1 : W.heap[B]? = some (.cells #[.int .i64 d.kd, .string d.tx, .slice ap1 d.its.length cp1, .slice ap2 d.tl.length cp2] 34 (0, 0)) := by
      rw [← hW]
      have e1 : (w.alloc (.cells #[.int .i64 d.kd, .string d.tx, .slice ap1 d.its.length cp1, .slice ap2 d.tl.length cp2] 34)).heap[B]? = some (.cells #[.int .i64 d.kd, .string d.tx, .slice ap1 d.its.length cp1, .slice ap2 d.tl.length cp2] 34 (0, 0)) := heap_alloc_at _ _ _ hB.symm
      exact (Below.heap_alloc _ _ B (by rw [World.size_alloc]; omega)).trans e1
    have z2 : W.heap[B + 1]? = some (.cells #[.int .i64 d.kd, .string d.tx, .slice aq1 d.its.length cq1, .slice aq2 d.tl.length cq2] 34 (0, 0)) := by
      rw [← hW]; exact heap_alloc_at _ _ _ (by rw [World.size_alloc, hB])
    have s2 : B + 1 < W.heap.size := (Array.getElem?_eq_some_iff.1 z2).1
    have c0 : W.cell? ⟨B, 0, none⟩ = some (.int .i64 d.kd) := by rw [cells_at z1 0]; rfl
    have c1 : W.cell? ⟨B, 1, none⟩ = some (.string d.tx) := by rw [cells_at z1 1]; rfl
    have c2 : W.cell? ⟨B, 2, none⟩ = some (.slice ap1 d.its.length cp1) := by rw [cells_at z1 2]; rfl
    have c3 : W.cell? ⟨B, 3, none⟩ = some (.slice ap2 d.tl.length cp2) := by rw [cells_at z1 3]; rfl
    have d0 : W.cell? ⟨B + 1, 0, none⟩ = some (.int .i64 d.kd) := by rw [cells_at z2 0]; rfl
    have d1 : W.cell? ⟨B + 1, 1, none⟩ = some (.string d.tx) := by rw [cells_at z2 1]; rfl
    have d2 : W.cell? ⟨B + 1, 2, none⟩ = some (.slice aq1 d.its.length cq1) := by rw [cells_at z2 2]; rfl
    have d3 : W.cell? ⟨B + 1, 3, none⟩ = some (.slice aq2 d.tl.length cq2) := by rw [cells_at z2 3]; rfl
    have HL : Hid (∀ V, Below W.heap.size W V → V.cell? ⟨B, 3, none⟩ = some (.slice ap2 d.tl.length cp2) ∧ V.cell? ⟨B + 1, 3, none⟩ = some (.slice aq2 d.tl.length cq2)) := hid fun V hV => ⟨(hV.cell (by show B < _; omega)).trans c3, (hV.cell (by show B + 1 < _; omega)).trans d3⟩
    have HW := hid hW
    clear z1 z2 s2 a1 a2 b1 b2 hb HI1 HI2 hW h1 h2 ih hN
    go_enter Tryd.func14, Tryd.ntmps14
    go_wp2_with fail
    try rw [HW.out]
    try go_wp2_with fail
    refine H1.out.mono ?_
    clear H1
    rintro e w3 ⟨rfl, hb3⟩
    obtain ⟨g1, g2⟩ := HL.out w3 hb3.out
    have H3 := hid (H2.out w3 hb3.out)
    clear HL H2 hb3 c0 c1 c2 c3 d0 d1 d2 d3
    go_wp2_with fail
    refine H3.out.mono ?_
    clear H3
    rintro e w4 ⟨rfl, hb4⟩
    go_wp2
    go_ret
    exact ⟨rfl, hb4⟩
/-- Two rows of the same data. -/
theorem same_rows {w : World} {l : List Dt} {v1 v2 : Value} (h1 : AS w l v1) (h2 : AS w l v2) :
    Calls Tryd.prog 10 #[v1, v2] w fun e w' => e = .returned (.bool true) ∧ Hid (Below w.heap.size w w') :=
  same_data h1 h2 (hid fun x _ => same_datum _ x (Nat.lt_succ_self _))
end Go.Proofs.YtfobiknbjijphaaDoor

namespace Go.Proofs.YtfobiknbjijphaaDoor
open Go.RowKit
set_option linter.unusedVariables false
set_option linter.unusedSimpArgs false

theorem is_nil (w : World) : Calls Tryd.prog 9 #[.nilIface, .int .i64 0, .int .i64 0] w fun e w' => e = .returned (.bool true) ∧ Hid (Below w.heap.size w w') := by
  have hB : Hid (∀ n, Below w.heap.size w (w.drewN n)) := hid fun n => blw_drewN n (Below.refl _ _)
  go_enter Tryd.func9, Tryd.ntmps9
  go_wp2
  go_ret
  exact ⟨rfl, hB.out 0⟩
theorem as_fault (v : Value) (w : World) : (Instr.typeAssert (.iface 44 v) 24 44 true).run Tryd.prog w = .ok (.tuple #[v, .bool true]) w := by kernel_rfl
theorem why_fault (w : World) (x y : Int) : Calls Tryd.prog 21 #[.iface 44 (.agg #[.int .i64 x, .int .i64 y])] w fun e w' => e = .returned (.tuple #[.int .i64 y, .int .i64 x]) ∧ Hid (Below w.heap.size w w') := by
  have hB : Hid (∀ n, Below w.heap.size w ((w.alloc (.cells #[.int .i64 x, .int .i64 y] 44)).drewN n)) := hid fun n => blw_drewN n ((Below.refl _ _).alloc (Nat.le_refl _) _)
  have ha : ∀ V : World, (Instr.typeAssert (.iface 44 (.agg #[.int .i64 x, .int .i64 y])) 24 44 true).run Tryd.prog V = .ok (.tuple #[.agg #[.int .i64 x, .int .i64 y], .bool true]) V := fun V => as_fault _ V
  go_enter Tryd.func21, Tryd.ntmps21
  go_wp2
  go_quiet (fail)
  go_wp2
  go_ret2
  exact ⟨rfl, hB.out _⟩
theorem is_fault (w : World) (x y : Int) : Calls Tryd.prog 9 #[.iface 44 (.agg #[.int .i64 x, .int .i64 y]), .int .i64 x, .int .i64 y] w fun e w' => e = .returned (.bool true) ∧ Hid (Below w.heap.size w w') := by
  have HW := hid (why_fault w x y)
  go_enter Tryd.func9, Tryd.ntmps9
  go_wp2_with fail
  refine HW.out.mono ?_
  clear HW
  rintro e w1 ⟨rfl, hb⟩
  go_wp2
  go_ret
  exact ⟨rfl, hb⟩
/-- Both Reads say the same. -/
theorem law_reads (s : ByteArray) (w : World) (hs : s.size ≤ 1099511627776) : Calls Tryd.prog 3 #[.string s] w fun e w' => e = .returned (.bool true) ∧ Hid (Below w.heap.size w w') := by
  have HR := hid (rd_read s w hs (s.size + 1) (Nat.lt_succ_self _))
  have HZ := hid (fun V => z_read s V hs (s.size + 1) (Nat.lt_succ_self _))
  obtain ⟨R, hR⟩ : ∃ R, alL (s.size + 1) [] s.data.toList = R := ⟨_, rfl⟩
  rw [hR] at HR
  simp only [hR] at HZ
  clear hR
  go_enter Tryd.func3, Tryd.ntmps3
  go_wp2_with fail
  refine HR.out.mono ?_
  clear HR
  rintro e w1 (⟨l, a, c, rfl, HX⟩ | ⟨k, n, rfl, HX⟩)
  · go_wp2_with fail
    refine (HZ.out _).mono ?_
    clear HZ
    rintro e w2 (⟨l2, a2, c2, rfl, HY⟩ | ⟨k, n, rfl, HY⟩)
    · have hl : l = l2 := by
        have := HX.out.1.symm.trans HY.out.1
        injection this
      subst hl
      have H2 : Hid (Below w.heap.size w w2) := hid (HX.out.2.1.trans (HY.out.2.1.mono HX.out.2.1.size))
      have HI := hid (is_nil w2)
      have HA := hid (⟨(HX.out.2.2.as).under HY.out.2.1, HY.out.2.2.as⟩ : AS w2 l (.slice a l.length c) ∧ AS w2 l (.slice a2 l.length c2))
      clear HX HY
      go_wp2_with fail
      refine HI.out.mono ?_
      clear HI
      rintro e w3 ⟨rfl, hb3⟩
      have HS := hid (same_rows (HA.out.1.under hb3.out) (HA.out.2.under hb3.out))
      have H3 : Hid (Below w.heap.size w w3) := hid (H2.out.trans (hb3.out.mono H2.out.size))
      clear HA H2 hb3
      go_wp2_with fail
      refine HS.out.mono ?_
      clear HS
      rintro e w4 ⟨rfl, hb4⟩
      have H4 : Hid (Below w.heap.size w w4) := hid (H3.out.trans (hb4.out.mono H3.out.size))
      clear H3 hb4
      go_wp2
      go_ret
      exact ⟨rfl, H4⟩
    · have := HX.out.1.symm.trans HY.out.1
      cases this
  · go_wp2_with fail
    refine (HZ.out _).mono ?_
    clear HZ
    rintro e w2 (⟨l2, a2, c2, rfl, HY⟩ | ⟨k2, n2, rfl, HY⟩)
    · have := HX.out.1.symm.trans HY.out.1
      cases this
    · have hkk : k = k2 ∧ n = n2 := by
        have := HX.out.1.symm.trans HY.out.1
        injection this with h1 h2
        exact ⟨h1, h2⟩
      obtain ⟨rfl, rfl⟩ := hkk
      have hx : ((s.size - k : Nat) : Int) = (s.size : Int) - (k : Int) := by have := HX.out.2.1; omega
      have H2 : Hid (Below w.heap.size w w2) := hid (HX.out.2.2.trans (HY.out.2.2.mono HX.out.2.2.size))
      have HI := hid (is_fault w2 ((s.size - k : Nat) : Int) (n : Int))
      rw [← hx]
      obtain ⟨N, hN⟩ : ∃ N : Int, ((s.size - k : Nat) : Int) = N := ⟨_, rfl⟩
      rw [hN] at HI ⊢
      have HA : Hid (∀ V, AS V [] (.slice none 0 0)) := hid fun V => ⟨none, 0, fun _ _ => .nilIface, rfl, ⟨Nat.le_refl _, by decide⟩, fun h => absurd h (by decide), fun j h => absurd h (Nat.not_lt_zero _)⟩
      clear HX HY hx hN
      go_wp2_with fail
      refine HI.out.mono ?_
      clear HI
      rintro e w3 ⟨rfl, hb3⟩
      have HS := hid (same_rows (HA.out w3) (HA.out w3))
      have H3 : Hid (Below w.heap.size w w3) := hid (H2.out.trans (hb3.out.mono H2.out.size))
      clear HA H2 hb3
      go_wp2_with fail
      refine HS.out.mono ?_
      clear HS
      rintro e w4 ⟨rfl, hb4⟩
      have H4 : Hid (Below w.heap.size w w4) := hid (H3.out.trans (hb4.out.mono H3.out.size))
      clear H3 hb4
      go_wp2
      go_ret
      exact ⟨rfl, H4⟩
end Go.Proofs.YtfobiknbjijphaaDoor
