/-
  The program's Same on the same data.
  The program's Same, and slices.EqualFunc by it.
-/
import Derived.Test.YtfobiknbjijphaaDoorGbh
import Derived.Deep.QuietTactic
import Derived.Test.YtfobiknbjijphaaDoorGas
namespace Go.Proofs.YtfobiknbjijphaaDoor
open Go.RowKit
set_option linter.unusedVariables false
set_option linter.unusedSimpArgs false

theorem same_cond {x : Dt} (hg : x.good) {r : Nat} (h : x.dep + 2 ≤ r) : (goodL x.its ∧ sizL x.its < x.siz ∧ (x.its ≠ [] → depL x.its + 2 ≤ r - 1)) ∧ (goodL x.tl ∧ sizL x.tl < x.siz ∧ (x.tl ≠ [] → depL x.tl + 2 ≤ r - 1)) := by
  cases x with
  | node k t l m =>
    obtain ⟨hf, hgl, hgm⟩ := hg
    have hs : (Dt.node k t l m).siz = 1 + (sizL l + sizL m) := rfl
    have g1 : sizL l < (Dt.node k t l m).siz := by omega
    have g2 : sizL m < (Dt.node k t l m).siz := by omega
    rcases hf with ⟨rfl, _⟩ | ⟨rfl, _⟩ | ⟨h5, h6, rfl, rfl, _⟩
    · have hd : 1 + max (depL l) (depL m) + 2 ≤ r := by simpa [Dt.dep, sqB] using h
      exact ⟨⟨hgl, g1, fun _ => by show depL l + 2 ≤ _; omega⟩, ⟨hgm, g2, fun _ => by show depL m + 2 ≤ _; omega⟩⟩
    · have hd : 1 + max (depL l) (depL m) + 2 ≤ r := by simpa [Dt.dep, sqB] using h
      exact ⟨⟨hgl, g1, fun _ => by show depL l + 2 ≤ _; omega⟩, ⟨hgm, g2, fun _ => by show depL m + 2 ≤ _; omega⟩⟩
    · exact ⟨⟨hgl, g1, fun h => absurd rfl h⟩, ⟨hgm, g2, fun h => absurd rfl h⟩⟩
set_option maxRecDepth 100000 in
set_option maxHeartbeats 8000000 in
theorem same_in (N : Nat) : ∀ (l : List Dt) (r : Nat) (v1 v2 : Value) (w : World), sizL l < N → goodL l → 1 ≤ r → r ≤ 131072 → (l ≠ [] → depL l + 2 ≤ r) → AS w l v1 → AS w l v2 →
    Calls Tryd.prog 27 #[v1, v2, .int .i64 (r : Int)] w fun e w' => e = .returned (.bool true) ∧ ∃ m, w' = w.drewN m := by
  induction N with
  | zero => exact fun l r v1 v2 w h => absurd h (Nat.not_lt_zero _)
  | succ N ih =>
    intro l r v1 v2 w hN hg hr1 hr2 hdp h1 h2
    have IH := hid ih
    obtain ⟨a, c, X, rfl, hc, ra, hl⟩ := h1
    obtain ⟨b, c2, Y, rfl, hc2, rb, hm⟩ := h2
    obtain ⟨n, hn⟩ : ∃ n, l.length = n := ⟨_, rfl⟩
    have Hl := hid hl
    have Hm := hid hm
    have Hn := hid hn
    have HF := hid (⟨hN, hg, hdp⟩ : sizL l < N + 1 ∧ goodL l ∧ (l ≠ [] → depL l + 2 ≤ r))
    rw [hn] at ra rb hc ⊢
    have Ra := hid ra
    have Rb := hid rb
    have hnb : (n : Int) ≤ 9223372036854775807 := by omega
    have hr0 : ¬ (r : Int) = 0 := by omega
    have hrb : ((r : Int) == 0) = false := by simpa using hr0
    clear hl hm hc hc2 hn ih hN hg hdp ra rb
    go_enter Tryd.func27, Tryd.ntmps27
    go_wp2_with fail
    go_loopw [21] (fun i wr => ∃ j : Nat, i = .int .i64 (j : Int) ∧ j ≤ n ∧ Hid (∃ m, wr = w.drewN m)) (fun i _ => n - (intOf i).toNat)
    case atStart => exact ⟨0, rfl, Nat.zero_le _, 0, rfl⟩
    case round =>
      obtain ⟨j, rfl, hj, HW⟩ := hrel
      by_cases hlt : j < n
      · have l1 : (j : Int) < (n : Int) := by omega
        have l2 : (0 : Int) ≤ (j : Int) := by omega
        have hjl : j < l.length := by rw [Hn.out]; exact hlt
        obtain ⟨g, o, rfl, hX⟩ := Ra.out (by omega)
        obtain ⟨g2, o2, rfl, hY⟩ := Rb.out (by omega)
        have HB : Below w.heap.size w wr := by
          obtain ⟨m, rfl⟩ := HW.out
          exact blw_drewN m (Below.refl _ _)
        obtain ⟨p1, p2, hvx, a1, a2⟩ := (Hl.out j hjl).as
        obtain ⟨q1, q2, hvy, b1, b2⟩ := (Hm.out j hjl).as
        obtain ⟨e0, e1, e2, e3⟩ : X j 0 = .int .i64 l[j].kd ∧ X j 1 = .string l[j].tx ∧ X j 2 = p1 ∧ X j 3 = p2 := by simpa [vx] using hvx
        obtain ⟨f0, f1, f2, f3⟩ : Y j 0 = .int .i64 l[j].kd ∧ Y j 1 = .string l[j].tx ∧ Y j 2 = q1 ∧ Y j 3 = q2 := by simpa [vx] using hvy
        have hxd : l[j].dep + 2 ≤ r := by
          have h1 := depL_mem j hjl
          have h2 := HF.out.2.2 (by rintro rfl; simp at hjl)
          omega
        have hxs : l[j].siz < N + 1 := by
          have h1 := sizL_mem j hjl
          have h2 := HF.out.1
          omega
        have hcd := same_cond (goodL_mem HF.out.2.1 j hjl) hxd
        obtain ⟨x, hx⟩ : ∃ x, l[j] = x := ⟨_, rfl⟩
        rw [hx] at e0 e1 f0 f1 a1 a2 b1 b2 hxd hxs hcd
        have hXw : ∀ i, i < 4 → wr.cell? ⟨g, o + j * 4 + i, none⟩ = some (X j i) := fun i hi => (HB.cell (World.block_lt_of_cell? w _ (hX j hlt i hi))).trans (hX j hlt i hi)
        have hYw : ∀ i, i < 4 → wr.cell? ⟨g2, o2 + j * 4 + i, none⟩ = some (Y j i) := fun i hi => (HB.cell (World.block_lt_of_cell? w _ (hY j hlt i hi))).trans (hY j hlt i hi)
        have x0 : wr.cell? ⟨g, o + j * 4, none⟩ = some (X j 0) := hXw 0 (by decide)
        have x1 := hXw 1 (by decide)
        have x2 := hXw 2 (by decide)
        have x3 := hXw 3 (by decide)
        have y0 : wr.cell? ⟨g2, o2 + j * 4, none⟩ = some (Y j 0) := hYw 0 (by decide)
        have y1 := hYw 1 (by decide)
        have y2 := hYw 2 (by decide)
        have y3 := hYw 3 (by decide)
        rw [e0] at x0
        rw [e1] at x1
        rw [e2] at x2
        rw [e3] at x3
        rw [f0] at y0
        rw [f1] at y1
        rw [f2] at y2
        rw [f3] at y3
        obtain ⟨ap1, cp1, _, rfl, _⟩ := id a1
        obtain ⟨ap2, cp2, _, rfl, _⟩ := id a2
        obtain ⟨aq1, cq1, _, rfl, _⟩ := id b1
        obtain ⟨aq2, cq2, _, rfl, _⟩ := id b2
        have er : ((r - 1 : Nat) : Int) = IntKind.i64.wrap ((r : Int) - 1) := by simp only [IntKind.wrap_i64]; omega
        have HC1 : Hid (∀ V, Below wr.heap.size wr V → Calls Tryd.prog 27 #[.slice ap1 x.its.length cp1, .slice aq1 x.its.length cq1, .int .i64 (IntKind.i64.wrap ((r : Int) - 1))] V fun e w' => e = .returned (.bool true) ∧ ∃ m, w' = V.drewN m) := hid fun V hV => by
          have hV' := HB.trans (hV.mono HB.size)
          rw [← er]
          exact IH.out x.its (r - 1) _ _ V (by omega) hcd.1.1 (by omega) (by omega) hcd.1.2.2 (a1.under hV') (b1.under hV')
        have HC2 : Hid (∀ V, Below wr.heap.size wr V → Calls Tryd.prog 27 #[.slice ap2 x.tl.length cp2, .slice aq2 x.tl.length cq2, .int .i64 (IntKind.i64.wrap ((r : Int) - 1))] V fun e w' => e = .returned (.bool true) ∧ ∃ m, w' = V.drewN m) := hid fun V hV => by
          have hV' := HB.trans (hV.mono HB.size)
          rw [← er]
          exact IH.out x.tl (r - 1) _ _ V (by omega) hcd.2.1 (by omega) (by omega) hcd.2.2.2 (a2.under hV') (b2.under hV')
        clear e0 e1 e2 e3 f0 f1 f2 f3 hvx hvy hXw hYw hX hY a1 a2 b1 b2 hxd hxs hcd hx HB er
        go_wp2_with fail
        go_quiet (fail)
        obtain ⟨k1, hk1⟩ : ∃ k1, nq = k1 := ⟨_, rfl⟩
        rw [hk1]
        clear hk1
        go_wp2_with fail
        go_quiet (fail)
        obtain ⟨U, hU⟩ : ∃ U, (wr.drewN k1).drewN nq = U := ⟨_, rfl⟩
        rw [hU]
        have hbU : Hid (Below wr.heap.size wr U) := hid (by rw [← hU]; exact blw_drewN _ (blw_drewN _ (Below.refl _ _)))
        have HWU : Hid (∃ m, U = w.drewN m) := hid (by
          obtain ⟨m, e⟩ := HW.out
          exact ⟨_, by rw [← hU, e, World.drewN_drewN, World.drewN_drewN]⟩)
        have z2 := (hbU.out.cell (World.block_lt_of_cell? wr _ x2)).trans x2
        have z3 := (hbU.out.cell (World.block_lt_of_cell? wr _ x3)).trans x3
        have t2 := (hbU.out.cell (World.block_lt_of_cell? wr _ y2)).trans y2
        have t3 := (hbU.out.cell (World.block_lt_of_cell? wr _ y3)).trans y3
        clear hU x0 x1 x2 x3 y0 y1 y2 y3 HW
        go_wp2_with fail
        refine wp_region_quiet_lit (by kernel_rfl) (by kernel_rfl) ?_
        iterate 10 (quiet_step (fail))
        quiet_step ((go_at_call 27; exact Calls.quiet_of (HC1.out _ (blw_drewN _ hbU.out))))
        clear HC1
        iterate 12 (quiet_step (fail))
        quiet_step ((go_at_call 27; exact Calls.quiet_of (HC2.out _ (blw_drewN _ hbU.out))))
        clear HC2
        iterate 2 (quiet_step (fail))
        refine wpQuiet_nil ?_
        intro wz hw'
        obtain ⟨nz, hw''⟩ := hw'
        subst hw''
        go_wp2
        go_roundw
        case rel => exact ⟨j + 1, by go_num, by omega, hid (by
          obtain ⟨m, rfl⟩ := HWU.out
          exact ⟨_, World.drewN_drewN _ _ _⟩)⟩
        case measure => simp [intOf]; omega
      · obtain rfl : j = n := by omega
        go_wp2_with fail
        go_ret
        exact ⟨rfl, HW.out⟩
end Go.Proofs.YtfobiknbjijphaaDoor

namespace Go.Proofs.YtfobiknbjijphaaDoor
open Go.RowKit
set_option linter.unusedVariables false
set_option linter.unusedSimpArgs false

/-- Twice the same datum, by the program's Same. -/
def SameP (x : Dt) : Prop := ∀ (V : World) (u1 u2 : Value), DAt V x u1 → DAt V x u2 → Calls Tryd.prog 16 #[u1, u2] V fun e w' => e = .returned (.bool true) ∧ Hid (Below V.heap.size V w')
set_option maxHeartbeats 8000000 in
theorem eq_funcP {w : World} {l : List Dt} {v1 v2 : Value} (h1 : AS w l v1) (h2 : AS w l v2) (HI : Hid (∀ x ∈ l, SameP x)) :
    Calls Tryd.prog 15 #[v1, v2, .func (.func 16) #[] #[]] w fun e w' => e = .returned (.bool true) ∧ Hid (Below w.heap.size w w') := by
  obtain ⟨a, c, X, rfl, hc, ra, hl⟩ := h1
  obtain ⟨b, c2, Y, rfl, hc2, rb, hm⟩ := h2
  obtain ⟨n, hn⟩ : ∃ n, l.length = n := ⟨_, rfl⟩
  have Hl := hid hl
  have Hm := hid hm
  have Hn := hid hn
  rw [hn] at ra rb hc ⊢
  have hnb : (n : Int) ≤ 9223372036854775807 := by omega
  clear hl hm hc hc2
  go_enter Tryd.func15, Tryd.ntmps15
  go_wp2_with fail
  go_loopw [17] (fun i wr => ∃ j : Nat, i = .int .i64 (j : Int) ∧ j ≤ n ∧ Hid (Below w.heap.size w wr)) (fun i _ => n - (intOf i).toNat)
  case atStart => exact ⟨0, rfl, Nat.zero_le _, Below.refl _ _⟩
  case round =>
    obtain ⟨j, rfl, hj, HB⟩ := hrel
    by_cases hlt : j < n
    · have l1 : (j : Int) < (n : Int) := by omega
      have l2 : (0 : Int) ≤ (j : Int) := by omega
      have hjl : j < l.length := by rw [hn]; exact hlt
      obtain ⟨g, o, rfl, hX⟩ := ra (by omega)
      obtain ⟨g2, o2, rfl, hY⟩ := rb (by omega)
      have hXw : ∀ i, i < 4 → wr.cell? ⟨g, o + j * 4 + i, none⟩ = some (X j i) := fun i hi => (HB.out.cell (World.block_lt_of_cell? w _ (hX j hlt i hi))).trans (hX j hlt i hi)
      have hYw : ∀ i, i < 4 → wr.cell? ⟨g2, o2 + j * 4 + i, none⟩ = some (Y j i) := fun i hi => (HB.out.cell (World.block_lt_of_cell? w _ (hY j hlt i hi))).trans (hY j hlt i hi)
      obtain ⟨ax, nx, cx, bx, mx, dx, e0, e1, e2, e3⟩ := (Hl.out j hjl).form
      obtain ⟨ay, ny, cy, by_, my, dy, f0, f1, f2, f3⟩ := (Hm.out j hjl).form
      have hvx : vx X j = .agg #[.int .i64 l[j].kd, .string l[j].tx, .slice ax nx cx, .slice bx mx dx] := by unfold vx; rw [e0, e1, e2, e3]
      have hvy : vx Y j = .agg #[.int .i64 l[j].kd, .string l[j].tx, .slice ay ny cy, .slice by_ my dy] := by unfold vx; rw [f0, f1, f2, f3]
      have hdx := (Hl.out j hjl).under HB.out
      have hdy := (Hm.out j hjl).under HB.out
      rw [hvx] at hdx
      rw [hvy] at hdy
      obtain ⟨x, hx⟩ : ∃ x, l[j] = x := ⟨_, rfl⟩
      have hmem : x ∈ l := by rw [← hx]; exact List.getElem_mem _
      rw [hx] at hdx hdy e0 e1 f0 f1
      have x0 : wr.cell? ⟨g, o + j * 4, none⟩ = some (X j 0) := hXw 0 (by decide)
      have x1 := hXw 1 (by decide)
      have x2 := hXw 2 (by decide)
      have x3 := hXw 3 (by decide)
      have y0 : wr.cell? ⟨g2, o2 + j * 4, none⟩ = some (Y j 0) := hYw 0 (by decide)
      have y1 := hYw 1 (by decide)
      have y2 := hYw 2 (by decide)
      have y3 := hYw 3 (by decide)
      rw [e0] at x0
      rw [e1] at x1
      rw [e2] at x2
      rw [e3] at x3
      rw [f0] at y0
      rw [f1] at y1
      rw [f2] at y2
      rw [f3] at y3
      clear e0 e1 e2 e3 f0 f1 f2 f3 hvx hvy hXw hYw
      have lx : g < wr.heap.size := World.block_lt_of_cell? wr _ x0
      have ly : g2 < wr.heap.size := World.block_lt_of_cell? wr _ y0
      have HD : Hid (∀ V, Below wr.heap.size wr V → Calls Tryd.prog 16 #[.agg #[.int .i64 x.kd, .string x.tx, .slice ax nx cx, .slice bx mx dx], .agg #[.int .i64 x.kd, .string x.tx, .slice ay ny cy, .slice by_ my dy]] V fun e w' => e = .returned (.bool true) ∧ Hid (Below w.heap.size w w')) := hid fun V hV => by
        refine (HI.out x hmem V _ _ (hdx.under hV) (hdy.under hV)).mono ?_
        rintro e w' ⟨h1, h2⟩
        exact ⟨h1, HB.out.trans ((hV.trans (h2.out.mono hV.size)).mono HB.out.size)⟩
      obtain ⟨V, hV⟩ : ∃ V, (wr.alloc (.cells #[.int .i64 x.kd, .string x.tx, .slice ax nx cx, .slice bx mx dx] 34)).alloc (.cells #[.int .i64 x.kd, .string x.tx, .slice ay ny cy, .slice by_ my dy] 34) = V := ⟨_, rfl⟩
      have HC := hid (HD.out V (by rw [← hV]; exact ((Below.refl _ wr).alloc (Nat.le_refl _) _).alloc (by rw [World.size_alloc]; omega) _))
      have HV := hid hV
      clear HD hdx hdy hV
      go_wp2_with fail
      rw [HV.out]
      refine HC.out.mono ?_
      clear HC HV
      rintro e w3 ⟨rfl, hb3⟩
      go_wp2
      go_roundw
      case rel => exact ⟨j + 1, by go_num, by omega, hb3⟩
      case measure => simp [intOf]; omega
    · obtain rfl : j = n := by omega
      go_wp2_with fail
      go_ret
      exact ⟨rfl, HB⟩
theorem AS.one {W : World} {d : Dt} {v0 v1 v2 v3 : Value} {T : Nat} (h : DAt W d (.agg #[v0, v1, v2, v3])) (hT : W.heap[T]? = some (.cells #[v0, v1, v2, v3] 34 (0, 0))) : AS W [d] (.slice (some ⟨T, 0, none⟩) 1 1) := by
  refine ⟨_, 1, fun j i => #[v0, v1, v2, v3][j * 4 + i]?.getD .nilIface, rfl, ⟨Nat.le_refl _, by decide⟩, fun _ => ⟨T, 0, rfl, fun j hj i hi => ?_⟩, fun j hj => ?_⟩
  · obtain rfl : j = 0 := by simpa using hj
    rw [cells_at hT]
    have : 0 + 0 * 4 + i = i := by omega
    rw [this]
    show #[v0, v1, v2, v3][i]? = some (#[v0, v1, v2, v3][0 * 4 + i]?.getD .nilIface)
    rw [Nat.zero_mul, Nat.zero_add, Array.getElem?_eq_getElem (by simpa using hi)]
    rfl
  · obtain rfl : j = 0 := by simpa using hj
    exact h
theorem same_prog {d : Dt} (hg : d.good) (hd : d.dep ≤ 64) : SameP d := by
  intro w u1 u2 h1 h2
  obtain ⟨p1, p2, rfl, a1, a2⟩ := h1.as
  obtain ⟨q1, q2, rfl, b1, b2⟩ := h2.as
  obtain ⟨ap1, cp1, _, rfl, _⟩ := id a1
  obtain ⟨ap2, cp2, _, rfl, _⟩ := id a2
  obtain ⟨aq1, cq1, _, rfl, _⟩ := id b1
  obtain ⟨aq2, cq2, _, rfl, _⟩ := id b2
  obtain ⟨o1, ho1⟩ : ∃ o, Obj.cells #[.int .i64 d.kd, .string d.tx, .slice ap1 d.its.length cp1, .slice ap2 d.tl.length cp2] 34 = o := ⟨_, rfl⟩
  obtain ⟨o2, ho2⟩ : ∃ o, Obj.cells #[.int .i64 d.kd, .string d.tx, .slice aq1 d.its.length cq1, .slice aq2 d.tl.length cq2] 34 = o := ⟨_, rfl⟩
  obtain ⟨W, hW⟩ : ∃ W, (((w.alloc o1).alloc o2).alloc o1).alloc o2 = W := ⟨_, rfl⟩
  obtain ⟨B, hB⟩ : ∃ B, w.heap.size = B := ⟨_, rfl⟩
  have hb3 : Below w.heap.size w (((w.alloc o1).alloc o2).alloc o1) := (((Below.refl _ w).alloc (Nat.le_refl _) _).alloc (by rw [World.size_alloc]; omega) _).alloc (by rw [World.size_alloc, World.size_alloc]; omega) _
  have hb : Below w.heap.size w W := by rw [← hW]; exact hb3.alloc hb3.size _
  have s3 : (((w.alloc o1).alloc o2).alloc o1).heap.size = B + 3 := by rw [World.size_alloc, World.size_alloc, World.size_alloc, hB]
  have z2 : W.heap[B + 1 + 1 + 1]? = some o2 := by rw [← hW]; exact heap_alloc_at _ _ _ s3.symm
  have z1 : W.heap[B + 1 + 1]? = some o1 := by
    rw [← hW]
    have e1 : (((w.alloc o1).alloc o2).alloc o1).heap[B + 1 + 1]? = some o1 := heap_alloc_at _ _ _ (by rw [World.size_alloc, World.size_alloc, hB])
    exact (Below.heap_alloc _ _ (B + 1 + 1) (by rw [s3]; omega)).trans e1
  rw [← ho1] at z1
  rw [← ho2] at z2
  have HS : Hid (Calls Tryd.prog 27 #[.slice (some ⟨B + 1 + 1, 0, none⟩) 1 1, .slice (some ⟨B + 1 + 1 + 1, 0, none⟩) 1 1, .int .i64 131072] W fun e w' => e = .returned (.bool true) ∧ Hid (Below w.heap.size w w')) := hid (by
    refine (same_in _ [d] 131072 _ _ W (Nat.lt_succ_self _) ⟨hg, trivial⟩ (by decide) (by decide) (fun _ => ?_) (AS.one (h1.under hb) z1) (AS.one (h2.under hb) z2)).mono ?_
    · show max d.dep 0 + 2 ≤ 131072
      omega
    · rintro e w' ⟨h1, m, rfl⟩
      exact ⟨h1, hid (blw_drewN m hb)⟩)
  have HW := hid hW
  rw [← ho1, ← ho2] at HW
  clear h1 h2 a1 a2 b1 b2 hb3 hb s3 z1 z2 ho1 ho2 hW
  go_enter Tryd.func16, Tryd.ntmps16
  go_wp2_with fail
  rw [HW.out]
  try rw [hB]
  refine HS.out.mono ?_
  clear HS
  rintro e w1 ⟨rfl, hb1⟩
  go_wp2
  go_ret
  exact ⟨rfl, hb1⟩
end Go.Proofs.YtfobiknbjijphaaDoor
