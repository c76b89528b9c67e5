/-
  Contract of the document's size. Printed by tools/mkdt.py.
  Contract of the document's depth. Printed by tools/mkdt.py.
-/
import Derived.Test.YtpjgdpfpgpaenaaDoorGai
namespace Go.Proofs.YtpjgdpfpgpaenaaDoor
open Go.RowKit
set_option linter.unusedVariables false

/-- Where the count stands. -/
def Lz (B : Nat) (W1 : World) (P : List Dt) (S : Int) (V : World) : Prop := Below (B + 1) W1 V ∧ S = ((1 + sizL P : Nat) : Int)
theorem siz_take1 (k : Int) (t : ByteArray) (l m : List Dt) (j : Nat) : 1 + sizL (l.take j) ≤ (Dt.node k t l m).siz := by
  have := sizL_take l j
  show _ ≤ 1 + (sizL l + sizL m)
  omega
theorem siz_take2 (k : Int) (t : ByteArray) (l m : List Dt) (j : Nat) : 1 + sizL (l ++ m.take j) ≤ (Dt.node k t l m).siz := by
  have := sizL_take m j
  rw [sizL_append]
  show _ ≤ 1 + (sizL l + sizL m)
  omega
end Go.Proofs.YtpjgdpfpgpaenaaDoor

namespace Go.Proofs.YtpjgdpfpgpaenaaDoor
open Go.RowKit
set_option linter.unusedVariables false

/-- Where the depth stands. -/
def Ld (B n : Nat) (W1 : World) (P : List Dt) (D : Int) (V : World) : Prop := Below (B + 1) W1 V ∧ D = ((min (depL P) n : Nat) : Int)
set_option maxRecDepth 100000 in
set_option maxHeartbeats 4000000 in
theorem z_depth (N : Nat) : ∀ (d : Dt) (v : Value) (n : Nat) (w : World), d.siz < N → DAt w d v → d.siz ≤ 1048576 → n ≤ 66 → Calls Tryd.prog 36 #[v, .int .i64 (n : Int)] w fun r w' => r = .returned (.int .i64 ((min d.dep n : Nat) : Int)) ∧ Hid (Below w.heap.size w w') := by
  induction N with
  | zero => exact fun d v n w h _ _ _ => absurd h (Nat.not_lt_zero _)
  | succ N ih =>
    intro d v n w hN hd hs hn
    have IH : Hid (∀ (d : Dt) (v : Value) (n : Nat) (w : World), d.siz < N → DAt w d v → d.siz ≤ 1048576 → n ≤ 66 → Calls Tryd.prog 36 #[v, .int .i64 (n : Int)] w fun r w' => r = .returned (.int .i64 ((min d.dep n : Nat) : Int)) ∧ Hid (Below w.heap.size w w')) := ih
    clear ih
    cases hd with
    | mk k t l m a b c c2 X Y hl hm ra rb sz =>
      obtain ⟨n1, hn1⟩ : ∃ n1, l.length = n1 := ⟨_, rfl⟩
      obtain ⟨n2, hn2⟩ : ∃ n2, m.length = n2 := ⟨_, rfl⟩
      obtain ⟨W1, hW1⟩ : ∃ W1, w.alloc (.cells #[.int .i64 k, .string t, .slice a n1 c, .slice b n2 c2] 42) = W1 := ⟨_, rfl⟩
      obtain ⟨B, hB⟩ : ∃ B, w.heap.size = B := ⟨_, rfl⟩
      have hs1 : W1.heap.size = B + 1 := by rw [← hW1, World.size_alloc, hB]
      have hb1 : Below B w W1 := by rw [← hW1]; exact (Below.refl _ w).alloc (by omega) _
      have h0 : W1.heap[B]? = some (.cells #[.int .i64 k, .string t, .slice a n1 c, .slice b n2 c2] 42 (0, 0)) := by rw [← hW1]; exact heap_alloc_at _ _ _ hB.symm
      have v0 : W1.cell? ⟨B, 0, none⟩ = some (.int .i64 k) := by rw [cells_at h0 0]; rfl
      have v1 : W1.cell? ⟨B, 1, none⟩ = some (.string t) := by rw [cells_at h0 1]; rfl
      have v2 : W1.cell? ⟨B, 2, none⟩ = some (.slice a n1 c) := by rw [cells_at h0 2]; rfl
      have v3 : W1.cell? ⟨B, 3, none⟩ = some (.slice b n2 c2) := by rw [cells_at h0 3]; rfl
      have HV : Hid (∀ V, Below (B + 1) W1 V → Below w.heap.size w V ∧ V.cell? ⟨B, 3, none⟩ = some (.slice b n2 c2)) := fun V h => ⟨by rw [hB]; exact hb1.trans (h.mono (Nat.le_succ _)), (h.cell (Nat.lt_succ_self _)).trans v3⟩
      have HS1 : Hid (W1.heap.size = B + 1) := hs1
      have hc1 : (n1 : Int) ≤ 9223372036854775807 := by omega
      have hc2 : (n2 : Int) ≤ 9223372036854775807 := by omega
      clear hs1 hb1 h0 sz
      rw [hn1, hn2]
      have HE : Hid ((Dt.node k t l m).dep = if sqB k then 1 + max (depL l) (depL m) else 0) := rfl
      have HW1 : Hid (Below w.heap.size w W1) := (HV.out W1 (Below.refl _ _)).1
      cases hk : sqB k
      · have d5 : (k != 5) = true := by unfold sqB at hk; simp at hk ⊢; exact hk.1
        have d6 : (k != 6) = true := by unfold sqB at hk; simp at hk ⊢; exact hk.2
        have HR : Hid ((0 : Int) = ((min (Dt.node k t l m).dep n : Nat) : Int)) := hid (by rw [HE.out, hk]; simp)
        clear hk
        go_enter Tryd.func36, Tryd.ntmps36
        go_wp2
        go_ret
        exact ⟨congrArg (fun q => Ending.returned (.int .i64 q)) HR.out, HW1⟩
      · have HE2 : Hid ((Dt.node k t l m).dep = 1 + max (depL l) (depL m)) := by rw [HE.out, hk]; rfl
        have d56 : (k != 5) = false ∨ ((k != 5) = true ∧ (k != 6) = false) := by
          have dk2 : k = 5 ∨ k = 6 := by unfold sqB at hk; simpa using hk
          rcases dk2 with rfl | rfl
          · exact .inl rfl
          · exact .inr ⟨rfl, rfl⟩
        clear hk HE
        cases n with
        | zero =>
          have HR : Hid ((0 : Int) = ((min (Dt.node k t l m).dep 0 : Nat) : Int)) := by rw [Nat.min_zero]; rfl
          have d0 : (((0 : Nat) : Int) ≤ 0) = True := eq_true (Int.le_refl _)
          rcases d56 with d5 | ⟨d5, d6⟩
          all_goals
            go_enter Tryd.func36, Tryd.ntmps36
            go_wp2
            go_ret
            exact ⟨congrArg (fun q => Ending.returned (.int .i64 q)) HR.out, HW1⟩
        | succ n =>
          rw [show ((n + 1 : Nat) : Int) = (n : Int) + 1 from rfl]
          have d0 : decide ((n : Int) + 1 ≤ 0) = false := decide_eq_false (by omega)
          rcases d56 with d5 | ⟨d5, d6⟩
          all_goals
            go_enter Tryd.func36, Tryd.ntmps36
            go_wp2_with fail
            go_loopw [5, 25] (fun s i wr => ∃ (j : Nat) (S : Int), i = .int .i64 (j : Int) ∧ s = .int .i64 S ∧ j ≤ n1 ∧ Hid (Ld B n W1 (l.take j) S wr)) (fun _ i _ => n1 - (intOf i).toNat)
            case atStart => exact ⟨0, 0, rfl, rfl, Nat.zero_le _, Below.refl _ _, by simp [depL]⟩
            case round =>
              clear hW1 v0 v1 v2 v3
              obtain ⟨j, S, rfl, rfl, hj, HL⟩ := hrel
              by_cases hlt : j < n1
              · obtain ⟨hbw, eS⟩ := HL.out
                have l1 : (j : Int) < (n1 : Int) := by omega
                have l2 : (0 : Int) ≤ (j : Int) := by omega
                have hjl : j < l.length := by rw [hn1]; exact hlt
                have hSb : 0 ≤ S ∧ S ≤ 66 := by
                  generalize depL (l.take j) = s1 at eS
                  clear hs hN
                  omega
                obtain ⟨g, o, rfl, hX⟩ := ra (by omega)
                have hw0 := (HV.out wr hbw).1
                have hXw : ∀ i, i < 4 → wr.cell? ⟨g, o + j * 4 + i, none⟩ = some (X j i) := fun i hi => (hw0.cell (World.block_lt_of_cell? w _ (hX j hjl i hi))).trans (hX j hjl i hi)
                obtain ⟨ax, nx, cx, bx, mx, dx, e0, e1, e2, e3⟩ := (hl j hjl).form
                have hvx : vx X j = .agg #[.int .i64 l[j].kd, .string l[j].tx, .slice ax nx cx, .slice bx mx dx] := by unfold vx; rw [e0, e1, e2, e3]
                have hdj := hl j hjl
                have hsz1 := Nat.lt_of_lt_of_le (siz_l _ _ _ _ j hjl) (Nat.le_of_lt_succ hN)
                have hsz2' := Nat.le_trans (Nat.le_of_lt (siz_l _ _ _ _ j hjl)) hs
                rw [hvx] at hdj
                obtain ⟨x, hx⟩ : ∃ x, l[j] = x := ⟨_, rfl⟩
                rw [hx] at hdj hsz1 hsz2' hvx e0 e1
                have x0 : wr.cell? ⟨g, o + j * 4, none⟩ = some (X j 0) := hXw 0 (by decide)
                have x1 := hXw 1 (by decide)
                have x2 := hXw 2 (by decide)
                have x3 := hXw 3 (by decide)
                rw [e0] at x0
                rw [e1] at x1
                rw [e2] at x2
                rw [e3] at x3
                clear e0 e1 e2 e3 hvx
                obtain ⟨V, hV⟩ : ∃ V, wr.alloc (.cells #[.int .i64 x.kd, .string x.tx, .slice ax nx cx, .slice bx mx dx] 42) = V := ⟨_, rfl⟩
                have hbV : Below wr.heap.size wr V := by rw [← hV]; exact (Below.refl _ _).alloc (Nat.le_refl _) _
                have hVn : V.heap[wr.heap.size]? = some (.cells #[.int .i64 x.kd, .string x.tx, .slice ax nx cx, .slice bx mx dx] 42 (0, 0)) := by rw [← hV]; exact heap_alloc_at _ _ _ rfl
                obtain ⟨gv, hgv⟩ : ∃ gv, wr.heap.size = gv := ⟨_, rfl⟩
                have p0 : V.cell? ⟨gv, 0, none⟩ = some (.int .i64 x.kd) := by rw [← hgv, cells_at hVn 0]; rfl
                have p1 : V.cell? ⟨gv, 1, none⟩ = some (.string x.tx) := by rw [← hgv, cells_at hVn 1]; rfl
                have p2 : V.cell? ⟨gv, 2, none⟩ = some (.slice ax nx cx) := by rw [← hgv, cells_at hVn 2]; rfl
                have p3 : V.cell? ⟨gv, 3, none⟩ = some (.slice bx mx dx) := by rw [← hgv, cells_at hVn 3]; rfl
                have hwB : B + 1 ≤ wr.heap.size := by rw [← HS1.out]; exact hbw.size
                have HbV : Hid (∀ V', Below V.heap.size V V' → Below (B + 1) W1 V') := fun V' h => hbw.trans ((hbV.trans (h.mono hbV.size)).mono hwB)
                have HD : Hid (DAt V x (.agg #[.int .i64 x.kd, .string x.tx, .slice ax nx cx, .slice bx mx dx])) := hdj.under (hw0.trans (hbV.mono hw0.size))
                clear hVn hXw hw0 hbV hdj hwB
                have HI : Hid (Calls Tryd.prog 36 #[.agg #[.int .i64 x.kd, .string x.tx, .slice ax nx cx, .slice bx mx dx], .int .i64 (n : Int)] V fun r w' => r = .returned (.int .i64 ((min x.dep n : Nat) : Int)) ∧ Hid (Below V.heap.size V w')) := IH.out x _ n V hsz1 HD.out hsz2' (Nat.le_of_succ_le hn)
                clear hsz1 eS hsz2'
                go_wp2_with fail
                refine HI.out.mono ?_
                rintro r w3 ⟨hr, hb3⟩
                obtain ⟨z, hz⟩ : ∃ z : Int, ((min x.dep n : Nat) : Int) = z := ⟨_, rfl⟩
                have HS : Hid (Ld B n W1 (l.take (j + 1)) (max S z) w3) := ⟨HbV.out _ hb3.out, by
                  have e := HL.out.2
                  rw [take_snoc _ _ hjl, hx, depL_app, e, ← hz]
                  generalize depL (l.take j) = s1
                  generalize x.dep = s2
                  clear hs hN
                  omega⟩
                rw [hz] at hr
                subst hr
                clear HL hx hz hbw
                go_wp2
                go_roundw
                case rel => exact ⟨j + 1, _, by go_num, rfl, by omega, HS⟩
                case measure => simp [intOf]; omega
              · obtain rfl : j = n1 := by omega
                have HQ : Hid (Ld B n W1 (l) S wr) := by have := HL.out; rw [← hn1, List.take_length] at this; exact this
                have hv3 := (HV.out wr HQ.out.1).2
                clear HL
                go_wp2_with fail
                go_loopw [5, 39] (fun s i wr => ∃ (j : Nat) (S : Int), i = .int .i64 (j : Int) ∧ s = .int .i64 S ∧ j ≤ n2 ∧ Hid (Ld B n W1 (l ++ m.take j) S wr)) (fun _ i _ => n2 - (intOf i).toNat)
                case atStart => exact ⟨0, S, rfl, rfl, Nat.zero_le _, by simpa using HQ⟩
                case round =>
                  clear HQ
                  obtain ⟨j, S, rfl, rfl, hj, HL⟩ := hrel
                  by_cases hlt : j < n2
                  · obtain ⟨hbw, eS⟩ := HL.out
                    have l1 : (j : Int) < (n2 : Int) := by omega
                    have l2 : (0 : Int) ≤ (j : Int) := by omega
                    have hjl : j < m.length := by rw [hn2]; exact hlt
                    have hSb : 0 ≤ S ∧ S ≤ 66 := by
                      generalize depL (l ++ m.take j) = s1 at eS
                      clear hs hN
                      omega
                    obtain ⟨g, o, rfl, hX⟩ := rb (by omega)
                    have hw0 := (HV.out wr hbw).1
                    have hXw : ∀ i, i < 4 → wr.cell? ⟨g, o + j * 4 + i, none⟩ = some (Y j i) := fun i hi => (hw0.cell (World.block_lt_of_cell? w _ (hX j hjl i hi))).trans (hX j hjl i hi)
                    obtain ⟨ax, nx, cx, bx, mx, dx, e0, e1, e2, e3⟩ := (hm j hjl).form
                    have hvx : vx Y j = .agg #[.int .i64 m[j].kd, .string m[j].tx, .slice ax nx cx, .slice bx mx dx] := by unfold vx; rw [e0, e1, e2, e3]
                    have hdj := hm j hjl
                    have hsz1 := Nat.lt_of_lt_of_le (siz_m _ _ _ _ j hjl) (Nat.le_of_lt_succ hN)
                    have hsz2' := Nat.le_trans (Nat.le_of_lt (siz_m _ _ _ _ j hjl)) hs
                    rw [hvx] at hdj
                    obtain ⟨x, hx⟩ : ∃ x, m[j] = x := ⟨_, rfl⟩
                    rw [hx] at hdj hsz1 hsz2' hvx e0 e1
                    have x0 : wr.cell? ⟨g, o + j * 4, none⟩ = some (Y j 0) := hXw 0 (by decide)
                    have x1 := hXw 1 (by decide)
                    have x2 := hXw 2 (by decide)
                    have x3 := hXw 3 (by decide)
                    rw [e0] at x0
                    rw [e1] at x1
                    rw [e2] at x2
                    rw [e3] at x3
                    clear e0 e1 e2 e3 hvx
                    obtain ⟨V, hV⟩ : ∃ V, wr.alloc (.cells #[.int .i64 x.kd, .string x.tx, .slice ax nx cx, .slice bx mx dx] 42) = V := ⟨_, rfl⟩
                    have hbV : Below wr.heap.size wr V := by rw [← hV]; exact (Below.refl _ _).alloc (Nat.le_refl _) _
                    have hVn : V.heap[wr.heap.size]? = some (.cells #[.int .i64 x.kd, .string x.tx, .slice ax nx cx, .slice bx mx dx] 42 (0, 0)) := by rw [← hV]; exact heap_alloc_at _ _ _ rfl
                    obtain ⟨gv, hgv⟩ : ∃ gv, wr.heap.size = gv := ⟨_, rfl⟩
                    have p0 : V.cell? ⟨gv, 0, none⟩ = some (.int .i64 x.kd) := by rw [← hgv, cells_at hVn 0]; rfl
                    have p1 : V.cell? ⟨gv, 1, none⟩ = some (.string x.tx) := by rw [← hgv, cells_at hVn 1]; rfl
                    have p2 : V.cell? ⟨gv, 2, none⟩ = some (.slice ax nx cx) := by rw [← hgv, cells_at hVn 2]; rfl
                    have p3 : V.cell? ⟨gv, 3, none⟩ = some (.slice bx mx dx) := by rw [← hgv, cells_at hVn 3]; rfl
                    have hwB : B + 1 ≤ wr.heap.size := by rw [← HS1.out]; exact hbw.size
                    have HbV : Hid (∀ V', Below V.heap.size V V' → Below (B + 1) W1 V') := fun V' h => hbw.trans ((hbV.trans (h.mono hbV.size)).mono hwB)
                    have HD : Hid (DAt V x (.agg #[.int .i64 x.kd, .string x.tx, .slice ax nx cx, .slice bx mx dx])) := hdj.under (hw0.trans (hbV.mono hw0.size))
                    clear hVn hXw hw0 hbV hdj hwB
                    have HI : Hid (Calls Tryd.prog 36 #[.agg #[.int .i64 x.kd, .string x.tx, .slice ax nx cx, .slice bx mx dx], .int .i64 (n : Int)] V fun r w' => r = .returned (.int .i64 ((min x.dep n : Nat) : Int)) ∧ Hid (Below V.heap.size V w')) := IH.out x _ n V hsz1 HD.out hsz2' (Nat.le_of_succ_le hn)
                    clear hsz1 eS hsz2'
                    go_wp2_with fail
                    refine HI.out.mono ?_
                    rintro r w3 ⟨hr, hb3⟩
                    obtain ⟨z, hz⟩ : ∃ z : Int, ((min x.dep n : Nat) : Int) = z := ⟨_, rfl⟩
                    have HS : Hid (Ld B n W1 (l ++ m.take (j + 1)) (max S z) w3) := ⟨HbV.out _ hb3.out, by
                      have e := HL.out.2
                      rw [take_snoc _ _ hjl, hx, ← List.append_assoc, depL_app, e, ← hz]
                      generalize depL (l ++ m.take j) = s1
                      generalize x.dep = s2
                      clear hs hN
                      omega⟩
                    rw [hz] at hr
                    subst hr
                    clear HL hx hz hbw
                    go_wp2
                    go_roundw
                    case rel => exact ⟨j + 1, _, by go_num, rfl, by omega, HS⟩
                    case measure => simp [intOf]; omega
                  · obtain rfl : j = n2 := by omega
                    have HQ : Hid (Ld B n W1 (l ++ m) S wr) := by have := HL.out; rw [← hn2, List.take_length] at this; exact this
                    have hv3 := (HV.out wr HQ.out.1).2
                    clear HL
                    have HR : Hid (1 + S = ((min (Dt.node k t l m).dep (n + 1) : Nat) : Int)) := by
                      refine hid ?_
                      have e := HQ.out.2
                      rw [depL_append] at e
                      rw [HE2.out]
                      clear hs hN
                      omega
                    have hSb : 0 ≤ S ∧ S ≤ 66 := by
                      have e := HQ.out.2
                      generalize depL (l ++ m) = s1 at e
                      clear hs hN
                      omega
                    have hb : Hid (Below w.heap.size w wr) := (HV.out wr HQ.out.1).1
                    clear HQ
                    go_wp2
                    go_ret
                    exact ⟨congrArg (fun q => Ending.returned (.int .i64 q)) HR.out, hb⟩
end Go.Proofs.YtpjgdpfpgpaenaaDoor
