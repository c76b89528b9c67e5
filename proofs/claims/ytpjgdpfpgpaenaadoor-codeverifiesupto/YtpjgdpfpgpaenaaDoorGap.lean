/-
  Contract of the document's printed. Printed by tools/mkdt.py.
  Contract of the document's Print.
-/
import Derived.Test.YtpjgdpfpgpaenaaDoorGao
namespace Go.Proofs.YtpjgdpfpgpaenaaDoor
open Go.RowKit
set_option linter.unusedVariables false

set_option linter.unusedSimpArgs false
def st (l : List UInt8) : ByteArray := ⟨l.toArray⟩
theorem st_size (l : List UInt8) : (st l).size = l.length := by simp [st, ByteArray.size]
theorem st_app (a b : List UInt8) : st a ++ st b = st (a ++ b) := by
  apply ByteArray.ext
  simp [st]
def hdL (k : Int) : List UInt8 := if k = 6 then [35, 40] else [40]
theorem hdL_len (k : Int) : (hdL k).length ≤ 2 := by unfold hdL; split <;> simp
set_option maxRecDepth 100000 in
set_option maxHeartbeats 4000000 in
theorem z_printed (N : Nat) : ∀ (d : Dt) (v : Value) (w : World), d.siz < N → DAt w d v → d.siz ≤ 1048576 → d.good → 8 * d.wt ≤ 1099511627776 → Calls Tryd.prog 32 #[v] w fun r w' => r = .returned (.string (st d.out)) ∧ Hid (Below w.heap.size w w') := by
  induction N with
  | zero => exact fun d v w h _ _ _ _ => absurd h (Nat.not_lt_zero _)
  | succ N ih =>
    intro d v w hN hd hs hgd hwt0
    have IH : Hid (∀ (d : Dt) (v : Value) (w : World), d.siz < N → DAt w d v → d.siz ≤ 1048576 → d.good → 8 * d.wt ≤ 1099511627776 → Calls Tryd.prog 32 #[v] w fun r w' => r = .returned (.string (st d.out)) ∧ Hid (Below w.heap.size w w')) := ih
    clear ih
    cases hd with
    | mk k t l m a b c c2 X Y hl hm ra rb sz =>
      obtain ⟨n1, hn1⟩ : ∃ n1, l.length = n1 := ⟨_, rfl⟩
      obtain ⟨n2, hn2⟩ : ∃ n2, m.length = n2 := ⟨_, rfl⟩
      obtain ⟨W1, hW1⟩ : ∃ W1, w.alloc (.cells #[.int .i64 k, .string t, .slice a n1 c, .slice b n2 c2] 42) = W1 := ⟨_, rfl⟩
      obtain ⟨B, hB⟩ : ∃ B, w.heap.size = B := ⟨_, rfl⟩
      have hs1 : W1.heap.size = B + 1 := by rw [← hW1, World.size_alloc, hB]
      have hb1 : Below B w W1 := by rw [← hW1]; exact (Below.refl _ w).alloc (by omega) _
      have h0 : W1.heap[B]? = some (.cells #[.int .i64 k, .string t, .slice a n1 c, .slice b n2 c2] 42 (0, 0)) := by rw [← hW1]; exact heap_alloc_at _ _ _ hB.symm
      have v0 : W1.cell? ⟨B, 0, none⟩ = some (.int .i64 k) := by rw [cells_at h0 0]; rfl
      have v1 : W1.cell? ⟨B, 1, none⟩ = some (.string t) := by rw [cells_at h0 1]; rfl
      have v2 : W1.cell? ⟨B, 2, none⟩ = some (.slice a n1 c) := by rw [cells_at h0 2]; rfl
      have v3 : W1.cell? ⟨B, 3, none⟩ = some (.slice b n2 c2) := by rw [cells_at h0 3]; rfl
      have HV : Hid (∀ V, Below (B + 1) W1 V → Below w.heap.size w V ∧ V.cell? ⟨B, 3, none⟩ = some (.slice b n2 c2)) := fun V h => ⟨by rw [hB]; exact hb1.trans (h.mono (Nat.le_succ _)), (h.cell (Nat.lt_succ_self _)).trans v3⟩
      have HS1 : Hid (W1.heap.size = B + 1) := hs1
      have hc1 : (n1 : Int) ≤ 9223372036854775807 := by omega
      have hc2 : (n2 : Int) ≤ 9223372036854775807 := by omega
      clear hs1 hb1 h0 sz
      rw [hn1, hn2]
      have HO : Hid ((Dt.node k t l m).out = if k = 3 then strL t else if sqB k then (if k = 6 then [35] else []) ++ (40 :: (outL false l ++ outT m ++ [41])) else t.data.toList) := rfl
      have HW1 : Hid (Below w.heap.size w W1) := (HV.out W1 (Below.refl _ _)).1
      have HLn : Hid (8 * (1 + t.size + (wtL l + wtL m)) ≤ 1099511627776) := hwt0
      have HG : Hid (fitP k t l m ∧ goodL l ∧ goodL m) := hgd
      have HE := hid (z_esc t W1 (by have := HLn.out; omega))
      have HEB : Hid (∀ V, Below W1.heap.size W1 V → Below w.heap.size w V) := fun V h => HW1.out.trans (h.mono HW1.out.size)
      clear hgd hwt0
      have hcs : k = 3 ∨ (k = 1 ∨ k = 2 ∨ k = 4) ∨ (k = 5 ∨ k = 6) := by
        rcases HG.out.1 with ⟨h, _⟩ | ⟨h, _⟩ | ⟨_, _, _, _, h⟩
        · exact .inr (.inr (.inl h))
        · exact .inr (.inr (.inr h))
        · rcases h with ⟨h, _⟩ | ⟨h, _⟩ | h | ⟨h, _⟩
          · exact .inr (.inl (.inl h))
          · exact .inr (.inl (.inr (.inl h)))
          · exact .inl h
          · exact .inr (.inl (.inr (.inr h)))
      rcases hcs with rfl | hk | hk
      · have hT : Hid ((Dt.node 3 t l m).out = strL t) := hid (by rw [HO.out]; rfl)
        clear hl hm ra rb hN hs
        go_enter Tryd.func32, Tryd.ntmps32
        go_wp2_with fail
        refine HE.out.mono ?_
        rintro r w2 ⟨rfl, hb2⟩
        have hb := hid (HEB.out _ hb2.out)
        go_wp2
        go_ret
        exact ⟨by rw [hT.out]; rfl, hb⟩
      · have hT : Hid (st (Dt.node k t l m).out = t) := by
          refine hid ?_
          have e : (Dt.node k t l m).out = t.data.toList := by
            rw [HO.out]
            rcases hk with rfl | rfl | rfl <;> rfl
          rw [e]
          unfold st
          simp
        clear hl hm ra rb hN hs
        rcases hk with rfl | rfl | rfl
        all_goals
          go_enter Tryd.func32, Tryd.ntmps32
          go_wp2
          go_ret
          exact ⟨congrArg (fun q => Ending.returned (.string q)) hT.out.symm, HW1⟩
      · have HT : Hid (st (Dt.node k t l m).out = st (hdL k ++ (outL false l ++ outT m) ++ [41])) := by
          refine hid (congrArg st ?_)
          rw [HO.out]
          rcases hk with rfl | rfl <;> simp [hdL, sqB]
        have hH : (k = 5 ∧ st (hdL k) = ⟨#[40]⟩) ∨ (k = 6 ∧ st (hdL k) = ⟨#[35, 40]⟩) := by
          rcases hk with rfl | rfl
          · exact .inl ⟨rfl, rfl⟩
          · exact .inr ⟨rfl, rfl⟩
        have HHl : Hid ((hdL k).length ≤ 2) := hdL_len k
        obtain ⟨H, hHH⟩ : ∃ H, hdL k = H := ⟨_, rfl⟩
        rw [hHH] at HT hH HHl
        clear hk hHH HE HEB HO
        rcases hH with ⟨rfl, hH⟩ | ⟨rfl, hH⟩
        all_goals
          have HHs := hid hH.symm
          clear hH
          go_enter Tryd.func32, Tryd.ntmps32
          go_wp2_with fail
          go_loopw [3, 27] (fun s i wr => ∃ (j : Nat) (S : ByteArray), i = .int .i64 (j : Int) ∧ s = .string S ∧ j ≤ n1 ∧ Hid (S = st (H ++ outL false (l.take j)) ∧ Below (B + 1) W1 wr)) (fun _ i _ => n1 - (intOf i).toNat)
          case atStart => exact ⟨0, _, rfl, rfl, Nat.zero_le _, HHs.out.trans (by simp [outL]), Below.refl _ _⟩
          case round =>
            clear hW1 v0 v1 v2 v3
            obtain ⟨j, S, rfl, rfl, hj, HL⟩ := hrel
            by_cases hlt : j < n1
            · obtain ⟨eS, hbw⟩ := HL.out
              have l1 : (j : Int) < (n1 : Int) := by omega
              have l2 : (0 : Int) ≤ (j : Int) := by omega
              have hjl : j < l.length := by rw [hn1]; exact hlt
              have hwt := wtL_next hjl
              have hsn := take_snoc l j hjl
              have hgx := goodL_mem HG.out.2.1 j hjl
              obtain ⟨g, o, rfl, hX⟩ := ra (by omega)
              have hw0 := (HV.out wr hbw).1
              have hXw : ∀ i, i < 4 → wr.cell? ⟨g, o + j * 4 + i, none⟩ = some (X j i) := fun i hi => (hw0.cell (World.block_lt_of_cell? w _ (hX j hjl i hi))).trans (hX j hjl i hi)
              obtain ⟨ax, nx, cx, bx, mx, dx, e0, e1, e2, e3⟩ := (hl j hjl).form
              have hvx : vx X j = .agg #[.int .i64 l[j].kd, .string l[j].tx, .slice ax nx cx, .slice bx mx dx] := by unfold vx; rw [e0, e1, e2, e3]
              have hdj := hl j hjl
              have hsz1 := Nat.lt_of_lt_of_le (siz_l _ _ _ _ j hjl) (Nat.le_of_lt_succ hN)
              have hsz2' := Nat.le_trans (Nat.le_of_lt (siz_l _ _ _ _ j hjl)) hs
              rw [hvx] at hdj
              obtain ⟨x, hx⟩ : ∃ x, l[j] = x := ⟨_, rfl⟩
              rw [hx] at hdj hsz1 hsz2' hvx e0 e1 hwt hsn hgx
              have x0 : wr.cell? ⟨g, o + j * 4, none⟩ = some (X j 0) := hXw 0 (by decide)
              have x1 := hXw 1 (by decide)
              have x2 := hXw 2 (by decide)
              have x3 := hXw 3 (by decide)
              rw [e0] at x0
              rw [e1] at x1
              rw [e2] at x2
              rw [e3] at x3
              clear e0 e1 e2 e3 hvx
              obtain ⟨V, hV⟩ : ∃ V, wr.alloc (.cells #[.int .i64 x.kd, .string x.tx, .slice ax nx cx, .slice bx mx dx] 42) = V := ⟨_, rfl⟩
              have hbV : Below wr.heap.size wr V := by rw [← hV]; exact (Below.refl _ _).alloc (Nat.le_refl _) _
              have hVn : V.heap[wr.heap.size]? = some (.cells #[.int .i64 x.kd, .string x.tx, .slice ax nx cx, .slice bx mx dx] 42 (0, 0)) := by rw [← hV]; exact heap_alloc_at _ _ _ rfl
              obtain ⟨gv, hgv⟩ : ∃ gv, wr.heap.size = gv := ⟨_, rfl⟩
              have p0 : V.cell? ⟨gv, 0, none⟩ = some (.int .i64 x.kd) := by rw [← hgv, cells_at hVn 0]; rfl
              have p1 : V.cell? ⟨gv, 1, none⟩ = some (.string x.tx) := by rw [← hgv, cells_at hVn 1]; rfl
              have p2 : V.cell? ⟨gv, 2, none⟩ = some (.slice ax nx cx) := by rw [← hgv, cells_at hVn 2]; rfl
              have p3 : V.cell? ⟨gv, 3, none⟩ = some (.slice bx mx dx) := by rw [← hgv, cells_at hVn 3]; rfl
              have hwB : B + 1 ≤ wr.heap.size := by rw [← HS1.out]; exact hbw.size
              have HbV : Hid (∀ V', Below V.heap.size V V' → Below (B + 1) W1 V') := fun V' h => hbw.trans ((hbV.trans (h.mono hbV.size)).mono hwB)
              have HD : Hid (DAt V x (.agg #[.int .i64 x.kd, .string x.tx, .slice ax nx cx, .slice bx mx dx])) := hdj.under (hw0.trans (hbV.mono hw0.size))
              clear hVn hXw hw0 hbV hdj hwB
              obtain ⟨T, hT⟩ : ∃ T, st x.out = T := ⟨_, rfl⟩
              have hTl := out_le x
              have hTs : T.size ≤ 1099511627776 := by rw [← hT, st_size]; have := HLn.out; omega
              have hSs : S.size ≤ 1099511627776 := by
                rw [eS, st_size]
                have h1 := outL_le false (l.take j)
                have h2 : True := trivial
                have h3 := HLn.out
                have h4 := HHl.out
                simp only [List.length_append]
                omega
              have HI : Hid (Calls Tryd.prog 32 #[.agg #[.int .i64 x.kd, .string x.tx, .slice ax nx cx, .slice bx mx dx]] V fun r w' => r = .returned (.string T) ∧ Hid (Below V.heap.size V w')) := by rw [← hT]; exact IH.out x _ V hsz1 HD.out hsz2' hgx (by have := HLn.out; omega)
              have hx1 : (S ++ (⟨#[32]⟩ : ByteArray)).size = S.size + 1 := by rw [ByteArray.size_append]; rfl
              have hx2 : ((⟨#[32, 46, 32]⟩ : ByteArray) ++ T).size = 3 + T.size := by rw [ByteArray.size_append]; rfl
              have hx3 : (⟨#[32, 46, 32]⟩ : ByteArray).size = 3 := rfl
              have hx4 : (⟨#[32]⟩ : ByteArray).size = 1 := rfl
              have HTx := hid hT
              have HES := hid eS
              have HSn := hid hsn
              clear hsz1 hsz2' hT eS hwt hsn hgx hTl
              by_cases hj0 : 0 < j
              · have l3 : (0 : Int) < (j : Int) := by omega
                go_wp2_with fail
                all_goals first | (exfalso; clear HI; omega) | skip
                refine HI.out.mono ?_
                rintro r w3 ⟨rfl, hb3⟩
                have HS : Hid (S ++ (⟨#[32]⟩ : ByteArray) ++ T = st (H ++ outL false (l.take (j + 1))) ∧ Below (B + 1) W1 w3) := by
                  refine hid ⟨?_, HbV.out _ hb3.out⟩
                  have hne : (l.take j).isEmpty = false := by
                    cases hh : l.take j with
                    | nil => have := congrArg List.length hh; rw [List.length_take, List.length_nil] at this; omega
                    | cons => rfl
                  rw [HSn.out, outL_app, hne, HES.out, ← HTx.out, show (⟨#[32]⟩ : ByteArray) = st [32] from rfl, st_app, st_app]
                  simp
                clear HL HTx HES HSn hx hbw HD
                go_wp2_with fail
                all_goals first | (exfalso; clear HI; omega) | skip
                go_roundw
                case rel => exact ⟨j + 1, _, by go_num, rfl, by omega, HS⟩
                case measure => simp [intOf]; omega
              · have l3 : ¬ (0 : Int) < (j : Int) := by omega
                go_wp2_with fail
                refine HI.out.mono ?_
                rintro r w3 ⟨rfl, hb3⟩
                have HS : Hid (S ++ T = st (H ++ outL false (l.take (j + 1))) ∧ Below (B + 1) W1 w3) := by
                  refine hid ⟨?_, HbV.out _ hb3.out⟩
                  rw [HES.out, ← HTx.out, HSn.out, st_app]
                  obtain rfl : j = 0 := by omega
                  simp [outL]
                clear HL HTx HES HSn hx hbw HD
                go_wp2_with fail
                all_goals first | (exfalso; clear HI; omega) | skip
                go_roundw
                case rel => exact ⟨j + 1, _, by go_num, rfl, by omega, HS⟩
                case measure => simp [intOf]; omega
            · obtain rfl : j = n1 := by omega
              have HQ : Hid (S = st (H ++ (outL false l ++ outT (m.take 0))) ∧ Below (B + 1) W1 wr) := by
                refine hid ⟨?_, HL.out.2⟩
                have e := HL.out.1
                rw [← hn1, List.take_length] at e
                rw [e]
                simp [outT]
              have hv3 := (HV.out wr HQ.out.2).2
              clear HL
              go_wp2_with fail
              go_loopw [3, 44] (fun s i wr => ∃ (j : Nat) (S : ByteArray), i = .int .i64 (j : Int) ∧ s = .string S ∧ j ≤ n2 ∧ Hid (S = st (H ++ (outL false l ++ outT (m.take j))) ∧ Below (B + 1) W1 wr)) (fun _ i _ => n2 - (intOf i).toNat)
              case atStart => exact ⟨0, S, rfl, rfl, Nat.zero_le _, HQ⟩
              case round =>
                clear HQ
                obtain ⟨j, S, rfl, rfl, hj, HL⟩ := hrel
                by_cases hlt : j < n2
                · obtain ⟨eS, hbw⟩ := HL.out
                  have l1 : (j : Int) < (n2 : Int) := by omega
                  have l2 : (0 : Int) ≤ (j : Int) := by omega
                  have hjl : j < m.length := by rw [hn2]; exact hlt
                  have hwt := wtL_next hjl
                  have hsn := take_snoc m j hjl
                  have hgx := goodL_mem HG.out.2.2 j hjl
                  obtain ⟨g, o, rfl, hX⟩ := rb (by omega)
                  have hw0 := (HV.out wr hbw).1
                  have hXw : ∀ i, i < 4 → wr.cell? ⟨g, o + j * 4 + i, none⟩ = some (Y j i) := fun i hi => (hw0.cell (World.block_lt_of_cell? w _ (hX j hjl i hi))).trans (hX j hjl i hi)
                  obtain ⟨ax, nx, cx, bx, mx, dx, e0, e1, e2, e3⟩ := (hm j hjl).form
                  have hvx : vx Y j = .agg #[.int .i64 m[j].kd, .string m[j].tx, .slice ax nx cx, .slice bx mx dx] := by unfold vx; rw [e0, e1, e2, e3]
                  have hdj := hm j hjl
                  have hsz1 := Nat.lt_of_lt_of_le (siz_m _ _ _ _ j hjl) (Nat.le_of_lt_succ hN)
                  have hsz2' := Nat.le_trans (Nat.le_of_lt (siz_m _ _ _ _ j hjl)) hs
                  rw [hvx] at hdj
                  obtain ⟨x, hx⟩ : ∃ x, m[j] = x := ⟨_, rfl⟩
                  rw [hx] at hdj hsz1 hsz2' hvx e0 e1 hwt hsn hgx
                  have x0 : wr.cell? ⟨g, o + j * 4, none⟩ = some (Y j 0) := hXw 0 (by decide)
                  have x1 := hXw 1 (by decide)
                  have x2 := hXw 2 (by decide)
                  have x3 := hXw 3 (by decide)
                  rw [e0] at x0
                  rw [e1] at x1
                  rw [e2] at x2
                  rw [e3] at x3
                  clear e0 e1 e2 e3 hvx
                  obtain ⟨V, hV⟩ : ∃ V, wr.alloc (.cells #[.int .i64 x.kd, .string x.tx, .slice ax nx cx, .slice bx mx dx] 42) = V := ⟨_, rfl⟩
                  have hbV : Below wr.heap.size wr V := by rw [← hV]; exact (Below.refl _ _).alloc (Nat.le_refl _) _
                  have hVn : V.heap[wr.heap.size]? = some (.cells #[.int .i64 x.kd, .string x.tx, .slice ax nx cx, .slice bx mx dx] 42 (0, 0)) := by rw [← hV]; exact heap_alloc_at _ _ _ rfl
                  obtain ⟨gv, hgv⟩ : ∃ gv, wr.heap.size = gv := ⟨_, rfl⟩
                  have p0 : V.cell? ⟨gv, 0, none⟩ = some (.int .i64 x.kd) := by rw [← hgv, cells_at hVn 0]; rfl
                  have p1 : V.cell? ⟨gv, 1, none⟩ = some (.string x.tx) := by rw [← hgv, cells_at hVn 1]; rfl
                  have p2 : V.cell? ⟨gv, 2, none⟩ = some (.slice ax nx cx) := by rw [← hgv, cells_at hVn 2]; rfl
                  have p3 : V.cell? ⟨gv, 3, none⟩ = some (.slice bx mx dx) := by rw [← hgv, cells_at hVn 3]; rfl
                  have hwB : B + 1 ≤ wr.heap.size := by rw [← HS1.out]; exact hbw.size
                  have HbV : Hid (∀ V', Below V.heap.size V V' → Below (B + 1) W1 V') := fun V' h => hbw.trans ((hbV.trans (h.mono hbV.size)).mono hwB)
                  have HD : Hid (DAt V x (.agg #[.int .i64 x.kd, .string x.tx, .slice ax nx cx, .slice bx mx dx])) := hdj.under (hw0.trans (hbV.mono hw0.size))
                  clear hVn hXw hw0 hbV hdj hwB
                  obtain ⟨T, hT⟩ : ∃ T, st x.out = T := ⟨_, rfl⟩
                  have hTl := out_le x
                  have hTs : T.size ≤ 1099511627776 := by rw [← hT, st_size]; have := HLn.out; omega
                  have hSs : S.size ≤ 1099511627776 := by
                    rw [eS, st_size]
                    have h1 := outL_le false l
                    have h2 := outT_le (m.take j)
                    have h3 := HLn.out
                    have h4 := HHl.out
                    simp only [List.length_append]
                    omega
                  have HI : Hid (Calls Tryd.prog 32 #[.agg #[.int .i64 x.kd, .string x.tx, .slice ax nx cx, .slice bx mx dx]] V fun r w' => r = .returned (.string T) ∧ Hid (Below V.heap.size V w')) := by rw [← hT]; exact IH.out x _ V hsz1 HD.out hsz2' hgx (by have := HLn.out; omega)
                  have hx1 : (S ++ (⟨#[32]⟩ : ByteArray)).size = S.size + 1 := by rw [ByteArray.size_append]; rfl
                  have hx2 : ((⟨#[32, 46, 32]⟩ : ByteArray) ++ T).size = 3 + T.size := by rw [ByteArray.size_append]; rfl
                  have hx3 : (⟨#[32, 46, 32]⟩ : ByteArray).size = 3 := rfl
                  have hx4 : (⟨#[32]⟩ : ByteArray).size = 1 := rfl
                  have HTx := hid hT
                  have HES := hid eS
                  have HSn := hid hsn
                  clear hsz1 hsz2' hT eS hwt hsn hgx hTl
                  go_wp2_with fail
                  refine HI.out.mono ?_
                  rintro r w3 ⟨rfl, hb3⟩
                  have HS : Hid (S ++ ((⟨#[32, 46, 32]⟩ : ByteArray) ++ T) = st (H ++ (outL false l ++ outT (m.take (j + 1)))) ∧ Below (B + 1) W1 w3) := by
                    refine hid ⟨?_, HbV.out _ hb3.out⟩
                    rw [HSn.out, outT_app, HES.out, ← HTx.out, show (⟨#[32, 46, 32]⟩ : ByteArray) = st [32, 46, 32] from rfl, st_app, st_app]
                    simp
                  clear HL HTx HES HSn hx hbw HD
                  go_wp2_with fail
                  all_goals first | (exfalso; clear HI; omega) | skip
                  go_roundw
                  case rel => exact ⟨j + 1, _, by go_num, rfl, by omega, HS⟩
                  case measure => simp [intOf]; omega
                · obtain rfl : j = n2 := by omega
                  have HQ : Hid (S = st (H ++ (outL false l ++ outT m)) ∧ Below (B + 1) W1 wr) := by
                    refine hid ⟨?_, HL.out.2⟩
                    have e := HL.out.1
                    rw [← hn2, List.take_length] at e
                    exact e
                  have hSs : S.size ≤ 1099511627776 := by
                    rw [HQ.out.1, st_size]
                    have h1 := outL_le false l
                    have h2 := outT_le m
                    have h3 := HLn.out
                    have h4 := HHl.out
                    simp only [List.length_append]
                    omega
                  have hx4 : (⟨#[41]⟩ : ByteArray).size = 1 := rfl
                  have HR0 : S ++ (⟨#[41]⟩ : ByteArray) = st (H ++ (outL false l ++ outT m) ++ [41]) := by
                    rw [HQ.out.1, show (⟨#[41]⟩ : ByteArray) = st [41] from rfl, st_app]
                  have HR := hid (HR0.trans HT.out.symm)
                  clear HR0
                  have hb : Hid (Below w.heap.size w wr) := (HV.out wr HQ.out.2).1
                  clear HL HQ HT
                  go_wp2_with fail
                  all_goals first | (exfalso; omega) | skip
                  go_ret
                  exact ⟨congrArg (fun q => Ending.returned (.string q)) HR.out, hb⟩
end Go.Proofs.YtpjgdpfpgpaenaaDoor

namespace Go.Proofs.YtpjgdpfpgpaenaaDoor
open Go.RowKit
set_option linter.unusedVariables false

theorem z_print {d : Dt} {v : Value} {w : World} (h : DAt w d v) (hs : d.siz ≤ 1048576) (hw : 8 * d.wt ≤ 1099511627776) : Calls Tryd.prog 16 #[v] w fun e w' => Prt d e ∧ Hid (Below w.heap.size w w') := by
  obtain ⟨a, n, c, b, n2, c2, rfl⟩ := h.shape
  obtain ⟨W0, hW⟩ : ∃ W0, w.alloc (.cells #[.int .i64 d.kd, .string d.tx, .slice a n c, .slice b n2 c2] 42) = W0 := ⟨_, rfl⟩
  have hb0 : Below w.heap.size w W0 := by rw [← hW]; exact (Below.refl _ w).alloc (Nat.le_refl _) _
  obtain ⟨B, hB⟩ : ∃ B, w.heap.size = B := ⟨_, rfl⟩
  have h0 : W0.heap[B]? = some (.cells #[.int .i64 d.kd, .string d.tx, .slice a n c, .slice b n2 c2] 42 (0, 0)) := by rw [← hW]; exact heap_alloc_at _ _ _ hB.symm
  have HX : Hid (∀ V, Below W0.heap.size W0 V → (V.cell? ⟨B, 0, none⟩ = some (.int .i64 d.kd) ∧ V.cell? ⟨B, 1, none⟩ = some (.string d.tx) ∧ V.cell? ⟨B, 2, none⟩ = some (.slice a n c) ∧ V.cell? ⟨B, 3, none⟩ = some (.slice b n2 c2)) ∧ Hid (Below w.heap.size w V)) := fun V hV => by
    have e := (hV.block B (Array.getElem?_eq_some_iff.1 h0).1).trans h0
    exact ⟨⟨by rw [cells_at e 0]; rfl, by rw [cells_at e 1]; rfl, by rw [cells_at e 2]; rfl, by rw [cells_at e 3]; rfl⟩, hb0.trans (hV.mono hb0.size)⟩
  have HM := hid (z_can (h.under hb0) hs)
  have HD : Hid (∀ V, Below w.heap.size w V → d.may → Calls Tryd.prog 32 #[.agg #[.int .i64 d.kd, .string d.tx, .slice a n c, .slice b n2 c2]] V fun r w' => r = .returned (.string (st d.out)) ∧ Hid (Below V.heap.size V w')) := fun V hV hm => z_printed (d.siz + 1) d _ V (Nat.lt_succ_self _) (h.under hV) hs hm.1 hw
  obtain ⟨⟨y0, y1, y2, y3⟩, -⟩ := HX.out W0 (Below.refl _ _)
  clear h hs h0 hb0 hw
  go_enter Tryd.func16, Tryd.ntmps16
  go_wp2_with fail
  try rw [hW]
  try rw [hB]
  try go_wp2_with fail
  refine HM.out.mono ?_
  rintro r w1 ⟨⟨q, rfl, hq⟩, hb1⟩
  obtain ⟨⟨x0, x1, x2, x3⟩, hb⟩ := HX.out w1 hb1.out
  cases q
  · have hn : Hid (¬ d.may) := fun p => by have := hq.2 p; cases this
    clear hq
    go_wp2
    go_ret
    exact ⟨.inr ⟨hn.out, rfl⟩, by first | exact hb | (rw [← hB]; exact hb)⟩
  · have hm : Hid (d.may) := hq.1 rfl
    clear hq
    have HD1 := hid (HD.out w1 hb.out hm.out)
    go_wp2_with fail
    refine HD1.out.mono ?_
    rintro r w2 ⟨rfl, hb2⟩
    have hb' : Hid (Below w.heap.size w w2) := hb.out.trans (hb2.out.mono hb.out.size)
    go_wp2
    go_ret
    exact ⟨.inl ⟨hm.out, rfl⟩, by first | exact hb' | (rw [← hB]; exact hb')⟩
end Go.Proofs.YtpjgdpfpgpaenaaDoor
