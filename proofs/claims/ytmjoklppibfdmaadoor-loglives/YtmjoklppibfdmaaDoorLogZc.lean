/-
  Contract of the document's own records of bytes. Condition: at most 1000000 bytes.
-/
import Derived.Test.YtmjoklppibfdmaaDoorLogLf
namespace Go.Proofs.YtmjoklppibfdmaaDoor
open Go.RowKit
set_option linter.unusedVariables false

theorem txt_err {f : Nat → Int} {n p : Nat} {a s e : Int} (h : Wm.num (sh f p) (n - p) = (a, s, e)) (he : e ≠ 0) : Stops f n p := by
  refine .inl ?_
  unfold txt
  rw [h]
  dsimp only
  rw [if_pos he]
  exact he
theorem txt_stop {f : Nat → Int} {n p : Nat} {a s : Int} (h : Wm.num (sh f p) (n - p) = (a, s, 0)) (h0 : 0 ≤ a) (hw : a < 1 ∨ 2000 < a ∨ ((n - p : Nat) : Int) - s < a) : Stops f n p := by
  unfold Stops txt
  rw [h]
  dsimp only
  rw [if_neg (by simp)]
  by_cases c2 : max 2000 0 < a
  · rw [if_pos c2]
    exact .inl (fun (h : (12 : Int) = 0) => absurd h (by decide))
  · rw [if_neg c2]
    by_cases c3 : ((n - p : Nat) : Int) - s < a
    · rw [if_pos c3]
      exact .inl (fun (h : (10 : Int) = 0) => absurd h (by decide))
    · rw [if_neg c3]
      refine .inr ?_
      show strF _ a.toNat = _
      rw [show a.toNat = 0 by omega]
      rfl

set_option maxRecDepth 100000 in
set_option maxHeartbeats 2000000 in
theorem zRecs (a0 : Option Addr) (n c : Nat) (f : Nat → Int) (w : World) (hn : n ≤ 1000000) (hnc : n ≤ c) (hcm : c ≤ 9223372036854775807) (hf : From w a0 n f) (h00 : a0 = none → c = 0) (hg0 : ∀ x, a0 = some x → ∃ g, x = ⟨g, 0, none⟩) (hby : ∀ i, 0 ≤ f i ∧ f i ≤ 255) :
    Calls Tryd.prog 67 #[.slice a0 n c] w fun r w' => ∃ (L : List (Nat × Nat)) (size : Nat) (v : Value) (A : Nat → Option Addr) (C : Nat → Nat), r = .returned (.tuple #[v, .int .i64 (size : Int)]) ∧ Hid (RecG w' w.heap.size v L.length A (lenF L) C (bytF f L)) ∧ Hid (Parsed f n L size) ∧ Below w.heap.size w w' := by
  obtain ⟨i0, hi0, hz0, hz1, hz2⟩ := info_parts infoB
  have HF : Hid (∀ wq, Below w.heap.size w wq → From wq a0 n f) := fun wq hq => hf.below hq (Nat.le_refl _)
  have HBy : Hid (∀ i, 0 ≤ f i ∧ f i ≤ 255) := hby
  clear hf hby
  cases a0 with
  | none =>
    have hc0 : c = 0 := h00 rfl
    subst hc0
    obtain rfl : n = 0 := by omega
    have CU := uint_any none 0 0 f w (by omega) HBy.out (.inl rfl)
    have HP : Hid (Parsed f 0 [] 0) := ⟨.nil, stops_end f 0⟩
    have HG : Hid (RecG w w.heap.size (.slice none 0 0) 0 (fun _ => none) (lenF []) (fun _ => 0) (bytF f [])) := RecG.nil _ _ _ _ _ _
    rw [Wm.num_zero] at CU
    clear HF h00 hg0
    go_enter Tryd.func67, Tryd.ntmps67
    go_wp2
    refine wp_loop_rounds 1 ?_
    rw [rounds_succ]
    go_wp2_with fail
    refine CU.mono ?_
    rintro r w9 ⟨rfl, hw⟩
    obtain rfl : w = w9 := hw.symm
    clear hw CU
    go_wp2
    go_ret2
    exact ⟨[], 0, _, _, _, rfl, HG, HP, Below.refl _ _⟩
  | some ad =>
    obtain ⟨g, rfl⟩ := hg0 ad rfl
    clear h00 hg0
    have H0 : Hid (RecG w w.heap.size (.slice none 0 0) 0 (fun _ => none) (lenF []) (fun _ => 0) (bytF f [])) := RecG.nil _ _ _ _ _ _
    go_enter Tryd.func67, Tryd.ntmps67
    go_wp2
    go_loopw [4, 5] (fun s4 s5 wr => ∃ (L : List (Nat × Nat)) (p : Nat) (A : Nat → Option Addr) (C : Nat → Nat), s5 = .int .i64 (p : Int) ∧ Hid (PrsTo f n L p) ∧ Hid (RecG wr w.heap.size s4 L.length A (lenF L) C (bytF f L)) ∧ Below w.heap.size w wr) (fun _ i _ => n - (intOf i).toNat)
    case atStart => exact ⟨[], 0, _, _, rfl, PrsTo.nil, H0, Below.refl _ _⟩
    case round =>
      obtain ⟨L, p, A, C, rfl, HP, HG, hb⟩ := hrel
      have hpn := HP.out.le
      have hln := HP.out.len
      have hs := hb.size
      have hfr : From wr (some ⟨g, 0, none⟩) n f := HF.out wr hb
      have hcell : Hid (∀ i, i < n → wr.cell? ⟨g, i, none⟩ = some (.int .u8 (f i))) := fun i hi => by
        rcases hfr with ⟨e, _⟩ | ⟨x, e, hc⟩
        · cases e
        · cases e
          have := hc i hi
          rwa [Addr.add_lit, Nat.zero_add] at this
      have hbd := Wm.num_bd (sh f p) (n - p)
      have hps := Wm.num_pos (sh f p) (n - p)
      obtain ⟨N3, hN3⟩ : ∃ N3, Wm.num (sh f p) (n - p) = N3 := ⟨_, rfl⟩
      have CU : Hid (∀ ax cx, (n - p = 0 ∨ ax = some ⟨g, p, none⟩) → Calls Tryd.prog 91 #[.slice ax (n - p) cx] wr fun e w' => e = .returned (.tuple #[.int .i64 N3.1, .int .i64 N3.2.1, .int .i64 N3.2.2]) ∧ w' = wr) := fun ax cx h => by
        rw [← hN3]
        refine uint_any ax (n - p) cx (sh f p) wr (by omega) (sh_by HBy.out p) ?_
        rcases h with h | h
        · exact .inl h
        · exact .inr ⟨g, p, h, fun i hi => hcell.out (p + i) (by omega)⟩
      rw [hN3] at hbd hps
      obtain ⟨a1, s1, e1⟩ := N3
      dsimp only at hbd hps CU
      obtain ⟨d1, d2, d3, d4, d5⟩ := hbd
      have q0 : (0 : Int) ≤ (p : Int) := by omega
      have q1 : (p : Int) ≤ (n : Int) := by omega
      have q2 : (n : Int) ≤ (c : Int) := by omega
      have HEnd : Hid (Stops f n p → Parsed f n L p) := fun h => ⟨HP.out, h⟩
      by_cases e0 : e1 = 0
      · subst e0
        obtain ⟨m, hm⟩ := Int.eq_ofNat_of_zero_le d1
        obtain ⟨k, hk⟩ := Int.eq_ofNat_of_zero_le d3
        subst hm hk
        have hk0 := hps rfl
        have hnp : ((n - p : Nat) : Int) = (n : Int) - (p : Int) := by omega
        by_cases hst : (m : Int) < 1 ∨ (2000 : Int) < (m : Int) ∨ (n : Int) - (p : Int) - (k : Int) < (m : Int)
        · have HPd : Hid (Parsed f n L p) := HEnd.out (txt_stop hN3 (by omega) (by rw [hnp]; exact hst))
          have hpc : p < c := by omega
          have hcp : ¬ c = p := by omega
          have CU2 := CU.out (some ⟨g, p, none⟩) (c - p) (.inr rfl)
          clear hN3 hcell HEnd CU HF
          go_wp2_with fail
          refine CU2.mono ?_
          rintro r w9 ⟨rfl, hw⟩
          obtain rfl : wr = w9 := hw.symm
          clear hw CU2
          by_cases m1 : (m : Int) < 1
          · go_wp2
            go_ret2
            exact ⟨L, p, u4, A, C, rfl, HG, HPd, hb⟩
          · by_cases m2 : (2000 : Int) < (m : Int)
            · go_wp2
              go_ret2
              exact ⟨L, p, u4, A, C, rfl, HG, HPd, hb⟩
            · have m3 : (n : Int) - (p : Int) - (k : Int) < (m : Int) := by omega
              go_wp2
              go_ret2
              exact ⟨L, p, u4, A, C, rfl, HG, HPd, hb⟩
        · obtain ⟨m1, m2, m3⟩ : ¬ (m : Int) < 1 ∧ ¬ (2000 : Int) < (m : Int) ∧ ¬ (n : Int) - (p : Int) - (k : Int) < (m : Int) := by omega
          have hpc : p < c := by omega
          have hcp : ¬ c = p := by omega
          have CU2 := CU.out (some ⟨g, p, none⟩) (c - p) (.inr rfl)
          have HPn : Hid (PrsTo f n (L ++ [(p + k, m)]) (p + k + m)) := .snoc L p (p + k) m HP.out (txt_ok hN3 (by omega) (by omega)) (by omega) (by omega) (by omega) (by omega)
          have hm0 : Own (wr.alloc (.cells #[] 5)) wr.heap.size (.slice (some ⟨wr.heap.size, 0, none⟩) 0 0) [] := World.ownsRow_made wr #[] 0 (Nat.le_refl _) (Nat.zero_le _) rfl
          have HF2 : Hid (From (wr.alloc (.cells #[] 5)) (some ⟨g, p + k, none⟩) m (sh f (p + k))) := .inr ⟨_, rfl, fun i hi => by
            rw [Addr.add_lit]
            have h9 := hcell.out (p + k + i) (by omega)
            rw [World.cell?_alloc_past _ _ _ (World.block_lt_of_cell? wr _ h9)]
            exact h9⟩
          have w1' : IntKind.i64.wrap ((p : Int) + (k : Int)) = ((p + k : Nat) : Int) := by rw [IntKind.wrap_i64]; omega
          have w2' : (p : Int) + (k : Int) ≤ (c : Int) := by omega
          have w3' : (p : Int) + (k : Int) + (m : Int) ≤ (c : Int) := by omega
          have w4' : ((p : Int) + (k : Int)).toNat = p + k := by omega
          have w5' : ((p : Int) + (k : Int) + (m : Int)).toNat = p + k + m := by omega
          have w6' : (0 : Int) ≤ (p : Int) + (k : Int) := by omega
          have w7' : (0 : Int) ≤ (p : Int) + (k : Int) + (m : Int) := by omega
          have w8' : p + k + m - (p + k) = m := by omega
          have w9' : ¬ c = p + k := by omega
          have hkn : (k : Int) ≤ 1000000 := by omega
          have hkk : (0 : Int) ≤ (k : Int) := by omega
          have hmk : (0 : Int) ≤ (m : Int) := by omega
          have hnn : (n : Int) ≤ 1000000 := by omega
          clear hN3 hcell HEnd CU HF hst
          go_wp2_with fail
          refine CU2.mono ?_
          rintro r w9 ⟨rfl, hw⟩
          obtain rfl : wr = w9 := hw.symm
          clear hw CU2
          go_wp2_with (at_builtin; refine wpList_app rfl _ _ rfl wr.heap.size (.slice (some ⟨wr.heap.size, 0, none⟩) 0 0) [] rfl hm0 (some ⟨g, p + k, none⟩) m (c - (p + k)) (sh f (p + k)) ?qa HF2.out (fun h => by cases h) ?qb ?qc ?_)
          case qa => first | rfl | (show Value.slice _ (p + k + m - (p + k)) _ = _; rw [w8'])
          case qb => simp; omega
          case qc => simp
          intro v5 w5 ho5 b5
          have b05 : Below wr.heap.size wr w5 := ((Below.refl _ wr).alloc (Nat.le_refl _) _).trans b5
          have s5 := b05.size
          obtain ⟨g1, c5, rfl⟩ : ∃ g1 c5, v5 = .slice (some ⟨g1, 0, none⟩) m c5 := by
            obtain ⟨a9, c9, rfl, hf9, _⟩ := Own.fst (n := m) (f := sh f (p + k)) ho5
            rcases hf9.2.2 with ⟨_, h0, _⟩ | ⟨g1, rfl, _⟩
            · omega
            · exact ⟨g1, c9, rfl⟩
          have HO5 : Hid (Own w5 wr.heap.size (.slice (some ⟨g1, 0, none⟩) m c5) (lst (sh f (p + k)) m)) := ho5
          have HRw : Hid ((w5.alloc (.cells #[.slice (some ⟨g1, 0, none⟩) m c5] 34)).ownsRow w.heap.size 34 1 u4 L.length (gL L.length A (lenF L) C)) := World.ownsRow.alloc (Part.row (F := fun _ => False) (Part.ofBelow b05) HG.out.own (fun _ _ h => h)) _
          have HSz : Hid (w.heap.size ≤ (w5.alloc (.cells #[.slice (some ⟨g1, 0, none⟩) m c5] 34)).heap.size) := (by simp; omega : w.heap.size ≤ (w5.alloc (.cells #[.slice (some ⟨g1, 0, none⟩) m c5] 34)).heap.size)
          have HNx : Hid (∀ v2 w6, w6.ownsRow w.heap.size 34 1 v2 (L.length + 1) (gL L.length A (lenF L) C ++ [.slice (some ⟨g1, 0, none⟩) m c5]) → (w5.alloc (.cells #[.slice (some ⟨g1, 0, none⟩) m c5] 34)).grownBy w6 u4.ownBlock → (∃ A' C', RecG w6 w.heap.size v2 (L ++ [(p + k, m)]).length A' (lenF (L ++ [(p + k, m)])) C' (bytF f (L ++ [(p + k, m)]))) ∧ Below w.heap.size w w6) := fun v2 w6 h6 hg6 => by
            have el : ∀ j, lenF (L ++ [(p + k, m)]) j = if j = L.length then m else lenF L j := fun j => by
              unfold lenF; rw [getD_snoc]; split <;> rfl
            have eb : ∀ j, bytF f (L ++ [(p + k, m)]) j = if j = L.length then sh f (p + k) else bytF f L j := fun j => by
              unfold bytF; rw [getD_snoc]; split <;> rfl
            have hX : RecG wr w.heap.size u4 L.length A (lenF (L ++ [(p + k, m)])) C (bytF f (L ++ [(p + k, m)])) := HG.out.ext (fun j hj => by rw [el, if_neg (by omega)]) (fun j hj => by rw [eb, if_neg (by omega)])
            have eg : gL L.length A (lenF L) C = gL L.length A (lenF (L ++ [(p + k, m)])) C := by
              unfold gL
              apply List.map_congr_left
              intro j hj
              have := List.mem_range.1 hj
              rw [el, if_neg (by omega)]
            have hgb : wr.heap.size ≤ g1 ∧ g1 < w5.heap.size := World.ownsRow.lt HO5.out g1 rfl
            obtain ⟨cur, hcur⟩ := row_block HO5.out (k := g1) rfl
            have hZ := hX.snoc b05 hs hgb.1 hcur (c1 := c5) (by
              intro i hi
              rw [el, if_pos rfl] at hi
              rw [eb, if_pos rfl]
              have h9 := HO5.out.cellF i hi
              simpa [World.cell?, hcur] using h9) _ (by rw [← eg, el, if_pos rfl]; exact h6) hg6
            refine ⟨⟨_, _, by rw [List.length_append]; exact hZ⟩, hb.trans ((((b05.mono hs).alloc (by omega) _).grown hg6 (by simp; omega) (fun q hq => (World.ownsRow.lt HG.out.own q hq).1)))⟩
          clear ho5 b5 hm0 HF2
          go_wp2_with (at_builtin; refine wpList_append_own _ rfl _ _ 22 rfl w.heap.size 34 i0 (.slice none 0 0) 1 24 Tryd.underlying22 hi0 hz0 hz1 hz2 rfl (by decide) u4 L.length (gL L.length A (lenF L) C) rfl HRw.out ⟨w5.heap.size, 0, none⟩ 1 1 [.slice (some ⟨g1, 0, none⟩) m c5] rfl rfl ?qd ?qe ?qf ?qg HSz.out ?_)
          case qd => exact cell_one_new _ _ _
          case qe =>
            intro u hu
            simp at hu
            rw [hu]
            rfl
          case qf => unfold maxLen; omega
          case qg => omega
          intro v6 w6 ho6 hg6 _
          obtain ⟨⟨A', C', hG6⟩, hb6⟩ := HNx.out v6 w6 ho6 hg6
          have HG6 : Hid (RecG w6 w.heap.size v6 (L ++ [(p + k, m)]).length A' (lenF (L ++ [(p + k, m)])) C' (bytF f (L ++ [(p + k, m)]))) := hG6
          clear hG6 ho6 hg6 HNx HRw HSz
          go_wp2
          go_roundw
          case rel => exact ⟨L ++ [(p + k, m)], p + k + m, A', C', congrArg (Value.int .i64) (by omega), HPn, HG6, hb6⟩
          case measure => simp [intOf]; omega
      · have HPd : Hid (Parsed f n L p) := HEnd.out (txt_err hN3 e0)
        have e0' : (e1 == 0) = false := beq_eq_false_iff_ne.2 e0
        by_cases hcp : c = p
        · have CU2 : Hid (∀ ax cx, Calls Tryd.prog 91 #[.slice ax 0 cx] wr fun e w' => e = .returned (.tuple #[.int .i64 a1, .int .i64 s1, .int .i64 e1]) ∧ w' = wr) := fun ax cx => by
            have := CU.out ax cx (.inl (by omega))
            rwa [show n - p = 0 by omega] at this
          have hnp : n - p = 0 := by omega
          subst hcp
          obtain rfl : n = c := by omega
          clear hN3 hcell HEnd CU HF
          go_wp2_with fail
          refine (CU2.out _ _).mono ?_
          rintro r w9 ⟨rfl, hw⟩
          obtain rfl : wr = w9 := hw.symm
          clear hw CU2
          go_wp2
          go_ret2
          exact ⟨L, _, u4, A, C, rfl, HG, HPd, hb⟩
        · have hpc : p < c := by omega
          have CU2 := CU.out (some ⟨g, p, none⟩) (c - p) (.inr rfl)
          clear hN3 hcell HEnd CU HF
          go_wp2_with fail
          refine CU2.mono ?_
          rintro r w9 ⟨rfl, hw⟩
          obtain rfl : wr = w9 := hw.symm
          clear hw CU2
          go_wp2
          go_ret2
          exact ⟨L, p, u4, A, C, rfl, HG, HPd, hb⟩
end Go.Proofs.YtmjoklppibfdmaaDoor
