/-
  What is read is written in one form, which is read as the same: the law's walk.
-/
import Derived.Test.YtfobiknbjijphaaDoorGbc
import Derived.Test.YtfobiknbjijphaaDoorGba
import Derived.Test.YtfobiknbjijphaaDoorGbh
import Derived.StillTail
import Derived.StillTailTactics
namespace Go.Proofs.YtfobiknbjijphaaDoor
open Go.RowKit
set_option linter.unusedVariables false
set_option linter.unusedSimpArgs false

theorem txL_app (sp : Nat → List UInt8) : ∀ (i : Nat) (l : List Dt) (x : Dt), txL sp i (l ++ [x]) = txL sp i l ++ (x.out ++ sp (i + l.length))
  | i, [], x => by simp [txL]
  | i, y :: l, x => by
    show y.out ++ sp i ++ txL sp (i + 1) (l ++ [x]) = y.out ++ sp i ++ txL sp (i + 1) l ++ (x.out ++ sp (i + (l.length + 1)))
    rw [txL_app sp (i + 1) l x, Nat.add_assoc i 1, Nat.add_comm 1]
    simp
theorem txL_next (sp : Nat → List UInt8) {l : List Dt} {j : Nat} (h : j < l.length) : txL sp 0 (l.take (j + 1)) = txL sp 0 (l.take j) ++ (l[j].out ++ sp j) := by
  rw [List.take_succ_eq_append_getElem h, txL_app]
  have : (l.take j).length = j := by rw [List.length_take]; omega
  rw [this, Nat.zero_add]
theorem txL_len (sp : Nat → List UInt8) (k : Nat) (hk : ∀ i, (sp i).length ≤ k) : ∀ (i : Nat) (l : List Dt), (txL sp i l).length ≤ 8 * wtL l + k * l.length
  | i, [] => Nat.zero_le _
  | i, x :: l => by
    have h1 := txL_len sp k hk (i + 1) l
    have h2 := out_le x
    have h3 := hk i
    have e : wtL (x :: l) = x.wt + wtL l := rfl
    have e2 : (txL sp i (x :: l)).length = x.out.length + (sp i).length + (txL sp (i + 1) l).length := by simp [txL]; omega
    rw [e2, e, List.length_cons, Nat.mul_succ]
    omega
theorem sp_nl : Sp [10] := ⟨fun X => skF_blank (by decide), fun X => rfl, by simp⟩
theorem ba_cat (a b : List UInt8) : ba a ++ ba b = ba (a ++ b) := by
  refine ByteArray.ext ?_
  rw [ByteArray.data_append]
  show a.toArray ++ b.toArray = (a ++ b).toArray
  simp
theorem mem_bounds {l : List Dt} {S Wt : Nat} (h1 : sizL l ≤ S) (h2 : wtL l ≤ Wt) {j : Nat} (hj : j < l.length) : l[j].siz ≤ S ∧ l[j].wt ≤ Wt :=
  ⟨Nat.le_trans (sizL_mem j hj) h1, by have := wtL_next hj; omega⟩
set_option maxRecDepth 100000 in
set_option maxHeartbeats 8000000 in
theorem law_form (s : ByteArray) (w : World) (hs : s.size ≤ 1048576) : Calls Tryd.prog 5 #[.string s] w fun e w' => e = .returned (.bool true) ∧ Hid (Below w.heap.size w w') := by
  have hs2 : s.size ≤ 1099511627776 := by omega
  have HR := hid (rd_read s w hs2 (s.size + 1) (Nat.lt_succ_self _))
  have HZ := hid (fun V => z_read s V hs2 (s.size + 1) (Nat.lt_succ_self _))
  obtain ⟨R, hR⟩ : ∃ R, alL (s.size + 1) [] s.data.toList = R := ⟨_, rfl⟩
  rw [hR] at HR
  simp only [hR] at HZ
  have HM : Hid (∀ l, R = .ok l [] → (∀ d ∈ l, d.may) ∧ sizL l ≤ 2097152 ∧ wtL l ≤ 8388608 ∧ l.length ≤ 1048576) := hid fun l hl => by
    obtain ⟨M, h1, h2, h3, h4, h5⟩ := alL_mays _ _ _ _ _ (hR.trans hl)
    rw [List.nil_append] at h1
    subst h1
    have e : s.data.toList.length = s.size := Array.length_toList
    rw [e] at h3 h4 h5
    exact ⟨h2, by omega, by omega, by omega⟩
  clear hR hs hs2
  go_enter Tryd.func5, Tryd.ntmps5
  go_wp2_with fail
  refine HR.out.mono ?_
  clear HR
  rintro e w1 (⟨l, a, c, rfl, HX⟩ | ⟨k, n, rfl, HX⟩)
  · go_wp2_with fail
    refine (HZ.out _).mono ?_
    clear HZ
    rintro e w2 (⟨l2, a2, c2, rfl, HY⟩ | ⟨k, n, rfl, HY⟩)
    · have hl : l = l2 := by
        have := HX.out.1.symm.trans HY.out.1
        injection this
      subst hl
      have H2 : Hid (Below w.heap.size w w2) := hid (HX.out.2.1.trans (HY.out.2.1.mono HX.out.2.1.size))
      have HI := hid (is_nil w2)
      have HA := hid (⟨(HX.out.2.2.as).under HY.out.2.1, HY.out.2.2.as⟩ : AS w2 l (.slice a l.length c) ∧ AS w2 l (.slice a2 l.length c2))
      have HB := hid (HM.out l HX.out.1)
      clear HX HY HM
      go_wp2_with fail
      refine HI.out.mono ?_
      clear HI
      rintro e w3 ⟨rfl, hb3⟩
      have HS := hid (same_rows (HA.out.1.under hb3.out) (HA.out.2.under hb3.out))
      have HA3 : Hid (AS w3 l (.slice a l.length c)) := hid (HA.out.1.under hb3.out)
      have H3 : Hid (Below w.heap.size w w3) := hid (H2.out.trans (hb3.out.mono H2.out.size))
      clear HA H2 hb3
      go_wp2_with fail
      refine HS.out.mono ?_
      clear HS
      rintro e w4 ⟨rfl, hb4⟩
      have H4 : Hid (Below w.heap.size w w4) := hid (H3.out.trans (hb4.out.mono H3.out.size))
      have HA4 : Hid (AS w4 l (.slice a l.length c)) := hid (HA3.out.under hb4.out)
      clear H3 hb4 HA3
      obtain ⟨n, hn⟩ : ∃ n, l.length = n := ⟨_, rfl⟩
      have Hn := hid hn
      rw [hn] at HA4 ⊢
      obtain ⟨a', c', X, hv, hc, hrow, hds⟩ := HA4.out
      injection hv with hv1 hv2 hv3
      subst hv1; subst hv3
      rw [hn] at hrow
      have Hds := hid hds
      have Hrow := hid hrow
      have hnb : (n : Int) ≤ 9223372036854775807 := by have := HB.out.2.2.2; omega
      have HHc := hid hc
      clear hv2 hc hrow hds hn HA4
      go_wp2_with fail
      go_loopw [8, 38] (fun t i wr => ∃ (j : Nat) (T : List UInt8), i = .int .i64 (j : Int) ∧ t = .string (ba T) ∧ j ≤ n ∧ Hid (T = txL (fun _ => [10]) 0 (l.take j)) ∧ Hid (Below w4.heap.size w4 wr)) (fun _ i _ => n - (intOf i).toNat)
      case atStart => exact ⟨0, [], rfl, rfl, Nat.zero_le _, rfl, Below.refl _ _⟩
      case round =>
        obtain ⟨j, T, rfl, rfl, hj, hT, HW⟩ := hrel
        by_cases hlt : j < n
        · have l1 : (j : Int) < (n : Int) := by omega
          have l2 : (0 : Int) ≤ (j : Int) := by omega
          have hjl : j < l.length := by rw [Hn.out]; exact hlt
          obtain ⟨g, o, rfl, hX⟩ := Hrow.out (by omega)
          obtain ⟨ax, nx, cx, bx, mx, dx, e0, e1, e2, e3⟩ := (Hds.out j hjl).form
          have hvx : vx X j = .agg #[.int .i64 l[j].kd, .string l[j].tx, .slice ax nx cx, .slice bx mx dx] := by unfold vx; rw [e0, e1, e2, e3]
          have hdx := Hds.out j hjl
          rw [hvx] at hdx
          have hbd := mem_bounds HB.out.2.1 HB.out.2.2.1 hjl
          have hmay := HB.out.1 _ (List.getElem_mem hjl)
          have hT2 := txL_next (fun _ => [10]) hjl
          obtain ⟨x, hx⟩ : ∃ x, l[j] = x := ⟨_, rfl⟩
          rw [hx] at hdx e0 e1 hbd hmay hT2
          have hXw : ∀ i, i < 4 → wr.cell? ⟨g, o + j * 4 + i, none⟩ = some (X j i) := fun i hi => (HW.out.cell (World.block_lt_of_cell? w4 _ (hX j hlt i hi))).trans (hX j hlt i hi)
          have x0 : wr.cell? ⟨g, o + j * 4, none⟩ = some (X j 0) := hXw 0 (by decide)
          have x1 := hXw 1 (by decide)
          have x2 := hXw 2 (by decide)
          have x3 := hXw 3 (by decide)
          rw [e0] at x0
          rw [e1] at x1
          rw [e2] at x2
          rw [e3] at x3
          clear hXw hX e0 e1 e2 e3 hvx hx
          have HCn : Hid (∀ V, Below w4.heap.size w4 V → Calls Tryd.prog 13 #[.agg #[.int .i64 x.kd, .string x.tx, .slice ax nx cx, .slice bx mx dx]] V fun e w' => e = .returned (.bool true) ∧ Hid (Below V.heap.size V w')) := hid fun V hV => by
            refine (dt_can (hdx.under hV) (by omega)).mono ?_
            rintro e w' ⟨⟨q, rfl, hq⟩, h2⟩
            exact ⟨by rw [hq.2 hmay], h2⟩
          have HPr : Hid (∀ V, Below w4.heap.size w4 V → Calls Tryd.prog 11 #[.agg #[.int .i64 x.kd, .string x.tx, .slice ax nx cx, .slice bx mx dx]] V fun e w' => e = .returned (.string (ba x.out)) ∧ Hid (Below V.heap.size V w')) := hid fun V hV => by
            refine (dt_print (hdx.under hV) (by omega) (by omega)).mono ?_
            rintro e w' ⟨h1, h2⟩
            rcases h1 with ⟨_, h⟩ | ⟨h, _⟩
            · exact ⟨h, h2⟩
            · exact absurd hmay h
          obtain ⟨V, hV⟩ : ∃ V, wr.alloc (.cells #[.int .i64 x.kd, .string x.tx, .slice ax nx cx, .slice bx mx dx] 34) = V := ⟨_, rfl⟩
          obtain ⟨G, hG⟩ : ∃ G, wr.heap.size = G := ⟨_, rfl⟩
          have hbV : Below wr.heap.size wr V := by rw [← hV]; exact (Below.refl _ wr).alloc (Nat.le_refl _) _
          have dG : D4 V G (.int .i64 x.kd) (.string x.tx) (.slice ax nx cx) (.slice bx mx dx) := by rw [← hV]; exact heap_alloc_at _ _ _ hG.symm
          have H4V : Hid (∀ U, Below V.heap.size V U → Below w4.heap.size w4 U ∧ C4 U G (.int .i64 x.kd) (.string x.tx) (.slice ax nx cx) (.slice bx mx dx)) := hid fun U hU => ⟨HW.out.trans ((hbV.trans (hU.mono hbV.size)).mono HW.out.size), (dG.under hU).c4⟩
          have g1 : ¬ 9223372036854775807 < (ba x.out).size + 1 := by
            show ¬ _ < x.out.length + 1
            have h1 := out_le x
            omega
          have g2 : ¬ 9223372036854775807 < (ba T).size + ((ba x.out).size + 1) := by
            show ¬ _ < T.length + (x.out.length + 1)
            have h1 := out_le x
            have h2 := txL_len (fun _ => [10]) 1 (fun _ => Nat.le_refl _) 0 (l.take j)
            rw [← hT.out] at h2
            have h3 := wtL_take l j
            have h4 := HB.out.2.2
            rw [List.length_take] at h2
            omega
          have HT2 := hid hT2
          have HV := hid hV
          clear hbd hdx hmay hT2 hbV dG hV
          go_wp2_with fail
          rw [HV.out]
          have HC1 := hid (HCn.out V (H4V.out V (Below.refl _ _)).1)
          obtain ⟨c0, c1, c2, c3, -, -, -, -⟩ := (H4V.out V (Below.refl _ _)).2
          clear HCn x0 x1 x2 x3
          refine HC1.out.mono ?_
          clear HC1
          rintro e w5 ⟨rfl, hb5⟩
          obtain ⟨f0, f1, f2, f3, -, -, -, -⟩ := (H4V.out w5 hb5.out).2
          have HP0 : Hid (Calls Tryd.prog 11 #[.agg #[.int .i64 x.kd, .string x.tx, .slice ax nx cx, .slice bx mx dx]] w5 fun e w' => e = .returned (.string (ba x.out)) ∧ Hid (Below w4.heap.size w4 w')) := hid (by
            refine (HPr.out _ (H4V.out _ hb5.out).1).mono ?_
            rintro e w' ⟨h1, h2⟩
            exact ⟨h1, hid (H4V.out _ (hb5.out.trans (h2.out.mono hb5.out.size))).1⟩)
          clear HPr hb5 c0 c1 c2 c3 H4V HV
          go_wp2_with fail
          refine HP0.out.mono ?_
          clear HP0
          rintro e w6 ⟨rfl, hb6⟩
          clear f0 f1 f2 f3
          go_wp2
          go_roundw
          case rel => exact ⟨j + 1, T ++ (x.out ++ [10]), by go_num, by rw [← ba_cat, ← ba_cat]; rfl, by omega, hid (by rw [hT.out]; exact HT2.out.symm), hb6⟩
          case measure => simp [intOf]; omega
        · obtain rfl : j = n := by omega
          have hTl : Hid (T = txL (fun _ => [10]) 0 l) := hid (by
            have h := hT.out
            rw [← Hn.out, List.take_length] at h
            exact h)
          have hsz : (ba T).size ≤ 1099511627776 := by
            show T.length ≤ _
            have h1 := txL_len (fun _ => [10]) 1 (fun _ => Nat.le_refl _) 0 l
            rw [← hTl.out] at h1
            have h2 := HB.out.2.2
            omega
          have HR2 := hid (rd_read (ba T) wr hsz (T.length + 1) (Nat.lt_succ_self _))
          have hal : alL (T.length + 1) [] (ba T).data.toList = .ok l [] := by
            rw [ba_list, hTl.out]
            have := txL_back (fun _ => [10]) (fun _ => sp_nl) l [] 0 _ HB.out.1 (Nat.lt_succ_self _)
            rw [List.nil_append] at this
            exact this
          rw [hal] at HR2
          have HA4 : Hid (AS w4 l (.slice a j c)) := hid ⟨_, _, X, by rw [Hn.out], HHc.out, by rw [Hn.out]; exact Hrow.out, Hds.out⟩
          clear hsz hal hT hTl HB
          go_wp2_with fail
          refine HR2.out.mono ?_
          clear HR2
          rintro e w5 (⟨l2, b, d, rfl, HX⟩ | ⟨k, n, rfl, HX⟩)
          · have hl : l2 = l := by
              have := HX.out.1
              injection this with h1 _
              exact h1.symm
            subst hl
            have hw5 : Hid (Below w4.heap.size w4 w5) := hid (HW.out.trans (HX.out.2.1.mono HW.out.size))
            have HS := hid (same_rows (HA4.out.under hw5.out) HX.out.2.2.as)
            have H5 : Hid (Below w.heap.size w w5) := hid (H4.out.trans (hw5.out.mono H4.out.size))
            clear HX HA4 hw5 HW H4
            go_wp2_with fail
            refine HS.out.mono ?_
            clear HS
            rintro e w6 ⟨rfl, hb6⟩
            have H6 : Hid (Below w.heap.size w w6) := hid (H5.out.trans (hb6.out.mono H5.out.size))
            clear H5 hb6
            go_wp2
            go_ret
            exact ⟨rfl, H6⟩
          · have := HX.out.1
            cases this
    · have := HX.out.1.symm.trans HY.out.1
      cases this
  · go_wp2_with fail
    refine (HZ.out _).mono ?_
    clear HZ
    rintro e w2 (⟨l2, a2, c2, rfl, HY⟩ | ⟨k2, n2, rfl, HY⟩)
    · have := HX.out.1.symm.trans HY.out.1
      cases this
    · have hkk : k = k2 ∧ n = n2 := by
        have := HX.out.1.symm.trans HY.out.1
        injection this with h1 h2
        exact ⟨h1, h2⟩
      obtain ⟨rfl, rfl⟩ := hkk
      have hx : ((s.size - k : Nat) : Int) = (s.size : Int) - (k : Int) := by have := HX.out.2.1; omega
      have H2 : Hid (Below w.heap.size w w2) := hid (HX.out.2.2.trans (HY.out.2.2.mono HX.out.2.2.size))
      have HI := hid (is_fault w2 ((s.size - k : Nat) : Int) (n : Int))
      rw [← hx]
      obtain ⟨N, hN⟩ : ∃ N : Int, ((s.size - k : Nat) : Int) = N := ⟨_, rfl⟩
      rw [hN] at HI ⊢
      have HA : Hid (∀ V, AS V [] (.slice none 0 0)) := hid fun V => ⟨none, 0, fun _ _ => .nilIface, rfl, ⟨Nat.le_refl _, by decide⟩, fun h => absurd h (by decide), fun j h => absurd h (Nat.not_lt_zero _)⟩
      clear HX HY hx hN HM
      go_wp2_with fail
      refine HI.out.mono ?_
      clear HI
      rintro e w3 ⟨rfl, hb3⟩
      have HS := hid (same_rows (HA.out w3) (HA.out w3))
      have H3 : Hid (Below w.heap.size w w3) := hid (H2.out.trans (hb3.out.mono H2.out.size))
      clear HA H2 hb3
      go_wp2_with fail
      refine HS.out.mono ?_
      clear HS
      rintro e w4 ⟨rfl, hb4⟩
      have H4 : Hid (Below w.heap.size w w4) := hid (H3.out.trans (hb4.out.mono H3.out.size))
      clear H3 hb4
      go_wp2
      go_ret
      exact ⟨rfl, H4⟩
end Go.Proofs.YtfobiknbjijphaaDoor
