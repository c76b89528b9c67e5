/-
  The document's reader: atoms.
  The document's List.
-/
import Derived.Test.YtfobiknbjijphaaDoorZrD
namespace Go.Proofs.YtfobiknbjijphaaDoor
open Go.RowKit
set_option linter.unusedVariables false
set_option linter.unusedSimpArgs false

theorem z_symbol (t : ByteArray) (w : World) : Calls Tryd.prog 36 #[.string t] w fun e w' => e = .returned (.agg #[.int .i64 4, .string t, .slice none 0 0, .slice none 0 0]) ∧ Hid (Below w.heap.size w w') := by
  obtain ⟨G, hG⟩ : ∃ G, w.heap.size = G := ⟨_, rfl⟩
  have HE : Hid (∀ V, V = w.alloc (.cells #[.int .i64 4, .string t, .slice none 0 0, .slice none 0 0] 34) → D4 V G (.int .i64 4) (.string t) (.slice none 0 0) (.slice none 0 0) ∧ Below w.heap.size w V) := hid fun V hV => by
    subst hV
    exact ⟨heap_alloc_at _ _ _ hG.symm, (Below.refl _ w).alloc (Nat.le_refl _) _⟩
  go_enter Tryd.func36, Tryd.ntmps36
  go_wp2
  try rw [hG]
  obtain ⟨k1, k2⟩ := HE.out _ rfl
  exact bodyPost_ret (v := .agg #[.int .i64 4, .string t, .slice none 0 0, .slice none 0 0]) (res4 k1 Tryd.results36 rfl) rfl ⟨rfl, by rw [← hG]; exact k2⟩
theorem begB_ba {l : List UInt8} (h : numP l) : begB (ba l) = true := by
  obtain ⟨h1, h2⟩ := h
  cases l with
  | nil => exact absurd rfl h1
  | cons c r =>
    have e0 : ∀ hh : 0 < (ba (c :: r)).size, (ba (c :: r))[0] = c := fun _ => rfl
    unfold begB
    rw [dif_pos (show 0 < (ba (c :: r)).size by show 0 < (c :: r).length; simp)]
    rw [e0]
    by_cases hs : sgnB c = true
    · rw [if_pos hs]
      simp only [dgT, hs, if_true] at h1 h2
      cases r with
      | nil => exact absurd rfl h1
      | cons d r2 =>
        rw [dif_pos (show 1 < (ba (c :: d :: r2)).size by show 1 < (c :: d :: r2).length; simp)]
        exact h2 d (by simp)
    · rw [if_neg hs]
      have hs2 : sgnB c = false := by simpa using hs
      simp only [dgT, hs2] at h2
      exact h2 c (by simp)
theorem num_not {l : List UInt8} (h : numP l) : ¬ (l = [35, 116] ∨ l = [35, 102]) ∧ ¬ nameP (ba l) := by
  refine ⟨?_, fun hn => ?_⟩
  · rintro (rfl | rfl)
    · have := h.2 35 (by decide)
      revert this; decide
    · have := h.2 35 (by decide)
      revert this; decide
  · have h1 := hn.2.2.2.1
    rw [begB_ba h] at h1
    cases h1
theorem atL_num {l : List UInt8} (h : numP l) : ((stp (dgT l)).length ≤ 200 → atL l = .ok (.node 1 (ba (cnL l)) [] [])) ∧ (¬ (stp (dgT l)).length ≤ 200 → atL l = .bad 91) := by
  obtain ⟨h1, h2⟩ := num_not h
  unfold atL
  rw [if_neg h1, if_neg h2, if_pos h]
  exact ⟨fun h => if_pos h, fun h => if_neg h⟩
theorem atL_not {l : List UInt8} (h : ¬ numP l) : ((l = [35, 116] ∨ l = [35, 102]) → atL l = .ok (.node 2 (ba l) [] [])) ∧ (¬ (l = [35, 116] ∨ l = [35, 102]) → (nameP (ba l) → atL l = .ok (.node 4 (ba l) [] [])) ∧ (¬ nameP (ba l) → atL l = .bad 100)) := by
  unfold atL
  refine ⟨fun h1 => if_pos h1, fun h1 => ?_⟩
  rw [if_neg h1]
  refine ⟨fun h2 => if_pos h2, fun h2 => ?_⟩
  rw [if_neg h2, if_neg h]
set_option maxHeartbeats 8000000 in
theorem z_atom {b : Nat} {s : ByteArray} {p : Nat} {w : World} (h : Zr b s p w) : Calls Tryd.prog 34 #[.pointer (some ⟨b, 0, none⟩)] w fun e w' => ZdO b s w (pcR (s.size - p) (rst s p)) e w' := by
  obtain ⟨G, hG⟩ : ∃ G, w.heap.size = G := ⟨_, rfl⟩
  obtain ⟨W1, hW⟩ : ∃ W1, w.alloc (.cells #[.int .i64 0, .string ⟨#[]⟩, .slice none 0 0, .slice none 0 0] 34) = W1 := ⟨_, rfl⟩
  have hbG : b < G := by rw [← hG]; exact h.lt
  have hB1 : Below w.heap.size w W1 := by rw [← hW]; exact (Below.refl _ w).alloc (Nat.le_refl _) _
  have d1 : D4 W1 G (.int .i64 0) (.string ⟨#[]⟩) (.slice none 0 0) (.slice none 0 0) := by rw [← hW]; exact heap_alloc_at _ _ _ hG.symm
  have r1 := h.under hB1
  have HZ : Hid (w.heap.size ≤ G ∧ b < G) := hid ⟨by omega, hbG⟩
  obtain ⟨N, hN⟩ : ∃ N, pcL (rst s p) = N := ⟨_, rfl⟩
  have hNs : p + N ≤ s.size := by
    have := pcL_le (rst s p)
    have h2 := h.1.1
    rw [rst_len] at this
    omega
  have HP := hid (z_piece r1)
  obtain ⟨L, hL⟩ : ∃ L, (rst s p).take N = L := ⟨_, rfl⟩
  obtain ⟨T, hT⟩ : ∃ T, s.extract p (p + N) = T := ⟨_, rfl⟩
  have hTL : T.data.toList = L := by rw [← hT, ext_list, ← hL]; congr 1; omega
  have hTb : T = ba L := data_ba hTL
  have hTsz : T.size = N := by rw [← hT]; simp; omega
  obtain ⟨q, hq⟩ : ∃ q, p + N = q := ⟨_, rfl⟩
  rw [hN, hT] at HP
  have hqs : q ≤ s.size := by omega
  have hqi : (p : Int) + (T.size : Int) = (q : Int) := by omega
  obtain ⟨R, hR⟩ : ∃ R, pcR (s.size - p) (rst s p) = R := ⟨_, rfl⟩
  have HOk : Hid (∀ d, atL L = .ok d → R = .ok d (rst s q)) := hid fun d hd => by
    rw [← hR, pcR_ok (d := d) (by rw [hN, hL]; exact hd), hN, rst_drop, hq]
  have HBd : Hid (∀ n, atL L = .bad n → R = .bad (s.size - p) n) := hid fun n hd => by
    rw [← hR, pcR_bad (n := n) (by rw [hN, hL]; exact hd)]
  have HTs : Hid (T.size ≤ 1099511627776 ∧ T = ba L ∧ p ≤ s.size) := hid ⟨by have := h.1.2; omega, hTb, h.1.1⟩
  have HK : Hid (∀ V, Below W1.heap.size W1 V → Zr b s p V ∧ D4 V G (.int .i64 0) (.string ⟨#[]⟩) (.slice none 0 0) (.slice none 0 0) ∧ Pt b w V) := hid fun V hV => ⟨r1.under hV, d1.under hV, (Pt.ofB hB1).trans_ (Pt.ofB hV)⟩
  have Hqs := hid hqs
  have HTr := hid (⟨hTL, list_eq T⟩ : T.data.toList = L ∧ T.toList = T.data.toList)
  have lM : (s.size : Int) ≤ 1099511627776 := by have := h.1.2; omega
  have lq : (q : Int) ≤ (s.size : Int) := by omega
  have l0 : (0 : Int) ≤ (p : Int) := by omega
  rw [hR]
  clear h hB1 d1 r1 hbG hN hNs hL hT hTb hTsz hq hqs hR hTL
  go_enter Tryd.func34, Tryd.ntmps34
  go_wp2_with fail
  try rw [hW]
  try rw [hG]
  try go_wp2_with fail
  refine HP.out.mono ?_
  clear HP
  rintro e w2 ⟨rfl, hb2⟩
  obtain ⟨g1, g2, g3⟩ := HK.out w2 hb2.out
  have HK2 : Hid (∀ V, Below (w2.setCell ⟨b, 1, none⟩ (.int .i64 (q : Int))).heap.size (w2.setCell ⟨b, 1, none⟩ (.int .i64 (q : Int))) V → Zr b s q V ∧ D4 V G (.int .i64 0) (.string ⟨#[]⟩) (.slice none 0 0) (.slice none 0 0) ∧ Pt b w V) := hid fun V hV => by
    have := HZ.out
    have e1 := g1.at_ q Hqs.out
    have e2 : D4 (w2.setCell ⟨b, 1, none⟩ (.int .i64 (q : Int))) G (.int .i64 0) (.string ⟨#[]⟩) (.slice none 0 0) (.slice none 0 0) := (heap_set_other w2 (show G ≠ b by omega) 1 _).trans g2
    have e3 : Pt b w (w2.setCell ⟨b, 1, none⟩ (.int .i64 (q : Int))) := Pt.set g3 1 _
    exact ⟨e1.under hV, e2.under hV, e3.trans_ (Pt.ofB hV)⟩
  obtain ⟨c0, c1, -, -, f1, -, -⟩ := g1.cells
  obtain ⟨U, hU⟩ : ∃ U, w2.setCell ⟨b, 1, none⟩ (.int .i64 (q : Int)) = U := ⟨_, rfl⟩
  rw [hU] at HK2
  have HU := hid hU
  have HSl : Hid (∀ V, Zr b s q V → Pt b w V → D4 V G (.int .i64 0) (.string ⟨#[]⟩) (.slice none 0 0) (.slice none 0 0) → True) := hid fun _ _ _ _ => trivial
  clear HK g1 g2 g3 hb2 hU hW
  by_cases he0 : 0 < T.size
  · have he := notEmpty_of T he0
    have he2 : (T.toList != []) = true := by
      cases hq : T.toList with
      | nil => rw [hq] at he; cases he
      | cons x r => rfl
    have HNu := hid (z_number T U he0 HTs.out.1)
    rw [HTr.out.1] at HNu
    clear he0
    go_wp2_with fail
    rw [HU.out]
    refine HNu.out.mono ?_
    clear HNu
    rintro e w3 ⟨hn, hw⟩
    obtain rfl : U = w3 := hw.symm
    clear hw he he2 c0 c1 f1
    unfold NuO at hn
    rcases hn with ⟨hn, rfl⟩ | ⟨hn, hn2, rfl⟩ | ⟨hn, hn2, rfl⟩
    · skip
      have HA := hid (atL_not hn)
      have q1 : (T.toList == [35, 116]) = decide (L = [35, 116]) := by
        rw [list_eq, HTr.out.1, Bool.eq_iff_iff, beq_iff_eq, decide_eq_true_iff]
      have q2 : (T.toList == [35, 102]) = decide (L = [35, 102]) := by
        rw [list_eq, HTr.out.1, Bool.eq_iff_iff, beq_iff_eq, decide_eq_true_iff]
      clear hn
      by_cases t1 : L = [35, 116]
      · rw [decide_eq_true t1] at q1
        have Ha := hid (HA.out.1 (.inl t1))
        have HTe := hid HTs.out.2.1
        rw [← HTe.out] at Ha
        clear t1 q2 HA HTe
        have HE := hid (zd_leaf HZ.out (HK2.out U (Below.refl _ _)).2.1 (HOk.out _ Ha.out) (by have := HTs.out.1; omega) (HK2.out U (Below.refl _ _)).1 (HK2.out U (Below.refl _ _)).2.2)
        obtain ⟨i0, i1, i2, i3, j0, j1, j2, j3⟩ := (HK2.out U (Below.refl _ _)).2.1.c4
        clear HOk HBd HTr HK2 HTs
        go_wp2
        exact bodyPost_ret (v := .agg #[.int .i64 2, .string T, .slice none 0 0, .slice none 0 0]) (res4 HE.out.1 Tryd.results34 rfl) rfl HE.out.2
      · rw [decide_eq_false t1] at q1
        by_cases t2 : L = [35, 102]
        · rw [decide_eq_true t2] at q2
          have Ha := hid (HA.out.1 (.inr t2))
          have HTe := hid HTs.out.2.1
          rw [← HTe.out] at Ha
          clear t1 t2 HA HTe
          have HE := hid (zd_leaf HZ.out (HK2.out U (Below.refl _ _)).2.1 (HOk.out _ Ha.out) (by have := HTs.out.1; omega) (HK2.out U (Below.refl _ _)).1 (HK2.out U (Below.refl _ _)).2.2)
          obtain ⟨i0, i1, i2, i3, j0, j1, j2, j3⟩ := (HK2.out U (Below.refl _ _)).2.1.c4
          clear HOk HBd HTr HK2 HTs
          go_wp2
          exact bodyPost_ret (v := .agg #[.int .i64 2, .string T, .slice none 0 0, .slice none 0 0]) (res4 HE.out.1 Tryd.results34 rfl) rfl HE.out.2
        · rw [decide_eq_false t2] at q2
          have Ha := hid (HA.out.2 (by rintro (e | e); exact t1 e; exact t2 e))
          have HNm := hid (fun V => z_name T V)
          rw [← HTs.out.2.1] at Ha
          clear t1 t2 HA
          go_wp2_with fail
          refine (HNm.out _).mono ?_
          clear HNm
          rintro e w5 ⟨⟨nm, rfl, hnm⟩, hb5⟩
          cases nm
          · have HA2 := hid (Ha.out.2 (fun h => by have := hnm.2 h; cases this))
            clear Ha hnm
            have HB := hid (z_fail (HK2.out w5 (hb5.out)).1 p 100 HTs.out.2.2)
            have Hg := hid (HK2.out w5 (hb5.out)).2
            have HRR := hid (HBd.out 100 HA2.out)
            clear HOk HBd HTr HK2 HTs
            go_wp2_with fail
            refine HB.out.mono ?_
            clear HB
            rintro e w6 ⟨rfl, HX⟩
            have hg4 := Hg.out.1.part HX.out.2 (fun e => by have := HZ.out.2; omega)
            have HE := hid (zd_bad HZ.out hg4 HRR.out (HX.out.1 100 rfl) (Hg.out.2.trans_ HX.out.2))
            obtain ⟨i0, i1, i2, i3, j0, j1, j2, j3⟩ := hg4.c4
            clear HX Hg hg4
            go_wp2
            exact bodyPost_ret (v := .agg #[.int .i64 0, .string ⟨#[]⟩, .slice none 0 0, .slice none 0 0]) (res4 HE.out.1 Tryd.results34 rfl) rfl HE.out.2
          · have HA2 := hid (Ha.out.1 (hnm.1 rfl))
            have HSy := hid (z_symbol T w5)
            clear Ha hnm
            go_wp2_with fail
            refine HSy.out.mono ?_
            clear HSy
            rintro e w6 ⟨rfl, hb6⟩
            have hb56 := hb5.out.trans (hb6.out.mono hb5.out.size)
            have HE := hid (zd_leaf HZ.out (HK2.out w6 (hb56)).2.1 (HOk.out _ HA2.out) (by have := HTs.out.1; omega) (HK2.out w6 (hb56)).1 (HK2.out w6 (hb56)).2.2)
            obtain ⟨i0, i1, i2, i3, j0, j1, j2, j3⟩ := (HK2.out w6 (hb56)).2.1.c4
            clear HOk HBd HTr HK2 HTs
            go_wp2
            exact bodyPost_ret (v := .agg #[.int .i64 4, .string T, .slice none 0 0, .slice none 0 0]) (res4 HE.out.1 Tryd.results34 rfl) rfl HE.out.2
    · have Ha := hid ((atL_num hn).2 hn2)
      clear hn hn2
      have HB := hid (z_fail (HK2.out U (Below.refl _ _)).1 p 91 HTs.out.2.2)
      have Hg := hid (HK2.out U (Below.refl _ _)).2
      have HRR := hid (HBd.out 91 Ha.out)
      clear HOk HBd HTr HK2 HTs
      go_wp2_with fail
      refine HB.out.mono ?_
      clear HB
      rintro e w6 ⟨rfl, HX⟩
      have hg4 := Hg.out.1.part HX.out.2 (fun e => by have := HZ.out.2; omega)
      have HE := hid (zd_bad HZ.out hg4 HRR.out (HX.out.1 91 rfl) (Hg.out.2.trans_ HX.out.2))
      obtain ⟨i0, i1, i2, i3, j0, j1, j2, j3⟩ := hg4.c4
      clear HX Hg hg4
      go_wp2
      exact bodyPost_ret (v := .agg #[.int .i64 0, .string ⟨#[]⟩, .slice none 0 0, .slice none 0 0]) (res4 HE.out.1 Tryd.results34 rfl) rfl HE.out.2
    · have Ha := hid ((atL_num hn).1 hn2)
      have HSz : Hid ((ba (cnL L)).size ≤ 140737488355328) := hid (by
        have h1 := HTs.out
        have h5 := stp_len (dgT L)
        have h6 : (dgT L).length ≤ L.length := by
          unfold dgT
          split
          · exact Nat.le_refl _
          · split
            · simp
            · exact Nat.le_refl _
        have h7 : L.length = T.size := by rw [h1.2.1]; rfl
        have h4 : (cnL L).length ≤ L.length + 1 := by
          unfold cnL
          split
          · simp
          · split
            · simp; omega
            · omega
        show (cnL L).length ≤ _
        omega)
      clear hn hn2
      have HE := hid (zd_leaf HZ.out (HK2.out U (Below.refl _ _)).2.1 (HOk.out _ Ha.out) HSz.out (HK2.out U (Below.refl _ _)).1 (HK2.out U (Below.refl _ _)).2.2)
      obtain ⟨i0, i1, i2, i3, j0, j1, j2, j3⟩ := (HK2.out U (Below.refl _ _)).2.1.c4
      clear HOk HBd HTr HK2 HTs
      go_wp2
      exact bodyPost_ret (v := .agg #[.int .i64 1, .string (ba (cnL L)), .slice none 0 0, .slice none 0 0]) (res4 HE.out.1 Tryd.results34 rfl) rfl HE.out.2
  · have he := isEmpty_of T he0
    have hLn : L = [] := by
      rw [← HTr.out.1]
      exact dnil he0
    have he2 : (T.toList != []) = false := by
      rw [list_eq, HTr.out.1, hLn]; rfl
    have hn : ¬ numP L := fun h => h.1 (by rw [hLn]; rfl)
    clear he0 hLn
    have hUe := HU.out
    subst hUe
    have HA := hid (atL_not hn)
    have q1 : (T.toList == [35, 116]) = decide (L = [35, 116]) := by
      rw [list_eq, HTr.out.1, Bool.eq_iff_iff, beq_iff_eq, decide_eq_true_iff]
    have q2 : (T.toList == [35, 102]) = decide (L = [35, 102]) := by
      rw [list_eq, HTr.out.1, Bool.eq_iff_iff, beq_iff_eq, decide_eq_true_iff]
    clear hn
    by_cases t1 : L = [35, 116]
    · rw [decide_eq_true t1] at q1
      have Ha := hid (HA.out.1 (.inl t1))
      have HTe := hid HTs.out.2.1
      rw [← HTe.out] at Ha
      clear t1 q2 HA HTe
      have HE := hid (zd_leaf HZ.out (HK2.out _ (Below.refl _ _)).2.1 (HOk.out _ Ha.out) (by have := HTs.out.1; omega) (HK2.out _ (Below.refl _ _)).1 (HK2.out _ (Below.refl _ _)).2.2)
      obtain ⟨i0, i1, i2, i3, j0, j1, j2, j3⟩ := (HK2.out _ (Below.refl _ _)).2.1.c4
      clear HOk HBd HTr HK2 HTs
      go_wp2
      exact bodyPost_ret (v := .agg #[.int .i64 2, .string T, .slice none 0 0, .slice none 0 0]) (res4 HE.out.1 Tryd.results34 rfl) rfl HE.out.2
    · rw [decide_eq_false t1] at q1
      by_cases t2 : L = [35, 102]
      · rw [decide_eq_true t2] at q2
        have Ha := hid (HA.out.1 (.inr t2))
        have HTe := hid HTs.out.2.1
        rw [← HTe.out] at Ha
        clear t1 t2 HA HTe
        have HE := hid (zd_leaf HZ.out (HK2.out _ (Below.refl _ _)).2.1 (HOk.out _ Ha.out) (by have := HTs.out.1; omega) (HK2.out _ (Below.refl _ _)).1 (HK2.out _ (Below.refl _ _)).2.2)
        obtain ⟨i0, i1, i2, i3, j0, j1, j2, j3⟩ := (HK2.out _ (Below.refl _ _)).2.1.c4
        clear HOk HBd HTr HK2 HTs
        go_wp2
        exact bodyPost_ret (v := .agg #[.int .i64 2, .string T, .slice none 0 0, .slice none 0 0]) (res4 HE.out.1 Tryd.results34 rfl) rfl HE.out.2
      · rw [decide_eq_false t2] at q2
        have Ha := hid (HA.out.2 (by rintro (e | e); exact t1 e; exact t2 e))
        have HNm := hid (fun V => z_name T V)
        rw [← HTs.out.2.1] at Ha
        clear t1 t2 HA
        go_wp2_with fail
        refine (HNm.out _).mono ?_
        clear HNm
        rintro e w5 ⟨⟨nm, rfl, hnm⟩, hb5⟩
        cases nm
        · have HA2 := hid (Ha.out.2 (fun h => by have := hnm.2 h; cases this))
          clear Ha hnm
          have HB := hid (z_fail (HK2.out w5 (hb5.out)).1 p 100 HTs.out.2.2)
          have Hg := hid (HK2.out w5 (hb5.out)).2
          have HRR := hid (HBd.out 100 HA2.out)
          clear HOk HBd HTr HK2 HTs
          go_wp2_with fail
          refine HB.out.mono ?_
          clear HB
          rintro e w6 ⟨rfl, HX⟩
          have hg4 := Hg.out.1.part HX.out.2 (fun e => by have := HZ.out.2; omega)
          have HE := hid (zd_bad HZ.out hg4 HRR.out (HX.out.1 100 rfl) (Hg.out.2.trans_ HX.out.2))
          obtain ⟨i0, i1, i2, i3, j0, j1, j2, j3⟩ := hg4.c4
          clear HX Hg hg4
          go_wp2
          exact bodyPost_ret (v := .agg #[.int .i64 0, .string ⟨#[]⟩, .slice none 0 0, .slice none 0 0]) (res4 HE.out.1 Tryd.results34 rfl) rfl HE.out.2
        · have HA2 := hid (Ha.out.1 (hnm.1 rfl))
          have HSy := hid (z_symbol T w5)
          clear Ha hnm
          go_wp2_with fail
          refine HSy.out.mono ?_
          clear HSy
          rintro e w6 ⟨rfl, hb6⟩
          have hb56 := hb5.out.trans (hb6.out.mono hb5.out.size)
          have HE := hid (zd_leaf HZ.out (HK2.out w6 (hb56)).2.1 (HOk.out _ HA2.out) (by have := HTs.out.1; omega) (HK2.out w6 (hb56)).1 (HK2.out w6 (hb56)).2.2)
          obtain ⟨i0, i1, i2, i3, j0, j1, j2, j3⟩ := (HK2.out w6 (hb56)).2.1.c4
          clear HOk HBd HTr HK2 HTs
          go_wp2
          exact bodyPost_ret (v := .agg #[.int .i64 4, .string T, .slice none 0 0, .slice none 0 0]) (res4 HE.out.1 Tryd.results34 rfl) rfl HE.out.2
end Go.Proofs.YtfobiknbjijphaaDoor

namespace Go.Proofs.YtfobiknbjijphaaDoor
open Go.RowKit
set_option linter.unusedVariables false
set_option linter.unusedSimpArgs false

theorem Srcs.below {w V : World} {ve : Value} {m B : Nat} {ys : List Value} (h : Srcs w ve m ys) (hb : Below B w V) (hB : w.heap.size ≤ B) : Srcs V ve m ys := by
  obtain ⟨h1, h2, a, c, h3, h4⟩ := h
  refine ⟨h1, h2, a, c, h3, fun hm => ?_⟩
  obtain ⟨g, o, g1, g2⟩ := h4 hm
  exact ⟨g, o, g1, fun j u hj => by
    have hlt : g < w.heap.size := World.block_lt_of_cell? w _ (g2 j u hj)
    exact (hb.cell (show g < B by omega)).trans (g2 j u hj)⟩
/-- No tail. -/
theorem z_listN {w : World} {acc : List Dt} {a a2 : Option Addr} {c c2 : Nat} {lo : Nat} (h : SS lo none w acc (.slice a acc.length c)) (hlo : lo ≤ w.heap.size) (hc2 : c2 ≤ 9223372036854775807) :
    Calls Tryd.prog 35 #[.slice a acc.length c, .slice a2 0 c2] w fun e w' => e = .returned (.agg #[.int .i64 5, .string ⟨#[]⟩, .slice a acc.length c, .slice a2 0 c2]) ∧ Hid (Below w.heap.size w w' ∧ DS lo none w' (.node 5 ⟨#[]⟩ acc []) (.agg #[.int .i64 5, .string ⟨#[]⟩, .slice a acc.length c, .slice a2 0 c2])) := by
  obtain ⟨G, hG⟩ : ∃ G, w.heap.size = G := ⟨_, rfl⟩
  have HE : Hid (∀ V, V = w.alloc (.cells #[.int .i64 5, .string ⟨#[]⟩, .slice a acc.length c, .slice a2 0 c2] 34) → D4 V G (.int .i64 5) (.string ⟨#[]⟩) (.slice a acc.length c) (.slice a2 0 c2) ∧ Hid (Below G w V ∧ DS lo none V (.node 5 ⟨#[]⟩ acc []) (.agg #[.int .i64 5, .string ⟨#[]⟩, .slice a acc.length c, .slice a2 0 c2]))) := hid fun V hV => by
    subst hV
    have hb : Below w.heap.size w (w.alloc (.cells #[.int .i64 5, .string ⟨#[]⟩, .slice a acc.length c, .slice a2 0 c2] 34)) := (Below.refl _ w).alloc (Nat.le_refl _) _
    refine ⟨heap_alloc_at _ _ _ hG.symm, hid ⟨by rw [← hG]; exact hb, ?_⟩⟩
    exact DS.node (h.nx fun k k1 k2 k3 => ⟨hb.block k k3, k1, by simp⟩) (SS.nil _ _ _ _ _ hc2) 5 ⟨#[]⟩ (by decide)
  clear h
  go_enter Tryd.func35, Tryd.ntmps35
  go_wp2
  try rw [hG]
  obtain ⟨k1, k2⟩ := HE.out _ rfl
  exact bodyPost_ret (v := .agg #[.int .i64 5, .string ⟨#[]⟩, .slice a acc.length c, .slice a2 0 c2]) (res4 k1 Tryd.results35 rfl) rfl ⟨rfl, k2⟩
set_option maxHeartbeats 8000000 in
theorem z_listT {w : World} {acc : List Dt} {x : Dt} {a a2 : Option Addr} {c c2 : Nat} {lo : Nat} (h : SS lo none w acc (.slice a acc.length c)) (h2 : SS lo none w [x] (.slice a2 1 c2)) (hlo : lo ≤ w.heap.size) (hn : acc.length + x.its.length ≤ 1099511627776) :
    Calls Tryd.prog 35 #[.slice a acc.length c, .slice a2 1 c2] w fun e w' => ∃ b1 e1 b2 e2, e = .returned (.agg #[.int .i64 5, .string ⟨#[]⟩, .slice b1 (mkl acc x).its.length e1, .slice b2 (mkl acc x).tl.length e2]) ∧ Hid (Below w.heap.size w w' ∧ DS lo none w' (mkl acc x) (.agg #[.int .i64 5, .string ⟨#[]⟩, .slice b1 (mkl acc x).its.length e1, .slice b2 (mkl acc x).tl.length e2])) := by
  obtain ⟨G, hG⟩ : ∃ G, w.heap.size = G := ⟨_, rfl⟩
  obtain ⟨W1, hW⟩ : ∃ W1, w.alloc (.cells #[.int .i64 0, .string ⟨#[]⟩, .slice none 0 0, .slice none 0 0] 34) = W1 := ⟨_, rfl⟩
  have hB1 : Below w.heap.size w W1 := by rw [← hW]; exact (Below.refl _ w).alloc (Nat.le_refl _) _
  have d1 : D4 W1 G (.int .i64 0) (.string ⟨#[]⟩) (.slice none 0 0) (.slice none 0 0) := by rw [← hW]; exact heap_alloc_at _ _ _ hG.symm
  have hs1 : W1.heap.size = G + 1 := by rw [← hW, World.size_alloc, hG]
  -- the tail's one datum
  obtain ⟨at_, ct, X, ht, hct, hrow, hds⟩ := id h2
  injection ht with ht1 ht2 ht3
  subst ht1; subst ht3
  clear ht2
  obtain ⟨g, o, rfl, hX⟩ := hrow (Nat.succ_pos _)
  have hx0 := hds 0 (Nat.succ_pos _)
  have hx0' : DS lo none w x (vx X 0) := hx0
  obtain ⟨u1, u2, hvx, su1, su2⟩ := hx0'.parts
  obtain ⟨ax, cx, -, hu1, -⟩ := id su1
  obtain ⟨ay, cy, -, hu2, -⟩ := id su2
  subst hu1; subst hu2
  unfold vx at hvx
  injection hvx with hvx
  have e0 := congrArg (fun z => z[0]?) hvx
  have e1 := congrArg (fun z => z[1]?) hvx
  have e2 := congrArg (fun z => z[2]?) hvx
  have e3 := congrArg (fun z => z[3]?) hvx
  simp at e0 e1 e2 e3
  have y0 := (cutW_cell.1 (hX 0 (Nat.succ_pos _) 0 (by decide))).2
  have y2 := (cutW_cell.1 (hX 0 (Nat.succ_pos _) 2 (by decide))).2
  have y3 := (cutW_cell.1 (hX 0 (Nat.succ_pos _) 3 (by decide))).2
  rw [e0] at y0
  rw [e2] at y2
  rw [e3] at y3
  have y0' : w.cell? ⟨g, o, none⟩ = some (.int .i64 x.kd) := y0
  have y2' : w.cell? ⟨g, o + 2, none⟩ = some (.slice ax x.its.length cx) := y2
  have y3' : w.cell? ⟨g, o + 3, none⟩ = some (.slice ay x.tl.length cy) := y3
  have hgw := World.block_lt_of_cell? w _ y0'
  have hgw2 : g < w.heap.size := hgw
  obtain ⟨ys1, s1, t1⟩ := h.cells
  obtain ⟨ys2, s2, t2⟩ := su1.cells
  have HV : Hid (∀ V, Below (G + 1) W1 V → C4 V G (.int .i64 0) (.string ⟨#[]⟩) (.slice none 0 0) (.slice none 0 0) ∧ Srcs V (.slice a acc.length c) acc.length ys1 ∧ Srcs V (.slice ax x.its.length cx) x.its.length ys2 ∧ V.cell? ⟨g, o, none⟩ = some (.int .i64 x.kd) ∧ V.cell? ⟨g, o + 2, none⟩ = some (.slice ax x.its.length cx) ∧ V.cell? ⟨g, o + 3, none⟩ = some (.slice ay x.tl.length cy) ∧ G + 1 ≤ V.heap.size ∧ Below G w V) := hid fun V hV => by
    have hwV : Below G w V := by
      rw [← hG]
      exact hB1.trans (hV.mono (by omega))
    exact ⟨(d1.below hV (Nat.lt_succ_self _)).c4, s1.below hwV (by omega), s2.below hwV (by omega), (hwV.cell (show g < G by omega)).trans y0', (hwV.cell (show g < G by omega)).trans y2', (hwV.cell (show g < G by omega)).trans y3', by have := hV.size; omega, hwV⟩
  obtain ⟨w0, w1, w2, w3, w4, w5, w6, w7⟩ := HV.out W1 (Below.refl _ _)
  obtain ⟨i0, i1, i2, i3, f0, f1, f2, f3⟩ := w0
  by_cases h5 : x.kd = 5
  · have b5 : (x.kd == 5) = true := by rw [h5]; rfl
    have hmk : mkl acc x = .node 5 ⟨#[]⟩ (acc ++ x.its) x.tl := by unfold mkl; rw [if_pos h5]
    obtain ⟨W2, hW2⟩ : ∃ W2, (W1.drewN 1).alloc (.cells #[] 34) = W2 := ⟨_, rfl⟩
    have hb2 : Below (G + 1) W1 W2 := by
      rw [← hW2]
      exact (blw_drewN 1 (Below.refl _ W1)).alloc (by show G + 1 ≤ W1.heap.size; omega) _
    have hE : W2.heap[G + 1]? = some (.cells #[] 34 (0, 0)) := by
      rw [← hW2]; exact heap_alloc_at _ _ _ hs1.symm
    have hown0 : W2.ownsRow (G + 1) 34 4 (.slice (some ⟨G + 1, 0, none⟩) 0 0) 0 [] := ⟨rfl, .inr ⟨G + 1, 0, #[], rfl, Nat.le_refl _, hE, Nat.le_refl _, by decide, rfl, rfl⟩⟩
    have HA := hid (⟨hb2, hown0⟩ : Below (G + 1) W1 W2 ∧ W2.ownsRow (G + 1) 34 4 (.slice (some ⟨G + 1, 0, none⟩) 0 0) 0 [])
    have HG : Hid (∀ (B : Nat) (V V' : World) (v : Value) (k : Nat) (xs : List Value), Below (G + 1) W1 V → V.ownsRow (G + 1) 34 4 v k xs → V.grownBy V' v.ownBlock → Below (G + 1) W1 V') := hid fun B V V' v k xs hV ho hg => by
      refine hV.grown hg ?_ (fun j hj => (World.ownsRow.lt ho j hj).1)
      have := hV.size
      omega
    have HL : Hid (0 + acc.length ≤ 1099511627776 ∧ acc.length + x.its.length ≤ 1099511627776) := hid ⟨by omega, hn⟩
    have HE : Hid (∀ V (a' : Option Addr) (c' : Nat), Below (G + 1) W1 V → V.ownsRow (G + 1) 34 4 (.slice a' (acc.length + x.its.length) c') (acc.length + x.its.length) (ys1 ++ ys2) →
        D4 (set4 V G (.int .i64 5) (.string ⟨#[]⟩) (.slice a' (acc.length + x.its.length) c') (.slice ay x.tl.length cy)) G (.int .i64 5) (.string ⟨#[]⟩) (.slice a' (acc.length + x.its.length) c') (.slice ay x.tl.length cy) ∧
        ∃ b1 e1 b2 e2, Ending.returned (.agg #[.int .i64 5, .string ⟨#[]⟩, .slice a' (acc.length + x.its.length) c', .slice ay x.tl.length cy]) = .returned (.agg #[.int .i64 5, .string ⟨#[]⟩, .slice b1 (mkl acc x).its.length e1, .slice b2 (mkl acc x).tl.length e2]) ∧ Hid (Below G w (set4 V G (.int .i64 5) (.string ⟨#[]⟩) (.slice a' (acc.length + x.its.length) c') (.slice ay x.tl.length cy)) ∧ DS lo none (set4 V G (.int .i64 5) (.string ⟨#[]⟩) (.slice a' (acc.length + x.its.length) c') (.slice ay x.tl.length cy)) (mkl acc x) (.agg #[.int .i64 5, .string ⟨#[]⟩, .slice b1 (mkl acc x).its.length e1, .slice b2 (mkl acc x).tl.length e2]))) := hid fun V a' c' hV ho => by
      obtain ⟨U, hU⟩ : ∃ U, set4 V G (.int .i64 5) (.string ⟨#[]⟩) (.slice a' (acc.length + x.its.length) c') (.slice ay x.tl.length cy) = U := ⟨_, rfl⟩
      have dU : D4 U G (.int .i64 5) (.string ⟨#[]⟩) (.slice a' (acc.length + x.its.length) c') (.slice ay x.tl.length cy) := by
        rw [← hU]; exact (d1.below hV (Nat.lt_succ_self _)).set _ _ _ _
      have pU : Part (fun k => k = G) V U := by rw [← hU]; exact set4_part V G _ _ _ _
      have bU : Below G w U := (HV.out V hV).2.2.2.2.2.2.2.trans (Part.below pU (fun k hk => by show G ≤ k; have : k = G := hk; omega) (by have := hV.size; omega))
      rw [hU]
      refine ⟨dU, a', c', ay, cy, by rw [hmk]; simp [Dt.its, Dt.tl], hid ⟨bU, ?_⟩⟩
      rw [hmk]
      have hoU : U.ownsRow (G + 1) 34 4 (.slice a' (acc.length + x.its.length) c') (acc.length + x.its.length) (ys1 ++ ys2) := pU.row ho (fun k hk e => by
        have := (World.ownsRow.lt ho k hk).1
        omega)
      have hnx : Nx lo none w lo (Value.slice a' (acc.length + x.its.length) c').ownBlock U := fun k k1 k2 k3 => ⟨bU.block k (by omega), k1, fun e => by
        have := (World.ownsRow.lt ho k e.symm).1
        omega⟩
      have hnx0 : Nx lo none w lo none U := fun k k1 k2 k3 => ⟨bU.block k (by omega), k1, by simp⟩
      have hoU2 : U.ownsRow lo 34 4 (.slice a' (acc.length + x.its.length) c') (acc.length + x.its.length) (ys1 ++ ys2) := by
        refine ⟨hoU.1, ?_⟩
        rcases hoU.2 with e | ⟨gg, cap, cur, e1, e2, e3, e4⟩
        · exact .inl e
        · exact .inr ⟨gg, cap, cur, e1, by omega, e3, e4⟩
      have hrow := DRow.of hoU2 s1.1 (fun j hj => (t1 j hj).nx hnx) (fun j hj => (t2 j hj).nx hnx)
      have := DS.node hrow.ss (su2.nx hnx0) 5 ⟨#[]⟩ (by decide)
      simpa [Dt.kd, Dt.tx, Dt.its, Dt.tl] using this
    subst hW2
    have hgG : g < G + 1 := by omega
    clear h h2 hds hX hx0 hx0' su1 su2 s1 s2 t1 t2 d1 hB1 e0 e1 e2 e3 y0 y2 y3 y0' y2' y3' hmk w1 w2 w6 w7 hvx hrow hct hgw hgw2 hlo hn h5 hb2 hE hown0
    go_enter Tryd.func35, Tryd.ntmps35
    go_wp2_with fail
    try rw [hW]
    try rw [hG]
    try go_wp2_with fail
    go_region_law (first | (refine step_push0 rfl _ _ rfl (G + 1) (.slice (some ⟨G + 1, 0, none⟩) 0 0) (.slice a acc.length c) 0 acc.length [] ys1 (by go_simp) (by go_simp) (by exact HA.out.2) (by exact (HV.out _ HA.out.1).2.1) (by exact HL.out.1) (by exact (HV.out _ HA.out.1).2.2.2.2.2.2.1) ?_; intro a1 z1 w6 ho3 hg3 hw3; have hb3 := HG.out 0 _ w6 _ _ _ HA.out.1 HA.out.2 hg3; have ho3' : w6.ownsRow (G + 1) 34 4 (.slice a1 acc.length z1) acc.length ys1 := (by simpa using ho3); obtain ⟨⟨i0, i1, i2, i3, f0, f1, f2, f3⟩, -, -, w3, w4, w5, -, -⟩ := HV.out w6 hb3; clear ho3 hg3 hw3) | (refine step_push0 rfl _ _ rfl (G + 1) (.slice a1 acc.length z1) (.slice ax x.its.length cx) acc.length x.its.length ys1 ys2 (by go_simp) (by go_simp) (by exact ho3') (by exact (HV.out _ hb3).2.2.1) (by exact HL.out.2) (by exact (HV.out _ hb3).2.2.2.2.2.2.1) ?_; intro a4 z4 w7 ho4 hg4 hw4; have hb4 := HG.out 0 _ w7 _ _ _ hb3 ho3' hg4; obtain ⟨⟨i0, i1, i2, i3, f0, f1, f2, f3⟩, -, -, w3, w4, w5, -, -⟩ := HV.out w7 hb4; clear hg4 hw4))
    all_goals
      obtain ⟨k1, b1, z1, b2, z2, k2, k3⟩ := HE.out w7 a4 z4 hb4 ho4
      injection k2 with k2
      clear HV HA HG HL HE
      go_wp2
      refine bodyPost_ret (v := .agg #[.int .i64 5, .string ⟨#[]⟩, .slice a4 (acc.length + x.its.length) z4, .slice ay x.tl.length cy]) (res4 k1 Tryd.results35 rfl) rfl ⟨b1, z1, b2, z2, by rw [k2], by first | exact k3 | (rw [hG]; exact k3)⟩
  · have b5 : (x.kd == 5) = false := by simp; exact h5
    have hmk : mkl acc x = .node 5 ⟨#[]⟩ acc [x] := by unfold mkl; rw [if_neg h5]
    have HE : Hid (D4 (set4 W1 G (.int .i64 5) (.string ⟨#[]⟩) (.slice a acc.length c) (.slice (some ⟨g, o, none⟩) 1 c2)) G (.int .i64 5) (.string ⟨#[]⟩) (.slice a acc.length c) (.slice (some ⟨g, o, none⟩) 1 c2) ∧ ∃ b1 e1 b2 e2, Ending.returned (.agg #[.int .i64 5, .string ⟨#[]⟩, .slice a acc.length c, .slice (some ⟨g, o, none⟩) 1 c2]) = .returned (.agg #[.int .i64 5, .string ⟨#[]⟩, .slice b1 (mkl acc x).its.length e1, .slice b2 (mkl acc x).tl.length e2]) ∧ Hid (Below G w (set4 W1 G (.int .i64 5) (.string ⟨#[]⟩) (.slice a acc.length c) (.slice (some ⟨g, o, none⟩) 1 c2)) ∧ DS lo none (set4 W1 G (.int .i64 5) (.string ⟨#[]⟩) (.slice a acc.length c) (.slice (some ⟨g, o, none⟩) 1 c2)) (mkl acc x) (.agg #[.int .i64 5, .string ⟨#[]⟩, .slice b1 (mkl acc x).its.length e1, .slice b2 (mkl acc x).tl.length e2]))) := hid (by
      have hb : Below G w (set4 W1 G (.int .i64 5) (.string ⟨#[]⟩) (.slice a acc.length c) (.slice (some ⟨g, o, none⟩) 1 c2)) := by
        refine w7.trans (Part.below (set4_part W1 G _ _ _ _) (fun k hk => ?_) (by omega))
        show G ≤ k
        have : k = G := hk
        omega
      refine ⟨d1.set _ _ _ _, a, c, some ⟨g, o, none⟩, c2, by rw [hmk]; rfl, hid ⟨hb, ?_⟩⟩
      rw [hmk]
      have hnx : Nx lo none w lo none (set4 W1 G (.int .i64 5) (.string ⟨#[]⟩) (.slice a acc.length c) (.slice (some ⟨g, o, none⟩) 1 c2)) := fun k k1 k2 k3 => ⟨hb.block k (by omega), k1, by simp⟩
      exact DS.node (h.nx hnx) (h2.nx hnx) 5 ⟨#[]⟩ (by decide))
    have HW := hid hW
    clear h h2 hds hX hx0 hx0' su1 su2 s1 s2 t1 t2 d1 hB1 e0 e1 e2 e3 y0 y2 y3 y0' y2' y3' hmk w1 w2 w6 w7 HV hvx hrow hct hgw hgw2 hs1 hlo hn h5
    go_enter Tryd.func35, Tryd.ntmps35
    go_wp2_with fail
    try rw [hW]
    try rw [hG]
    try go_wp2_with fail
    obtain ⟨k1, b1, z1, b2, z2, k2, k3⟩ := HE.out
    injection k2 with k2
    refine bodyPost_ret (v := .agg #[.int .i64 5, .string ⟨#[]⟩, .slice a acc.length c, .slice (some ⟨g, o, none⟩) 1 c2]) (res4 k1 Tryd.results35 rfl) rfl ⟨b1, z1, b2, z2, by rw [k2], by first | exact k3 | (rw [hG]; exact k3)⟩
end Go.Proofs.YtfobiknbjijphaaDoor
