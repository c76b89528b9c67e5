/-
  The program's digitsOf.
  The program's reader: a piece.
-/
import Derived.Test.YtfobiknbjijphaaDoorGal
import Derived.Test.YtfobiknbjijphaaDoorGam
namespace Go.Proofs.YtfobiknbjijphaaDoor
open Go.RowKit
set_option linter.unusedVariables false
set_option linter.unusedSimpArgs false

def dsL : List UInt8 := [48, 49, 50, 51, 52, 53, 54, 55, 56, 57]
theorem ds_has (c : UInt8) : dsL.contains c = dgB c := all256 (p := fun c => dsL.contains c = dgB c) (by decide +kernel) c
theorem dw_nil {p : UInt8 → Bool} : ∀ l : List UInt8, l.dropWhile p = [] ↔ ∀ c ∈ l, p c = true
  | [] => by simp
  | x :: r => by
    cases h : p x
    · simp [List.dropWhile, h]
    · simp [List.dropWhile, h, dw_nil r]
theorem dw_head {p : UInt8 → Bool} : ∀ (l : List UInt8) (y : UInt8) (r : List UInt8), l.dropWhile p = y :: r → p y = false
  | [], y, r, h => by simp at h
  | x :: l, y, r, h => by
    cases hx : p x
    · simp only [List.dropWhile, hx] at h
      injection h with e _
      rw [← e]; exact hx
    · simp only [List.dropWhile, hx] at h
      exact dw_head l y r h
theorem dlen (s : ByteArray) : s.data.toList.length = s.size := by simp
theorem dnil {s : ByteArray} (h : ¬ 0 < s.size) : s.data.toList = [] := List.eq_nil_of_length_eq_zero (by rw [dlen]; omega)
theorem trim_nil (l cs : List UInt8) : Lib.trimS l cs = [] ↔ ∀ c ∈ l, cs.contains c = true := by
  unfold Lib.trimS Lib.trimLeftS Lib.trimRightS
  rw [dw_nil]
  constructor
  · intro h c hc
    cases hd : l.reverse.dropWhile (fun x => cs.contains x) with
    | nil =>
      rw [dw_nil] at hd
      exact hd c (by simpa using hc)
    | cons y r =>
      rw [hd] at h
      have h1 := h y (by simp)
      have h2 := dw_head _ _ _ hd
      rw [h1] at h2
      cases h2
  · intro h x hx
    have hx2 : x ∈ l.reverse.dropWhile (fun x => cs.contains x) := by simpa using hx
    exact h x (by simpa using (List.dropWhile_suffix _).subset hx2)
/-- What cutSign leaves, and the sign. -/
def CutA (s a E : ByteArray) : Prop := (∃ h : 0 < s.size, sgnB s[0] = true ∧ E = s.extract 1 s.size ∧ a = s.extract 0 1) ∨ ((∀ h : 0 < s.size, sgnB s[0] = false) ∧ E = s ∧ a = ⟨#[]⟩)
theorem dt_cutA (s : ByteArray) (w : World) : Calls Tryd.prog 78 #[.string s] w fun e w' => ∃ a E, e = .returned (.tuple #[.string a, .string E]) ∧ Hid (CutA s a E) ∧ Hid (Below w.heap.size w w') := by
  have hB : Hid (∀ q, Below w.heap.size w (w.drewN q)) := fun q => blw_drewN q (Below.refl _ _)
  by_cases h0 : 0 < s.size
  · have he := notEmpty_of s h0
    have l0 : (0 : Int) < (s.size : Int) := by omega
    have l1 : (1 : Int) ≤ (s.size : Int) := by omega
    by_cases h1 : s[0].toNat = 43
    · have d1 : ((s[0].toNat : Int) == 43) = true := by rw [h1]; rfl
      have hs : sgnB s[0] = true := by unfold sgnB; rw [h1]; rfl
      have HR : Hid (CutA s (s.extract 0 1) (s.extract 1 s.size)) := .inl ⟨h0, hs, rfl, rfl⟩
      clear h1 hs
      go_enter Tryd.func78, Tryd.ntmps78
      go_wp2
      go_region
      all_goals
        go_wp2
        go_ret2
        exact ⟨_, _, rfl, HR, hB.out _⟩
    · by_cases h2 : s[0].toNat = 45
      · have d1 : ((s[0].toNat : Int) == 43) = false := by rw [h2]; rfl
        have d2 : ((s[0].toNat : Int) == 45) = true := by rw [h2]; rfl
        have hs : sgnB s[0] = true := by unfold sgnB; rw [h2]; rfl
        have HR : Hid (CutA s (s.extract 0 1) (s.extract 1 s.size)) := .inl ⟨h0, hs, rfl, rfl⟩
        clear h1 h2 hs
        go_enter Tryd.func78, Tryd.ntmps78
        go_wp2
        go_region
        all_goals
          go_wp2
          go_ret2
          exact ⟨_, _, rfl, HR, hB.out _⟩
      · have d1 : ((s[0].toNat : Int) == 43) = false := by simp; omega
        have d2 : ((s[0].toNat : Int) == 45) = false := by simp; omega
        have hs : sgnB s[0] = false := by unfold sgnB; simp; omega
        have HR : Hid (CutA s ⟨#[]⟩ s) := .inr ⟨fun _ => hs, rfl, rfl⟩
        clear h1 h2 hs
        go_enter Tryd.func78, Tryd.ntmps78
        go_wp2
        go_ret2
        exact ⟨_, _, rfl, HR, Below.refl _ _⟩
  · have he := isEmpty_of s h0
    have HR : Hid (CutA s ⟨#[]⟩ s) := .inr ⟨fun h => absurd h h0, rfl, rfl⟩
    clear h0
    go_enter Tryd.func78, Tryd.ntmps78
    go_wp2
    go_ret2
    exact ⟨_, _, rfl, HR, Below.refl _ _⟩
theorem data_cons {s : ByteArray} (h : 0 < s.size) : s.data.toList = s[0] :: (s.extract 1 s.size).data.toList := by
  have e1 : s.data.toList = rst s 0 := by simp [rst]
  rw [e1, rst_cons h, ext_all]
theorem CutA.dg {s a E : ByteArray} (h : CutA s a E) : E.data.toList = dgT s.data.toList := by
  rcases h with ⟨h0, h1, rfl, -⟩ | ⟨h1, rfl, -⟩
  · rw [data_cons h0]
    simp [dgT, h1]
  · by_cases h0 : 0 < E.size
    · rw [data_cons h0]
      simp [dgT, h1 h0]
    · have : E.data.toList = [] := dnil h0
      rw [this]; rfl
theorem CutA.minus {s a E : ByteArray} (h : CutA s a E) : (a.toList == [45]) = decide (s.data.toList.head? = some 45) := by
  rcases h with ⟨h0, h1, rfl, rfl⟩ | ⟨h1, rfl, rfl⟩
  · have e1 : (s.extract 0 1).toList = [s[0]] := by
      rw [list_eq, ext_list, rst_cons h0]
      simp
    rw [e1, data_cons h0]
    rw [Bool.eq_iff_iff]
    simp
  · by_cases h0 : 0 < E.size
    · rw [data_cons h0]
      have := h1 h0
      have hn : ¬ E[0] = 45 := fun e => by rw [e] at this; exact absurd this (by decide)
      rw [list_eq]
      simp [hn]
    · have : E.data.toList = [] := dnil h0
      rw [this, list_eq]
      rfl
theorem CutA.size {s a E : ByteArray} (h : CutA s a E) : E.size ≤ s.size := by
  rcases h with ⟨h0, h1, rfl, -⟩ | ⟨h1, rfl, -⟩
  · simp
  · exact Nat.le_refl _
theorem stp_len (l : List UInt8) : (stp l).length ≤ l.length := (List.dropWhile_suffix _).length_le
theorem trim0 (l : List UInt8) : Lib.trimLeftS l [48] = stp l := by
  unfold Lib.trimLeftS stp
  congr 1
  funext b
  simp [List.contains, List.elem]
  rcases (b == 48) <;> rfl
theorem ba_empty (l : List UInt8) : (ba l).toList.isEmpty = l.isEmpty := by rw [list_eq]; rfl
theorem ba_data (s : ByteArray) : ba s.data.toList = s := by cases s; rfl
theorem ba_list (l : List UInt8) : (ba l).data.toList = l := rfl
/-- What digitsOf answers. -/
def DgO (s : ByteArray) (e : Ending) : Prop := (numP s.data.toList ∧ e = .returned (.tuple #[.string (ba (cnL s.data.toList)), .bool true])) ∨ (¬ numP s.data.toList ∧ e = .returned (.tuple #[.string ⟨#[]⟩, .bool false]))
set_option maxHeartbeats 2000000 in
theorem rd_digits (s : ByteArray) (w : World) (hs : s.size ≤ 1099511627776) : Calls Tryd.prog 70 #[.string s] w fun e w' => DgO s e ∧ Hid (Below w.heap.size w w') := by
  have HC := hid (dt_cutA s w)
  have HS := hid hs
  clear hs
  go_enter Tryd.func70, Tryd.ntmps70
  go_wp2_with fail
  refine HC.out.mono ?_
  clear HC
  rintro e w1 ⟨a, E, rfl, HA, hb1⟩
  have HEs : Hid (E.size ≤ 1099511627776) := hid (Nat.le_trans HA.out.size HS.out)
  obtain ⟨l, hl⟩ : ∃ l, s.data.toList = l := ⟨_, rfl⟩
  have HD : Hid (E.data.toList = dgT l) := hid (by rw [HA.out.dg, hl])
  have HM : Hid ((a.toList == [45]) = decide (l.head? = some 45)) := hid (by rw [HA.out.minus, hl])
  have HG : Hid (∀ e, ((numP l ∧ e = .returned (.tuple #[.string (ba (cnL l)), .bool true])) ∨ (¬ numP l ∧ e = .returned (.tuple #[.string ⟨#[]⟩, .bool false]))) → DgO s e) := hid (fun e h => by unfold DgO; rw [hl]; exact h)
  clear HA hl
  by_cases h0 : 0 < E.size
  · have he := notEmpty_of E h0
    have HT := hid (Go.Proofs.Tryd.trim_ascii E ⟨#[48, 49, 50, 51, 52, 53, 54, 55, 56, 57]⟩ w1 (by have := HEs.out; omega) (by decide) (ascii_of_all (by decide)))
    have HN : Hid ((Lib.trimS E.data.toList dsL).isEmpty = true ↔ numP l) := hid (by
      rw [List.isEmpty_iff, trim_nil, HD.out]
      unfold numP
      constructor
      · intro h
        refine ⟨fun e => ?_, fun c hc => by rw [← ds_has]; exact h c hc⟩
        have : E.size = 0 := by rw [← dlen, HD.out, e]; rfl
        omega
      · intro h c hc
        rw [ds_has]; exact h.2 c hc)
    obtain ⟨T, hT⟩ : ∃ T, (⟨(Lib.trimS E.data.toList (⟨#[48, 49, 50, 51, 52, 53, 54, 55, 56, 57]⟩ : ByteArray).data.toList).toArray⟩ : ByteArray) = T := ⟨_, rfl⟩
    have HTe : Hid (T.toList.isEmpty = true ↔ numP l) := hid (by rw [← hT]; exact Iff.trans (by rw [list_eq]; rfl) HN.out)
    rw [hT] at HT
    clear hT HN
    go_wp2_with fail
    refine HT.out.mono ?_
    clear HT
    rintro e w2 ⟨rfl, hb2'⟩
    have hb2 := hid (hb1.out.trans (hb2'.mono hb1.out.size))
    clear hb2' hb1
    cases hte : T.toList.isEmpty
    · have HF : Hid (¬ numP l) := hid (fun h => by rw [HTe.out.2 h] at hte; cases hte)
      clear HTe
      go_wp2
      go_ret2
      exact ⟨HG.out _ (.inr ⟨HF.out, rfl⟩), hb2⟩
    · have HF : Hid (numP l) := hid (HTe.out.1 hte)
      have HL := hid (Go.Proofs.Tryd.trimLeft_ascii E ⟨#[48]⟩ w2 (by decide) (ascii_of_all (by decide)))
      have hcs : (⟨(Lib.trimLeftS E.data.toList (⟨#[48]⟩ : ByteArray).data.toList).toArray⟩ : ByteArray) = ba (stp (dgT l)) := by
        show (⟨(Lib.trimLeftS E.data.toList [48]).toArray⟩ : ByteArray) = _
        rw [trim0, HD.out]; rfl
      rw [hcs] at HL
      clear hcs HTe he
      have HSz : Hid ((stp (dgT l)).length ≤ 1099511627776) := hid (by
        have h1 := stp_len (dgT l)
        have h2 := congrArg List.length HD.out
        have h3 := HEs.out
        rw [dlen] at h2
        omega)
      have Hcn : Hid (cnL l = if stp (dgT l) = [] then [48] else if l.head? = some 45 then 45 :: stp (dgT l) else stp (dgT l)) := hid rfl
      go_wp2_with fail
      refine HL.out.mono ?_
      clear HL
      rintro e w3 ⟨rfl, hb3'⟩
      have hb3 := hid (hb2.out.trans (hb3'.mono hb2.out.size))
      clear hb3' hb2
      obtain ⟨d, hd⟩ : ∃ d, stp (dgT l) = d := ⟨_, rfl⟩
      rw [hd] at Hcn HSz ⊢
      obtain ⟨D, hD⟩ : ∃ D, ba d = D := ⟨_, rfl⟩
      have HDe : Hid (D.toList.isEmpty = d.isEmpty) := hid (by rw [← hD, ba_empty])
      have HDs : (D.size : Int) ≤ 1099511627776 := by
        have := HSz.out
        have h2 : D.size = d.length := by rw [← hD]; rfl
        omega
      rw [hD]
      cases hde : D.toList.isEmpty
      · have hdne : d ≠ [] := fun e => by rw [HDe.out, e] at hde; cases hde
        cases hm : decide (l.head? = some 45)
        · have hm2 : (a.toList == [45]) = false := by rw [HM.out, hm]
          have HR : Hid (cnL l = d) := hid (by rw [Hcn.out, if_neg hdne, if_neg (of_decide_eq_false hm)])
          clear HDe hdne hm HM Hcn
          go_wp2
          go_ret2
          exact ⟨HG.out _ (.inl ⟨HF.out, by rw [HR.out, hD]; rfl⟩), hb3⟩
        · have hm2 : (a.toList == [45]) = true := by rw [HM.out, hm]
          have HR : Hid (ba (cnL l) = ⟨#[45]⟩ ++ D) := hid (by
            rw [Hcn.out, if_neg hdne, if_pos (of_decide_eq_true hm), ← hD]
            apply ByteArray.ext
            simp [ba])
          have hZ1 : (⟨#[45]⟩ : ByteArray).size = 1 := rfl
          clear HDe hdne hm HM Hcn
          go_wp2_with fail
          all_goals first | (exfalso; clear HG HR hb3 HF; omega) | skip
          go_ret2
          exact ⟨HG.out _ (.inl ⟨HF.out, by rw [HR.out]; rfl⟩), hb3⟩
      · have hdne : d = [] := by
          rw [HDe.out] at hde
          simpa using hde
        have HR : Hid (cnL l = [48]) := hid (by rw [Hcn.out, if_pos hdne])
        clear HDe hdne HM Hcn
        go_wp2
        go_ret2
        exact ⟨HG.out _ (.inl ⟨HF.out, by rw [HR.out]; rfl⟩), hb3⟩
  · have he := isEmpty_of E h0
    have HF : Hid (¬ numP l) := hid (fun h => h.1 (by
      rw [← HD.out]
      exact dnil h0))
    clear h0
    go_wp2
    go_ret2
    exact ⟨HG.out _ (.inr ⟨HF.out, rfl⟩), hb1⟩
end Go.Proofs.YtfobiknbjijphaaDoor

namespace Go.Proofs.YtfobiknbjijphaaDoor
open Go.RowKit
set_option linter.unusedVariables false
set_option linter.unusedSimpArgs false

theorem stp_head {l : List UInt8} {y : UInt8} {r : List UInt8} (h : stp l = y :: r) : y ≠ 48 := by
  have := dw_head _ _ _ h
  simpa using this
theorem can_cn {s : List UInt8} (h : numP s) : canP (cnL s) ↔ (stp (dgT s)).length ≤ 200 := by
  have hd : ∀ c ∈ stp (dgT s), dgB c = true := fun c hc => h.2 c ((List.dropWhile_suffix _).subset hc)
  unfold cnL
  cases hs : stp (dgT s) with
  | nil =>
    rw [if_pos rfl]
    refine ⟨fun _ => Nat.zero_le _, fun _ => .inl ⟨by simp, by simp, fun c hc => ?_, fun _ => rfl⟩⟩
    have : c = 48 := by simpa using hc
    subst this
    exact (dgB_iff _).1 (by decide)
  | cons y r =>
    rw [if_neg (by simp)]
    rw [hs] at hd
    have h48 := stp_head hs
    have hg : digs (y :: r) ↔ (y :: r).length ≤ 200 := ⟨fun g => g.2.1, fun g => ⟨by simp, g, fun c hc => (dgB_iff _).1 (hd c hc), fun e => absurd (by simpa using e) h48⟩⟩
    split
    · rw [← hg]
      constructor
      · rintro (g | ⟨r2, e, g, _⟩)
        · have := g.2.2.1 45 (by simp)
          unfold isDg at this
          exact absurd this.1 (by decide)
        · injection e with _ e2
          rw [e2]; exact g
      · intro g
        exact .inr ⟨_, rfl, g, fun e => h48 (by simpa using e)⟩
    · rw [← hg]
      constructor
      · rintro (g | ⟨r2, e, g, _⟩)
        · exact g
        · injection e with e1 e2
          have := hd y (by simp)
          rw [e1] at this
          exact absurd this (by decide)
      · exact .inl
theorem Pt.set4_ {b g : Nat} {w wr : World} (h : Pt b w wr) (hg : w.heap.size ≤ g) (u0 u1 u2 u3 : Value) : Pt b w (set4 wr g u0 u1 u2 u3) :=
  Part.trans h (set4_part wr g u0 u1 u2 u3) (fun i hi e => by omega)
/-- A datum without items. -/
def LeafV (d : Dt) (v : Value) : Prop := ∃ k t, d = .node k t [] [] ∧ v = .agg #[.int .i64 k, .string t, .slice none 0 0, .slice none 0 0] ∧ t.size ≤ 1099511627777
/-- What piece answers. -/
def PcO (b : Nat) (s : ByteArray) (p o : Nat) (w : World) (e : Ending) (w' : World) : Prop :=
  (∃ d v q, e = .returned v ∧ Hid (atL ((rst s p).take (pcL (rst s p))) = .ok d ∧ rst s q = (rst s p).drop (pcL (rst s p)) ∧ Rr b s q o w' ∧ Pt b w w' ∧ LeafV d v)) ∨
  (∃ n, Pnc e ∧ Hid (atL ((rst s p).take (pcL (rst s p))) = .bad n ∧ Flt b s (s.size - p) n w' ∧ Pt b w w'))
theorem z4 : (4 : Nat) = 4 := rfl
set_option maxHeartbeats 4000000 in
theorem rd_piece {b : Nat} {s : ByteArray} {p o : Nat} {w : World} (h : Rr b s p o w) : Calls Tryd.prog 52 #[.pointer (some ⟨b, 0, none⟩)] w fun e w' => PcO b s p o w e w' := by
  obtain ⟨G, hG⟩ : ∃ G, w.heap.size = G := ⟨_, rfl⟩
  obtain ⟨W1, hW⟩ : ∃ W1, w.alloc (.cells #[.int .i64 0, .string ⟨#[]⟩, .slice none 0 0, .slice none 0 0] 34) = W1 := ⟨_, rfl⟩
  have hbG : b < G := by rw [← hG]; exact h.lt
  have hB1 : Below w.heap.size w W1 := by rw [← hW]; exact (Below.refl _ w).alloc (Nat.le_refl _) _
  have r1 : Rr b s p o W1 := h.under hB1
  have d1 : D4 W1 G (.int .i64 0) (.string ⟨#[]⟩) (.slice none 0 0) (.slice none 0 0) := by rw [← hW]; exact heap_alloc_at _ _ _ hG.symm
  obtain ⟨N, hN⟩ : ∃ N, pcL (rst s p) = N := ⟨_, rfl⟩
  have hNs : p + N ≤ s.size := by
    have := pcL_le (rst s p)
    have h2 := h.1.1
    rw [rst_len] at this
    omega
  have HE := hid (rd_end r1)
  obtain ⟨L, hL⟩ : ∃ L, (rst s p).take N = L := ⟨_, rfl⟩
  obtain ⟨T, hT⟩ : ∃ T, s.extract p (p + N) = T := ⟨_, rfl⟩
  have hTL : T.data.toList = L := by rw [← hT, ext_list, ← hL]; congr 1; omega
  have hTb : ba L = T := by rw [← hTL, ba_data]
  have hTs : T.size ≤ 1099511627776 := by
    have h2 := h.1.2.1
    rw [← hT]
    simp
    omega
  obtain ⟨q, hq⟩ : ∃ q, p + N = q := ⟨_, rfl⟩
  rw [hN, hq] at HE
  rw [hq] at hT
  have hqs : q ≤ s.size := by omega
  -- what is kept from here on
  have HK : Hid (∀ V, Below W1.heap.size (W1.setCell ⟨b, 1, none⟩ (.int .i64 (q : Int))) V → Rr b s q o V ∧ D4 V G (.int .i64 0) (.string ⟨#[]⟩) (.slice none 0 0) (.slice none 0 0) ∧ Pt b w V) := hid fun V hV => by
    have e1 : Rr b s q o (W1.setCell ⟨b, 1, none⟩ (.int .i64 (q : Int))) := r1.at_ q hqs
    have e2 : D4 (W1.setCell ⟨b, 1, none⟩ (.int .i64 (q : Int))) G (.int .i64 0) (.string ⟨#[]⟩) (.slice none 0 0) (.slice none 0 0) := by
      have := heap_set_other W1 (show G ≠ b by omega) 1 (.int .i64 (q : Int))
      exact this.trans d1
    have hsz : (W1.setCell ⟨b, 1, none⟩ (.int .i64 (q : Int))).heap.size = W1.heap.size := by simp [World.setCell]
    have hV' : Below (W1.setCell ⟨b, 1, none⟩ (.int .i64 (q : Int))).heap.size (W1.setCell ⟨b, 1, none⟩ (.int .i64 (q : Int))) V := by rw [hsz]; exact hV
    exact ⟨e1.under hV', e2.under hV', (Pt.set (Pt.ofB hB1) 1 _).trans_ (Pt.ofB hV')⟩
  have HO : Hid (∀ V d v, Rr b s q o V → Pt b w V → atL L = .ok d → LeafV d v → PcO b s p o w (.returned v) V) := hid fun V d v h1 h2 h3 h4 => by
    refine .inl ⟨d, v, q, rfl, ?_, ?_, h1, h2, h4⟩
    · rw [hN, hL]; exact h3
    · rw [hN, rst_drop, hq]
  have HX : Hid (∀ V n e, Pnc e → Flt b s (s.size - p) n V → Pt b w V → atL L = .bad n → PcO b s p o w e V) := hid fun V n e h1 h2 h3 h4 => .inr ⟨n, h1, by rw [hN, hL]; exact h4, h2, h3⟩
  have hat : Hid (∀ dt, ((T.toList == [35, 116]) || (T.toList == [35, 102])) = dt → ((dt = true → atL L = .ok (.node 2 T [] [])) ∧ (dt = false → (nameP T → atL L = .ok (.node 4 T [] [])) ∧ (¬ nameP T → (numP L → ((stp (dgT L)).length ≤ 200 → atL L = .ok (.node 1 (ba (cnL L)) [] [])) ∧ (¬ (stp (dgT L)).length ≤ 200 → atL L = .bad 91)) ∧ (¬ numP L → atL L = .bad 100))))) := hid fun dt e => by
    have e2 : (L = [35, 116] ∨ L = [35, 102]) ↔ dt = true := by
      rw [← e, Bool.or_eq_true, beq_iff_eq, beq_iff_eq, list_eq, hTL]
    unfold atL
    rw [hTb]
    refine ⟨fun h1 => if_pos (e2.2 h1), fun h1 => ?_⟩
    have hn : ¬ (L = [35, 116] ∨ L = [35, 102]) := fun h => by rw [e2.1 h] at h1; cases h1
    rw [if_neg hn]
    refine ⟨fun h2 => if_pos h2, fun h2 => ?_⟩
    rw [if_neg h2]
    exact ⟨fun h3 => by rw [if_pos h3]; exact ⟨fun h4 => if_pos h4, fun h4 => if_neg h4⟩, fun h3 => if_neg h3⟩
  have HTs := hid hTs
  have HTL := hid hTL
  obtain ⟨y0, y1, -, -, -, f1, -, -, -⟩ := r1.cells
  have l0 : (0 : Int) ≤ (p : Int) := by omega
  have l1 : (p : Int) ≤ (q : Int) := by omega
  have l2 : (q : Int) ≤ (s.size : Int) := by omega
  have lM : (s.size : Int) ≤ 1099511627776 := by have := h.1.2.1; omega
  have HP : Hid (p ≤ s.size ∧ b < G ∧ w.heap.size ≤ G) := hid ⟨h.1.1, hbG, by omega⟩
  clear h hbG hB1 r1 d1 hNs hL hTL hTb hTs hqs hN hq
  go_enter Tryd.func52, Tryd.ntmps52
  go_wp2_with fail
  try rw [hW]
  try rw [hG]
  try go_wp2_with fail
  refine HE.out.mono ?_
  rintro e w2 ⟨rfl, hw⟩
  obtain rfl : W1 = w2 := hw.symm
  clear hw HE hW
  go_wp2
  obtain ⟨k0, k1, -, -, -, -, -, -, -⟩ := (HK.out _ (Below.refl _ _)).1.cells
  have HB : Hid (∀ n, Below W1.heap.size (W1.setCell ⟨b, 1, none⟩ (.int .i64 (q : Int))) ((W1.setCell ⟨b, 1, none⟩ (.int .i64 (q : Int))).drewN n)) := hid fun n => blw_drewN n (Below.refl _ _)
  obtain ⟨dt, hdt⟩ : ∃ dt, ((T.toList == [35, 116]) || (T.toList == [35, 102])) = dt := ⟨_, rfl⟩
  have HTR := hid (fun V => dt_truth T V)
  simp only [hdt] at HTR
  have hat2 := hid (hat.out dt hdt)
  clear y0 y1 f1 hat hdt
  go_region
  all_goals
    try rw [hT]
    go_wp2_with fail
    refine (HTR.out _).mono ?_
    rintro e w2 ⟨rfl, hw⟩
    have HW := hid (HK.out w2 (by rw [hw]; exact HB.out 1))
    clear HTR hw HK HB k0 k1
    cases dt
    · have HE2 := hat2.out.2 rfl
      have HN := hid (dt_name T w2)
      clear hat2
      go_wp2_with fail
      refine HN.out.mono ?_
      clear HN
      rintro e w3 ⟨⟨nm, rfl, hnm⟩, hb3⟩
      have HW3 := hid (show Rr b s q o w3 ∧ D4 w3 G (.int .i64 0) (.string ⟨#[]⟩) (.slice none 0 0) (.slice none 0 0) ∧ Pt b w w3 from ⟨HW.out.1.under hb3.out, HW.out.2.1.under hb3.out, HW.out.2.2.trans_ (Pt.ofB hb3.out)⟩)
      clear hb3 HW
      cases nm
      · have HE3 := hid (HE2.2 (fun h => by have := hnm.2 h; cases this))
        have HD := hid (rd_digits T w3 HTs.out)
        clear hnm HE2
        go_wp2_with fail
        refine HD.out.mono ?_
        clear HD
        rintro e w4 ⟨hd, hb4⟩
        have HW4 := hid (show Rr b s q o w4 ∧ D4 w4 G (.int .i64 0) (.string ⟨#[]⟩) (.slice none 0 0) (.slice none 0 0) ∧ Pt b w w4 from ⟨HW3.out.1.under hb4.out, HW3.out.2.1.under hb4.out, HW3.out.2.2.trans_ (Pt.ofB hb4.out)⟩)
        clear hb4 HW3
        unfold DgO at hd
        rw [HTL.out] at hd
        rcases hd with ⟨hn, rfl⟩ | ⟨hn, rfl⟩
        · have HE4 := hid (HE3.out.1 hn)
          have HC := hid (nCan (ba (cnL L)) w4)
          have hcc : (ba (cnL L)).data.toList = cnL L := rfl
          rw [hcc] at HC
          have hcn := can_cn hn
          have hcs : (ba (cnL L)).size ≤ 1099511627777 := by
            have h1 := HTs.out
            have h2 := HTL.out
            have h3 := congrArg List.length h2
            rw [dlen] at h3
            have h4 : (cnL L).length ≤ L.length + 1 := by
              have h5 := stp_len (dgT L)
              have h6 : (dgT L).length ≤ L.length := by
                unfold dgT
                split
                · exact Nat.le_refl _
                · split
                  · simp
                  · exact Nat.le_refl _
              unfold cnL
              split
              · simp
              · split
                · simp; omega
                · omega
            show (cnL L).length ≤ _
            omega
          have hcz := hid hcs
          clear hcc hcs hn HE3
          obtain ⟨cn, hcne⟩ : ∃ cn, ba (cnL L) = cn := ⟨_, rfl⟩
          rw [hcne] at HC hcz HE4
          rw [hcne]
          go_wp2_with fail
          refine HC.out.mono ?_
          clear HC
          rintro e w5 ⟨⟨ok, rfl, hok⟩, rfl⟩
          have hq2 := hid (hok.trans hcn)
          clear hok hcn
          cases ok
          · have HE5 := hid (HE4.out.2 (fun h => by have := hq2.out.2 h; cases this))
            have HG := hid (rd_giveUp HW4.out.1 p 91 HP.out.1)
            clear HE4 hq2 
            go_wp2_with fail
            refine HG.out.mono ?_
            rintro e w6 ⟨⟨v, rfl⟩, hf, hp⟩
            have HF := hid (HX.out w6 91 (.panicked [{ v := .iface 44 v, recovered := false }]) ⟨v, rfl⟩ (hf.out 91 rfl) (HW4.out.2.2.trans_ hp.out) HE5.out)
            clear hf hp HG HX HO HE5
            go_wp2
            refine ⟨rfl, ?_⟩
            exact HF.out
          · have HE5 := hid (HE4.out.1 (hq2.out.1 rfl))
            obtain ⟨e0, e1, e2, e3, g0, g1, g2, g3⟩ := HW4.out.2.1.c4
            clear HE4 hq2
            go_wp2
            refine bodyPost_ret (v := .agg #[.int .i64 1, .string cn, .slice none 0 0, .slice none 0 0]) (res4 (HW4.out.2.1.set _ _ _ _) Tryd.results52 rfl) rfl ?_
            exact HO.out _ _ _ (HW4.out.1.part (set4_part w5 G _ _ _ _) (fun e => by have := HP.out.2.1; omega)) (Pt.set4_ HW4.out.2.2 HP.out.2.2 _ _ _ _) HE5.out ⟨_, _, rfl, rfl, hcz.out⟩
        · have HE5 := hid (HE3.out.2 hn)
          have HG := hid (rd_giveUp HW4.out.1 p 100 HP.out.1)
          clear HE3 hn
          go_wp2_with fail
          refine HG.out.mono ?_
          rintro e w6 ⟨⟨v, rfl⟩, hf, hp⟩
          have HF := hid (HX.out w6 100 (.panicked [{ v := .iface 44 v, recovered := false }]) ⟨v, rfl⟩ (hf.out 100 rfl) (HW4.out.2.2.trans_ hp.out) HE5.out)
          clear hf hp HG HX HO HE5
          go_wp2
          refine ⟨rfl, ?_⟩
          exact HF.out
      · have HE3 := hid (HE2.1 (hnm.1 rfl))
        obtain ⟨e0, e1, e2, e3, g0, g1, g2, g3⟩ := HW3.out.2.1.c4
        clear hnm HE2
        go_wp2
        refine bodyPost_ret (v := .agg #[.int .i64 4, .string T, .slice none 0 0, .slice none 0 0]) (res4 (HW3.out.2.1.set _ _ _ _) Tryd.results52 rfl) rfl ?_
        exact HO.out _ _ _ (HW3.out.1.part (set4_part w3 G _ _ _ _) (fun e => by have := HP.out.2.1; omega)) (Pt.set4_ HW3.out.2.2 HP.out.2.2 _ _ _ _) HE3.out ⟨_, _, rfl, rfl, by have := HTs.out; omega⟩
    · have HE2 := hid (hat2.out.1 rfl)
      obtain ⟨e0, e1, e2, e3, g0, g1, g2, g3⟩ := HW.out.2.1.c4
      clear hat2
      go_wp2
      refine bodyPost_ret (v := .agg #[.int .i64 2, .string T, .slice none 0 0, .slice none 0 0]) (res4 (HW.out.2.1.set _ _ _ _) Tryd.results52 rfl) rfl ?_
      exact HO.out _ _ _ (HW.out.1.part (set4_part w2 G _ _ _ _) (fun e => by have := HP.out.2.1; omega)) (Pt.set4_ HW.out.2.2 HP.out.2.2 _ _ _ _) HE2.out ⟨_, _, rfl, rfl, by have := HTs.out; omega⟩
end Go.Proofs.YtfobiknbjijphaaDoor
