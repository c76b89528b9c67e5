/-
  What a text's data are: how the functions of RdA go, step by step; what is read is no longer than its text.
  The program's reader: a string's bytes.
-/
import Derived.Test.YtfobiknbjijphaaDoorGam
import Derived.Test.YtfobiknbjijphaaDoorGan
import Derived.Test.YtfobiknbjijphaaDoorGal
namespace Go.Proofs.YtfobiknbjijphaaDoor
open Go.RowKit
set_option linter.unusedVariables false
set_option linter.unusedSimpArgs false

theorem rdD_nil {n : Nat} {l : List UInt8} (h : skB false l = []) : rdD n l = .bad 0 100 := by
  cases n <;> simp only [rdD, h]
theorem rdD_str {n : Nat} {l r : List UInt8} (h : skB false l = 34 :: r) : rdD n l = match stL (r.length + 1) [] r with | .bad k n => .bad k n | .ok t r2 => .ok (.node 3 (ba t) [] []) r2 := by
  cases n <;> simp only [rdD, h] <;> rw [if_pos trivial] <;> cases stL (r.length + 1) [] r <;> rfl
theorem rdD_piece {n : Nat} {l r : List UInt8} {c : UInt8} (h : skB false l = c :: r) (h1 : c ≠ 34) (h2 : opn (c :: r) = 0) : rdD n l = match atL ((c :: r).take (pcL (c :: r))) with | .bad n => .bad (r.length + 1) n | .ok d => .ok d ((c :: r).drop (pcL (c :: r))) := by
  cases n <;> simp only [rdD, h] <;> rw [if_neg h1, if_pos h2] <;> cases atL ((c :: r).take (pcL (c :: r))) <;> rfl
theorem opn_34 {c : UInt8} {r : List UInt8} (h : opn (c :: r) ≠ 0) : c ≠ 34 := by
  rintro rfl
  exact h rfl
theorem rdD_deep {l r : List UInt8} {c : UInt8} (h : skB false l = c :: r) (h2 : opn (c :: r) ≠ 0) : rdD 0 l = .bad (r.length + 1) 7 := by
  simp only [rdD, h, opn_34 h2, h2, if_false]
theorem rdD_list {n : Nat} {l r : List UInt8} (h : skB false l = 40 :: r) : rdD (n + 1) l = itL (rdD n) false (r.length + 1) [] r := by
  simp only [rdD, h]
  rfl
theorem rdD_vec {n : Nat} {l r : List UInt8} (h : skB false l = 35 :: 40 :: r) : rdD (n + 1) l = itL (rdD n) true (r.length + 2) [] r := by
  simp only [rdD, h]
  rfl
theorem rdD_quote {n : Nat} {l r : List UInt8} (h : skB false l = 39 :: r) : rdD (n + 1) l = match rdD n r with | .bad k n => .bad k n | .ok x r2 => .ok (.node 5 ⟨#[]⟩ [quoD, x] []) r2 := by
  simp only [rdD, h]
  rfl
theorem rdD_skip (n : Nat) (l : List UInt8) : rdD n (skB false l) = rdD n l := by
  cases n <;> simp only [rdD, skB_idem]
/-- A reader that gets on, and makes no more than it reads. -/
def Gets (rd : List UInt8 → Rs Dt) : Prop := ∀ l d r, rd l = .ok d r → d.its.length + r.length ≤ l.length ∧ r.length < l.length ∧ ∃ j, r = l.drop j
theorem skB_drop (l : List UInt8) : ∃ j, skB false l = l.drop j := by
  obtain ⟨k, _, h⟩ := skB_suf false l
  exact ⟨k, h⟩
theorem its_mkl (acc : List Dt) (x : Dt) : (mkl acc x).its.length ≤ acc.length + x.its.length := by
  unfold mkl
  split
  · simp [Dt.its]
  · simp [Dt.its]
theorem suf_tail {α : Type} {l r : List α} {c : α} (h : ∃ j, c :: r = l.drop j) : ∃ j, r = l.drop j := by
  obtain ⟨j, h⟩ := h
  refine ⟨j + 1, ?_⟩
  have := congrArg List.tail h
  simpa using this
theorem suf_trans {α : Type} {a b c : List α} (h : ∃ j, b = a.drop j) (k : ∃ j, c = b.drop j) : ∃ j, c = a.drop j := by
  obtain ⟨i, rfl⟩ := h
  obtain ⟨j, rfl⟩ := k
  exact ⟨i + j, by rw [List.drop_drop]⟩
theorem itL_gets {rd : List UInt8 → Rs Dt} (hr : Gets rd) (vec : Bool) : ∀ (f : Nat) (acc : List Dt) (l : List UInt8) (d : Dt) (r : List UInt8), itL rd vec f acc l = .ok d r → d.its.length + r.length ≤ acc.length + l.length ∧ r.length < l.length ∧ ∃ j, r = l.drop j
  | 0, acc, l, d, r, h => by simp [itL] at h
  | f + 1, acc, l, d, r, h => by
    have hs := skB_len false l
    have hd := skB_drop l
    simp only [itL] at h
    split at h
    · cases h
    · rename_i c r1 e
      rw [e] at hs hd
      simp only [List.length_cons] at hs
      split at h
      · injection h with e1 e2
        subst e1; subst e2
        exact ⟨by simp [Dt.its]; omega, by omega, suf_tail hd⟩
      · split at h
        · split at h
          · cases h
          · rename_i x r2 e2
            obtain ⟨g1, g2, g3⟩ := hr _ _ _ e2
            split at h
            · cases h
            · rename_i c3 r3 e3
              have hs3 := skB_len false r2
              have hd3 := skB_drop r2
              rw [e3] at hs3 hd3
              simp only [List.length_cons] at hs3
              split at h
              · injection h with q1 q2
                subst q1; subst q2
                have := its_mkl acc x
                exact ⟨by omega, by omega, suf_trans (suf_tail hd) (suf_trans g3 (suf_tail hd3))⟩
              · cases h
        · split at h
          · cases h
          · rename_i x r2 e2
            obtain ⟨g1, g2, g3⟩ := hr _ _ _ e2
            obtain ⟨q1, q2, q3⟩ := itL_gets hr vec f _ _ _ _ h
            simp only [List.length_append, List.length_cons, List.length_nil] at q1 g1 g2
            exact ⟨by omega, by omega, suf_trans hd (suf_trans g3 q3)⟩
theorem atL_its {s : List UInt8} {d : Dt} (h : atL s = .ok d) : d.its = [] ∧ s ≠ [] := by
  unfold atL at h
  split at h
  · rename_i g
    injection h with h
    subst h
    exact ⟨rfl, by rcases g with rfl | rfl <;> simp⟩
  · split at h
    · rename_i g
      injection h with h
      subst h
      exact ⟨rfl, by rintro rfl; exact absurd g.1 (by decide)⟩
    · split at h
      · rename_i g
        split at h
        · injection h with h
          subst h
          exact ⟨rfl, by rintro rfl; exact g.1 rfl⟩
        · cases h
      · cases h
theorem rdD_gets : ∀ n : Nat, Gets (rdD n) := by
  intro n
  induction n with
  | zero =>
    intro l d r h
    have hs := skB_len false l
    have hd := skB_drop l
    cases e : skB false l with
    | nil => rw [rdD_nil e] at h; cases h
    | cons c r1 =>
      rw [e] at hs hd
      simp only [List.length_cons] at hs
      by_cases h34 : c = 34
      · subst h34
        rw [rdD_str e] at h
        split at h
        · cases h
        · rename_i t r2 e2
          injection h with q1 q2
          subst q1; subst q2
          obtain ⟨g1, j, g2, g3⟩ := stL_len _ _ _ _ _ e2
          simp only [List.length_nil] at g1
          exact ⟨by simp [Dt.its]; omega, by omega, suf_trans (suf_tail hd) ⟨j, g3⟩⟩
      · by_cases ho : opn (c :: r1) = 0
        · rw [rdD_piece e h34 ho] at h
          split at h
          · cases h
          · rename_i x e2
            injection h with q1 q2
            subst q1; subst q2
            obtain ⟨g1, g2⟩ := atL_its e2
            have h0 : pcL (c :: r1) ≠ 0 := fun e0 => g2 (by rw [e0]; rfl)
            refine ⟨?_, ?_, suf_trans hd ⟨_, rfl⟩⟩
            · rw [g1]; simp only [List.length_drop, List.length_cons, List.length_nil]; omega
            · simp only [List.length_drop, List.length_cons]; omega
        · rw [rdD_deep e ho] at h; cases h
  | succ n ih =>
    intro l d r h
    have hs := skB_len false l
    have hd := skB_drop l
    cases e : skB false l with
    | nil => rw [rdD_nil e] at h; cases h
    | cons c r1 =>
      rw [e] at hs hd
      simp only [List.length_cons] at hs
      by_cases h34 : c = 34
      · subst h34
        rw [rdD_str e] at h
        split at h
        · cases h
        · rename_i t r2 e2
          injection h with q1 q2
          subst q1; subst q2
          obtain ⟨g1, j, g2, g3⟩ := stL_len _ _ _ _ _ e2
          simp only [List.length_nil] at g1
          exact ⟨by simp [Dt.its]; omega, by omega, suf_trans (suf_tail hd) ⟨j, g3⟩⟩
      · by_cases ho : opn (c :: r1) = 0
        · rw [rdD_piece e h34 ho] at h
          split at h
          · cases h
          · rename_i x e2
            injection h with q1 q2
            subst q1; subst q2
            obtain ⟨g1, g2⟩ := atL_its e2
            have h0 : pcL (c :: r1) ≠ 0 := fun e0 => g2 (by rw [e0]; rfl)
            refine ⟨?_, ?_, suf_trans hd ⟨_, rfl⟩⟩
            · rw [g1]; simp only [List.length_drop, List.length_cons, List.length_nil]; omega
            · simp only [List.length_drop, List.length_cons]; omega
        · unfold opn at ho
          split at ho
          · rename_i r2 e2
            injection e2 with q1 q2
            subst q1; subst q2
            rw [rdD_list e] at h
            obtain ⟨g1, g2, g3⟩ := itL_gets ih false _ _ _ _ _ h
            simp only [List.length_nil] at g1
            exact ⟨by omega, by omega, suf_trans (suf_tail hd) g3⟩
          · rename_i r2 e2
            injection e2 with q1 q2
            subst q1; subst q2
            rw [rdD_quote e] at h
            split at h
            · cases h
            · rename_i x r3 e3
              obtain ⟨g1, g2, g3⟩ := ih _ _ _ e3
              injection h with q1 q2
              subst q1; subst q2
              exact ⟨by simp [Dt.its]; omega, by omega, suf_trans (suf_tail hd) g3⟩
          · rename_i r2 e2
            injection e2 with q1 q2
            subst q1; subst q2
            rw [rdD_vec e] at h
            obtain ⟨g1, g2, g3⟩ := itL_gets ih true _ _ _ _ _ h
            simp only [List.length_nil, List.length_cons] at g1 hs
            exact ⟨by omega, by omega, suf_trans (suf_tail (suf_tail hd)) g3⟩
          · exact absurd rfl ho
end Go.Proofs.YtfobiknbjijphaaDoor

namespace Go.Proofs.YtfobiknbjijphaaDoor
open Go.RowKit
set_option linter.unusedVariables false
set_option linter.unusedSimpArgs false

theorem pre_two {s : ByteArray} {p : Nat} {c x : UInt8} (h : p + 1 < s.size) (h0 : s[p] = c) : [c, x].isPrefixOf (rst s p) = (x == s[p + 1]) := by
  rw [rst_cons (by omega), rst_cons h, h0]
  simp [List.isPrefixOf]
/-- What a byte behind a \ stands for. -/
def escO (c : UInt8) : Option UInt8 := if c = 92 ∨ c = 34 then some c else if c = 110 then some 10 else if c = 116 then some 9 else none
theorem stL_esc (k : Nat) (acc r : List UInt8) (d : UInt8) : stL k acc (92 :: d :: r) = match escO d with | some x => stL k (acc ++ [x]) r | none => .bad (r.length + 2) 100 := by
  unfold escO
  by_cases h1 : d = 92 ∨ d = 34
  · simp [stL, h1]
  · by_cases h2 : d = 110
    · simp [stL, h1, h2]
    · by_cases h3 : d = 116
      · simp [stL, h1, h2, h3]
      · simp [stL, h1, h2, h3]
def EscOk (b : Nat) (s : ByteArray) (p o : Nat) (w : World) (x : UInt8) (w' : World) : Prop := ∃ y, rst s p = 92 :: y :: rst s (p + 2) ∧ escO y = some x ∧ Rr b s (p + 2) o w' ∧ Pt b w w'
def EscNo (b : Nat) (s : ByteArray) (p k : Nat) (w w' : World) : Prop := ((rst s p = [92] ∧ Flt b s (s.size - k) 100 w') ∨ (∃ y r, rst s p = 92 :: y :: r ∧ escO y = none ∧ Flt b s (r.length + 2) 100 w')) ∧ Pt b w w'
set_option maxHeartbeats 4000000 in
theorem rd_esc {b : Nat} {s : ByteArray} {p o : Nat} {w : World} (h : Rr b s p o w) (hlt : p < s.size) (h92 : s[p] = 92) (k : Nat) (hk : k ≤ s.size) :
    Calls Tryd.prog 66 #[.pointer (some ⟨b, 0, none⟩), .int .i64 (k : Int)] w fun e w' =>
      (∃ x : UInt8, e = .returned (.int .u8 (x.toNat : Int)) ∧ Hid (EscOk b s p o w x w')) ∨ (Pnc e ∧ Hid (EscNo b s p k w w')) := by
  have hB : Hid (∀ q, Below w.heap.size w (w.drewN q)) := fun q => blw_drewN q (Below.refl _ _)
  obtain ⟨y0, y1, -, -, -, f1, -, -, -⟩ := h.cells
  have lM : (s.size : Int) ≤ 1099511627776 := by have := h.1.2.1; omega
  have l0 : (0 : Int) ≤ (p : Int) := by omega
  have l1 : (p : Int) < (s.size : Int) := by omega
  by_cases h1 : p + 1 = s.size
  · have d1 : ((p : Int) + 1 == (s.size : Int)) = true := by simp; omega
    have HG := hid (fun n => rd_giveUp (h.under (hB.out n)) k 100 hk)
    have hP : Hid (rst s p = [92]) := hid (by rw [rst_cons hlt, h92, rst_nil (by omega)])
    clear h h1 h92 hk
    go_enter Tryd.func66, Tryd.ntmps66
    go_wp2
    go_region
    all_goals
      go_wp2_with fail
      refine (HG.out _).mono ?_
      rintro e w3 ⟨⟨v, rfl⟩, hf, hp⟩
      have HF : Hid (EscNo b s p k w w3) := hid ⟨.inl ⟨hP.out, hf.out 100 rfl⟩, (Pt.ofB (hB.out _)).trans_ hp.out⟩
      clear hf hp HG
      go_wp2
      refine ⟨rfl, ?_⟩
      exact .inr ⟨⟨v, rfl⟩, HF⟩
  · have h2 : p + 1 < s.size := by omega
    have d1 : ((p : Int) + 1 == (s.size : Int)) = false := by simp; omega
    obtain ⟨y, hy⟩ : ∃ y, s[p + 1] = y := ⟨_, rfl⟩
    have HY : rst s p = 92 :: y :: rst s (p + 2) := by rw [rst_cons hlt, h92, rst_cons h2, hy]
    have HT : Hid (∀ (V : World) (x : UInt8), Rr b s p o V → Pt b w V → Calls Tryd.prog 46 #[.pointer (some ⟨b, 0, none⟩), .string ⟨#[92, x]⟩] V fun e w' => (e = .returned (.bool true) ∧ Hid (x = y ∧ Rr b s (p + 2) o w' ∧ Pt b w w')) ∨ (e = .returned (.bool false) ∧ Hid (x ≠ y ∧ Rr b s p o w' ∧ Pt b w w'))) := fun V x hV hP => by
      refine (rd_take hV ⟨#[92, x]⟩).mono ?_
      have hpr : (⟨#[92, x]⟩ : ByteArray).data.toList.isPrefixOf (rst s p) = (x == y) := by rw [pre_two h2 h92, hy]
      rw [hpr]
      rintro e w' (⟨e1, e2⟩ | ⟨e1, e2⟩)
      · exact .inl ⟨e1, eq_of_beq e2.out.1, e2.out.2.1, hP.trans_ e2.out.2.2⟩
      · exact .inr ⟨e1, (fun e => by have := e2.out.1; rw [e] at this; simp at this), hV.under e2.out.2, hP.trans_ (Pt.ofB e2.out.2)⟩
    have H0 := hid (fun n => (⟨h.under (hB.out n), Pt.ofB (hB.out n)⟩ : Rr b s p o (w.drewN n) ∧ Pt b w (w.drewN n)))
    have HR : Hid (∀ (x z : UInt8) (V : World), escO z = some x → z = y → Rr b s (p + 2) o V → Pt b w V → EscOk b s p o w x V) := fun x z V e1 e2 e3 e4 => ⟨z, by rw [e2]; exact HY, e1, e3, e4⟩
    have HN : Hid (∀ V, (92 : UInt8) ≠ y → (34 : UInt8) ≠ y → (110 : UInt8) ≠ y → (116 : UInt8) ≠ y → Flt b s (s.size - p) 100 V → Pt b w V → EscNo b s p k w V) := fun V e1 e2 e3 e4 e5 e6 => ⟨.inr ⟨y, _, HY, by
      unfold escO
      rw [if_neg (by rintro (e | e); exact e1 e.symm; exact e2 e.symm), if_neg (fun e => e3 e.symm), if_neg (fun e => e4 e.symm)], by rw [rst_len, show s.size - (p + 2) + 2 = s.size - p by omega]; exact e5⟩, e6⟩
    have HL := hid hlt
    clear h h1 HY hy h2 h92 hk
    go_enter Tryd.func66, Tryd.ntmps66
    go_wp2
    go_region
    all_goals
      go_wp2_with fail
      refine (HT.out _ 92 (H0.out _).1 (H0.out _).2).mono ?_
      rintro e w1 (⟨rfl, hx⟩ | ⟨rfl, hx⟩)
      · have HZ := hid (HR.out 92 92 w1 (by decide) hx.out.1 hx.out.2.1 hx.out.2.2)
        clear HT H0 HR HN hx
        go_wp2
        go_ret
        exact .inl ⟨92, rfl, HZ⟩
      go_wp2_with fail
      refine (HT.out _ 34 hx.out.2.1 hx.out.2.2).mono ?_
      rintro e w2 (⟨rfl, hy⟩ | ⟨rfl, hy⟩)
      · have HZ := hid (HR.out 34 34 w2 (by decide) hy.out.1 hy.out.2.1 hy.out.2.2)
        clear HT H0 HR HN hx hy
        go_wp2
        go_ret
        exact .inl ⟨34, rfl, HZ⟩
      go_wp2_with fail
      refine (HT.out _ 110 hy.out.2.1 hy.out.2.2).mono ?_
      rintro e w3 (⟨rfl, hz⟩ | ⟨rfl, hz⟩)
      · have HZ := hid (HR.out 10 110 w3 (by decide) hz.out.1 hz.out.2.1 hz.out.2.2)
        clear HT H0 HR HN hx hy hz
        go_wp2
        go_ret
        exact .inl ⟨10, rfl, HZ⟩
      go_wp2_with fail
      refine (HT.out _ 116 hz.out.2.1 hz.out.2.2).mono ?_
      rintro e w4 (⟨rfl, ht⟩ | ⟨rfl, ht⟩)
      · have HZ := hid (HR.out 9 116 w4 (by decide) ht.out.1 ht.out.2.1 ht.out.2.2)
        clear HT H0 HR HN hx hy hz ht
        go_wp2
        go_ret
        exact .inl ⟨9, rfl, HZ⟩
      have HG := hid (rd_giveUp ht.out.2.1 p 100 (Nat.le_of_lt HL.out))
      obtain ⟨-, z1, -, -, -, -, -, -, -⟩ := ht.out.2.1.cells
      go_wp2_with fail
      refine HG.out.mono ?_
      rintro e w5 ⟨⟨v, rfl⟩, hf, hp⟩
      have HF := hid (HN.out w5 hx.out.1 hy.out.1 hz.out.1 ht.out.1 (hf.out 100 rfl) (ht.out.2.2.trans_ hp.out))
      clear hf hp HG HT H0 HR HN hx hy hz ht
      go_wp2
      refine ⟨rfl, ?_⟩
      exact .inr ⟨⟨v, rfl⟩, HF⟩
end Go.Proofs.YtfobiknbjijphaaDoor
