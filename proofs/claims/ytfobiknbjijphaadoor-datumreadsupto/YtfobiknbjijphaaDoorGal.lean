/-
  The program's reader: closed, pieceEnd, dot.
  Data whose trees lie in blocks of one's own: they stay whatever goes on elsewhere; rows of them that grow.
-/
import Derived.Test.YtfobiknbjijphaaDoorGak
import Derived.Test.YtfobiknbjijphaaDoorRdA
import Derived.Test.YtfobiknbjijphaaDoorGaj
import Derived.Maps.AppendAt
namespace Go.Proofs.YtfobiknbjijphaaDoor
open Go.RowKit
set_option linter.unusedVariables false
set_option linter.unusedSimpArgs false

theorem Pt.trans_ {b : Nat} {a w w' : World} (h : Pt b a w) (k : Pt b w w') : Pt b a w' := Part.trans h k (fun _ _ h => h)
theorem Pt.ofB {b : Nat} {w w' : World} (h : Below w.heap.size w w') : Pt b w w' := Part.ofBelow h
def pre1 (c : UInt8) (l : List UInt8) : Bool := match l with | [] => false | d :: _ => c == d
theorem pre1_eq (c : UInt8) (l : List UInt8) : [c].isPrefixOf l = pre1 c l := by
  cases l with
  | nil => rfl
  | cons d r => simp [pre1, List.isPrefixOf]
/-- What closed answers. -/
def Cld (b : Nat) (s : ByteArray) (p o : Nat) (w : World) (e : Ending) (w' : World) : Prop :=
  (∃ q, e = .returned (.bool true) ∧ Hid (skB false (rst s p) = 41 :: rst s q ∧ Rr b s q o w' ∧ Pt b w w')) ∨
  (∃ q, e = .returned (.bool false) ∧ Hid (skB false (rst s p) = rst s q ∧ (∃ h : q < s.size, s[q] ≠ 41) ∧ Rr b s q o w' ∧ Pt b w w')) ∨
  (Pnc e ∧ Hid (skB false (rst s p) = [] ∧ Flt b s 0 100 w' ∧ Pt b w w'))
theorem rd_closed {b : Nat} {s : ByteArray} {p o : Nat} {w : World} (h : Rr b s p o w) : Calls Tryd.prog 63 #[.pointer (some ⟨b, 0, none⟩)] w fun e w' => Cld b s p o w e w' := by
  have HS := hid (rd_skip h)
  clear h
  go_enter Tryd.func63, Tryd.ntmps63
  go_wp2_with fail
  refine HS.out.mono ?_
  rintro e w1 ⟨rfl, HQ⟩
  obtain ⟨q, hq1, hq2, hq3⟩ := HQ.out
  have HE := hid (rd_ended hq1)
  have HX : Hid (∀ w2, Below w1.heap.size w1 w2 → Rr b s q o w2 ∧ Pt b w w2) := fun w2 h2 => ⟨hq1.under h2, hq3.trans_ (Pt.ofB h2)⟩
  have HR : Hid (rst s q = skB false (rst s p)) := hq2
  clear hq1 hq2 hq3 HQ HS
  go_wp2_with fail
  refine HE.out.mono ?_
  rintro e w2 ⟨rfl, hb2⟩
  have HX2 := hid (HX.out w2 hb2.out)
  clear HX HE hb2
  by_cases hlt : s.size ≤ q
  · have hd : decide (s.size ≤ q) = true := decide_eq_true hlt
    obtain rfl : q = s.size := by have := HX2.out.1.1.1; omega
    have HG := hid (rd_giveUp HX2.out.1 s.size 100 (Nat.le_refl _))
    obtain ⟨-, y1, -, -, -, -, -, -, -⟩ := HX2.out.1.cells
    have HN : Hid (skB false (rst s p) = []) := hid (by rw [← HR.out]; exact rst_nil (Nat.le_refl _))
    clear hlt
    go_wp2_with fail
    refine HG.out.mono ?_
    rintro e w3 ⟨⟨v, rfl⟩, hf, hp⟩
    have HF : Hid (skB false (rst s p) = [] ∧ Flt b s 0 100 w3 ∧ Pt b w w3) := hid ⟨HN.out, by have := hf.out 100 rfl; rwa [Nat.sub_self] at this, HX2.out.2.trans_ hp.out⟩
    clear hf hp HG HX2 HR HN y1
    go_wp2
    refine ⟨rfl, ?_⟩
    exact .inr (.inr ⟨⟨v, rfl⟩, HF⟩)
  · have hd : decide (s.size ≤ q) = false := decide_eq_false hlt
    have hlt2 : q < s.size := by omega
    have HT := hid (rd_take HX2.out.1 ⟨#[41]⟩)
    have hsz : (⟨#[41]⟩ : ByteArray).size = 1 := rfl
    have hpr : (⟨#[41]⟩ : ByteArray).data.toList.isPrefixOf (rst s q) = (41 == s[q]) := by
      rw [rst_cons hlt2]
      show [41].isPrefixOf _ = _
      rw [pre1_eq]; rfl
    rw [hpr, hsz] at HT
    have HI : Hid (∀ w3, ((41 == s[q]) = true → Rr b s (q + 1) o w3 → Pt b w2 w3 → Cld b s p o w (.returned (.bool true)) w3) ∧ ((41 == s[q]) = false → Below w2.heap.size w2 w3 → Cld b s p o w (.returned (.bool false)) w3)) := fun w3 => by
      refine ⟨fun h1 h2 h3 => .inl ⟨q + 1, rfl, ?_, h2, HX2.out.2.trans_ h3⟩, fun h1 h2 => .inr (.inl ⟨q, rfl, HR.out.symm, ⟨hlt2, ?_⟩, HX2.out.1.under h2, HX2.out.2.trans_ (Pt.ofB h2)⟩)⟩
      · rw [← HR.out, rst_cons hlt2, ← eq_of_beq h1]
      · intro e
        rw [e] at h1
        cases h1
    clear hlt hsz hpr HX2 HR
    go_wp2_with fail
    refine HT.out.mono ?_
    rintro e w3 (⟨rfl, h3⟩ | ⟨rfl, h3⟩)
    · go_wp2
      go_ret
      exact (HI.out w3).1 h3.out.1 h3.out.2.1 h3.out.2.2
    · go_wp2
      go_ret
      exact (HI.out w3).2 h3.out.1 h3.out.2
theorem pcL_step {s : ByteArray} {p n : Nat} (h1 : p + n ≤ s.size) (h2 : ∀ j, j < n → enB (rst s (p + j)) = false) (h3 : enB (rst s (p + n)) = true) : pcL (rst s p) = n :=
  pcL_end _ n (by rw [rst_len]; omega) (fun j hj => by rw [rst_drop]; exact h2 j hj) (by rw [rst_drop]; exact h3)
theorem enB_size (s : ByteArray) : enB (rst s s.size) = true := by rw [rst_nil (Nat.le_refl _)]; rfl
def dlm (x : Int) : Prop := (x == 40) = true ∨ (x == 40) = false ∧ ((x == 41) = true ∨ (x == 41) = false ∧ ((x == 34) = true ∨ (x == 34) = false ∧ ((x == 39) = true ∨ (x == 39) = false ∧ ((x == 59) = true ∨ (x == 59) = false ∧ ((x == 32) = true ∨ (x == 32) = false ∧ ((x == 9) = true ∨ (x == 9) = false ∧ ((x == 10) = true ∨ (x == 10) = false ∧ (x == 13) = true)))))))
theorem dl_ways (c : UInt8) : (dlB c = true ∧ dlm (c.toNat : Int)) ∨ (dlB c = false ∧ ((c.toNat : Int) == 40) = false ∧ ((c.toNat : Int) == 41) = false ∧ ((c.toNat : Int) == 34) = false ∧ ((c.toNat : Int) == 39) = false ∧ ((c.toNat : Int) == 59) = false ∧ ((c.toNat : Int) == 32) = false ∧ ((c.toNat : Int) == 9) = false ∧ ((c.toNat : Int) == 10) = false ∧ ((c.toNat : Int) == 13) = false) := by
  have q1 : ((c.toNat : Int) == 40) = decide (c = 40) := @u8b c 40 (by decide)
  have q2 : ((c.toNat : Int) == 41) = decide (c = 41) := @u8b c 41 (by decide)
  have q3 : ((c.toNat : Int) == 34) = decide (c = 34) := @u8b c 34 (by decide)
  have q4 : ((c.toNat : Int) == 39) = decide (c = 39) := @u8b c 39 (by decide)
  have q5 : ((c.toNat : Int) == 59) = decide (c = 59) := @u8b c 59 (by decide)
  have q6 : ((c.toNat : Int) == 32) = decide (c = 32) := @u8b c 32 (by decide)
  have q7 : ((c.toNat : Int) == 9) = decide (c = 9) := @u8b c 9 (by decide)
  have q8 : ((c.toNat : Int) == 10) = decide (c = 10) := @u8b c 10 (by decide)
  have q9 : ((c.toNat : Int) == 13) = decide (c = 13) := @u8b c 13 (by decide)
  unfold dlm
  rw [q1, q2, q3, q4, q5, q6, q7, q8, q9]
  unfold dlB blB
  by_cases h1 : c = 40 <;> by_cases h2 : c = 41 <;> by_cases h3 : c = 34 <;> by_cases h4 : c = 39 <;> by_cases h5 : c = 59 <;> by_cases h6 : c = 32 <;> by_cases h7 : c = 9 <;> by_cases h8 : c = 10 <;> by_cases h9 : c = 13 <;> simp [h1, h2, h3, h4, h5, h6, h7, h8, h9]
theorem pre2_eq (l : List UInt8) (c : UInt8) : [35, 40].isPrefixOf (c :: l) = (c == 35 && l.head? == some 40) := by
  cases l with
  | nil => simp [List.isPrefixOf]
  | cons d r =>
    simp only [List.isPrefixOf, List.head?_cons]
    by_cases h1 : c = 35
    · subst h1
      by_cases h2 : d = 40
      · subst h2; rfl
      · have : (40 == d) = false := by simpa using fun e => h2 e.symm
        simp [this, h2]
    · have : (35 == c) = false := by simpa using fun e => h1 e.symm
      simp [this, h1]
set_option maxRecDepth 100000 in
set_option maxHeartbeats 8000000 in
theorem rd_end {b : Nat} {s : ByteArray} {p o : Nat} {w : World} (h : Rr b s p o w) : Calls Tryd.prog 67 #[.pointer (some ⟨b, 0, none⟩)] w fun e w' => e = .returned (.int .i64 (((p + pcL (rst s p) : Nat)) : Int)) ∧ w' = w := by
  obtain ⟨y0, y1, -, -, -, -, -, -, -⟩ := h.cells
  have lM : (s.size : Int) ≤ 1099511627776 := by have := h.1.2.1; omega
  have HM := hid h.1.1
  have l0 : (0 : Int) ≤ (p : Int) := by omega
  have HH := hid (fun (t : ByteArray) (V : World) => hp_any t ⟨#[35, 40]⟩ V)
  obtain ⟨N, hN⟩ : ∃ N, p + pcL (rst s p) = N := ⟨_, rfl⟩
  have HP : Hid (∀ z, p ≤ z → z ≤ s.size → (∀ j, p ≤ j → j < z → enB (rst s j) = false) → enB (rst s z) = true → N = z) := fun z h1 h2 h3 h4 => by
    have := pcL_step (s := s) (p := p) (n := z - p) (by omega) (fun j hj => h3 (p + j) (by omega) (by omega)) (by rw [show p + (z - p) = z by omega]; exact h4)
    omega
  rw [hN]
  clear h hN
  go_enter Tryd.func67, Tryd.ntmps67
  go_wp2
  go_loopw [3] (fun i wr => ∃ k : Nat, i = .int .i64 (k : Int) ∧ Hid (p ≤ k ∧ k ≤ s.size ∧ ∀ j, p ≤ j → j < k → enB (rst s j) = false) ∧ wr = w) (fun i _ => s.size - (intOf i).toNat)
  case atStart => exact ⟨p, rfl, ⟨Nat.le_refl _, HM.out, fun j h1 h2 => by omega⟩, rfl⟩
  case round =>
    obtain ⟨k, rfl, HJ, hw⟩ := hrel
    obtain rfl : w = wr := hw.symm
    clear hw
    by_cases hlt : k < s.size
    · have l1 : (k : Int) < (s.size : Int) := by omega
      have l2 : (0 : Int) ≤ (k : Int) := by omega
      obtain ⟨c, hc⟩ : ∃ c, s[k]'hlt = c := ⟨_, rfl⟩
      have HR : Hid (rst s k = c :: rst s (k + 1)) := hid (by rw [rst_cons hlt, hc])
      have HC : Hid (k < s.size) := hlt
      rcases dl_ways c with ⟨hd, hm⟩ | ⟨hd, q1, q2, q3, q4, q5, q6, q7, q8, q9⟩
      · have HN : Hid (N = k) := hid (HP.out k HJ.out.1 HJ.out.2.1 HJ.out.2.2 (by rw [HR.out]; simp [enB, hd]))
        clear hd
        rcases hm with q1 | ⟨q1, q2 | ⟨q2, q3 | ⟨q3, q4 | ⟨q4, q5 | ⟨q5, q6 | ⟨q6, q7 | ⟨q7, q8 | ⟨q8, q9⟩⟩⟩⟩⟩⟩⟩⟩
        all_goals
          go_wp2
          go_ret
          exact ⟨by rw [HN.out]; rfl, rfl⟩
      · have HG : Hid (enB (rst s k) = false → p ≤ k + 1 ∧ k + 1 ≤ s.size ∧ ∀ j, p ≤ j → j < k + 1 → enB (rst s j) = false) := fun he => ⟨by have := HJ.out.1; omega, hlt, fun j h1 h2 => by
          by_cases e : j = k
          · subst e; exact he
          · exact HJ.out.2.2 j h1 (by omega)⟩
        by_cases h35 : c = 35
        · have q10 : ((c.toNat : Int) == 35) = true := by rw [h35]; rfl
          have HPr : Hid (∀ V, Calls Tryd.prog 62 #[.string (s.extract k s.size), .string ⟨#[35, 40]⟩] V fun e w' => e = .returned (.bool (enB (rst s k))) ∧ w' = V) := fun V => by
            have := HH.out (s.extract k s.size) V
            rw [ext_all] at this
            have e2 : (⟨#[35, 40]⟩ : ByteArray).data.toList.isPrefixOf (rst s k) = enB (rst s k) := by
              show [35, 40].isPrefixOf _ = _
              rw [HR.out, pre2_eq]
              simp [enB, hd]
            rw [e2] at this
            exact this
          have hee : enB (rst s k) = true ∨ enB (rst s k) = false := by cases enB (rst s k) <;> simp
          have l3 : (k : Int) ≤ (s.size : Int) := by omega
          rcases hee with he | he
          · have HN : Hid (N = k) := hid (HP.out k HJ.out.1 HJ.out.2.1 HJ.out.2.2 he)
            rw [he] at HPr
            clear he hd h35 HG HJ HR HC
            go_wp2_with fail
            refine (HPr.out _).mono ?_
            rintro e w2 ⟨rfl, hw⟩
            obtain rfl : w = w2 := hw.symm
            clear hw
            go_wp2
            go_ret
            exact ⟨by rw [HN.out]; rfl, rfl⟩
          · have HK := hid (HG.out he)
            rw [he] at HPr
            clear he hd h35 HG HJ HR HC
            go_wp2_with fail
            refine (HPr.out _).mono ?_
            rintro e w2 ⟨rfl, hw⟩
            obtain rfl : w = w2 := hw.symm
            clear hw
            go_wp2
            go_roundw
            case rel => exact ⟨k + 1, by go_num, HK, trivial⟩
            case measure => simp [intOf]; omega
        · have q10 : ((c.toNat : Int) == 35) = false := by
            have : ((c.toNat : Int) == 35) = decide (c = 35) := @u8b c 35 (by decide)
            rw [this, decide_eq_false h35]
          have HK := hid (HG.out (by rw [HR.out]; simp [enB, hd, h35]))
          clear hd h35 HG HJ HR HC
          go_wp2
          go_roundw
          case rel => exact ⟨k + 1, by go_num, HK, trivial⟩
          case measure => simp [intOf]; omega
    · obtain rfl : k = s.size := by have := HJ.out.2.1; omega
      have HN : Hid (N = s.size) := hid (HP.out _ HJ.out.1 (Nat.le_refl _) HJ.out.2.2 (enB_size s))
      clear hlt
      go_wp2
      go_ret
      exact ⟨by rw [HN.out]; rfl, rfl⟩
theorem rd_dot {b : Nat} {s : ByteArray} {p o : Nat} {w : World} (h : Rr b s p o w) (hlt : p < s.size) : Calls Tryd.prog 64 #[.pointer (some ⟨b, 0, none⟩)] w fun e w' => (e = .returned (.bool true) ∧ Hid ((s[p] = 46 ∧ pcL (rst s p) = 1) ∧ Rr b s (p + 1) o w' ∧ Pt b w w')) ∨ (e = .returned (.bool false) ∧ Hid (¬ (s[p] = 46 ∧ pcL (rst s p) = 1) ∧ Rr b s p o w' ∧ Pt b w w')) := by
  have HE := hid (fun n => rd_end (h.under (blw_drewN n (Below.refl w.heap.size w))))
  have hB : Hid (∀ q, Below w.heap.size w (w.drewN q)) := fun q => blw_drewN q (Below.refl _ _)
  obtain ⟨y0, y1, -, -, -, f1, -, -, -⟩ := h.cells
  have lM : (s.size : Int) ≤ 1099511627776 := by have := h.1.2.1; omega
  have l0 : (0 : Int) ≤ (p : Int) := by omega
  have l1 : (p : Int) < (s.size : Int) := by omega
  obtain ⟨c, hc⟩ : ∃ c, s[p]'hlt = c := ⟨_, rfl⟩
  rw [hc]
  have HT : Hid (∀ n, Rr b s (p + 1) o ((w.drewN n).setCell ⟨b, 1, none⟩ (.int .i64 ((p : Int) + 1))) ∧ Pt b w ((w.drewN n).setCell ⟨b, 1, none⟩ (.int .i64 ((p : Int) + 1)))) := fun n => ⟨(h.under (hB.out n)).at_ (p + 1) hlt, Pt.set (Pt.ofB (hB.out n)) _ _⟩
  have HF : Hid (∀ n, Rr b s p o (w.drewN n) ∧ Pt b w (w.drewN n)) := fun n => ⟨h.under (hB.out n), Pt.ofB (hB.out n)⟩
  by_cases h46 : c = 46
  · have d0 : ((c.toNat : Int) != 46) = false := by rw [h46]; rfl
    obtain ⟨N, hN⟩ : ∃ N, p + pcL (rst s p) = N := ⟨_, rfl⟩
    rw [hN] at HE
    have lN : N ≤ s.size := by
      have := pcL_le (rst s p)
      rw [rst_len] at this
      omega
    by_cases hp1 : pcL (rst s p) = 1
    · have d1 : ((N : Int) != (p : Int) + 1) = false := by simp; omega
      have HY : Hid (c = 46 ∧ pcL (rst s p) = 1) := ⟨h46, hp1⟩
      clear h hN h46 hp1 lN
      go_enter Tryd.func64, Tryd.ntmps64
      go_wp2
      go_quiet ((go_at_call 67; exact Calls.quiet_of_same (HE.out _)))
      go_wp2
      go_ret
      exact .inl ⟨rfl, HY.out, HT.out _⟩
    · have d1 : ((N : Int) != (p : Int) + 1) = true := by simp; omega
      have HY : Hid (¬ (c = 46 ∧ pcL (rst s p) = 1)) := fun e => hp1 e.2
      clear h hN h46 hp1 lN
      go_enter Tryd.func64, Tryd.ntmps64
      go_wp2
      go_quiet ((go_at_call 67; exact Calls.quiet_of_same (HE.out _)))
      go_wp2
      go_ret
      exact .inr ⟨rfl, HY.out, HF.out _⟩
  · have d0 : ((c.toNat : Int) != 46) = true := by
      have : ((c.toNat : Int) == 46) = decide (c = 46) := @u8b c 46 (by decide)
      rw [bne, this, decide_eq_false h46]; rfl
    have HY : Hid (¬ (c = 46 ∧ pcL (rst s p) = 1)) := fun e => h46 e.1
    clear h h46
    go_enter Tryd.func64, Tryd.ntmps64
    go_wp2
    go_quiet (fail)
    go_wp2
    go_ret
    exact .inr ⟨rfl, HY.out, HF.out _⟩
end Go.Proofs.YtfobiknbjijphaaDoor

namespace Go.Proofs.YtfobiknbjijphaaDoor
open Go.RowKit
set_option linter.unusedVariables false
set_option linter.unusedSimpArgs false

/-- Four cells of one block. -/
structure C4 (w : World) (g : Nat) (v0 v1 v2 v3 : Value) : Prop where
  c0 : w.cell? ⟨g, 0, none⟩ = some v0
  c1 : w.cell? ⟨g, 1, none⟩ = some v1
  c2 : w.cell? ⟨g, 2, none⟩ = some v2
  c3 : w.cell? ⟨g, 3, none⟩ = some v3
  f0 : w.frozen? ⟨g, 0, none⟩ = false
  f1 : w.frozen? ⟨g, 1, none⟩ = false
  f2 : w.frozen? ⟨g, 2, none⟩ = false
  f3 : w.frozen? ⟨g, 3, none⟩ = false
def D4 (w : World) (g : Nat) (v0 v1 v2 v3 : Value) : Prop := w.heap[g]? = some (.cells #[v0, v1, v2, v3] 34 (0, 0))
theorem D4.c4 {w : World} {g : Nat} {v0 v1 v2 v3 : Value} (e : D4 w g v0 v1 v2 v3) : C4 w g v0 v1 v2 v3 :=
  ⟨by rw [cells_at e 0]; rfl, by rw [cells_at e 1]; rfl, by rw [cells_at e 2]; rfl, by rw [cells_at e 3]; rfl, cells_free e 0, cells_free e 1, cells_free e 2, cells_free e 3⟩
def set4 (w : World) (g : Nat) (v0 v1 v2 v3 : Value) : World := (((w.setCell ⟨g, 0, none⟩ v0).setCell ⟨g, 1, none⟩ v1).setCell ⟨g, 2, none⟩ v2).setCell ⟨g, 3, none⟩ v3
theorem D4.set {w : World} {g : Nat} {v0 v1 v2 v3 : Value} (e : D4 w g v0 v1 v2 v3) (u0 u1 u2 u3 : Value) : D4 (set4 w g u0 u1 u2 u3) g u0 u1 u2 u3 :=
  heap_set_at (heap_set_at (heap_set_at (heap_set_at e u0) u1) u2) u3
theorem set4_other (w : World) {g k : Nat} (h : k ≠ g) (u0 u1 u2 u3 : Value) : (set4 w g u0 u1 u2 u3).heap[k]? = w.heap[k]? := by
  unfold set4
  rw [heap_set_other _ h, heap_set_other _ h, heap_set_other _ h, heap_set_other _ h]
theorem set4_part (w : World) (g : Nat) (u0 u1 u2 u3 : Value) : Part (fun k => k = g) w (set4 w g u0 u1 u2 u3) :=
  ⟨rfl, rfl, rfl, by simp [set4, World.setCell], fun k _ hn => set4_other w hn _ _ _ _⟩
theorem D4.part {w w' : World} {g : Nat} {v0 v1 v2 v3 : Value} {F : Nat → Prop} (e : D4 w g v0 v1 v2 v3) (h : Part F w w') (hg : ¬ F g) : D4 w' g v0 v1 v2 v3 :=
  (h.block g (Array.getElem?_eq_some_iff.1 e).1 hg).trans e
theorem D4.under {w w' : World} {g : Nat} {v0 v1 v2 v3 : Value} (e : D4 w g v0 v1 v2 v3) (h : Below w.heap.size w w') : D4 w' g v0 v1 v2 v3 :=
  (h.block g (Array.getElem?_eq_some_iff.1 e).1).trans e
theorem load_block {P : Program} {w : World} {b : Nat} {cs : Array Value} {t : TypeId} (hb : w.heap[b]? = some (.cells cs t (0, 0))) (n : Nat) (hn : n = cs.size) : (loadCellsFrom ⟨b, 0, none⟩ 0 n #[]).run P w = .ok cs w := by
  have h := run_loadCellsFrom (P := P) w ⟨b, 0, none⟩ (fun j => (cs[j]?).getD undef) n 0 #[] (fun j hj => by
    rw [Addr.add_lit, cells_at hb]
    simp
    rw [Array.getElem?_eq_getElem (by omega)]
    rfl)
  rw [h]
  congr 1
  apply Array.ext_getElem?
  intro i
  by_cases hi : i < n
  · simp [hi]
    rw [Array.getElem?_eq_getElem (by omega)]
    rfl
  · simp [hi]
    omega
theorem results_cell {P : Program} {f : Func} {tmps : Array Value} {w : World} {k n b : Nat} {t : TypeId} {cs : Array Value} (hr : f.results = #[.cell k t]) (ht : tmps.getD k undef = .pointer (some ⟨b, 0, none⟩)) (ha : (isAgg t).run P w = .ok true w) (hs : (sizeOf t).run P w = .ok n w) (hl : (loadCellsFrom ⟨b, 0, none⟩ 0 n #[]).run P w = .ok cs w) : (results f tmps).run P w = .ok (.agg cs) w := by
  unfold results
  rw [hr]
  have h0 : tmps[k]?.getD undef = .pointer (some ⟨b, 0, none⟩) := by simpa using ht
  have h1 : (asAddr (tmps[k]?.getD undef)).run P w = .ok ⟨b, 0, none⟩ w := by rw [h0]; rfl
  simp [loadVar, loadCells, h1, ha, hs, hl, Result.andThen]
theorem agg4 (w : World) : (isAgg 34).run Tryd.prog w = .ok true w := by simp [go_sem]
theorem size4 (w : World) : (sizeOf 34).run Tryd.prog w = .ok 4 w := by simp [go_sem]
/-- A datum is handed back out of its block. -/
theorem res4 {f : Func} {tmps : Array Value} {w : World} {k g : Nat} {v0 v1 v2 v3 : Value} (h : D4 w g v0 v1 v2 v3) (hr : f.results = #[.cell k 34]) (ht : tmps.getD k undef = .pointer (some ⟨g, 0, none⟩)) : (results f tmps).run Tryd.prog w = .ok (.agg #[v0, v1, v2, v3]) w :=
  results_cell hr ht (agg4 w) (size4 w) (load_block h 4 rfl)
/-- The world, but for the blocks that are below lo or are x. -/
def cutW (lo : Nat) (x : Option Nat) (w : World) : World := { w with heap := w.heap.mapIdx fun q o => if lo ≤ q ∧ some q ≠ x then o else .cells #[] 0 (0, 0) }
theorem cutW_cell {lo : Nat} {x : Option Nat} {w : World} {a : Addr} {u : Value} : (cutW lo x w).cell? a = some u ↔ (lo ≤ a.block ∧ some a.block ≠ x) ∧ w.cell? a = some u := by
  unfold World.cell? cutW
  simp only [Array.getElem?_mapIdx]
  cases h : w.heap[a.block]? with
  | none => simp
  | some o =>
    by_cases hc : lo ≤ a.block ∧ some a.block ≠ x
    · simp [hc]
    · rw [Option.map_some, if_neg hc]
      simp [hc]
theorem DAt.mono {w w' : World} {d : Dt} {v : Value} (h : DAt w d v) (hb : ∀ a u, w.cell? a = some u → w'.cell? a = some u) : DAt w' d v := by
  have hr : ∀ {a : Option Addr} {n : Nat} {X : Nat → Nat → Value}, RowAt w a n X → RowAt w' a n X := fun h hn => by
    obtain ⟨g, o, h1, h2⟩ := h hn
    exact ⟨g, o, h1, fun j hj i hi => hb _ _ (h2 j hj i hi)⟩
  induction h with
  | mk k t l m a b c c2 X Y hl hm ra rb sz ih1 ih2 => exact .mk k t l m a b c c2 X Y ih1 ih2 (hr ra) (hr rb) sz
theorem RowAt.mono {w w' : World} {a : Option Addr} {n : Nat} {X : Nat → Nat → Value} (h : RowAt w a n X) (hb : ∀ a u, w.cell? a = some u → w'.cell? a = some u) : RowAt w' a n X := fun hn => by
  obtain ⟨g, o, h1, h2⟩ := h hn
  exact ⟨g, o, h1, fun j hj i hi => hb _ _ (h2 j hj i hi)⟩
/-- A datum whose tree lies in blocks from lo on, and none in x. -/
def DS (lo : Nat) (x : Option Nat) (w : World) (d : Dt) (v : Value) : Prop := DAt (cutW lo x w) d v
/-- A row of data, likewise. -/
def SS (lo : Nat) (x : Option Nat) (w : World) (l : List Dt) (v : Value) : Prop :=
  ∃ a c X, v = .slice a l.length c ∧ (l.length ≤ c ∧ c ≤ 9223372036854775807) ∧ RowAt (cutW lo x w) a l.length X ∧ ∀ j (h : j < l.length), DS lo x w l[j] (vx X j)
/-- From one world to a later one: the blocks of the first part are as they were, and belong to the second part. -/
def Nx (lo : Nat) (x : Option Nat) (w : World) (lo' : Nat) (x' : Option Nat) (w' : World) : Prop := ∀ q, lo ≤ q → some q ≠ x → q < w.heap.size → w'.heap[q]? = w.heap[q]? ∧ lo' ≤ q ∧ some q ≠ x'
theorem Nx.cell {lo lo' : Nat} {x x' : Option Nat} {w w' : World} (h : Nx lo x w lo' x' w') : ∀ a u, (cutW lo x w).cell? a = some u → (cutW lo' x' w').cell? a = some u := fun a u hc => by
  rw [cutW_cell] at hc ⊢
  obtain ⟨h1, h2, h3⟩ := h a.block hc.1.1 hc.1.2 (World.block_lt_of_cell? w _ hc.2)
  exact ⟨⟨h2, h3⟩, (World.cell?_of_block h1).trans hc.2⟩
theorem DS.nx {lo lo' : Nat} {x x' : Option Nat} {w w' : World} {d : Dt} {v : Value} (h : DS lo x w d v) (n : Nx lo x w lo' x' w') : DS lo' x' w' d v := DAt.mono h n.cell
theorem SS.nx {lo lo' : Nat} {x x' : Option Nat} {w w' : World} {l : List Dt} {v : Value} (h : SS lo x w l v) (n : Nx lo x w lo' x' w') : SS lo' x' w' l v := by
  obtain ⟨a, c, X, h1, h2, h3, h4⟩ := h
  exact ⟨a, c, X, h1, h2, h3.mono n.cell, fun j hj => (h4 j hj).nx n⟩
theorem DS.at_ {lo : Nat} {x : Option Nat} {w : World} {d : Dt} {v : Value} (h : DS lo x w d v) : DAt w d v := DAt.mono h fun a u hc => (cutW_cell.1 hc).2
theorem DS.node {lo : Nat} {x : Option Nat} {w : World} {l m : List Dt} {v1 v2 : Value} (h1 : SS lo x w l v1) (h2 : SS lo x w m v2) (k : Int) (t : ByteArray) (ht : t.size ≤ 140737488355328) : DS lo x w (.node k t l m) (.agg #[.int .i64 k, .string t, v1, v2]) := by
  obtain ⟨a, c, X, rfl, e2, e3, e4⟩ := h1
  obtain ⟨b, c2, Y, rfl, f2, f3, f4⟩ := h2
  exact .mk k t l m a b c c2 X Y e4 f4 e3 f3 ⟨e2.1, e2.2, f2.1, f2.2, ht⟩
theorem DS.parts {lo : Nat} {x : Option Nat} {w : World} {d : Dt} {v : Value} (h : DS lo x w d v) : ∃ v1 v2, v = .agg #[.int .i64 d.kd, .string d.tx, v1, v2] ∧ SS lo x w d.its v1 ∧ SS lo x w d.tl v2 := by
  cases h with
  | mk k t l m a b c c2 X Y hl hm ra rb sz => exact ⟨_, _, rfl, ⟨a, c, X, rfl, ⟨sz.1, sz.2.1⟩, ra, hl⟩, ⟨b, c2, Y, rfl, ⟨sz.2.2.1, sz.2.2.2.1⟩, rb, hm⟩⟩
theorem SS.nil (lo : Nat) (x : Option Nat) (w : World) (a : Option Addr) (c : Nat) (hc : c ≤ 9223372036854775807) : SS lo x w [] (.slice a 0 c) :=
  ⟨a, c, fun _ _ => .nilIface, rfl, ⟨Nat.zero_le _, hc⟩, fun h => absurd h (by decide), fun j h => absurd h (Nat.not_lt_zero _)⟩
theorem DS.leaf (lo : Nat) (x : Option Nat) (w : World) (k : Int) (t : ByteArray) (ht : t.size ≤ 140737488355328) : DS lo x w (.node k t [] []) (.agg #[.int .i64 k, .string t, .slice none 0 0, .slice none 0 0]) :=
  DS.node (SS.nil lo x w none 0 (by decide)) (SS.nil lo x w none 0 (by decide)) k t ht
def rx (xs : List Value) (j i : Nat) : Value := xs[j * 4 + i]?.getD .nilIface
/-- A row of data in a slice of one's own. -/
def DRow (lo : Nat) (w : World) (v : Value) (ds : List Dt) : Prop := ∃ xs, w.ownsRow lo 34 4 v ds.length xs ∧ ∀ j (h : j < ds.length), DS lo v.ownBlock w ds[j] (vx (rx xs) j)
theorem DRow.nil (lo : Nat) (w : World) : DRow lo w (.slice none 0 0) [] := ⟨[], World.ownsRow_nil _ _ _ _, fun j h => absurd h (Nat.not_lt_zero _)⟩
/-- What went on elsewhere. -/
theorem DRow.keep {lo : Nat} {w w' : World} {v : Value} {ds : List Dt} (h : DRow lo w v ds) (hk : ∀ q, lo ≤ q → q < w.heap.size → w'.heap[q]? = w.heap[q]?) : DRow lo w' v ds := by
  obtain ⟨xs, h1, h2⟩ := h
  refine ⟨xs, ⟨h1.1, ?_⟩, fun j hj => (h2 j hj).nx fun q q1 q2 q3 => ⟨hk q q1 q3, q1, q2⟩⟩
  rcases h1.2 with e | ⟨g, cap, cur, e1, e2, e3, e4⟩
  · exact .inl e
  · exact .inr ⟨g, cap, cur, e1, e2, (hk g e2 (Array.getElem?_eq_some_iff.1 e3).1).trans e3, e4⟩
theorem DRow.ss {lo : Nat} {w : World} {v : Value} {ds : List Dt} (h : DRow lo w v ds) : SS lo none w ds v := by
  obtain ⟨xs, h1, h2⟩ := h
  have hn : Nx lo v.ownBlock w lo none w := fun q q1 q2 q3 => ⟨rfl, q1, by simp⟩
  rcases h1.2 with ⟨e1, e2⟩ | ⟨g, cap, cur, rfl, e2, e3, e4, e5, e6, e7⟩
  · have : ds = [] := List.length_eq_zero_iff.1 e2
    subst this
    rw [e1]
    exact SS.nil _ _ _ _ _ (by decide)
  · refine ⟨_, cap, rx xs, rfl, ⟨e4, e5⟩, fun _ => ⟨g, 0, rfl, fun j hj i hi => ?_⟩, fun j hj => (h2 j hj).nx hn⟩
    rw [cutW_cell]
    refine ⟨⟨e2, by simp⟩, ?_⟩
    have hl : j * 4 + i < xs.length := by rw [h1.1]; omega
    have := h1.cellAt (j * 4 + i) (by omega)
    rw [Nat.zero_add, this]
    unfold rx
    rw [List.getElem?_eq_getElem hl]
    rfl
theorem DRow.lt {lo : Nat} {w : World} {v : Value} {ds : List Dt} (h : DRow lo w v ds) : ∃ a c, v = .slice a ds.length c ∧ c ≤ 9223372036854775807 := by
  obtain ⟨a, c, X, h1, h2, _⟩ := h.ss
  exact ⟨a, c, h1, h2.2⟩
/-- It has grown by data whose values these are. -/
theorem DRow.more {lo : Nat} {w w' : World} {v v' : Value} {ds es : List Dt} {xs ys : List Value} (h1 : w.ownsRow lo 34 4 v ds.length xs) (h2 : ∀ j (h : j < ds.length), DS lo v.ownBlock w ds[j] (vx (rx xs) j))
    (k2 : ∀ j (h : j < es.length), DS lo v.ownBlock w es[j] (vx (rx ys) j)) (hy : ys.length = es.length * 4)
    (g1 : w'.ownsRow lo 34 4 v' (ds.length + es.length) (xs ++ ys)) (g2 : w.grownBy w' v.ownBlock) (g3 : v'.ownBlock = v.ownBlock ∨ v'.ownBlock = some w.heap.size) : DRow lo w' v' (ds ++ es) := by
  have hn : Nx lo v.ownBlock w lo v'.ownBlock w' := fun q q1 q2 q3 => ⟨g2.block q q3 q2, q1, by
    rcases g3 with e | e
    · rw [e]; exact q2
    · rw [e]; intro h; injection h with h; omega⟩
  refine ⟨xs ++ ys, by rw [List.length_append]; exact g1, fun j hj => ?_⟩
  have hlx := h1.1
  by_cases hlt : j < ds.length
  · have e : vx (rx (xs ++ ys)) j = vx (rx xs) j := by
      unfold vx rx
      rw [List.getElem?_append_left (by omega), List.getElem?_append_left (by omega), List.getElem?_append_left (by omega), List.getElem?_append_left (by omega)]
    rw [e, List.getElem_append_left hlt]
    exact (h2 j hlt).nx hn
  · have hj2 : j - ds.length < es.length := by rw [List.length_append] at hj; omega
    have hx : ∀ i, j * 4 + i - xs.length = (j - ds.length) * 4 + i := fun i => by omega
    have e : vx (rx (xs ++ ys)) j = vx (rx ys) (j - ds.length) := by
      unfold vx rx
      rw [List.getElem?_append_right (by omega), List.getElem?_append_right (by omega), List.getElem?_append_right (by omega), List.getElem?_append_right (by omega), hx, hx, hx, hx]
    rw [e, List.getElem_append_right (by omega)]
    exact (k2 _ hj2).nx hn
end Go.Proofs.YtfobiknbjijphaaDoor
