/-
  Whole numbers of the program: contracts of signed, turned, read and text. Conditions: at most a thousand limbs; the library's table of powers of ten is as it starts.
-/
import Derived.Test.YtcnlclocnnijgaaDoorNRead
namespace Go.Proofs.YtcnlclocnnijgaaDoor
open Go.RowKit
set_option linter.unusedVariables false

/-- The value is the whole number x; its size lies wherever. -/
def Wh (w : World) (v : Value) (x : Int) : Prop := ∃ ao c, v = .agg #[.bool (decide (x < 0)), .slice ao (ln x.natAbs) c] ∧ Sz w (.slice ao (ln x.natAbs) c) x.natAbs ∧ ln x.natAbs ≤ 500
theorem Wh.below {w w' : World} {v : Value} {x : Int} {B : Nat} (h : Wh w v x) (hb : Below B w w') (hB : w.heap.size ≤ B) : Wh w' v x := by
  obtain ⟨ao, c, h1, h2, h3⟩ := h
  exact ⟨ao, c, h1, h2.below hb hB, h3⟩
/-- A number of a sign and a size. -/
def sg (b : Bool) (n : Nat) : Int := if b then -(n : Int) else (n : Int)
theorem sg_abs (b : Bool) (n : Nat) : (sg b n).natAbs = n := by unfold sg; split <;> omega
theorem sg_neg (b : Bool) (n : Nat) : decide (sg b n < 0) = (b && decide (0 < ln n)) := by
  have := ln_eq_zero (v := n)
  unfold sg
  cases b
  · simp
  · simp
    omega
theorem sg_self (x : Int) : sg (decide (x < 0)) x.natAbs = x := by
  unfold sg
  by_cases h : x < 0
  · simp [h]; omega
  · simp [h]; omega

set_option maxRecDepth 100000 in
theorem signed (b : Bool) (s : Value) (n : Nat) (w : World) (hs : Sz w s n) (hl : ln n ≤ 500) :
    Calls Tryd.prog 43 #[.bool b, s] w fun e w' => ∃ v, e = .returned v ∧ Wh w' v (sg b n) ∧ Below w.heap.size w w' := by
  obtain ⟨ao, c, rfl, h1, h2, h3, _⟩ := hs.open
  have HW : Hid (∀ w' v, Below w.heap.size w w' → v = .agg #[.bool (b && decide (0 < ln n)), .slice ao (ln n) c] → Wh w' v (sg b n)) := fun w' v hb e => by
    subst e
    refine ⟨ao, c, ?_, ?_, by rw [sg_abs]; exact hl⟩
    · rw [sg_abs, sg_neg]
    · rw [sg_abs]; exact hs.below hb (Nat.le_refl _)
  have HB : Hid (∀ o, Below w.heap.size w (w.alloc o)) := fun o => (Below.refl _ w).alloc (Nat.le_refl _) o
  clear hs
  cases b with
  | false =>
    go_enter Tryd.func43, Tryd.ntmps43
    go_wp2
    refine bodyPost_ret (v := .agg #[.bool false, .slice ao (ln n) c]) (by simp [results, Tryd.results43, go_sem]) rfl ?_
    exact ⟨_, rfl, HW.out _ _ (HB.out _) (by simp), HB.out _⟩
  | true =>
    by_cases h0 : 0 < ln n
    · have g : (0 : Int) < (ln n : Int) := by omega
      have e : decide (0 < ln n) = true := by simpa using h0
      rw [e] at HW
      go_enter Tryd.func43, Tryd.ntmps43
      go_wp2
      refine bodyPost_ret (v := .agg #[.bool true, .slice ao (ln n) c]) (by simp [results, Tryd.results43, go_sem]) rfl ?_
      exact ⟨_, rfl, HW.out _ _ (HB.out _) (by simp), HB.out _⟩
    · have g : ¬ (0 : Int) < (ln n : Int) := by omega
      have e : decide (0 < ln n) = false := by simpa using h0
      rw [e] at HW
      clear h0
      go_enter Tryd.func43, Tryd.ntmps43
      go_wp2
      refine bodyPost_ret (v := .agg #[.bool false, .slice ao (ln n) c]) (by simp [results, Tryd.results43, go_sem]) rfl ?_
      exact ⟨_, rfl, HW.out _ _ (HB.out _) (by simp), HB.out _⟩

set_option maxRecDepth 100000 in
theorem sText (vs : Value) (n : Nat) (w : World) (hs : Sz w vs n) (hl : ln n ≤ 1000) (htab : Lib.TabIs Tryd.prog w "internal/strconv.uint64pow10" .u64 Lib.pow10Tab) :
    Calls Tryd.prog 75 #[vs] w fun e w' => e = .returned (.string ⟨(Lib.decDigits n).toArray⟩) ∧ Below w.heap.size w w' := by
  by_cases h0 : n = 0
  · subst h0
    obtain ⟨ao, c, rfl, h1, h2, h3, _⟩ := hs.open
    have HE : Hid (Lib.decDigits 0 = [48]) := Lib.decDigits_one (by decide)
    have HB : Hid (∀ o, Below w.heap.size w (w.alloc o)) := fun o => (Below.refl _ w).alloc (Nat.le_refl _) o
    rw [ln_zero]
    clear hs
    go_enter Tryd.func75, Tryd.ntmps75
    go_wp2
    go_ret
    exact ⟨by rw [HE.out]; rfl, HB.out _⟩
  · exact sText_some vs n w hs h0 hl htab

theorem Sz.setBox {W : World} {s : Value} {n X : Nat} {T : TypeId} {b : Bool} {v : Value} (h : Sz W s n) (hX : W.heap[X]? = some (.cells #[.bool b, v] T (0, 0))) (i : Nat) (u : Value) : Sz (W.setCell ⟨X, i, none⟩ u) s n := by
  obtain ⟨⟨ao, c, h1, h2, h3, h4⟩, h5⟩ := h
  refine ⟨⟨ao, c, h1, h2, h3, ?_⟩, h5⟩
  rcases h4 with h4 | ⟨g, e, hg⟩
  · exact .inl h4
  · by_cases h0 : ln n = 0
    · exact .inl h0
    · refine .inr ⟨g, e, fun j hj => ?_⟩
      have hne : g ≠ X := fun e2 => by
        have := hg 0 (by omega)
        rw [e2, cells_at hX 0] at this
        simp at this
      rw [World.cell?_setCell_other _ _ _ _ (by intro e3; injection e3 with e3; exact hne e3.symm)]
      exact hg j hj
theorem box_set {W : World} {X : Nat} {T : TypeId} {a b : Value} (hX : W.heap[X]? = some (.cells #[a, b] T (0, 0))) (u : Value) : (W.setCell ⟨X, 0, none⟩ u).heap[X]? = some (.cells #[u, b] T (0, 0)) := by
  rw [heap_setCell_same W X 0 #[a, b] T u hX]; rfl
/-- A whole number stored into a box of its own. -/
theorem stored {w0 W : World} {X B : Nat} {T : TypeId} {b0 b1 : Bool} {v0 sl : Value} {x : Int} (hX : W.heap[X]? = some (.cells #[.bool b0, v0] T (0, 0))) (hW : Wh W (.agg #[.bool b1, sl]) x) (hB : Below B w0 W) (hBX : B ≤ X) :
    Wh ((W.setCell ⟨X, 0, none⟩ (.bool b1)).setCell ⟨X, 1, none⟩ sl) (.agg #[.bool b1, sl]) x ∧ Below B w0 ((W.setCell ⟨X, 0, none⟩ (.bool b1)).setCell ⟨X, 1, none⟩ sl) := by
  obtain ⟨ao, c, e, h2, h3⟩ := hW
  exact ⟨⟨ao, c, e, (h2.setBox hX 0 _).setBox (box_set hX _) 1 _, h3⟩, (hB.setCell (p := ⟨X, 0, none⟩) hBX _).setCell (p := ⟨X, 1, none⟩) hBX _⟩
structure BoxF (W : World) (X : Nat) (a b u v : Value) : Prop where
  c0 : W.cell? ⟨X, 0, none⟩ = some a
  c1 : W.cell? ⟨X, 1, none⟩ = some b
  f0 : W.frozen? ⟨X, 0, none⟩ = false
  f1 : W.frozen? ⟨X, 1, none⟩ = false
  s0 : (W.setCell ⟨X, 0, none⟩ u).cell? ⟨X, 0, none⟩ = some u
  s1 : ((W.setCell ⟨X, 0, none⟩ u).setCell ⟨X, 1, none⟩ v).cell? ⟨X, 1, none⟩ = some v
theorem boxF {W : World} {X : Nat} {T : TypeId} {a b : Value} (hX : W.heap[X]? = some (.cells #[a, b] T (0, 0))) (u v : Value) : BoxF W X a b u v := by
  have c0 : W.cell? ⟨X, 0, none⟩ = some a := by rw [cells_at hX 0]; rfl
  have c1 : W.cell? ⟨X, 1, none⟩ = some b := by rw [cells_at hX 1]; rfl
  refine ⟨c0, c1, cells_free hX 0, cells_free hX 1, World.cell?_setCell_same' _ _ _ (by rw [c0]; rfl), World.cell?_setCell_same' _ _ _ ?_⟩
  rw [World.cell?_setCell_other _ _ _ _ (by simp), c1]; rfl

set_option maxRecDepth 100000 in
theorem hText (v : Value) (x : Int) (w : World) (h : Wh w v x) (htab : Lib.TabIs Tryd.prog w "internal/strconv.uint64pow10" .u64 Lib.pow10Tab) :
    Calls Tryd.prog 55 #[v] w fun e w' => e = .returned (.string (txt x)) ∧ Below w.heap.size w w' := by
  obtain ⟨ao, c, rfl, hs, hl⟩ := h
  have HB : Hid (∀ o, Below w.heap.size w (w.alloc o)) := fun o => (Below.refl _ w).alloc (Nat.le_refl _) o
  have HC : Hid (∀ o, Calls Tryd.prog 75 #[.slice ao (ln x.natAbs) c] (w.alloc o) fun e w' => e = .returned (.string ⟨(Lib.decDigits x.natAbs).toArray⟩) ∧ Below w.heap.size w w') := fun o => by
    refine (sText _ x.natAbs _ (hs.below (HB.out o) (Nat.le_refl _)) (by omega) (tab_below htab (HB.out o) (Nat.le_refl _))).mono ?_
    rintro e w' ⟨rfl, hb⟩
    exact ⟨rfl, (HB.out o).trans (hb.mono (HB.out o).size)⟩
  have hsz : (⟨(Lib.decDigits x.natAbs).toArray⟩ : ByteArray).size ≤ 100000 := by
    rw [← bytes_len]
    show (Lib.decDigits x.natAbs).length ≤ _
    rw [Lib.decDigits_length]
    have h1 := lt_pow_ln x.natAbs
    rw [← pow9] at h1
    by_cases h2 : Lib.nDigits x.natAbs ≤ 9 * ln x.natAbs + 1
    · omega
    · exfalso
      have h4 : x.natAbs < 10 ^ (9 * ln x.natAbs) := h1
      have key : ∀ (k u : Nat), u < 10 ^ k → Lib.nDigits u ≤ k + 1 := by
        intro k
        induction k with
        | zero => intro u hu; rw [Lib.nDigits_small (by simp at hu; omega)]; omega
        | succ k ih =>
          intro u hu
          by_cases h9 : u < 10
          · rw [Lib.nDigits_small h9]; omega
          · rw [Lib.nDigits_big h9]
            have := ih (u / 10) (by rw [Nat.pow_succ] at hu; omega)
            omega
      exact h2 (key _ _ h4)
  clear hs htab
  by_cases hx : x < 0
  · have ex : decide (x < 0) = true := by simpa using hx
    have HE : Hid ((⟨#[45]⟩ : ByteArray) ++ ⟨(Lib.decDigits x.natAbs).toArray⟩ = txt x) := by
      show _ = _
      apply ByteArray.ext
      apply Array.toList_inj.1
      rw [txt_data]
      have e : ((⟨#[45]⟩ : ByteArray) ++ ⟨(Lib.decDigits x.natAbs).toArray⟩).data.toList = 45 :: Lib.decDigits x.natAbs := by simp
      rw [e]
      unfold Lib.itoa
      rw [if_pos hx]
    generalize (⟨(Lib.decDigits x.natAbs).toArray⟩ : ByteArray) = T at *
    have hs2 : ¬ 9223372036854775807 < 1 + T.size := by omega
    rw [ex]
    clear hx ex
    go_enter Tryd.func55, Tryd.ntmps55
    go_wp2_with fail
    refine (HC.out _).mono ?_
    rintro e w1 ⟨rfl, b1⟩
    go_wp2
    go_ret
    exact ⟨by rw [← HE.out]; rfl, b1⟩
  · have ex : decide (x < 0) = false := by simpa using hx
    have HE : Hid ((⟨(Lib.decDigits x.natAbs).toArray⟩ : ByteArray) = txt x) := by
      show _ = _
      unfold txt Lib.itoa
      rw [if_neg hx, show x.toNat = x.natAbs by omega]
    rw [ex]
    clear hx ex
    go_enter Tryd.func55, Tryd.ntmps55
    go_wp2_with fail
    refine (HC.out _).mono ?_
    rintro e w1 ⟨rfl, b1⟩
    go_wp2
    go_ret
    exact ⟨by rw [← HE.out]; rfl, b1⟩

set_option maxRecDepth 100000 in
theorem turned (v : Value) (x : Int) (w : World) (h : Wh w v x) :
    Calls Tryd.prog 38 #[v] w fun e w' => ∃ v', e = .returned v' ∧ Wh w' v' (-x) ∧ Below w.heap.size w w' := by
  obtain ⟨ao, c, rfl, hs, hl⟩ := h
  have hsg : sg (!decide (x < 0)) x.natAbs = -x := by
    unfold sg
    by_cases h : x < 0
    · simp [h]; omega
    · simp [h]; omega
  have HC : Hid (∀ o, Calls Tryd.prog 43 #[.bool (!decide (x < 0)), .slice ao (ln x.natAbs) c] ((w.alloc o).alloc (.cells #[.bool false, .slice none 0 0] 48)) fun e w' => ∃ b' sl, e = .returned (.agg #[.bool b', sl]) ∧ (∃ a' n' c', sl = .slice a' n' c') ∧ BoxF w' (w.heap.size + 1) (.bool false) (.slice none 0 0) (.bool b') sl ∧ Hid (Wh ((w'.setCell ⟨w.heap.size + 1, 0, none⟩ (.bool b')).setCell ⟨w.heap.size + 1, 1, none⟩ sl) (.agg #[.bool b', sl]) (-x) ∧ Below w.heap.size w ((w'.setCell ⟨w.heap.size + 1, 0, none⟩ (.bool b')).setCell ⟨w.heap.size + 1, 1, none⟩ sl))) := fun o => by
    have k : Below w.heap.size w ((w.alloc o).alloc (.cells #[.bool false, .slice none 0 0] 48)) := ((Below.refl _ w).alloc (Nat.le_refl _) _).alloc (by simp) _
    refine (signed (!decide (x < 0)) _ x.natAbs _ (hs.below k (Nat.le_refl _)) hl).mono ?_
    rintro e w' ⟨v', rfl, hw, hb⟩
    rw [hsg] at hw
    obtain ⟨a', c', rfl, _⟩ := id hw
    have hX : w'.heap[w.heap.size + 1]? = some (.cells #[.bool false, .slice none 0 0] 48 (0, 0)) := by
      rw [hb.block _ (by simp)]
      exact heap_alloc_at _ _ _ (by simp)
    exact ⟨_, _, rfl, ⟨_, _, _, rfl⟩, boxF hX _ _, stored hX hw (k.trans (hb.mono k.size)) (by omega)⟩
  generalize decide (x < 0) = b at *
  clear hs hl hsg
  go_enter Tryd.func38, Tryd.ntmps38
  go_wp2_with fail
  refine (HC.out _).mono ?_
  rintro e w1 ⟨b', sl, rfl, ⟨a', n', c', rfl⟩, ⟨c0, c1, f0, f1, s0, s1⟩, HX⟩
  go_wp2
  refine bodyPost_ret (v := .agg #[.bool b', .slice a' n' c']) (by simp [results, Tryd.results38, go_sem, s0, s1]) rfl ?_
  exact ⟨_, rfl, HX.out.1, HX.out.2⟩
end Go.Proofs.YtcnlclocnnijgaaDoor
