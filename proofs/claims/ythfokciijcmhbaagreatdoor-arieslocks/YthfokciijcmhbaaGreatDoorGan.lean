/-
  Contract of a log's settle. Condition: the state lies apart from its tail.
  Contracts of wire.number and of the document's own Uint, over bytes that stand anywhere: both answer Wm.num of the bytes, and change nothing.
  Contracts of wire's Reader and of the document's own: what each call answers, and where the reader then stands. The conditions are those of RdInv (a reader that Over made, which has read p of n bytes) and RefInv (the document's).
-/
import Derived.Test.YthfokciijcmhbaaGreatDoorGam
import Derived.Test.YthfokciijcmhbaaGreatDoorProg
import Derived.Test.YthfokciijcmhbaaGreatDoorGaa
import Derived.WalkKit
import Derived.WalkLawsBesides
import Derived.WalkSpells
import Derived.Deep.QuietTactic
import Derived.BigQuiet
namespace Go.Proofs.YthfokciijcmhbaaGreatDoor
open Go.RowKit
set_option linter.unusedVariables false

/-- Bytes of a slice that begins its block. -/
def Fst (w : World) (a : Option Addr) (n c : Nat) (f : Nat → Int) : Prop := n ≤ c ∧ c ≤ 9223372036854775807 ∧ ((a = none ∧ n = 0 ∧ c = 0) ∨ ∃ g, a = some ⟨g, 0, none⟩ ∧ ∀ i, i < n → w.cell? ⟨g, i, none⟩ = some (.int .u8 (f i)))
theorem Own.fst {w : World} {B n : Nat} {v : Value} {f : Nat → Int} (h : Own w B v (lst f n)) : ∃ a c, v = .slice a n c ∧ Fst w a n c f ∧ ∀ g, a = some ⟨g, 0, none⟩ → B ≤ g ∧ g < w.heap.size := by
  have h' := h
  unfold Own at h'
  rcases h'.2 with ⟨e, e0⟩ | ⟨g, cap, cur, e, h2, h3, h4, h5, _⟩
  · rw [lst_length] at e0
    subst e0
    exact ⟨none, 0, e, ⟨Nat.le_refl _, by decide, .inl ⟨rfl, rfl, rfl⟩⟩, fun g e => by cases e⟩
  · rw [lst_length] at e h4
    subst e
    refine ⟨_, cap, rfl, ⟨h4, by unfold maxLen at h5; omega, .inr ⟨g, rfl, fun i hi => h.cellF i hi⟩⟩, fun g' e => ?_⟩
    cases e
    exact ⟨h2, (Array.getElem?_eq_some_iff.1 h3).1⟩
theorem heap_set_at {w : World} {T i : Nat} {cs : Array Value} {t : TypeId} (h : w.heap[T]? = some (.cells cs t (0, 0))) (v : Value) : (w.setCell ⟨T, i, none⟩ v).heap[T]? = some (.cells (cs.setIfInBounds i v) t (0, 0)) := by
  rw [heap_setCell_same w T i cs t v h]

set_option maxRecDepth 100000 in
set_option maxHeartbeats 2000000 in
theorem settleL (T last place tl c : Nat) (x0 x1 x2 x3 x5 : Value) (a : Option Addr) (f : Nat → Int) (w : World) (hT : w.heap[T]? = some (.cells #[x0, x1, x2, x3, .int .i64 (last : Int), x5, .int .i64 (place : Int), .slice a tl c] 135 (0, 0))) (hf : Fst w a tl c f) (hne : ∀ g, a = some ⟨g, 0, none⟩ → g ≠ T) (htl : tl ≤ 1000000) (hpl : place ≤ 1000000) (h5 : ∃ z, x5 = .int .i64 z) :
    Calls Tryz.prog 69 #[.pointer (some ⟨T, 0, none⟩)] w fun r w' => ∃ v', r = .returned (.tuple #[]) ∧ w'.heap[T]? = some (.cells #[x0, x1, x2, x3, .int .i64 (last : Int), .int .i64 (last : Int), .int .i64 ((place + tl / 112 : Nat) : Int), v'] 135 (0, 0)) ∧ Own w' w.heap.size v' (lst (sh f (tl / 112 * 112)) (tl - tl / 112 * 112)) ∧ Part (fun q => q = T) w w' := by
  obtain ⟨z5, rfl⟩ := h5
  have hTl : T < w.heap.size := (Array.getElem?_eq_some_iff.1 hT).1
  obtain ⟨q, hq⟩ : ∃ q, tl / 112 = q := ⟨_, rfl⟩
  have hq1 : q * 112 ≤ tl := by omega
  rw [hq]
  obtain ⟨W1, hW1⟩ : ∃ W1, w.setCell ⟨T, 6, none⟩ (.int .i64 ((place : Int) + (q : Int))) = W1 := ⟨_, rfl⟩
  have hT1 : W1.heap[T]? = some (.cells #[x0, x1, x2, x3, .int .i64 (last : Int), .int .i64 z5, .int .i64 ((place : Int) + (q : Int)), .slice a tl c] 135 (0, 0)) := by rw [← hW1, heap_set_at hT]; rfl
  have hP1 : Part (fun k => k = T) w W1 := by rw [← hW1]; exact (Part.refl (fun k => k = T) w).setCell (p := ⟨T, 6, none⟩) (fun _ => rfl) _
  have hs1 : W1.heap.size = w.heap.size := by rw [← hW1]; simp [World.setCell]
  have hf1 : Fst W1 a tl c f := ⟨hf.1, hf.2.1, hf.2.2.imp id fun ⟨g, e, hg⟩ => ⟨g, e, fun i hi => by
    rw [← hW1, World.cell?_setCell_other _ _ _ _ (by simp; exact fun h => absurd h.symm (hne g e))]
    exact hg i hi⟩⟩
  have d4 : w.cell? ⟨T, 4, none⟩ = some (.int .i64 (last : Int)) := by rw [cells_at hT 4]; rfl
  have d6 : w.cell? ⟨T, 6, none⟩ = some (.int .i64 (place : Int)) := by rw [cells_at hT 6]; rfl
  have d7 : w.cell? ⟨T, 7, none⟩ = some (.slice a tl c) := by rw [cells_at hT 7]; rfl
  have f6 : w.frozen? ⟨T, 6, none⟩ = false := cells_free hT 6
  have k7 : W1.cell? ⟨T, 7, none⟩ = some (.slice a tl c) := by rw [cells_at hT1 7]; rfl
  have HE : Hid (∀ w2 v', Below W1.heap.size W1 w2 → Own w2 W1.heap.size v' (lst (sh f (q * 112)) (tl - q * 112)) → w2.cell? ⟨T, 7, none⟩ = some (.slice a tl c) ∧ w2.frozen? ⟨T, 7, none⟩ = false ∧ (w2.setCell ⟨T, 7, none⟩ v').cell? ⟨T, 4, none⟩ = some (.int .i64 (last : Int)) ∧ (w2.setCell ⟨T, 7, none⟩ v').cell? ⟨T, 5, none⟩ = some (.int .i64 z5) ∧ (w2.setCell ⟨T, 7, none⟩ v').frozen? ⟨T, 5, none⟩ = false ∧ Hid (∃ u, ((w2.setCell ⟨T, 7, none⟩ v').setCell ⟨T, 5, none⟩ (.int .i64 (last : Int))).heap[T]? = some (.cells #[x0, x1, x2, x3, .int .i64 (last : Int), .int .i64 (last : Int), .int .i64 ((place + q : Nat) : Int), u] 135 (0, 0)) ∧ Own ((w2.setCell ⟨T, 7, none⟩ v').setCell ⟨T, 5, none⟩ (.int .i64 (last : Int))) w.heap.size u (lst (sh f (q * 112)) (tl - q * 112)) ∧ Part (fun q => q = T) w ((w2.setCell ⟨T, 7, none⟩ v').setCell ⟨T, 5, none⟩ (.int .i64 (last : Int))))) := fun w2 v' hb ho => by
    have hT2 := (hb.block T (by omega)).trans hT1
    have hT3 := heap_set_at (i := 7) hT2 v'
    have hT4 := heap_set_at (i := 5) hT3 (.int .i64 (last : Int))
    refine ⟨by rw [cells_at hT2 7]; rfl, cells_free hT2 7, by rw [cells_at hT3 4]; rfl, by rw [cells_at hT3 5]; rfl, cells_free hT3 5, ⟨v', ?_, ?_, ?_⟩⟩
    · rw [hT4]
      show some (Obj.cells #[x0, x1, x2, x3, .int .i64 (last : Int), .int .i64 (last : Int), .int .i64 ((place : Int) + (q : Int)), v'] _ _) = _
      rw [show (place : Int) + (q : Int) = ((place + q : Nat) : Int) by omega]
    · have hk : v'.ownBlock ≠ some T := fun e => by have := (World.ownsRow.lt ho T e).1; omega
      have h9 : Own ((w2.setCell ⟨T, 7, none⟩ v').setCell ⟨T, 5, none⟩ (.int .i64 (last : Int))) W1.heap.size v' (lst (sh f (q * 112)) (tl - q * 112)) := row_set (row_set ho hk 7 v') hk 5 _
      exact h9.mono (by omega)
    · exact ((hP1.trans (Part.ofBelow (F := fun _ => False) hb) (fun _ _ h => h.elim)).setCell (p := ⟨T, 7, none⟩) (fun _ => rfl) _).setCell (p := ⟨T, 5, none⟩) (fun _ => rfl) _
  have hqi : (tl : Int) / 112 = (q : Int) := by omega
  have hci : (q : Int) * 112 ≤ (c : Int) := by have := hf.1; omega
  have hti : (q : Int) * 112 ≤ (tl : Int) := by omega
  have hpi : (place : Int) ≤ 1000000 := by omega
  have hqb : (q : Int) ≤ 1000000 := by omega
  clear hT hT1 hf hP1
  rcases hf1 with ⟨hc1, hc2, ⟨rfl, rfl, rfl⟩ | ⟨g, rfl, hg⟩⟩
  · obtain rfl : q = 0 := by omega
    have hW2 : w.setCell ⟨T, 6, none⟩ (.int .i64 (place : Int)) = W1 := by rw [← hW1]; simp
    have CL : Calls Tryz.prog 23 #[.slice none 0 0] W1 fun e w' => ∃ v', e = .returned v' ∧ Own w' W1.heap.size v' (lst (sh f (0 * 112)) (0 - 0 * 112)) ∧ Below W1.heap.size W1 w' := clone none 0 0 (sh f (0 * 112)) W1 (by omega) (.inl ⟨rfl, rfl⟩)
    clear hW1 hqi hci hti hqb hq hq1 hc1 hc2 hne htl
    go_enter Tryz.func69, Tryz.ntmps69
    go_wp2_with fail
    refine CL.mono ?_
    rintro e w2 ⟨v', rfl, ho, hb⟩
    obtain ⟨a', c', rfl, _, _⟩ := ho.fst
    obtain ⟨y1, y2, y3, y4, y5, y6⟩ := HE.out w2 _ hb ho
    clear HE ho CL
    go_wp2
    go_end0
    obtain ⟨u, u1, u2, u3⟩ := y6.out
    first | exact ⟨u, rfl, u1, u2, u3⟩ | exact ⟨rfl, u, u1, u2, u3⟩
  · by_cases hcE : c = q * 112
    · have htE : tl = q * 112 := by omega
      have CL : ∀ x m, m = 0 → Calls Tryz.prog 23 #[.slice (some x) m 0] W1 fun e w' => ∃ v', e = .returned v' ∧ Own w' W1.heap.size v' (lst (sh f (q * 112)) (tl - q * 112)) ∧ Below W1.heap.size W1 w' := fun x m hm => by
        rw [show tl - q * 112 = 0 by omega, hm]
        exact clone (some x) 0 0 (sh f (q * 112)) W1 (by omega) (.inr ⟨_, rfl, fun i hi => by omega⟩)
      have HCL : Hid (∀ x m, m = 0 → Calls Tryz.prog 23 #[.slice (some x) m 0] W1 fun e w' => ∃ v', e = .returned v' ∧ Own w' W1.heap.size v' (lst (sh f (q * 112)) (tl - q * 112)) ∧ Below W1.heap.size W1 w') := CL
      have hzz : tl - q * 112 = 0 := by omega
      clear hne hg CL htE
      go_enter Tryz.func69, Tryz.ntmps69
      go_wp2_with fail
      refine (HCL.out _ _ rfl).mono ?_
      rintro e w2 ⟨v', rfl, ho, hb⟩
      obtain ⟨a', c', rfl, _, _⟩ := ho.fst
      obtain ⟨y1, y2, y3, y4, y5, y6⟩ := HE.out w2 _ hb ho
      clear HE ho HCL hzz hcE
      go_wp2
      go_end0
      obtain ⟨u, u1, u2, u3⟩ := y6.out
      first | exact ⟨u, rfl, u1, u2, u3⟩ | exact ⟨rfl, u, u1, u2, u3⟩
    · have CL : Calls Tryz.prog 23 #[.slice (some ⟨g, q * 112, none⟩) (tl - q * 112) (c - q * 112)] W1 fun e w' => ∃ v', e = .returned v' ∧ Own w' W1.heap.size v' (lst (sh f (q * 112)) (tl - q * 112)) ∧ Below W1.heap.size W1 w' :=
        clone _ _ _ (sh f (q * 112)) W1 (by omega) (.inr ⟨_, rfl, fun i hi => by rw [Addr.add_lit]; exact hg (q * 112 + i) (by omega)⟩)
      have hcn : ¬ (c = q * 112) := hcE
      clear hcE hne hg
      go_enter Tryz.func69, Tryz.ntmps69
      go_wp2_with fail
      refine CL.mono ?_
      rintro e w2 ⟨v', rfl, ho, hb⟩
      obtain ⟨a', c', rfl, _, _⟩ := ho.fst
      obtain ⟨y1, y2, y3, y4, y5, y6⟩ := HE.out w2 _ hb ho
      clear HE ho CL
      go_wp2
      go_end0
      obtain ⟨u, u1, u2, u3⟩ := y6.out
      first | exact ⟨u, rfl, u1, u2, u3⟩ | exact ⟨rfl, u, u1, u2, u3⟩
end Go.Proofs.YthfokciijcmhbaaGreatDoor

namespace Go.Proofs.YthfokciijcmhbaaGreatDoor
open Go.RowKit
set_option linter.unusedVariables false

theorem ret3 {a b c a' b' c' : Int} (h1 : a = a') (h2 : b = b') (h3 : c = c') : Ending.returned (.tuple #[.int .i64 a, .int .i64 b, .int .i64 c]) = .returned (.tuple #[.int .i64 a', .int .i64 b', .int .i64 c']) := by rw [h1, h2, h3]
theorem ret3p {a b c : Int} {p : Int × Int × Int} (h : p = (a, b, c)) : Ending.returned (.tuple #[.int .i64 a, .int .i64 b, .int .i64 c]) = .returned (.tuple #[.int .i64 p.1, .int .i64 p.2.1, .int .i64 p.2.2]) := by rw [h]

set_option maxHeartbeats 400000 in
theorem number_none (a : Option Addr) (c : Nat) (f : Nat → Int) (w : World) :
    Calls Tryz.prog 138 #[.slice a 0 c] w fun e w' => e = .returned (.tuple #[.int .i64 (Wm.num f 0).1, .int .i64 (Wm.num f 0).2.1, .int .i64 (Wm.num f 0).2.2]) ∧ w' = w := by
  go_enter Tryz.func138, Tryz.ntmps138
  go_wp2
  refine wp_loop_rounds 1 ?_
  rw [rounds_succ]
  go_wp2
  go_ret3
  exact ⟨ret3p (Wm.num_zero f), rfl⟩

set_option maxHeartbeats 1000000 in
theorem wnumber_at (b off n c : Nat) (f : Nat → Int) (w : World) (hbig : n ≤ 140737488355328) (hby : ∀ i, 0 ≤ f i ∧ f i ≤ 255) (hc : Hid (∀ i, i < n → w.cell? ⟨b, off + i, none⟩ = some (.int .u8 (f i)))) :
    Calls Tryz.prog 138 #[.slice (some ⟨b, off, none⟩) n c] w fun e w' => e = .returned (.tuple #[.int .i64 (Wm.num f n).1, .int .i64 (Wm.num f n).2.1, .int .i64 (Wm.num f n).2.2]) ∧ w' = w := by
  go_enter Tryz.func138, Tryz.ntmps138
  go_wp2
  go_loop [5, 7] (fun x i => ∃ k : Nat, k ≤ n ∧ k ≤ 9 ∧ i = .int .i64 k ∧ x = .int .i64 (Wm.accum f k) ∧ Hid (Wm.num f n = Wm.numAt f n (9 - k) k)) (fun _ i => 9 - (intOf i).toNat)
  case atStart => exact ⟨0, Nat.zero_le _, by omega, rfl, rfl, rfl⟩
  case round =>
    obtain ⟨k, hk, hk9, rfl, rfl, hnum⟩ := hrel
    have hcell : k < n → w.cell? ⟨b, off + k, none⟩ = some (.int .u8 (f k)) := fun h => hc.out k h
    have hb1 := (hby k).1
    have hb2 := (hby k).2
    clear hby
    generalize hx : f k = x at *
    have HX : Hid (f k = x) := hx
    clear hx
    by_cases hlt : k < 9
    · by_cases hkn : k < n
      · have hne : ((k : Int) == (n : Int)) = false := by simp; omega
        have hcell := hcell hkn
        have HS : Hid _ := Wm.or_step f x k hlt HX.out hb1 hb2
        by_cases h128 : 128 ≤ x
        · go_wp2
          go_round
          case rel => exact ⟨k + 1, by omega, by omega, by go_num, by rw [HS.out], hnum.out.trans (Wm.num_more f n k hlt hkn (by rw [HX.out]; exact h128))⟩
          case measure => simp [intOf]; omega
        · by_cases h0 : (x == 0) = true
          · have h0' : Hid (x = 0) := (by simpa using h0 : x = 0)
            by_cases hk0 : 0 < k
            · go_wp2
              go_ret3
              exact ⟨ret3p (hnum.out.trans (Wm.num_form f n k hlt hkn (HX.out.trans h0'.out) hk0)), rfl⟩
            · go_wp2
              go_ret3
              exact ⟨(ret3 HS.out rfl rfl).trans (ret3p (hnum.out.trans (Wm.num_last f n k hlt hkn (by rw [HX.out]; omega) (by omega)))), rfl⟩
          · have h0 : (x == 0) = false := by simpa using h0
            have h0' : Hid (x ≠ 0) := (by simpa using h0 : x ≠ 0)
            go_wp2
            go_ret3
            exact ⟨(ret3 HS.out rfl rfl).trans (ret3p (hnum.out.trans (Wm.num_last f n k hlt hkn (by rw [HX.out]; omega) (fun h => h0'.out (HX.out.symm.trans h.1))))), rfl⟩
      · have hne : ((k : Int) == (n : Int)) = true := by simp; omega
        go_wp2
        go_ret3
        exact ⟨ret3p (hnum.out.trans (Wm.num_short f n k hlt (by omega))), rfl⟩
    · go_wp2
      go_ret3
      exact ⟨ret3p (hnum.out.trans (Wm.numAt_end f n k (by omega))), rfl⟩

end Go.Proofs.YthfokciijcmhbaaGreatDoor

namespace Go.Proofs.YthfokciijcmhbaaGreatDoor
open Go.RowKit
set_option linter.unusedVariables false

theorem number_any (ao : Option Addr) (n c : Nat) (f : Nat → Int) (w : World) (hbig : n ≤ 140737488355328) (hby : ∀ i, 0 ≤ f i ∧ f i ≤ 255) (hl : Lay w ao n f) :
    Calls Tryz.prog 138 #[.slice ao n c] w fun e w' => e = .returned (.tuple #[.int .i64 (Wm.num f n).1, .int .i64 (Wm.num f n).2.1, .int .i64 (Wm.num f n).2.2]) ∧ w' = w := by
  rcases hl with rfl | ⟨b, off, rfl, hc⟩
  · exact number_none ao c f w
  · exact wnumber_at b off n c f w hbig hby hc
/-- A reader at block R, made by Over: it has read p of the n bytes f. -/
structure RdInv (w : World) (R : Nat) (ao : Option Addr) (cap : Nat) (f : Nat → Int) (n p : Nat) : Prop where
  all : w.cell? ⟨R, 0, none⟩ = some (.slice ao n cap)
  at_ : w.cell? ⟨R, 1, none⟩ = some (.int .i64 (p : Int))
  made : w.cell? ⟨R, 2, none⟩ = some (.bool true)
  free : w.frozen? ⟨R, 1, none⟩ = false
  hp : p ≤ n
  hn : n ≤ cap
  hc : cap ≤ 9223372036854775807
  big : n ≤ 140737488355328
  by_ : ∀ i, 0 ≤ f i ∧ f i ≤ 255
  lies : (ao = none ∧ n = 0 ∧ cap = 0) ∨ ∃ g, ao = some ⟨g, 0, none⟩ ∧ ∀ i, i < n → w.cell? ⟨g, i, none⟩ = some (.int .u8 (f i))

theorem RdInv.apart {w : World} {R : Nat} {ao : Option Addr} {cap : Nat} {f : Nat → Int} {n p g : Nat} (h : RdInv w R ao cap f n p) (hg : ao = some ⟨g, 0, none⟩) (hn : 0 < n) : g ≠ R := by
  intro e
  subst e
  rcases h.lies with ⟨h1, _⟩ | ⟨g', h1, h2⟩
  · rw [h1] at hg; cases hg
  · rw [h1] at hg
    cases hg
    have := h2 0 hn
    rw [h.all] at this
    cases this

theorem RdInv.kept {w w' : World} {R : Nat} {ao : Option Addr} {cap : Nat} {f : Nat → Int} {n p : Nat} (h : RdInv w R ao cap f n p) (hR : w'.heap[R]? = w.heap[R]?)
    (hg : ∀ g, ao = some ⟨g, 0, none⟩ → 0 < n → w'.heap[g]? = w.heap[g]?) : RdInv w' R ao cap f n p := by
  have e1 : ∀ i, w'.cell? ⟨R, i, none⟩ = w.cell? ⟨R, i, none⟩ := fun i => World.cell?_of_block (w := w) hR
  refine ⟨(e1 0).trans h.all, (e1 1).trans h.at_, (e1 2).trans h.made, (World.frozen?_of_block (w := w) hR).trans h.free, h.hp, h.hn, h.hc, h.big, h.by_, ?_⟩
  rcases h.lies with h1 | ⟨g, h1, h2⟩
  · exact .inl h1
  · exact .inr ⟨g, h1, fun i hi => (World.cell?_of_block (w := w) (hg g h1 (by omega))).trans (h2 i hi)⟩

theorem RdInv.lt {w : World} {R : Nat} {ao : Option Addr} {cap : Nat} {f : Nat → Int} {n p : Nat} (h : RdInv w R ao cap f n p) : R < w.heap.size := World.block_lt_of_cell? w ⟨R, 0, none⟩ h.all
theorem RdInv.alloc {w : World} {R : Nat} {ao : Option Addr} {cap : Nat} {f : Nat → Int} {n p : Nat} (h : RdInv w R ao cap f n p) (o : Obj) : RdInv (w.alloc o) R ao cap f n p := by
  refine h.kept (Below.heap_alloc _ _ _ h.lt) fun g hg hn => ?_
  rcases h.lies with ⟨h1, _⟩ | ⟨g', h1, h2⟩
  · rw [h1] at hg; cases hg
  · rw [h1] at hg
    cases hg
    exact Below.heap_alloc _ _ _ (World.block_lt_of_cell? w ⟨_, 0, none⟩ (h2 0 hn))

/-- The reader moved on. -/
theorem RdInv.moved {w w' : World} {R : Nat} {ao : Option Addr} {cap : Nat} {f : Nat → Int} {n p p' : Nat} (h : RdInv w R ao cap f n p) (ho : Only R w w') (h' : p' ≤ n)
    (e0 : w'.cell? ⟨R, 0, none⟩ = w.cell? ⟨R, 0, none⟩) (e1 : w'.cell? ⟨R, 1, none⟩ = some (.int .i64 (p' : Int))) (e2 : w'.cell? ⟨R, 2, none⟩ = w.cell? ⟨R, 2, none⟩) (e3 : w'.frozen? ⟨R, 1, none⟩ = false) : RdInv w' R ao cap f n p' := by
  refine ⟨e0.trans h.all, e1, e2.trans h.made, e3, h', h.hn, h.hc, h.big, h.by_, ?_⟩
  rcases h.lies with h1 | ⟨g, h1, h2⟩
  · exact .inl h1
  · exact .inr ⟨g, h1, fun i hi => (ho.cell (h.apart h1 (by omega))).trans (h2 i hi)⟩

set_option maxHeartbeats 400000 in
theorem missing_no (R : Nat) (w : World) (hm : w.cell? ⟨R, 2, none⟩ = some (.bool true)) :
    Calls Tryz.prog 137 #[.pointer (some ⟨R, 0, none⟩)] w fun e w' => e = .returned (.bool false) ∧ w' = w := by
  go_enter Tryz.func137, Tryz.ntmps137
  go_wp2
  go_ret
  exact ⟨rfl, rfl⟩

set_option maxHeartbeats 400000 in
theorem rest_some (R g p n cap : Nat) (w : World) (h0 : w.cell? ⟨R, 0, none⟩ = some (.slice (some ⟨g, 0, none⟩) n cap)) (h1 : w.cell? ⟨R, 1, none⟩ = some (.int .i64 (p : Int))) (hp : p ≤ n) (hc : n ≤ cap) (hm : cap ≤ 9223372036854775807) :
    Calls Tryz.prog 139 #[.pointer (some ⟨R, 0, none⟩)] w fun e w' => ∃ p' q, e = .returned (.slice (some ⟨g, p', none⟩) (n - p) (cap - p)) ∧ (p < n → p' = p) ∧ w' = w.drewN q := by
  have b1 : (0 : Int) ≤ (p : Int) := by omega
  have b2 : (p : Int) ≤ (n : Int) := by omega
  by_cases hcp : cap = p
  · obtain rfl : p = n := by omega
    subst hcp
    go_enter Tryz.func139, Tryz.ntmps139
    go_wp2
    go_quiet (fail)
    go_wp2
    go_ret
    exact ⟨0, _, (by simp only [Nat.sub_self]; rfl), fun h => absurd h (Nat.lt_irrefl _), rfl⟩
  · have hlt : p < cap := by omega
    go_enter Tryz.func139, Tryz.ntmps139
    go_wp2
    go_quiet (fail)
    go_wp2
    go_ret
    exact ⟨p, _, rfl, fun _ => rfl, rfl⟩

set_option maxHeartbeats 400000 in
theorem rest_nil (R : Nat) (w : World) (h0 : w.cell? ⟨R, 0, none⟩ = some (.slice none 0 0)) (h1 : w.cell? ⟨R, 1, none⟩ = some (.int .i64 0)) :
    Calls Tryz.prog 139 #[.pointer (some ⟨R, 0, none⟩)] w fun e w' => e = .returned (.slice none 0 0) ∧ ∃ q, w' = w.drewN q := by
  go_enter Tryz.func139, Tryz.ntmps139
  go_wp2
  go_quiet (fail)
  go_wp2
  go_ret
  exact ⟨rfl, _, rfl⟩

/-- What is left of a reader's bytes. -/
theorem rest_inv {w : World} {R : Nat} {ao : Option Addr} {cap : Nat} {f : Nat → Int} {n p : Nat} (h : RdInv w R ao cap f n p) :
    Calls Tryz.prog 139 #[.pointer (some ⟨R, 0, none⟩)] w fun e w' => ∃ ao' c', e = .returned (.slice ao' (n - p) c') ∧ n - p ≤ c' ∧ c' ≤ 9223372036854775807 ∧ Lay w' ao' (n - p) (sh f p) ∧ (∃ q, w' = w.drewN q) := by
  rcases h.lies with ⟨h1, h2, h3⟩ | ⟨g, h1, h2⟩
  · have hp := h.hp
    obtain rfl : p = 0 := by omega
    subst h1 h2 h3
    exact (rest_nil R w h.all h.at_).mono fun e w' ⟨he, hq⟩ => ⟨none, 0, he, Nat.le_refl _, by decide, .inl rfl, hq⟩
  · subst h1
    refine (rest_some R g p n cap w h.all h.at_ h.hp h.hn h.hc).mono fun e w' ⟨p', q, he, hp', hq⟩ => ⟨_, _, he, by have := h.hn; omega, by have := h.hc; omega, ?_, q, hq⟩
    by_cases hlt : p < n
    · obtain rfl := hp' hlt
      subst hq
      exact .inr ⟨g, p', rfl, fun i hi => h2 (p' + i) (by omega)⟩
    · exact .inl (by omega)

set_option maxHeartbeats 400000 in
theorem skip_at (R p : Nat) (s : Int) (w : World) (h1 : w.cell? ⟨R, 1, none⟩ = some (.int .i64 (p : Int))) (hf : w.frozen? ⟨R, 1, none⟩ = false) (hs : 0 ≤ s) (hps : (p : Int) + s ≤ 9223372036854775807) :
    Calls Tryz.prog 140 #[.pointer (some ⟨R, 0, none⟩), .int .i64 s] w fun e w' => e = .returned (.tuple #[]) ∧ w' = w.setCell ⟨R, 1, none⟩ (.int .i64 ((p : Int) + s)) := by
  go_enter Tryz.func140, Tryz.ntmps140
  go_wp2
  go_end0
  exact ⟨rfl, rfl⟩

theorem set_keeps (w : World) (R : Nat) (v u : Value) (h : w.cell? ⟨R, 1, none⟩ = some u) (hf : w.frozen? ⟨R, 1, none⟩ = false) :
    (w.setCell ⟨R, 1, none⟩ v).cell? ⟨R, 0, none⟩ = w.cell? ⟨R, 0, none⟩ ∧ (w.setCell ⟨R, 1, none⟩ v).cell? ⟨R, 1, none⟩ = some v ∧ (w.setCell ⟨R, 1, none⟩ v).cell? ⟨R, 2, none⟩ = w.cell? ⟨R, 2, none⟩ ∧ (w.setCell ⟨R, 1, none⟩ v).frozen? ⟨R, 1, none⟩ = false := by
  refine ⟨?_, ?_, ?_, ?_⟩
  · go_simp
  · go_simp
  · go_simp
  · go_simp
end Go.Proofs.YthfokciijcmhbaaGreatDoor
