/-
  Slices of bytes that lie somewhere (Img); the contract of the law's own Image over them.
-/
import Derived.Test.YtmjoklppibfdmaaDoorDkSees
namespace Go.Proofs.YtmjoklppibfdmaaDoor
open Go.RowKit
set_option linter.unusedVariables false

/-- N slices of bytes: the i-th of L i bytes, f i's. -/
def Img (w : World) (a0 : Option Addr) (N : Nat) (A : Nat → Option Addr) (L C : Nat → Nat) (f : Nat → Nat → Int) : Prop := ∀ i, i < N → ∃ b off, a0 = some ⟨b, off, none⟩ ∧ w.cell? ⟨b, off + i, none⟩ = some (.slice (A i) (L i) (C i)) ∧ From w (A i) (L i) (f i) ∧ (A i = none → C i = 0)
theorem Img.below {w w' : World} {a0 : Option Addr} {N : Nat} {A : Nat → Option Addr} {L C : Nat → Nat} {f : Nat → Nat → Int} (h : Img w a0 N A L C f) (hb : Below w.heap.size w w') : Img w' a0 N A L C f := fun i hi => by
  obtain ⟨b, off, e, hc, hf, hn⟩ := h i hi
  exact ⟨b, off, e, by rw [hb.cell (p := ⟨b, off + i, none⟩) (World.block_lt_of_cell? w _ hc)]; exact hc, hf.below hb (Nat.le_refl _), hn⟩
def gL (k : Nat) (A : Nat → Option Addr) (L C : Nat → Nat) : List Value := (List.range k).map fun j => .slice (A j) (L j) (C j)
theorem gL_snoc (k : Nat) (A : Nat → Option Addr) (L C : Nat → Nat) (a : Option Addr) (c : Nat) : gL k A L C ++ [.slice a (L k) c] = gL (k + 1) (fun j => if j = k then a else A j) L (fun j => if j = k then c else C j) := by
  unfold gL
  rw [List.range_succ, List.map_append]
  congr 1
  · apply List.map_congr_left
    intro j hj
    have := List.mem_range.1 hj
    have e : j ≠ k := by omega
    simp only [if_neg e]
  · simp
theorem gL_get (k : Nat) (A : Nat → Option Addr) (L C : Nat → Nat) (j : Nat) (hj : j < k) : (gL k A L C)[j]? = some (.slice (A j) (L j) (C j)) := by
  simp [gL, hj]
/-- k slices of bytes of one's own, each with bytes of its own. -/
structure MineG (w : World) (B : Nat) (v : Value) (k : Nat) (A : Nat → Option Addr) (L C : Nat → Nat) (f : Nat → Nat → Int) : Prop where
  own : w.ownsRow B 34 1 v k (gL k A L C)
  each : ∀ j, j < k → Own w B (.slice (A j) (L j) (C j)) (lst (f j) (L j))
theorem MineG.snoc {w w1 w2 : World} {B : Nat} {v v2 : Value} {k : Nat} {A : Nat → Option Addr} {L C : Nat → Nat} {f : Nat → Nat → Int} (h : MineG w B v k A L C f) (hb1 : Below w.heap.size w w1) (hB : B ≤ w.heap.size) {a1 : Option Addr} {c1 : Nat} (ho : Own w1 w.heap.size (.slice a1 (L k) c1) (lst (f k) (L k))) (o : Obj)
    (h2 : w2.ownsRow B 34 1 v2 (k + 1) (gL k A L C ++ [.slice a1 (L k) c1])) (hg2 : (w1.alloc o).grownBy w2 v.ownBlock) : MineG w2 B v2 (k + 1) (fun j => if j = k then a1 else A j) L (fun j => if j = k then c1 else C j) f := by
  have hp1 : Part (fun q => v.ownBlock = some q) w1 w2 := ((Part.refl _ w1).alloc o).grown hg2 (fun k hk _ => hk)
  have hp : Part (fun q => v.ownBlock = some q) w w2 := (Part.ofBelow hb1).trans hp1 (fun _ _ h => h)
  refine ⟨by rw [← gL_snoc]; exact h2, fun j hj => ?_⟩
  by_cases e : j = k
  · subst e
    rw [if_pos rfl, if_pos rfl]
    have h9 : Own w2 w.heap.size (.slice a1 (L j) c1) (lst (f j) (L j)) := hp1.row ho (fun q hq e => by
      have := (World.ownsRow.lt ho q hq).1
      have := (World.ownsRow.lt h.own q e).2
      omega)
    exact h9.mono hB
  · rw [if_neg e, if_neg e]
    exact hp.row (h.each j (by omega)) (fun q hq e2 => by
      obtain ⟨c3, k3⟩ := row_block h.own e2
      obtain ⟨c4, k4⟩ := row_block (h.each j (by omega)) hq
      exact two_types k4 k3 (by decide) rfl)
theorem MineG.img {w : World} {B N c : Nat} {a : Option Addr} {A : Nat → Option Addr} {L C : Nat → Nat} {f : Nat → Nat → Int} (h : MineG w B (.slice a N c) N A L C f) : Img w a N A L C f := fun i hi => by
  obtain ⟨g, c', e, _⟩ := row_some h.own (by omega)
  injection e with e1 e2 e3
  subst e1
  subst e3
  obtain ⟨a9, c9, e9, hf, hn⟩ := own_any (h.each i hi)
  injection e9 with x1 x2 x3
  subst x1
  subst x3
  exact ⟨g, 0, rfl, by rw [Nat.zero_add, World.ownsRow.cellAt h.own i (by omega)]; exact gL_get N A L C i hi, hf, hn⟩

set_option maxRecDepth 100000 in
set_option maxHeartbeats 2000000 in
theorem plImage (a0 : Option Addr) (N c0 : Nat) (A : Nat → Option Addr) (L C : Nat → Nat) (f : Nat → Nat → Int) (w : World) (h : Img w a0 N A L C f) (hN : N ≤ 1048576) (hL : ∀ i, i < N → L i ≤ 1048576) :
    Calls Tryd.prog 29 #[.slice a0 N c0] w fun e w' => ∃ ag cg A' C', e = .returned (.slice ag N cg) ∧ Img w' ag N A' L C' f ∧ (N ≤ cg ∧ cg ≤ 9223372036854775807) ∧ Below w.heap.size w w' := by
  obtain ⟨i0, hi0, hz0, hz1, hz2⟩ := info_parts infoB
  have H : Hid (∀ wq, Below w.heap.size w wq → Img wq a0 N A L C f) := fun wq hq => h.below hq
  have H0 : Hid (MineG w w.heap.size (.slice none 0 0) 0 A L C f) := ⟨World.ownsRow_nil _ _ _ _, fun j hj => by omega⟩
  have HLn : Hid (∀ i, i < N → L i ≤ 1048576) := hL
  clear h hL
  go_enter Tryd.func29, Tryd.ntmps29
  go_wp2
  go_loopw [3, 8] (fun out i wr => ∃ (k : Nat) (A' : Nat → Option Addr) (C' : Nat → Nat), k ≤ N ∧ i = .int .i64 (k : Int) ∧ MineG wr w.heap.size out k A' L C' f ∧ Below w.heap.size w wr) (fun _ i _ => N - (intOf i).toNat)
  case atStart => exact ⟨0, _, _, Nat.zero_le _, rfl, H0.out, Below.refl _ _⟩
  case round =>
    obtain ⟨k, A', C', hk, rfl, hmi, hb⟩ := hrel
    have hs := hb.size
    have HMi : Hid (MineG wr w.heap.size u3 k A' L C' f) := hmi
    clear hmi
    by_cases hlt : k < N
    · have hlt' : (k : Int) < (N : Int) := by omega
      have hk0 : (0 : Int) ≤ (k : Int) := by omega
      obtain ⟨b, off, rfl, p1, p2, p3⟩ := H.out wr hb k hlt
      have HF : Hid (From wr (A k) (L k) (f k)) := p2
      have hLk := HLn.out k hlt
      clear p2 p3
      go_wp2_with fail
      refine (clone (A k) (L k) (C k) (f k) wr (by omega) HF.out).mono ?_
      rintro e w1 ⟨v1, rfl, ho1, hb1⟩
      obtain ⟨a1, c1, rfl, _, _⟩ := own_any ho1
      have HO1 : Hid (Own w1 wr.heap.size (.slice a1 (L k) c1) (lst (f k) (L k))) := ho1
      have hs1 := hb1.size
      have HRw : Hid ((w1.alloc (.cells #[.slice a1 (L k) c1] 34)).ownsRow w.heap.size 34 1 u3 k (gL k A' L C')) := World.ownsRow.alloc (Part.row (F := fun _ => False) (Part.ofBelow hb1) HMi.out.own (fun _ _ h => h)) _
      have HCe : Hid ((w1.alloc (.cells #[.slice a1 (L k) c1] 34)).cell? ⟨w1.heap.size, 0, none⟩ = some (.slice a1 (L k) c1)) := (by rw [World.cell?_alloc_at _ _ _ _ rfl]; rfl : (w1.alloc (.cells #[.slice a1 (L k) c1] 34)).cell? ⟨w1.heap.size, 0, none⟩ = some (.slice a1 (L k) c1))
      have HSz : Hid (w.heap.size ≤ (w1.alloc (.cells #[.slice a1 (L k) c1] 34)).heap.size) := (by simp; omega : w.heap.size ≤ (w1.alloc (.cells #[.slice a1 (L k) c1] 34)).heap.size)
      have HNx : Hid (∀ v2 w2, w2.ownsRow w.heap.size 34 1 v2 (k + 1) (gL k A' L C' ++ [.slice a1 (L k) c1]) → (w1.alloc (.cells #[.slice a1 (L k) c1] 34)).grownBy w2 u3.ownBlock → MineG w2 w.heap.size v2 (k + 1) (fun j => if j = k then a1 else A' j) L (fun j => if j = k then c1 else C' j) f ∧ Below w.heap.size w w2) := fun v2 w2 h2 hg2 =>
        ⟨HMi.out.snoc hb1 hs HO1.out _ h2 hg2, ((hb.trans (hb1.mono hs)).alloc (by omega) _).grown hg2 HSz.out (fun q hq => (World.ownsRow.lt HMi.out.own q hq).1)⟩
      clear ho1 hb1
      go_wp2_with (at_builtin; refine wpList_append_own _ rfl _ _ 22 rfl w.heap.size 34 i0 (.slice none 0 0) 1 24 Tryd.underlying22 hi0 hz0 hz1 hz2 rfl (by decide) u3 k (gL k A' L C') rfl HRw.out ⟨w1.heap.size, 0, none⟩ 1 1 [.slice a1 (L k) c1] rfl rfl ?q1 ?q2 ?q3 ?q4 HSz.out ?_)
      case q1 =>
        intro j u hj
        have hj0 : j = 0 := by
          have := (List.getElem?_eq_some_iff.1 hj).1
          simp at this
          omega
        subst hj0
        rw [Addr.add_lit, Nat.zero_add, HCe.out]
        simpa using hj
      case q2 =>
        intro u hu
        simp at hu
        rw [hu]
        rfl
      case q3 => unfold maxLen; omega
      case q4 => omega
      intro v2 w2 ho2 hg2 _
      obtain ⟨z1, z2⟩ := HNx.out v2 w2 ho2 hg2
      have HZ : Hid (MineG w2 w.heap.size v2 (k + 1) (fun j => if j = k then a1 else A' j) L (fun j => if j = k then c1 else C' j) f) := z1
      clear z1 ho2 hg2
      go_wp2
      go_roundw
      case rel => exact ⟨k + 1, _, _, by omega, by go_num, HZ.out, z2⟩
      case measure => simp [intOf]; omega
    · obtain rfl : k = N := by omega
      obtain ⟨ag, cg, rfl⟩ : ∃ ag cg, u3 = .slice ag k cg := by
        rcases HMi.out.own.2 with ⟨rfl, h0⟩ | ⟨g, cap, cur, rfl, _⟩
        · rw [h0]; exact ⟨none, 0, rfl⟩
        · exact ⟨_, cap, rfl⟩
      have hcap : k ≤ cg ∧ cg ≤ 9223372036854775807 := by
        rcases HMi.out.own.2 with ⟨e, h0⟩ | ⟨g, cap, cur, e, _, _, e1, e2, _⟩
        · injection e with _ _ e3
          omega
        · injection e with _ _ e3
          have : maxLen = 9223372036854775807 := rfl
          omega
      go_wp2
      go_ret
      exact ⟨ag, cg, A', C', rfl, HMi.out.img, hcap, hb⟩
end Go.Proofs.YtmjoklppibfdmaaDoor
