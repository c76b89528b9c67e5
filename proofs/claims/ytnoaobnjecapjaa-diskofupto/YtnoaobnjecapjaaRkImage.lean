/-
  Contract of the document's Image over Rk.
-/
import Derived.Test.YtnoaobnjecapjaaRkRead
namespace Go.Proofs.Ytnoaobnjecapjaa
open Go.RowKit
set_option linter.unusedVariables false

/-- The cells of k slices of 128 bytes: the j-th at (qb j, 0). -/
def rowL (k : Nat) (qb qc : Nat → Nat) : List Value := (List.range k).map fun j => .slice (some ⟨qb j, 0, none⟩) 128 (qc j)
theorem rowL_length (k : Nat) (qb qc : Nat → Nat) : (rowL k qb qc).length = k := by simp [rowL]
theorem rowL_snoc (k : Nat) (qb qc : Nat → Nat) (g c : Nat) : rowL k qb qc ++ [.slice (some ⟨g, 0, none⟩) 128 c] = rowL (k + 1) (fun j => if j = k then g else qb j) (fun j => if j = k then c else qc j) := by
  unfold rowL
  rw [List.range_succ, List.map_append]
  congr 1
  · apply List.map_congr_left
    intro j hj
    have := List.mem_range.1 hj
    have e : j ≠ k := by omega
    simp only [if_neg e]
  · simp
theorem rowL_get (k : Nat) (qb qc : Nat → Nat) (j : Nat) (hj : j < k) : (rowL k qb qc)[j]? = some (.slice (some ⟨qb j, 0, none⟩) 128 (qc j)) := by
  simp [rowL, hj]
/-- k slices of bytes of one's own, each with bytes of its own: f's. -/
structure Mine (w : World) (B : Nat) (v : Value) (k : Nat) (qb qc : Nat → Nat) (f : Nat → Nat → Int) : Prop where
  own : w.ownsRow B 27 1 v k (rowL k qb qc)
  from_ : ∀ j, j < k → From w (some ⟨qb j, 0, none⟩) 128 (f j)
  ty : ∀ j, j < k → ∃ cur, w.heap[qb j]? = some (.cells cur 5 (0, 0))
  ge : ∀ j, j < k → B ≤ qb j
theorem Mine.lt {w : World} {B : Nat} {v : Value} {k : Nat} {qb qc : Nat → Nat} {f : Nat → Nat → Int} (h : Mine w B v k qb qc f) (j : Nat) (hj : j < k) : qb j < w.heap.size := by
  obtain ⟨cur, hc⟩ := h.ty j hj
  exact (Array.getElem?_eq_some_iff.1 hc).1
/-- One more. -/
theorem Mine.snoc {w w1 w2 : World} {B : Nat} {v v2 : Value} {k : Nat} {qb qc : Nat → Nat} {f : Nat → Nat → Int} (h : Mine w B v k qb qc f) (hb1 : Below w.heap.size w w1) (hB : B ≤ w.heap.size) {g c1 : Nat} (ho : Own w1 w.heap.size (.slice (some ⟨g, 0, none⟩) 128 c1) (lst (f k) 128)) (o : Obj)
    (h2 : w2.ownsRow B 27 1 v2 (k + 1) (rowL k qb qc ++ [.slice (some ⟨g, 0, none⟩) 128 c1])) (hg2 : (w1.alloc o).grownBy w2 v.ownBlock) : Mine w2 B v2 (k + 1) (fun j => if j = k then g else qb j) (fun j => if j = k then c1 else qc j) f := by
  obtain ⟨hg0, hgl⟩ := World.ownsRow.lt ho g rfl
  have hs1 := hb1.size
  have hsz : (w1.alloc o).heap.size = w1.heap.size + 1 := by simp
  have bl : ∀ q, q < w1.heap.size → v.ownBlock ≠ some q → w2.heap[q]? = w1.heap[q]? := fun q hq hn => by rw [hg2.block q (by omega) (fun e => hn e.symm), heap_alloc_past _ _ _ hq]
  have hvl : ∀ q, v.ownBlock = some q → q < w.heap.size := fun q hq => (World.ownsRow.lt h.own q hq).2
  have nq : ∀ j, j < k → v.ownBlock ≠ some (qb j) := fun j hj e => by
    obtain ⟨c3, k3⟩ := row_block h.own e
    obtain ⟨c4, k4⟩ := h.ty j hj
    exact two_types k4 k3 (by decide) rfl
  have keepF : ∀ (b : Nat) (ff : Nat → Int), b < w1.heap.size → v.ownBlock ≠ some b → From w1 (some ⟨b, 0, none⟩) 128 ff → From w2 (some ⟨b, 0, none⟩) 128 ff := fun b ff hb hn hff => by
    rcases hff with ⟨e, _⟩ | ⟨x, e, hh⟩
    · cases e
    · cases e
      refine .inr ⟨_, rfl, fun j hj => ?_⟩
      have h9 := hh j hj
      rw [Addr.add_lit] at h9 ⊢
      rw [World.cell?_of_block (w := w1) (bl b hb hn)]
      exact h9
  have ng : v.ownBlock ≠ some g := fun e => by have := hvl g e; omega
  refine ⟨by rw [← rowL_snoc]; exact h2, fun j hj => ?_, fun j hj => ?_, fun j hj => ?_⟩
  · by_cases e : j = k
    · rw [if_pos e, e]; exact keepF g _ hgl ng (from_own ho)
    · rw [if_neg e]
      exact keepF _ _ (by have := h.lt j (by omega); omega) (nq j (by omega)) ((h.from_ j (by omega)).below hb1 (Nat.le_refl _))
  · by_cases e : j = k
    · rw [if_pos e, bl g hgl ng]; exact row_block ho rfl
    · rw [if_neg e, bl _ (by have := h.lt j (by omega); omega) (nq j (by omega)), hb1.block _ (h.lt j (by omega))]
      exact h.ty j (by omega)
  · show B ≤ (if j = k then g else qb j)
    split
    · omega
    · exact h.ge j (by omega)
theorem Mine.rws {w : World} {B g c k : Nat} {qb qc : Nat → Nat} {f : Nat → Nat → Int} (h : Mine w B (.slice (some ⟨g, 0, none⟩) k c) k qb qc f) : Rws w g k qb (fun _ => 0) qc f :=
  ⟨fun i hi => by rw [World.ownsRow.cellAt h.own i (by omega)]; exact rowL_get k qb qc i hi, fun i hi => by
    obtain ⟨cur, hc⟩ := row_block h.own rfl
    exact cells_free hc i, h.from_⟩

set_option maxRecDepth 100000 in
set_option maxHeartbeats 2000000 in
theorem rkImage (X n m : Nat) (F : Nat → Prop) (dur : Nat → Int) (tf : Nat → Nat) (ld : Nat → Int) (w : World) (h : Rk w X F n dur m tf ld) :
    Calls Try.prog 29 #[.pointer (some ⟨X, 0, none⟩)] w fun e w' => ∃ g c qb qc, e = .returned (.slice (some ⟨g, 0, none⟩) n c) ∧ Rws w' g n qb (fun _ => 0) qc (fun i => sh dur (i * 128)) ∧ w.heap.size ≤ g ∧ g < w'.heap.size ∧ (∀ i, i < n → w.heap.size ≤ qb i) ∧ Below w.heap.size w w' := by
  obtain ⟨gB, cB, vP, rb, rc, pb, pc, h⟩ := h
  obtain ⟨i0, hi0, hz0, hz1, hz2⟩ := info_parts infoB
  have k0 : w.cell? ⟨X, 0, none⟩ = some (.slice (some ⟨gB, 0, none⟩) n cB) := cells_at h.hX 0
  have hn1 := h.n1
  have hn2 := h.n2
  have HL : Hid (∀ wq, Below w.heap.size w wq → ∀ i, i < n → wq.cell? ⟨gB, i, none⟩ = some (.slice (some ⟨rb i, 0, none⟩) 128 (rc i)) ∧ From wq (some ⟨rb i, 0, none⟩) 128 (sh dur (i * 128))) := fun wq hq i hi =>
    have h9 := (h.part (Part.ofBelow (F := fun _ => False) hq) (fun _ _ h => h)).rows
    ⟨h9.cell i hi, h9.from_ i hi⟩
  clear h
  have H0 : Hid (Mine w w.heap.size (.slice none 0 0) 0 (fun _ => 0) (fun _ => 0) (fun i => sh dur (i * 128))) := ⟨World.ownsRow_nil _ _ _ _, fun j hj => by omega, fun j hj => by omega, fun j hj => by omega⟩
  go_enter Try.func29, Try.ntmps29
  go_wp2
  go_loopw [3, 11] (fun out i wr => ∃ (k : Nat) (qb qc : Nat → Nat), k ≤ n ∧ i = .int .i64 (k : Int) ∧ Mine wr w.heap.size out k qb qc (fun i => sh dur (i * 128)) ∧ Below w.heap.size w wr) (fun _ i _ => n - (intOf i).toNat)
  case atStart => exact ⟨0, _, _, Nat.zero_le _, rfl, H0.out, Below.refl _ _⟩
  case round =>
    obtain ⟨k, qb, qc, hk, rfl, hmi, hb⟩ := hrel
    have hs := hb.size
    have HMi : Hid (Mine wr w.heap.size u3 k qb qc (fun i => sh dur (i * 128))) := hmi
    clear hmi
    by_cases hlt : k < n
    · have hlt' : (k : Int) < (n : Int) := by omega
      have hk0 : (0 : Int) ≤ (k : Int) := by omega
      obtain ⟨p1, p2⟩ := HL.out wr hb k hlt
      have HF : Hid (From wr (some ⟨rb k, 0, none⟩) 128 (sh dur (k * 128))) := p2
      clear p2
      go_wp2_with fail
      refine (copiedR (some ⟨rb k, 0, none⟩) 128 (rc k) (sh dur (k * 128)) wr (by omega) HF.out (fun h => by cases h)).mono ?_
      rintro e w1 ⟨v1, rfl, ho1, hb1⟩
      obtain ⟨g, c1, rfl, ho1, _, _, _, _⟩ := own_some ho1 (by omega)
      have HO1 : Hid (Own w1 wr.heap.size (.slice (some ⟨g, 0, none⟩) 128 c1) (lst (sh dur (k * 128)) 128)) := ho1
      have hs1 := hb1.size
      have HRw : Hid ((w1.alloc (.cells #[.slice (some ⟨g, 0, none⟩) 128 c1] 27)).ownsRow w.heap.size 27 1 u3 k (rowL k qb qc)) := World.ownsRow.alloc (Part.row (F := fun _ => False) (Part.ofBelow hb1) HMi.out.own (fun _ _ h => h)) _
      have HCe : Hid ((w1.alloc (.cells #[.slice (some ⟨g, 0, none⟩) 128 c1] 27)).cell? ⟨w1.heap.size, 0, none⟩ = some (.slice (some ⟨g, 0, none⟩) 128 c1)) := (by rw [World.cell?_alloc_at _ _ _ _ rfl]; rfl : (w1.alloc (.cells #[.slice (some ⟨g, 0, none⟩) 128 c1] 27)).cell? ⟨w1.heap.size, 0, none⟩ = some (.slice (some ⟨g, 0, none⟩) 128 c1))
      have HSz : Hid (w.heap.size ≤ (w1.alloc (.cells #[.slice (some ⟨g, 0, none⟩) 128 c1] 27)).heap.size) := (by simp; omega : w.heap.size ≤ (w1.alloc (.cells #[.slice (some ⟨g, 0, none⟩) 128 c1] 27)).heap.size)
      have HNx : Hid (∀ v2 w2, w2.ownsRow w.heap.size 27 1 v2 (k + 1) (rowL k qb qc ++ [.slice (some ⟨g, 0, none⟩) 128 c1]) → (w1.alloc (.cells #[.slice (some ⟨g, 0, none⟩) 128 c1] 27)).grownBy w2 u3.ownBlock → Mine w2 w.heap.size v2 (k + 1) (fun j => if j = k then g else qb j) (fun j => if j = k then c1 else qc j) (fun i => sh dur (i * 128)) ∧ Below w.heap.size w w2) := fun v2 w2 h2 hg2 =>
        ⟨HMi.out.snoc hb1 hs HO1.out _ h2 hg2, ((hb.trans (hb1.mono hs)).alloc (by omega) _).grown hg2 HSz.out (fun q hq => (World.ownsRow.lt HMi.out.own q hq).1)⟩
      clear ho1 hb1
      go_wp2_with (at_builtin; refine wpList_append_own _ rfl _ _ 34 rfl w.heap.size 27 i0 (.slice none 0 0) 1 24 Try.underlying34 hi0 hz0 hz1 hz2 rfl (by decide) u3 k (rowL k qb qc) rfl HRw.out ⟨w1.heap.size, 0, none⟩ 1 1 [.slice (some ⟨g, 0, none⟩) 128 c1] rfl rfl ?q1 ?q2 ?q3 ?q4 HSz.out ?_)
      case q1 =>
        intro j u hj
        have hj0 : j = 0 := by
          have := (List.getElem?_eq_some_iff.1 hj).1
          simp at this
          omega
        subst hj0
        rw [Addr.add_lit, Nat.zero_add, HCe.out]
        simpa using hj
      case q2 =>
        intro u hu
        simp at hu
        rw [hu]
        rfl
      case q3 => unfold maxLen; omega
      case q4 => omega
      intro v2 w2 ho2 hg2 _
      obtain ⟨z1, z2⟩ := HNx.out v2 w2 ho2 hg2
      have HZ : Hid (Mine w2 w.heap.size v2 (k + 1) (fun j => if j = k then g else qb j) (fun j => if j = k then c1 else qc j) (fun i => sh dur (i * 128))) := z1
      clear z1 ho2 hg2
      go_wp2
      go_roundw
      case rel => exact ⟨k + 1, _, _, by omega, by go_num, HZ.out, z2⟩
      case measure => simp [intOf]; omega
    · obtain rfl : k = n := by omega
      obtain ⟨g, c, e, hgl, _⟩ := row_some HMi.out.own (by omega)
      subst e
      go_wp2
      go_ret
      exact ⟨g, c, qb, qc, rfl, HMi.out.rws, (World.ownsRow.lt HMi.out.own g rfl).1, hgl, HMi.out.ge, hb⟩
end Go.Proofs.Ytnoaobnjecapjaa
