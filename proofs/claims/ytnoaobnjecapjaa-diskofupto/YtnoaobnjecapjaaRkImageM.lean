/-
  Contract of the document's Image over Rk: what it makes is the call's own.
-/
import Derived.Test.YtnoaobnjecapjaaRkImage
namespace Go.Proofs.Ytnoaobnjecapjaa
open Go.RowKit
set_option linter.unusedVariables false

set_option maxRecDepth 100000 in
set_option maxHeartbeats 2000000 in
theorem rkImageM (X n m : Nat) (F : Nat → Prop) (dur : Nat → Int) (tf : Nat → Nat) (ld : Nat → Int) (w : World) (h : Rk w X F n dur m tf ld) :
    Calls Try.prog 29 #[.pointer (some ⟨X, 0, none⟩)] w fun e w' => ∃ g c qb qc, e = .returned (.slice (some ⟨g, 0, none⟩) n c) ∧ Mine w' w.heap.size (.slice (some ⟨g, 0, none⟩) n c) n qb qc (fun i => sh dur (i * 128)) ∧ Below w.heap.size w w' := by
  obtain ⟨gB, cB, vP, rb, rc, pb, pc, h⟩ := h
  obtain ⟨i0, hi0, hz0, hz1, hz2⟩ := info_parts infoB
  have k0 : w.cell? ⟨X, 0, none⟩ = some (.slice (some ⟨gB, 0, none⟩) n cB) := cells_at h.hX 0
  have hn1 := h.n1
  have hn2 := h.n2
  have HL : Hid (∀ wq, Below w.heap.size w wq → ∀ i, i < n → wq.cell? ⟨gB, i, none⟩ = some (.slice (some ⟨rb i, 0, none⟩) 128 (rc i)) ∧ From wq (some ⟨rb i, 0, none⟩) 128 (sh dur (i * 128))) := fun wq hq i hi =>
    have h9 := (h.part (Part.ofBelow (F := fun _ => False) hq) (fun _ _ h => h)).rows
    ⟨h9.cell i hi, h9.from_ i hi⟩
  clear h
  have H0 : Hid (Mine w w.heap.size (.slice none 0 0) 0 (fun _ => 0) (fun _ => 0) (fun i => sh dur (i * 128))) := ⟨World.ownsRow_nil _ _ _ _, fun j hj => by omega, fun j hj => by omega, fun j hj => by omega⟩
  go_enter Try.func29, Try.ntmps29
  go_wp2
  go_loopw [3, 11] (fun out i wr => ∃ (k : Nat) (qb qc : Nat → Nat), k ≤ n ∧ i = .int .i64 (k : Int) ∧ Mine wr w.heap.size out k qb qc (fun i => sh dur (i * 128)) ∧ Below w.heap.size w wr) (fun _ i _ => n - (intOf i).toNat)
  case atStart => exact ⟨0, _, _, Nat.zero_le _, rfl, H0.out, Below.refl _ _⟩
  case round =>
    obtain ⟨k, qb, qc, hk, rfl, hmi, hb⟩ := hrel
    have hs := hb.size
    have HMi : Hid (Mine wr w.heap.size u3 k qb qc (fun i => sh dur (i * 128))) := hmi
    clear hmi
    by_cases hlt : k < n
    · have hlt' : (k : Int) < (n : Int) := by omega
      have hk0 : (0 : Int) ≤ (k : Int) := by omega
      obtain ⟨p1, p2⟩ := HL.out wr hb k hlt
      have HF : Hid (From wr (some ⟨rb k, 0, none⟩) 128 (sh dur (k * 128))) := p2
      clear p2
      go_wp2_with fail
      refine (copiedR (some ⟨rb k, 0, none⟩) 128 (rc k) (sh dur (k * 128)) wr (by omega) HF.out (fun h => by cases h)).mono ?_
      rintro e w1 ⟨v1, rfl, ho1, hb1⟩
      obtain ⟨g, c1, rfl, ho1, _, _, _, _⟩ := own_some ho1 (by omega)
      have HO1 : Hid (Own w1 wr.heap.size (.slice (some ⟨g, 0, none⟩) 128 c1) (lst (sh dur (k * 128)) 128)) := ho1
      have hs1 := hb1.size
      have HRw : Hid ((w1.alloc (.cells #[.slice (some ⟨g, 0, none⟩) 128 c1] 27)).ownsRow w.heap.size 27 1 u3 k (rowL k qb qc)) := World.ownsRow.alloc (Part.row (F := fun _ => False) (Part.ofBelow hb1) HMi.out.own (fun _ _ h => h)) _
      have HCe : Hid ((w1.alloc (.cells #[.slice (some ⟨g, 0, none⟩) 128 c1] 27)).cell? ⟨w1.heap.size, 0, none⟩ = some (.slice (some ⟨g, 0, none⟩) 128 c1)) := (by rw [World.cell?_alloc_at _ _ _ _ rfl]; rfl : (w1.alloc (.cells #[.slice (some ⟨g, 0, none⟩) 128 c1] 27)).cell? ⟨w1.heap.size, 0, none⟩ = some (.slice (some ⟨g, 0, none⟩) 128 c1))
      have HSz : Hid (w.heap.size ≤ (w1.alloc (.cells #[.slice (some ⟨g, 0, none⟩) 128 c1] 27)).heap.size) := (by simp; omega : w.heap.size ≤ (w1.alloc (.cells #[.slice (some ⟨g, 0, none⟩) 128 c1] 27)).heap.size)
      have HNx : Hid (∀ v2 w2, w2.ownsRow w.heap.size 27 1 v2 (k + 1) (rowL k qb qc ++ [.slice (some ⟨g, 0, none⟩) 128 c1]) → (w1.alloc (.cells #[.slice (some ⟨g, 0, none⟩) 128 c1] 27)).grownBy w2 u3.ownBlock → Mine w2 w.heap.size v2 (k + 1) (fun j => if j = k then g else qb j) (fun j => if j = k then c1 else qc j) (fun i => sh dur (i * 128)) ∧ Below w.heap.size w w2) := fun v2 w2 h2 hg2 =>
        ⟨HMi.out.snoc hb1 hs HO1.out _ h2 hg2, ((hb.trans (hb1.mono hs)).alloc (by omega) _).grown hg2 HSz.out (fun q hq => (World.ownsRow.lt HMi.out.own q hq).1)⟩
      clear ho1 hb1
      go_wp2_with (at_builtin; refine wpList_append_own _ rfl _ _ 34 rfl w.heap.size 27 i0 (.slice none 0 0) 1 24 Try.underlying34 hi0 hz0 hz1 hz2 rfl (by decide) u3 k (rowL k qb qc) rfl HRw.out ⟨w1.heap.size, 0, none⟩ 1 1 [.slice (some ⟨g, 0, none⟩) 128 c1] rfl rfl ?q1 ?q2 ?q3 ?q4 HSz.out ?_)
      case q1 =>
        intro j u hj
        have hj0 : j = 0 := by
          have := (List.getElem?_eq_some_iff.1 hj).1
          simp at this
          omega
        subst hj0
        rw [Addr.add_lit, Nat.zero_add, HCe.out]
        simpa using hj
      case q2 =>
        intro u hu
        simp at hu
        rw [hu]
        rfl
      case q3 => unfold maxLen; omega
      case q4 => omega
      intro v2 w2 ho2 hg2 _
      obtain ⟨z1, z2⟩ := HNx.out v2 w2 ho2 hg2
      have HZ : Hid (Mine w2 w.heap.size v2 (k + 1) (fun j => if j = k then g else qb j) (fun j => if j = k then c1 else qc j) (fun i => sh dur (i * 128))) := z1
      clear z1 ho2 hg2
      go_wp2
      go_roundw
      case rel => exact ⟨k + 1, _, _, by omega, by go_num, HZ.out, z2⟩
      case measure => simp [intOf]; omega
    · obtain rfl : k = n := by omega
      obtain ⟨g, c, e, hgl, _⟩ := row_some HMi.out.own (by omega)
      subst e
      go_wp2
      go_ret
      exact ⟨g, c, qb, qc, rfl, HMi.out, hb⟩
end Go.Proofs.Ytnoaobnjecapjaa
