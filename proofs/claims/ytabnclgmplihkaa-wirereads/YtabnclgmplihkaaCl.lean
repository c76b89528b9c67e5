/-
  Contracts of bytes.Clone and of wire.Over: a copy in memory of the call's own; a reader at the beginning of such a copy. The one condition: at most 2^47 bytes.
-/
import Derived.Test.YtabnclgmplihkaaRdX
namespace Go.Proofs.Ytabnclgmplihkaa
open Go.RowKit
set_option linter.unusedVariables false

theorem info5 : (Try.prog.info? 5).map (fun i => (i.zero, i.size, i.bytes)) = some (some (.int .u8 0), 1, 1) := by kernel_rfl

set_option maxHeartbeats 400000 in
theorem clone_at (a : Addr) (n c : Nat) (f : Nat → Int) (w : World) (hbig : n ≤ 140737488355328) (hc : Hid (∀ i, i < n → w.cell? (a.add i) = some (.int .u8 (f i)))) :
    Calls Try.prog 5 #[.slice (some a) n c] w fun e w' => ∃ g cap, e = .returned (.slice (some ⟨g, 0, none⟩) n cap) ∧ w'.ownsRow w.heap.size 5 1 (.slice (some ⟨g, 0, none⟩) n cap) n ((lst f n).map (Value.int .u8)) ∧ w.heap.size ≤ g ∧ g < w'.heap.size ∧ n ≤ cap ∧ cap ≤ maxLen ∧ Below w.heap.size w w' := by
  obtain ⟨i0, hi, hz0, hz1, hz2⟩ := info_parts info5
  have hq : ∀ (w : World) (a : Option Addr) (n c n' c' : Nat), (binOp .eql 22 (.slice a n c) (.slice none n' c')).run Try.prog w = .ok (.bool a.isNone) w := fun w a n c n' c' => Lib.run_eql_slice_nil w _ _ a n c n' c' Try.underlying22
  go_enter Try.func5, Try.ntmps5
  go_wp2_with (at_builtin; refine wpList_append_own _ rfl _ _ 22 rfl w.heap.size 5 i0 (.int .u8 0) 1 1 Try.underlying22 hi hz0 hz1 hz2 rfl (by decide) _ _ _ rfl (World.ownsRow_made w #[] 0 (Nat.le_refl _) (Nat.zero_le _) rfl) a n c ((lst f n).map (Value.int .u8)) rfl ?qc1 ?qc2 ?qc3 ?qc4 ?qc5 ?qc6 ?_)
  case qc1 => simp [lst_length]
  case qc2 =>
    intro j u hj
    have hjn : j < n := by
      have := (List.getElem?_eq_some_iff.1 hj).1
      simpa [lst_length] using this
    refine Lib.cell?_alloc_some _ ?_
    rw [hc.out j hjn]
    rw [List.getElem?_map, lst_get f n j hjn] at hj
    simpa using hj
  case qc3 => intro u hu; obtain ⟨x, _, rfl⟩ := List.mem_map.1 hu; rfl
  case qc4 => unfold maxLen; omega
  case qc5 => omega
  case qc6 => simp
  intro v' w1 hown hgrow hnil
  go_wp2
  go_ret
  have hown' : w1.ownsRow w.heap.size 5 1 v' n ((lst f n).map (Value.int .u8)) := by simpa using hown
  obtain ⟨g, cap, hv, k1, k2, k3, k4⟩ := own_form hown' (by first | exact hnil | (intro e; exact absurd (hnil.1 e).1 (by simp)))
  refine ⟨g, cap, by rw [hv]; rfl, hv ▸ hown', k1, k2, k3, k4, ?_⟩
  · exact ((Below.refl _ w).alloc (Nat.le_refl _) _).grown hgrow (by simp) (by intro k hk; simp [Value.ownBlock] at hk; omega)

set_option maxHeartbeats 400000 in
theorem clone_nil (n c : Nat) (w : World) : Calls Try.prog 5 #[.slice none n c] w fun e w' => e = .returned (.slice none 0 0) ∧ w' = w := by
  have hq : ∀ (w : World) (a : Option Addr) (n c n' c' : Nat), (binOp .eql 22 (.slice a n c) (.slice none n' c')).run Try.prog w = .ok (.bool a.isNone) w := fun w a n c n' c' => Lib.run_eql_slice_nil w _ _ a n c n' c' Try.underlying22
  go_enter Try.func5, Try.ntmps5
  go_wp2
  go_ret
  exact ⟨rfl, rfl⟩

theorem own_cell {w : World} {base g n cap : Nat} {f : Nat → Int} (h : w.ownsRow base 5 1 (.slice (some ⟨g, 0, none⟩) n cap) n ((lst f n).map (Value.int .u8))) (i : Nat) (hi : i < n) : w.cell? ⟨g, i, none⟩ = some (.int .u8 (f i)) := by
  rw [h.cellAt i (by omega), List.getElem?_map, lst_get f n i hi]; rfl

set_option maxHeartbeats 400000 in
theorem over_at (a : Addr) (n c : Nat) (f : Nat → Int) (w : World) (hbig : n ≤ 140737488355328) (hby : ∀ i, 0 ≤ f i ∧ f i ≤ 255) (hc : Hid (∀ i, i < n → w.cell? (a.add i) = some (.int .u8 (f i)))) :
    Calls Try.prog 6 #[.slice (some a) n c] w fun e w' => ∃ R g cap, e = .returned (.pointer (some ⟨R, 0, none⟩)) ∧ RdInv w' R (some ⟨g, 0, none⟩) cap f n 0 ∧ w.heap.size ≤ R ∧ w.heap.size ≤ g ∧ R < w'.heap.size ∧ Below w.heap.size w w' := by
  go_enter Try.func6, Try.ntmps6
  go_wp2_with fail
  refine (clone_at a n c f w hbig hc).mono ?_
  rintro e w1 ⟨g, cap, rfl, hown, k1, k2, k3, k4, hb⟩
  go_wp2
  go_ret
  refine ⟨w1.heap.size, g, cap, rfl, ⟨?_, ?_, ?_, ?_, Nat.zero_le _, k3, k4, hbig, hby, .inr ⟨g, rfl, fun i hi => ?_⟩⟩, hb.size, k1, by simp, hb.alloc hb.size _⟩
  · rw [World.cell?_alloc_at _ _ _ _ rfl]; rfl
  · rw [World.cell?_alloc_at _ _ _ _ rfl]; rfl
  · rw [World.cell?_alloc_at _ _ _ _ rfl]; rfl
  · rw [World.frozen?_alloc_at _ _ _ _ rfl]
  · rw [World.cell?_alloc_past _ _ _ k2]; exact own_cell hown i hi

set_option maxHeartbeats 400000 in
theorem over_nil (f : Nat → Int) (hby : ∀ i, 0 ≤ f i ∧ f i ≤ 255) (w : World) :
    Calls Try.prog 6 #[.slice none 0 0] w fun e w' => ∃ R, e = .returned (.pointer (some ⟨R, 0, none⟩)) ∧ RdInv w' R none 0 f 0 0 ∧ w.heap.size ≤ R ∧ R < w'.heap.size ∧ Below w.heap.size w w' := by
  go_enter Try.func6, Try.ntmps6
  go_wp2_with fail
  refine (clone_nil 0 0 w).mono ?_
  rintro e w1 ⟨rfl, rfl⟩
  go_wp2
  go_ret
  refine ⟨w1.heap.size, rfl, ⟨?_, ?_, ?_, ?_, Nat.zero_le _, Nat.zero_le _, by decide, by decide, hby, .inl ⟨rfl, rfl, rfl⟩⟩, Nat.le_refl _, by simp, (Below.refl _ w1).alloc (Nat.le_refl _) _⟩
  · rw [World.cell?_alloc_at _ _ _ _ rfl]; rfl
  · rw [World.cell?_alloc_at _ _ _ _ rfl]; rfl
  · rw [World.cell?_alloc_at _ _ _ _ rfl]; rfl
  · rw [World.frozen?_alloc_at _ _ _ _ rfl]

/-- Where a slice's n bytes f stand, whatever its address: it is nil, or they stand from its address on. -/
def From (w : World) (a0 : Option Addr) (n : Nat) (f : Nat → Int) : Prop := (a0 = none ∧ n = 0) ∨ ∃ x, a0 = some x ∧ ∀ i, i < n → w.cell? (x.add i) = some (.int .u8 (f i))

/-- A slice of memory from block B on, or nil. -/
def Owned (w : World) (B : Nat) (ao : Option Addr) (n cap : Nat) (f : Nat → Int) : Prop :=
  (ao = none ∧ n = 0 ∧ cap = 0) ∨ ∃ g, ao = some ⟨g, 0, none⟩ ∧ w.ownsRow B 5 1 (.slice (some ⟨g, 0, none⟩) n cap) n ((lst f n).map (Value.int .u8)) ∧ B ≤ g ∧ g < w.heap.size ∧ n ≤ cap ∧ cap ≤ maxLen

theorem Owned.from_ {w : World} {B : Nat} {ao : Option Addr} {n cap : Nat} {f : Nat → Int} (h : Owned w B ao n cap f) : From w ao n f := by
  rcases h with ⟨h1, h2, _⟩ | ⟨g, h1, h2, _⟩
  · exact .inl ⟨h1, h2⟩
  · exact .inr ⟨_, h1, fun i hi => by rw [Addr.add_lit, Nat.zero_add]; exact own_cell h2 i hi⟩

theorem clone_any (a0 : Option Addr) (n c : Nat) (f : Nat → Int) (w : World) (hbig : n ≤ 140737488355328) (h : From w a0 n f) :
    Calls Try.prog 5 #[.slice a0 n c] w fun e w' => ∃ ao cap, e = .returned (.slice ao n cap) ∧ Owned w' w.heap.size ao n cap f ∧ Below w.heap.size w w' := by
  rcases h with ⟨rfl, rfl⟩ | ⟨x, rfl, hc⟩
  · exact (clone_nil 0 c w).mono fun e w' ⟨h1, h2⟩ => ⟨none, 0, h1, .inl ⟨rfl, rfl, rfl⟩, by rw [h2]; exact Below.refl _ _⟩
  · exact (clone_at x n c f w hbig hc).mono fun e w' ⟨g, cap, h1, h2, h3, h4, h5, h6, h7⟩ => ⟨_, cap, h1, .inr ⟨g, rfl, h2, h3, h4, h5, h6⟩, h7⟩

theorem over_any (a0 : Option Addr) (n c : Nat) (f : Nat → Int) (w : World) (hbig : n ≤ 140737488355328) (hby : ∀ i, 0 ≤ f i ∧ f i ≤ 255) (h : From w a0 n f) (hz : a0 = none → c = 0) :
    Calls Try.prog 6 #[.slice a0 n c] w fun e w' => ∃ R ao cap, e = .returned (.pointer (some ⟨R, 0, none⟩)) ∧ RdInv w' R ao cap f n 0 ∧ w.heap.size ≤ R ∧ (∀ g, ao = some ⟨g, 0, none⟩ → w.heap.size ≤ g) ∧ R < w'.heap.size ∧ Below w.heap.size w w' := by
  rcases h with ⟨rfl, rfl⟩ | ⟨x, rfl, hc⟩
  · rw [hz rfl]
    exact (over_nil f hby w).mono fun e w' ⟨R, h1, h2, h3, h4, h5⟩ => ⟨R, none, 0, h1, h2, h3, (fun g hg => by cases hg), h4, h5⟩
  · exact (over_at x n c f w hbig hby hc).mono fun e w' ⟨R, g, cap, h1, h2, h3, h4, h5, h6⟩ => ⟨R, _, cap, h1, h2, h3, (fun g' hg => by cases hg; exact h4), h5, h6⟩
end Go.Proofs.Ytabnclgmplihkaa
