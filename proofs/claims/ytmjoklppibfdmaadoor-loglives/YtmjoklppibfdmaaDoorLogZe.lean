/-
  Contracts of the document's own log: Reset and Append. Conditions: the log lies apart from its disk; the sectors are the disk's.
-/
import Derived.Test.YtmjoklppibfdmaaDoorLogZd
namespace Go.Proofs.YtmjoklppibfdmaaDoor
open Go.RowKit
set_option linter.unusedVariables false

set_option maxRecDepth 100000 in
set_option maxHeartbeats 1000000 in
theorem zReset_full {w : World} {M X from_ sectors first last forced : Nat} {vs : Value} {done : Nat} (h : Zl w M X from_ sectors first last forced vs done) (hl : 4611686018427387904 ≤ last) : Calls Tryd.prog 38 #[.pointer (some ⟨M, 0, none⟩)] w fun r w' => r = .returned (.int .i64 4) ∧ w' = w := by
  obtain ⟨_, _, _, _, c4, _⟩ := zget h
  have hl1 : decide ((4611686018427387904 : Int) ≤ (last : Int)) = true := by simp; omega
  clear h hl
  go_enter Tryd.func38, Tryd.ntmps38
  go_wp2
  go_ret
  exact ⟨rfl, rfl⟩

set_option maxRecDepth 100000 in
set_option maxHeartbeats 2000000 in
theorem zReset {w : World} {M X from_ sectors first last forced n : Nat} {vs : Value} {done : Nat} {F : Nat → Prop} {e : Nat → Int} (h : Zl w M X from_ sectors first last forced vs done) (hS : Sx w X F n 0 e) (hMF : ¬ F M) (hp : from_ < n) (hl : last < 4611686018427387904) :
    Calls Tryd.prog 38 #[.pointer (some ⟨M, 0, none⟩)] w fun r w' => r = .returned (.int .i64 0) ∧ Hid (Zl w' M X from_ sectors (last + 1) last last (.slice none 0 0) 0 ∧ Sx w' X (fun k => F k ∨ (w.heap.size ≤ k ∧ k < w'.heap.size)) n 0 (svs e from_ 0 (last + 1) (fun _ => 0) (fun _ _ => 0) 1) ∧ Part (fun k => F k ∨ k = M) w w') := by
  obtain ⟨n1, n2⟩ := hS.n2
  have hMl : M < w.heap.size := (Array.getElem?_eq_some_iff.1 h).1
  have hFl := hS.lt
  obtain ⟨c0, c1, c2, c3, c4, c5, c6, c7⟩ := zget h
  obtain ⟨d0, d1, d2, d3, d4, d5, d6, d7⟩ := zget (h.below (blw_drewN 1 (Below.refl _ w)))
  have f3 : w.frozen? ⟨M, 3, none⟩ = false := cells_free h 3
  have f5 : w.frozen? ⟨M, 5, none⟩ = false := cells_free h 5
  have z3 : w.drew.frozen? ⟨M, 3, none⟩ = false := f3
  have z5 : w.drew.frozen? ⟨M, 5, none⟩ = false := f5
  have g4 : decide ((4611686018427387904 : Int) ≤ (last : Int)) = false := by simp; omega
  have HL : Hid (last < 4611686018427387904) := hl
  have HW : Hid (IntKind.i64.wrap ((last : Int) + 1) = ((last + 1 : Nat) : Int)) := (by rw [IntKind.wrap_i64]; omega : IntKind.i64.wrap ((last : Int) + 1) = ((last + 1 : Nat) : Int))
  have H : Hid (Zl w M X from_ sectors first last forced vs done) := h
  have HS : Hid (Sx w X F n 0 e) := hS
  clear h hS hl
  go_enter Tryd.func38, Tryd.ntmps38
  go_wp2_with fail
  go_region
  have hw : wrap64 ((last : Int) + 1) = ((last + 1 : Nat) : Int) := by have := HL.out; unfold wrap64; omega
  rw [hw]
  clear hw
  obtain ⟨W1, hW1⟩ : ∃ W1, ((w.setCell ⟨M, 3, none⟩ (.int .i64 ((last + 1 : Nat) : Int))).setCell ⟨M, 5, none⟩ (.int .i64 (last : Int))).drew = W1 := ⟨_, rfl⟩
  rw [hW1]
  have H1 : Zl W1 M X from_ sectors (last + 1) last last vs done := by
    rw [← hW1]
    exact heap_set_at (heap_set_at H.out _) _
  have P1 : Part (fun k => k = M) w W1 := by rw [← hW1]; exact (((Part.refl (fun k => k = M) w).setCell (p := ⟨M, 3, none⟩) (fun _ => rfl) _).setCell (p := ⟨M, 5, none⟩) (fun _ => rfl) _).drewN 1
  obtain ⟨_, _, _, _, _, _, k6, k7⟩ := zget H1
  have f6 : W1.frozen? ⟨M, 6, none⟩ = false := cells_free H1 6
  have f7 : W1.frozen? ⟨M, 7, none⟩ = false := cells_free H1 7
  obtain ⟨W2, hW2⟩ : ∃ W2, (W1.setCell ⟨M, 6, none⟩ (.slice none 0 0)).setCell ⟨M, 7, none⟩ (.int .i64 0) = W2 := ⟨_, rfl⟩
  have H2 : Zl W2 M X from_ sectors (last + 1) last last (.slice none 0 0) 0 := by
    rw [← hW2]
    exact heap_set_at (heap_set_at H1 _) _
  have P2 : Part (fun k => k = M) w W2 := by rw [← hW2]; exact (P1.setCell (p := ⟨M, 6, none⟩) (fun _ => rfl) _).setCell (p := ⟨M, 7, none⟩) (fun _ => rfl) _
  have s2 := P2.size
  have HS2 : Hid (Sx W2 X F n 0 e) := HS.out.part P2 (fun k hk e => hMF (e ▸ hk))
  have HC : Hid (∀ wq, Part F W2 wq → wq.cell? ⟨M, 0, none⟩ = some (.pointer (some ⟨X, 0, none⟩)) ∧ wq.cell? ⟨M, 1, none⟩ = some (.int .i64 (from_ : Int)) ∧ wq.cell? ⟨M, 3, none⟩ = some (.int .i64 ((last + 1 : Nat) : Int))) := fun wq hq => by
    obtain ⟨y0, y1, _, y3, _⟩ := zget (H2.part hq hMF)
    exact ⟨y0, y1, y3⟩
  have CS : Hid (∀ wq, Below W2.heap.size W2 wq → Calls Tryd.prog 75 #[.int .i64 0, .int .i64 ((last + 1 : Nat) : Int), .slice none 0 0] wq fun r w5 => ∃ g c, r = .returned (.slice (some ⟨g, 0, none⟩) 128 c) ∧ Part F W2 w5 ∧ Hid (Calls Tryd.prog 74 #[.pointer (some ⟨X, 0, none⟩), .int .i64 (from_ : Int), .slice (some ⟨g, 0, none⟩) 128 c] w5 fun r w6 => ∃ z, r = .returned (.int .i64 z) ∧ Part F W2 w6 ∧ Hid (Calls Tryd.prog 76 #[.pointer (some ⟨X, 0, none⟩)] w6 fun r w7 => ∃ z, r = .returned (.int .i64 z) ∧ Hid (Zl w7 M X from_ sectors (last + 1) last last (.slice none 0 0) 0 ∧ Sx w7 X (fun k => F k ∨ (w.heap.size ≤ k ∧ k < w7.heap.size)) n 0 (svs e from_ 0 (last + 1) (fun _ => 0) (fun _ _ => 0) 1) ∧ Part (fun k => F k ∨ k = M) w w7)))) := fun wq hq => by
    refine (zSector 0 (last + 1) 0 0 none (fun _ => 0) wq (by omega) (by have := HL.out; omega) (by omega) (.inl ⟨rfl, rfl⟩) (fun _ => rfl) (fun _ => by omega)).mono ?_
    rintro r w5 ⟨g, c, rfl, ho, hc, b5⟩
    have b25 : Below W2.heap.size W2 w5 := hq.trans (b5.mono hq.size)
    have s5 := b25.size
    refine ⟨g, c, rfl, Part.ofBelow b25, ?_⟩
    obtain ⟨a9, c9, e9, hf9, _⟩ := own_any ho.out
    cases e9
    refine (sxWrite X from_ n 0 F e g 0 c _ w5 (HS2.out.below b25) hp (by omega) hf9 (sec_by (hdL_by (by omega)) (fun _ => by omega) _ _)).mono ?_
    rintro r w6 ⟨rfl, s6, p6⟩
    have p26 : Part F W2 w6 := (Part.ofBelow b25).trans p6 (fun _ _ h => h)
    have z6 := p6.size
    refine ⟨_, rfl, p26, ?_⟩
    refine (sxFlush X n 1 _ _ w6 s6 (by omega)).mono ?_
    rintro r w7 ⟨rfl, s7, p7⟩
    have z7 := p7.size
    have hNM : ¬ (F M ∨ (w5.heap.size ≤ M ∧ M < w6.heap.size)) := fun h => by
      rcases h with h | h
      · exact hMF h
      · omega
    refine ⟨_, rfl, (H2.part p26 hMF).part p7 hNM, ?_, ?_⟩
    · refine s7.grow (fun k hk => ?_) (fun k hk => ?_)
      · rcases hk with (hk | hk) | hk
        · exact .inl hk
        · exact .inr (by omega)
        · exact .inr (by omega)
      · rcases hk with hk | hk
        · have := hFl _ hk; omega
        · exact hk.2
    · refine (P2.mono (fun k hk h => .inr h)).trans (p26.trans p7 (fun k hk h => ?_)) (fun k hk h => .inl h)
      rcases h with h | h
      · exact h
      · omega
  have k8 : Below W2.heap.size W2 W2.drew := (Below.refl _ W2).drew
  have kP : Part F W2 W2.drew := Part.ofBelow k8
  clear hW1 H1 P1 HS2 H HS c0 c1 c2 c3 c4 c5 c6 c7 d0 d1 d2 d3 d4 d5 d6 d7 f3 f5 z3 z5
  go_wp2_with fail
  try rw [hW2]
  clear hW2 k6 k7 f6 f7
  go_region_held (fun wq => wq.cell? ⟨M, 0, none⟩ = some (.pointer (some ⟨X, 0, none⟩)) ∧ wq.cell? ⟨M, 1, none⟩ = some (.int .i64 (from_ : Int)) ∧ wq.cell? ⟨M, 3, none⟩ = some (.int .i64 ((last + 1 : Nat) : Int))) (exact HC.out _ (by assumption)) (first | (go_at_call 75; refine (CS.out _ k8).mono ?_; rintro r w5 ⟨g, c, rfl, p5, K5⟩) | (go_at_call 74; refine K5.out.mono ?_; rintro r w6 ⟨zz, rfl, p6, K6⟩))
  all_goals
    obtain ⟨y0, y1, y3⟩ := HC.out w6 p6
    clear CS HC K5 kP k8
    go_wp2_with fail
    refine K6.out.mono ?_
    rintro r w7 ⟨z7, rfl, HR⟩
    clear K6
    go_wp2
    go_ret
    exact ⟨rfl, HR⟩
end Go.Proofs.YtmjoklppibfdmaaDoor
