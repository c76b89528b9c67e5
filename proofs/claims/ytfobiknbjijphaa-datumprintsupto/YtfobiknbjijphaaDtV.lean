/-
  The law's walk, over a datum in memory.
-/
import Derived.Test.YtfobiknbjijphaaDtU
namespace Go.Proofs.Ytfobiknbjijphaa
open Go.RowKit
set_option linter.unusedVariables false
set_option linter.unusedSimpArgs false

/-- What all the calls answer. -/
theorem dt_all (d : Dt) : ∃ (P : ByteArray) (q : Bool) (D S : Int), ∀ (v : Value) (w : World), DAt w d v → d.siz ≤ 1048576 → 8 * d.wt ≤ 1099511627776 →
    Calls Try.prog 4 #[v] w (fun e w' => e = .returned (.string P) ∧ Below w.heap.size w w') ∧ Calls Try.prog 5 #[v] w (fun e w' => e = .returned (.string P) ∧ Below w.heap.size w w') ∧
    Calls Try.prog 6 #[v] w (fun e w' => e = .returned (.bool q) ∧ Below w.heap.size w w') ∧ Calls Try.prog 7 #[v] w (fun e w' => e = .returned (.bool q) ∧ Below w.heap.size w w') ∧
    Calls Try.prog 8 #[v] w (fun e w' => e = .returned (.int .i64 D) ∧ Below w.heap.size w w') ∧ Calls Try.prog 9 #[v] w (fun e w' => e = .returned (.int .i64 D) ∧ Below w.heap.size w w') ∧
    Calls Try.prog 10 #[v] w (fun e w' => e = .returned (.int .i64 S) ∧ Below w.heap.size w w') ∧ Calls Try.prog 11 #[v] w (fun e w' => e = .returned (.int .i64 S) ∧ Below w.heap.size w w') := by
  by_cases hm : d.may
  · refine ⟨⟨d.out.toArray⟩, true, d.dep, d.siz, fun v w h hs hw => ?_⟩
    have p1 : ∀ {e : Ending}, Prt d e → e = .returned (.string ⟨d.out.toArray⟩) := fun h => h.elim (fun x => x.2) (fun x => absurd hm x.1)
    have p2 : ∀ {e : Ending}, Ans e d.may → e = .returned (.bool true) := fun ⟨b, h1, h2⟩ => by rw [h1, h2.2 hm]
    have p3 : ∀ {e : Ending} {D : Int}, (∃ k : Int, e = .returned (.int .i64 k) ∧ (d.may → k = D) ∧ (¬ d.may → k = 0)) → e = .returned (.int .i64 D) := fun ⟨k, h1, h2, _⟩ => by rw [h1, h2 hm]
    exact ⟨(dt_print h hs (by omega)).mono (fun e w' x => ⟨p1 x.1, x.2.out⟩), (z_print h hs hw).mono (fun e w' x => ⟨p1 x.1, x.2.out⟩), (dt_can h hs).mono (fun e w' x => ⟨p2 x.1, x.2.out⟩), (z_can h hs).mono (fun e w' x => ⟨p2 x.1, x.2.out⟩), (dt_depth h hs).mono (fun e w' x => ⟨p3 x.1, x.2.out⟩), (z_depthU h hs).mono (fun e w' x => ⟨p3 x.1, x.2.out⟩), (dt_size h hs).mono (fun e w' x => ⟨p3 x.1, x.2.out⟩), (z_sizeU h hs).mono (fun e w' x => ⟨p3 x.1, x.2.out⟩)⟩
  · refine ⟨⟨#[]⟩, false, 0, 0, fun v w h hs hw => ?_⟩
    have p1 : ∀ {e : Ending}, Prt d e → e = .returned (.string ⟨#[]⟩) := fun h => h.elim (fun x => absurd x.1 hm) (fun x => x.2)
    have p2 : ∀ {e : Ending}, Ans e d.may → e = .returned (.bool false) := fun ⟨b, h1, h2⟩ => by
      cases b
      · exact h1
      · exact absurd (h2.1 rfl) hm
    have p3 : ∀ {e : Ending} {D : Int}, (∃ k : Int, e = .returned (.int .i64 k) ∧ (d.may → k = D) ∧ (¬ d.may → k = 0)) → e = .returned (.int .i64 0) := fun ⟨k, h1, _, h2⟩ => by rw [h1, h2 hm]
    exact ⟨(dt_print h hs (by omega)).mono (fun e w' x => ⟨p1 x.1, x.2.out⟩), (z_print h hs hw).mono (fun e w' x => ⟨p1 x.1, x.2.out⟩), (dt_can h hs).mono (fun e w' x => ⟨p2 x.1, x.2.out⟩), (z_can h hs).mono (fun e w' x => ⟨p2 x.1, x.2.out⟩), (dt_depth h hs).mono (fun e w' x => ⟨p3 x.1, x.2.out⟩), (z_depthU h hs).mono (fun e w' x => ⟨p3 x.1, x.2.out⟩), (dt_size h hs).mono (fun e w' x => ⟨p3 x.1, x.2.out⟩), (z_sizeU h hs).mono (fun e w' x => ⟨p3 x.1, x.2.out⟩)⟩
set_option maxRecDepth 100000 in
set_option maxHeartbeats 4000000 in
theorem law_walk {d : Dt} {v : Value} {w : World} (h : DAt w d v) (hs : d.siz ≤ 1048576) (hw : 8 * d.wt ≤ 1099511627776) : Calls Try.prog 3 #[v] w fun e w' => e = .returned (.bool true) ∧ Hid (Below w.heap.size w w') := by
  obtain ⟨P, q, D, S, HA⟩ := dt_all d
  obtain ⟨a, n, c, a2, n2, c2, rfl⟩ := h.shape
  obtain ⟨W0, hW⟩ : ∃ W0, w.alloc (.cells #[.int .i64 d.kd, .string d.tx, .slice a n c, .slice a2 n2 c2] 24) = W0 := ⟨_, rfl⟩
  have hb0 : Below w.heap.size w W0 := by rw [← hW]; exact (Below.refl _ w).alloc (Nat.le_refl _) _
  obtain ⟨B, hB⟩ : ∃ B, w.heap.size = B := ⟨_, rfl⟩
  have h0 : W0.heap[B]? = some (.cells #[.int .i64 d.kd, .string d.tx, .slice a n c, .slice a2 n2 c2] 24 (0, 0)) := by rw [← hW]; exact heap_alloc_at _ _ _ hB.symm
  have HX : Hid (∀ V, Below W0.heap.size W0 V → V.cell? ⟨B, 0, none⟩ = some (.int .i64 d.kd) ∧ V.cell? ⟨B, 1, none⟩ = some (.string d.tx) ∧ V.cell? ⟨B, 2, none⟩ = some (.slice a n c) ∧ V.cell? ⟨B, 3, none⟩ = some (.slice a2 n2 c2)) := fun V hV => by
    have e := (hV.block B (Array.getElem?_eq_some_iff.1 h0).1).trans h0
    exact ⟨by rw [cells_at e 0]; rfl, by rw [cells_at e 1]; rfl, by rw [cells_at e 2]; rfl, by rw [cells_at e 3]; rfl⟩
  have HC := hid (fun V (hV : Below W0.heap.size W0 V) => HA _ V (h.under (hb0.trans (hV.mono hb0.size))) hs hw)
  have HT : Hid (∀ V V', Below W0.heap.size W0 V → Below V.heap.size V V' → Below W0.heap.size W0 V') := fun V V' h1 h2 => h1.trans (h2.mono h1.size)
  have HW : Hid (∀ V, Below W0.heap.size W0 V → Hid (Below w.heap.size w V)) := fun V h1 => hb0.trans (h1.mono hb0.size)
  have k0 : Below W0.heap.size W0 W0 := Below.refl _ _
  obtain ⟨y0, y1, y2, y3⟩ := HX.out W0 k0
  clear h hs h0 hb0 hw HA
  go_enter Try.func3, Try.ntmps3
  go_wp2_with fail
  try rw [hW]
  try rw [hB]
  go_region_held2 (fun wq => wq.cell? ⟨B, 0, none⟩ = some (.int .i64 d.kd) ∧ wq.cell? ⟨B, 1, none⟩ = some (.string d.tx) ∧ wq.cell? ⟨B, 2, none⟩ = some (.slice a n c) ∧ wq.cell? ⟨B, 3, none⟩ = some (.slice a2 n2 c2))
    (first | exact HX.out _ (by assumption) | exact HX.out _ (Below.drew (by assumption)) | go_keep)
    (first
      | (go_at_call 11; refine (HC.out _ (by first | exact k7 | exact k7.drew)).2.2.2.2.2.2.2.mono ?_; rintro e w8 ⟨rfl, j8⟩; have k8 := HT.out _ _ (by first | exact k7 | exact k7.drew) j8; clear j8)
      | (go_at_call 10; refine (HC.out _ (by first | exact k6 | exact k6.drew)).2.2.2.2.2.2.1.mono ?_; rintro e w7 ⟨rfl, j7⟩; have k7 := HT.out _ _ (by first | exact k6 | exact k6.drew) j7; clear j7)
      | (go_at_call 9; refine (HC.out _ (by first | exact k5 | exact k5.drew)).2.2.2.2.2.1.mono ?_; rintro e w6 ⟨rfl, j6⟩; have k6 := HT.out _ _ (by first | exact k5 | exact k5.drew) j6; clear j6)
      | (go_at_call 8; refine (HC.out _ (by first | exact k4 | exact k4.drew)).2.2.2.2.1.mono ?_; rintro e w5 ⟨rfl, j5⟩; have k5 := HT.out _ _ (by first | exact k4 | exact k4.drew) j5; clear j5)
      | (go_at_call 7; refine (HC.out _ (by first | exact k3 | exact k3.drew)).2.2.2.1.mono ?_; rintro e w4 ⟨rfl, j4⟩; have k4 := HT.out _ _ (by first | exact k3 | exact k3.drew) j4; clear j4)
      | (go_at_call 6; refine (HC.out _ (by first | exact k2 | exact k2.drew)).2.2.1.mono ?_; rintro e w3 ⟨rfl, j3⟩; have k3 := HT.out _ _ (by first | exact k2 | exact k2.drew) j3; clear j3)
      | (go_at_call 5; refine (HC.out _ (by first | exact k1 | exact k1.drew)).2.1.mono ?_; rintro e w2 ⟨rfl, j2⟩; have k2 := HT.out _ _ (by first | exact k1 | exact k1.drew) j2; clear j2)
      | (go_at_call 4; refine (HC.out _ (by first | exact k0 | exact k0.drew)).1.mono ?_; rintro e w1 ⟨rfl, j1⟩; have k1 := HT.out _ _ (by first | exact k0 | exact k0.drew) j1; clear j1))
  have hE := HW.out _ k8
  go_wp2
  go_ret
  exact ⟨rfl, by first | exact hE | (rw [← hB]; exact hE)⟩
end Go.Proofs.Ytfobiknbjijphaa
