/-
  The reply of a message: the document's ReadReply, the walk. Made by tools/mkrep.py.
-/
import Derived.Test.YtbpolfoagmehhaaDoorNrK
import Derived.Test.YtbpolfoagmehhaaDoorNqL
namespace Go.Proofs.YtbpolfoagmehhaaDoor
open Go.RowKit
set_option linter.unusedVariables false

abbrev zeroCellsR : Obj := .cells #[.string ⟨#[]⟩, .int .i64 0, .int .i64 0, .int .i64 0, .string ⟨#[]⟩] 34 (0, 0)
theorem msgR_by {id t : ByteArray} {st se wy : Int} (h : mayR id st se wy t = true) : ∀ x ∈ msg 2 (repIs id st se wy t), 0 ≤ x ∧ x ≤ 255 := frameB_by (rep_by h) (rep_len h)
set_option maxHeartbeats 4000000 in
theorem x_readRep (a0 : Option Addr) (n c : Nat) (f : Nat → Int) (w : World) (hbig : n ≤ 140737488355328) (hby : ∀ i, 0 ≤ f i ∧ f i ≤ 255) (hf : From w a0 n f) (hnc : n ≤ c) (hc : c ≤ 9223372036854775807) :
    Calls Tryd.prog 16 #[.slice a0 n c] w fun e w' => e = .returned (tellR (resR f n)) ∧ Below w.heap.size w w' := by
  obtain ⟨W, hW⟩ : ∃ W, W = w.alloc (.cells #[.string ⟨#[]⟩, .int .i64 0, .int .i64 0, .int .i64 0, .string ⟨#[]⟩] 34) := ⟨_, rfl⟩
  have hbW : Below w.heap.size w W := by rw [hW]; exact (Below.refl _ w).alloc (Nat.le_refl _) _
  have hsz : W.heap.size = w.heap.size + 1 := by rw [hW]; simp
  have hr0 : W.heap[w.heap.size]? = some zeroCellsR := by rw [hW]; exact heap_new _ _ _ rfl
  have HX : Hid (∀ wq, Below W.heap.size W wq → wq.heap[w.heap.size]? = some zeroCellsR ∧ wq.cell? ⟨w.heap.size, 0, none⟩ = some (.string ⟨#[]⟩) ∧ wq.cell? ⟨w.heap.size, 1, none⟩ = some (.int .i64 0) ∧ wq.cell? ⟨w.heap.size, 2, none⟩ = some (.int .i64 0) ∧ wq.cell? ⟨w.heap.size, 3, none⟩ = some (.int .i64 0) ∧ wq.cell? ⟨w.heap.size, 4, none⟩ = some (.string ⟨#[]⟩) ∧ wq.frozen? ⟨w.heap.size, 0, none⟩ = false ∧ wq.frozen? ⟨w.heap.size, 1, none⟩ = false ∧ wq.frozen? ⟨w.heap.size, 2, none⟩ = false ∧ wq.frozen? ⟨w.heap.size, 3, none⟩ = false ∧ wq.frozen? ⟨w.heap.size, 4, none⟩ = false ∧ Hid (Below w.heap.size w wq)) := fun wq hq => by
    have e : wq.heap[w.heap.size]? = some zeroCellsR := (hq.block _ (by omega)).trans hr0
    refine ⟨e, cell_of e 0, cell_of e 1, cell_of e 2, cell_of e 3, cell_of e 4, ?_, ?_, ?_, ?_, ?_, hbW.trans (hq.mono hbW.size)⟩ <;> simp [World.frozen?, e]
  have HU : Calls Tryd.prog 25 #[.slice a0 n c] W fun e' w' => ∃ a1 c1 a2 c2, e' = .returned (.tuple #[.slice a1 (unf f n).2.1.length c1, .slice a2 (unf f n).2.2.length c2, .int .i64 (unf f n).1]) ∧ Own w' W.heap.size (.slice a1 (unf f n).2.1.length c1) (unf f n).2.1 ∧ Below W.heap.size W w' := by
    refine (xUnframe a0 n c f W hbig hby (hf.below hbW (Nat.le_refl _)) hnc hc).mono ?_
    rintro e w' ⟨v1, v2, rfl, k1, k2, k3⟩
    obtain ⟨ao, c2, rfl, _⟩ := k2.open
    obtain ⟨a1, c1, rfl, _⟩ := k1.open
    exact ⟨a1, c1, ao, c2, rfl, k1, k3⟩
  by_cases hu : ¬ (unf f n).1 = 0
  · rw [resR_out (by simp [hu])]
    have hu' : ((unf f n).1 != 0) = true := by simpa using hu
    generalize (unf f n).1 = U at *
    clear hf hbW hr0 hu
    go_enter Tryd.func16, Tryd.ntmps16
    go_wp2_with (go_at_call 25; (try rw [← hW]); refine HU.mono ?_; rintro e w2 ⟨a1, c1, a2, c2, rfl, k1, k2⟩; obtain ⟨hz, t0, t1, t2, t3, t4, f0, f1, f2, f3, f4, hbb⟩ := HX.out w2 k2)
    obtain ⟨y1, y2⟩ := set5 (v0 := .string ⟨#[]⟩) (v1 := .int .i64 0) (v2 := .int .i64 0) (v3 := .int .i64 0) (v4 := .string ⟨#[]⟩) hz
    refine bodyPost_ret (v := tellR (⟨#[]⟩, 0, 0, 0, ⟨#[]⟩, 5)) (by simp [results, Tryd.results16, go_sem, cell_of y1]) rfl ?_
    exact ⟨rfl, hbb.out.trans (y2.below (Nat.le_refl _))⟩
  have hu := Classical.not_not.1 hu
  rw [hu] at HU
  by_cases hl : ¬ (unf f n).2.2 = []
  · rw [resR_out (by simp [hl])]
    have hl' : (0 : Int) < ((unf f n).2.2.length : Int) := by
      cases hx : (unf f n).2.2 with
      | nil => exact absurd hx hl
      | cons a l => simp only [List.length_cons]; omega
    generalize (unf f n).2.2.length = M at *
    clear hf hbW hr0 hu hl
    go_enter Tryd.func16, Tryd.ntmps16
    go_wp2_with (go_at_call 25; (try rw [← hW]); refine HU.mono ?_; rintro e w2 ⟨a1, c1, a2, c2, rfl, k1, k2⟩; obtain ⟨hz, t0, t1, t2, t3, t4, f0, f1, f2, f3, f4, hbb⟩ := HX.out w2 k2)
    obtain ⟨y1, y2⟩ := set5 (v0 := .string ⟨#[]⟩) (v1 := .int .i64 0) (v2 := .int .i64 0) (v3 := .int .i64 0) (v4 := .string ⟨#[]⟩) hz
    refine bodyPost_ret (v := tellR (⟨#[]⟩, 0, 0, 0, ⟨#[]⟩, 5)) (by simp [results, Tryd.results16, go_sem, cell_of y1]) rfl ?_
    exact ⟨rfl, hbb.out.trans (y2.below (Nat.le_refl _))⟩
  have hl := Classical.not_not.1 hl
  obtain ⟨_, hP65, hPby⟩ := unf_sound hby hu hl
  rw [hl] at HU
  by_cases hP : (unf f n).2.1 = []
  · rw [resR_out (by simp [hP])]
    rw [hP] at HU
    clear hf hbW hr0 hu hl hP hP65 hPby
    go_enter Tryd.func16, Tryd.ntmps16
    go_wp2_with (go_at_call 25; (try rw [← hW]); refine HU.mono ?_; rintro e w2 ⟨a1, c1, a2, c2, rfl, k1, k2⟩; obtain ⟨hz, t0, t1, t2, t3, t4, f0, f1, f2, f3, f4, hbb⟩ := HX.out w2 k2)
    obtain ⟨y1, y2⟩ := set5 (v0 := .string ⟨#[]⟩) (v1 := .int .i64 0) (v2 := .int .i64 0) (v3 := .int .i64 0) (v4 := .string ⟨#[]⟩) hz
    refine bodyPost_ret (v := tellR (⟨#[]⟩, 0, 0, 0, ⟨#[]⟩, 5)) (by simp [results, Tryd.results16, go_sem, cell_of y1]) rfl ?_
    exact ⟨rfl, hbb.out.trans (y2.below (Nat.le_refl _))⟩
  have HU2 : Calls Tryd.prog 25 #[.slice a0 n c] W fun e' w' => ∃ g c1 a2 c2, e' = .returned (.tuple #[.slice (some ⟨g, 0, none⟩) (unf f n).2.1.length c1, .slice a2 0 c2, .int .i64 0]) ∧ Own w' W.heap.size (.slice (some ⟨g, 0, none⟩) (unf f n).2.1.length c1) (unf f n).2.1 ∧ w'.cell? ⟨g, 0, none⟩ = some (.int .u8 (fn (unf f n).2.1 0)) ∧ (unf f n).2.1.length ≤ c1 ∧ c1 ≤ 9223372036854775807 ∧ Below W.heap.size W w' := by
    refine HU.mono ?_
    rintro e w' ⟨a1, c1, a2, c2, rfl, k1, k2⟩
    obtain ⟨ao, c', e, hf', h0, h1, h2, h3⟩ := id k1.open
    injection e with e1 e2 e3
    subst e1
    subst e3
    have hpos : 0 < (unf f n).2.1.length := by
      rcases Nat.eq_zero_or_pos (unf f n).2.1.length with h | h
      · exact absurd (List.length_eq_zero_iff.1 h) hP
      · exact h
    rcases hf' with ⟨_, h⟩ | ⟨x, rfl, hx⟩
    · omega
    · obtain ⟨g, rfl, g1, g2⟩ := h3 _ rfl
      refine ⟨g, c1, a2, c2, rfl, k1, ?_, h1, h2, k2⟩
      have := hx 0 hpos
      rw [Addr.add_lit, Nat.zero_add] at this
      exact this
  have hpos : 0 < (unf f n).2.1.length := by
    rcases Nat.eq_zero_or_pos (unf f n).2.1.length with h | h
    · exact absurd (List.length_eq_zero_iff.1 h) hP
    · exact h
  have hpos' : (((unf f n).2.1.length : Int) == 0) = false := by simpa using hP
  have hpos2 : (0 : Int) < ((unf f n).2.1.length : Int) := by omega
  clear HU
  by_cases h1 : ¬ fn (unf f n).2.1 0 = 2
  · rw [resR_out (by simp [h1])]
    have h1' : (fn (unf f n).2.1 0 != 2) = true := by simpa using h1
    generalize fn (unf f n).2.1 0 = x0 at *
    generalize hM : (unf f n).2.1.length = M at *
    clear hf hbW hr0 hu hl hP hP65 hPby h1 hM
    go_enter Tryd.func16, Tryd.ntmps16
    go_wp2_with (go_at_call 25; (try rw [← hW]); refine HU2.mono ?_; rintro e w2 ⟨g, c1, a2, c2, rfl, k1, k3, k4, k5, k2⟩; obtain ⟨hz, t0, t1, t2, t3, t4, f0, f1, f2, f3, f4, hbb⟩ := HX.out w2 k2)
    obtain ⟨y1, y2⟩ := set5 (v0 := .string ⟨#[]⟩) (v1 := .int .i64 0) (v2 := .int .i64 0) (v3 := .int .i64 0) (v4 := .string ⟨#[]⟩) hz
    refine bodyPost_ret (v := tellR (⟨#[]⟩, 0, 0, 0, ⟨#[]⟩, 5)) (by simp [results, Tryd.results16, go_sem, cell_of y1]) rfl ?_
    exact ⟨rfl, hbb.out.trans (y2.below (Nat.le_refl _))⟩
  have h1 := Classical.not_not.1 h1
  rw [h1] at HU2
  have HBAD := fun hb => resR_bad hby (n := n) _ rfl hb
  have HGOOD := fun (id : ByteArray) (st se wy : Int) (t : ByteArray) (hm : mayR id st se wy t = true) (h : lst f n = msg 2 (repIs id st se wy t)) => resR_good (f := f) (n := n) hm h
  generalize (unf f n).2.1 = P at *
  have K1 : Hid (∀ w3 X L, RefInv w3 X L (fn P) P.length 1 → Calls Tryd.prog 26 #[.pointer (some ⟨X, 0, none⟩)] w3 fun e w' => e = .returned (.tuple #[.int .i64 (rK (fn P) P.length), .int .i64 (Wm.num (sh (fn P) 1) (P.length - 1)).2.2]) ∧ RefInv w' X L (fn P) P.length (dP1 (fn P) P.length) ∧ Only X w3 w') := fun w3 X L h => xUint h
  have K2' : Hid (∀ w3 X L, RefInv w3 X L (fn P) P.length (dP1 (fn P) P.length) → Calls Tryd.prog 26 #[.pointer (some ⟨X, 0, none⟩)] w3 fun e w' => e = .returned (.tuple #[.int .i64 (rS (fn P) P.length), .int .i64 (Wm.num (sh (fn P) (dP1 (fn P) P.length)) (P.length - dP1 (fn P) P.length)).2.2]) ∧ RefInv w' X L (fn P) P.length (dP2 (fn P) P.length) ∧ Only X w3 w') := fun w3 X L h => xUint h
  have K2b : Hid (∀ w3 X L, RefInv w3 X L (fn P) P.length (dP2 (fn P) P.length) → Calls Tryd.prog 26 #[.pointer (some ⟨X, 0, none⟩)] w3 fun e w' => e = .returned (.tuple #[.int .i64 (rW (fn P) P.length), .int .i64 (Wm.num (sh (fn P) (dP2 (fn P) P.length)) (P.length - dP2 (fn P) P.length)).2.2]) ∧ RefInv w' X L (fn P) P.length (rP3 (fn P) P.length) ∧ Only X w3 w') := fun w3 X L h => xUint h
  have K3 : Hid (∀ w3 X L, RefInv w3 X L (fn P) P.length (rP3 (fn P) P.length) → Calls Tryd.prog 27 #[.pointer (some ⟨X, 0, none⟩), .int .i64 8] w3 fun e w' => e = .returned (.tuple #[.string (rI (fn P) P.length), .int .i64 (txt (fn P) P.length (rP3 (fn P) P.length) 8).2.1]) ∧ RefInv w' X L (fn P) P.length (rP4 (fn P) P.length) ∧ Only X w3 w') := fun w3 X L h => xText h 8
  have K4 : Hid (∀ w3 X L, RefInv w3 X L (fn P) P.length (rP4 (fn P) P.length) → Calls Tryd.prog 27 #[.pointer (some ⟨X, 0, none⟩), .int .i64 1000] w3 fun e w' => e = .returned (.tuple #[.string (rT (fn P) P.length), .int .i64 (txt (fn P) P.length (rP4 (fn P) P.length) 1000).2.1]) ∧ RefInv w' X L (fn P) P.length (txt (fn P) P.length (rP4 (fn P) P.length) 1000).2.2 ∧ Only X w3 w') := fun w3 X L h => xText h 1000
  generalize (Wm.num (sh (fn P) 1) (P.length - 1)).2.2 = x1 at *
  generalize (Wm.num (sh (fn P) (dP1 (fn P) P.length)) (P.length - dP1 (fn P) P.length)).2.2 = x2 at *
  generalize (Wm.num (sh (fn P) (dP2 (fn P) P.length)) (P.length - dP2 (fn P) P.length)).2.2 = x5 at *
  generalize (txt (fn P) P.length (rP3 (fn P) P.length) 8).2.1 = x3 at *
  generalize (txt (fn P) P.length (rP4 (fn P) P.length) 1000).2.1 = x4 at *
  generalize (txt (fn P) P.length (rP4 (fn P) P.length) 1000).2.2 = p5 at *
  generalize rP4 (fn P) P.length = p4 at *
  generalize rP3 (fn P) P.length = p3 at *
  generalize dP2 (fn P) P.length = p2 at *
  generalize dP1 (fn P) P.length = p1 at *
  generalize rW (fn P) P.length = yy at *
  generalize rK (fn P) P.length = kk at *
  generalize rS (fn P) P.length = ss at *
  generalize rI (fn P) P.length = id at *
  generalize rT (fn P) P.length = tt at *
  have HB : Hid (∀ wa wb, Below W.heap.size W wa → Below wa.heap.size wa wb → Below W.heap.size W wb) := fun wa wb h1 h2 => h1.trans (h2.mono h1.size)
  have HO : Hid (∀ wa wb X, Below W.heap.size W wa → Only X wa wb → W.heap.size ≤ X → Below W.heap.size W wb) := fun wa wb X h1 h2 h3 => h1.trans (h2.below h3)
  have HN : Hid (∀ w2 g c1 off c, Own w2 W.heap.size (.slice (some ⟨g, 0, none⟩) P.length c1) P → (off = 1 ∨ P.length = 1) → P.length - 1 ≤ c → c ≤ 9223372036854775807 → RefInv (w2.alloc (.cells #[.slice (some ⟨g, off, none⟩) (P.length - 1) c] 56)) w2.heap.size w2.heap.size (fn P) P.length 1) := fun w2 g c1 off c h1 h2 h3 h4 => ref_new h1 hpos hP65 hPby off c _ h2 h3 h4
  have KA : Hid (∀ w7, Below W.heap.size W w7 → Calls Tryd.prog 14 #[.agg #[.string id, .int .i64 kk, .int .i64 ss, .int .i64 yy, .string tt]] (w7.alloc (.cells #[.string id, .int .i64 kk, .int .i64 ss, .int .i64 yy, .string tt] 34)) fun e w8 => ∃ a8 n8 c8, e = .returned (.tuple #[.slice a8 n8 c8, .int .i64 (repE id kk ss yy tt)]) ∧ (convert 24 9 (.slice a8 n8 c8)).run Tryd.prog w8 = .ok (.string (strF (fn (repB id kk ss yy tt)) (repB id kk ss yy tt).length)) w8 ∧ (convert 24 9 (.slice a0 n c)).run Tryd.prog w8 = .ok (.string (strF f n)) w8 ∧ w8.heap[w7.heap.size]? = some (.cells #[.string id, .int .i64 kk, .int .i64 ss, .int .i64 yy, .string tt] 34 (0, 0)) ∧ Below W.heap.size W w8) := fun w7 h7 => by
    have ha := heap_new w7 (.cells #[.string id, .int .i64 kk, .int .i64 ss, .int .i64 yy, .string tt] 34) _ rfl
    have hba : Below W.heap.size W (w7.alloc (.cells #[.string id, .int .i64 kk, .int .i64 ss, .int .i64 yy, .string tt] 34)) := h7.alloc h7.size _
    refine (x_rep id kk ss yy tt _).mono ?_
    rintro e w8 ⟨v, rfl, o8, b8⟩
    obtain ⟨a8, c8, rfl, hf8, _⟩ := o8.open
    have hb8 : Below W.heap.size W w8 := hba.trans (b8.mono hba.size)
    exact ⟨a8, _, c8, rfl, conv_from c8 hf8, conv_from c (hf.below (hbW.trans (hb8.mono hbW.size)) (Nat.le_refl _)), (b8.block _ (by simp)).trans ha, hb8⟩
  have HS : Hid (∀ w2 o, Below W.heap.size W w2 → Below W.heap.size W (w2.alloc o) ∧ W.heap.size ≤ w2.heap.size) := fun w2 o h => ⟨h.alloc h.size _, h.size⟩
  clear h1 hP hu hl hr0 hPby hf hbW
  cases hm : mayR id kk ss yy tt with
  | false =>
    rw [HBAD (.inl hm)]
    rw [show repE id kk ss yy tt = 1 by simp [repE, hm]] at KA
    generalize strF (fn (repB id kk ss yy tt)) (repB id kk ss yy tt).length = S1 at *
    clear HBAD HGOOD hm hby
    go_enter Tryd.func16, Tryd.ntmps16
    go_wp2_with (go_at_call 25; (try rw [← hW]); refine HU2.mono ?_; rintro e w2 ⟨g, c1, a2, c2, rfl, k1, kc, kl, ku, k2⟩)
    case inl =>
      have r3 := HN.out w2 g _ 0 0 k1 (.inr (by omega)) (by omega) (by omega)
      obtain ⟨k3, hX⟩ := HS.out w2 (.cells #[.slice (some ⟨g, 0, none⟩) (P.length - 1) 0] 56) k2
      go_wp2_with (first
        | (go_at_call 14; refine (KA.out w7 k7).mono ?_; rintro e w8 ⟨a8, n8, c8, rfl, cv1, cv2, q8, k8⟩; obtain ⟨hz, t0, t1, t2, t3, t4, f0, f1, f2, f3, f4, hbb⟩ := HX.out w8 k8; have p0 := cell_of q8 0; have p1 := cell_of q8 1; have p2 := cell_of q8 2; have p3 := cell_of q8 3; have p4 := cell_of q8 4; simp at p0 p1 p2 p3 p4)
        | (go_at_call 27; refine (K4.out w6 _ _ r6).mono ?_; rintro e w7 ⟨rfl, r7, d7⟩; have k7 := HO.out w6 w7 _ k6 d7 hX)
        | (go_at_call 27; refine (K3.out w9 _ _ r9).mono ?_; rintro e w6 ⟨rfl, r6, d6⟩; have k6 := HO.out w9 w6 _ k9 d6 hX)
        | (go_at_call 26; refine (K2b.out w5 _ _ r5).mono ?_; rintro e w9 ⟨rfl, r9, d9⟩; have k9 := HO.out w5 w9 _ k5 d9 hX)
        | (go_at_call 26; refine (K2'.out w4 _ _ r4).mono ?_; rintro e w5 ⟨rfl, r5, d5⟩; have k5 := HO.out w4 w5 _ k4 d5 hX)
        | (go_at_call 26; refine (K1.out _ _ _ r3).mono ?_; rintro e w4 ⟨rfl, r4, d4⟩; have k4 := HO.out _ w4 _ k3 d4 hX))
      obtain ⟨y1, y2⟩ := set5 (v0 := .string ⟨#[]⟩) (v1 := .int .i64 0) (v2 := .int .i64 0) (v3 := .int .i64 0) (v4 := .string ⟨#[]⟩) hz
      refine bodyPost_ret (v := tellR (⟨#[]⟩, 0, 0, 0, ⟨#[]⟩, 5)) (by simp [results, Tryd.results16, go_sem, cell_of y1]) rfl ?_
      exact ⟨rfl, hbb.out.trans (y2.below (Nat.le_refl _))⟩
    case inr =>
      have r3 := HN.out w2 g _ 1 (c1 - 1) k1 (.inl rfl) (by omega) (by omega)
      obtain ⟨k3, hX⟩ := HS.out w2 (.cells #[.slice (some ⟨g, 1, none⟩) (P.length - 1) (c1 - 1)] 56) k2
      go_wp2_with (first
        | (go_at_call 14; refine (KA.out w7 k7).mono ?_; rintro e w8 ⟨a8, n8, c8, rfl, cv1, cv2, q8, k8⟩; obtain ⟨hz, t0, t1, t2, t3, t4, f0, f1, f2, f3, f4, hbb⟩ := HX.out w8 k8; have p0 := cell_of q8 0; have p1 := cell_of q8 1; have p2 := cell_of q8 2; have p3 := cell_of q8 3; have p4 := cell_of q8 4; simp at p0 p1 p2 p3 p4)
        | (go_at_call 27; refine (K4.out w6 _ _ r6).mono ?_; rintro e w7 ⟨rfl, r7, d7⟩; have k7 := HO.out w6 w7 _ k6 d7 hX)
        | (go_at_call 27; refine (K3.out w9 _ _ r9).mono ?_; rintro e w6 ⟨rfl, r6, d6⟩; have k6 := HO.out w9 w6 _ k9 d6 hX)
        | (go_at_call 26; refine (K2b.out w5 _ _ r5).mono ?_; rintro e w9 ⟨rfl, r9, d9⟩; have k9 := HO.out w5 w9 _ k5 d9 hX)
        | (go_at_call 26; refine (K2'.out w4 _ _ r4).mono ?_; rintro e w5 ⟨rfl, r5, d5⟩; have k5 := HO.out w4 w5 _ k4 d5 hX)
        | (go_at_call 26; refine (K1.out _ _ _ r3).mono ?_; rintro e w4 ⟨rfl, r4, d4⟩; have k4 := HO.out _ w4 _ k3 d4 hX))
      obtain ⟨y1, y2⟩ := set5 (v0 := .string ⟨#[]⟩) (v1 := .int .i64 0) (v2 := .int .i64 0) (v3 := .int .i64 0) (v4 := .string ⟨#[]⟩) hz
      refine bodyPost_ret (v := tellR (⟨#[]⟩, 0, 0, 0, ⟨#[]⟩, 5)) (by simp [results, Tryd.results16, go_sem, cell_of y1]) rfl ?_
      exact ⟨rfl, hbb.out.trans (y2.below (Nat.le_refl _))⟩
  | true =>
    rw [show repE id kk ss yy tt = 0 by simp [repE, hm], show repB id kk ss yy tt = msg 2 (repIs id kk ss yy tt) by simp [repB, hm]] at KA
    by_cases he : lst f n = msg 2 (repIs id kk ss yy tt)
    · rw [HGOOD id kk ss yy tt hm he]
      have hS : strF (fn (msg 2 (repIs id kk ss yy tt))) (msg 2 (repIs id kk ss yy tt)).length = strF f n := by
        unfold strF
        rw [lst_fn, he]
      rw [hS] at KA
      generalize strF f n = S1 at *
      clear HBAD HGOOD hm hby he hS
      go_enter Tryd.func16, Tryd.ntmps16
      go_wp2_with (go_at_call 25; (try rw [← hW]); refine HU2.mono ?_; rintro e w2 ⟨g, c1, a2, c2, rfl, k1, kc, kl, ku, k2⟩)
      case inl =>
        have r3 := HN.out w2 g _ 0 0 k1 (.inr (by omega)) (by omega) (by omega)
        obtain ⟨k3, hX⟩ := HS.out w2 (.cells #[.slice (some ⟨g, 0, none⟩) (P.length - 1) 0] 56) k2
        go_wp2_with (first
          | (go_at_call 14; refine (KA.out w7 k7).mono ?_; rintro e w8 ⟨a8, n8, c8, rfl, cv1, cv2, q8, k8⟩; obtain ⟨hz, t0, t1, t2, t3, t4, f0, f1, f2, f3, f4, hbb⟩ := HX.out w8 k8; have p0 := cell_of q8 0; have p1 := cell_of q8 1; have p2 := cell_of q8 2; have p3 := cell_of q8 3; have p4 := cell_of q8 4; simp at p0 p1 p2 p3 p4)
          | (go_at_call 27; refine (K4.out w6 _ _ r6).mono ?_; rintro e w7 ⟨rfl, r7, d7⟩; have k7 := HO.out w6 w7 _ k6 d7 hX)
          | (go_at_call 27; refine (K3.out w9 _ _ r9).mono ?_; rintro e w6 ⟨rfl, r6, d6⟩; have k6 := HO.out w9 w6 _ k9 d6 hX)
          | (go_at_call 26; refine (K2b.out w5 _ _ r5).mono ?_; rintro e w9 ⟨rfl, r9, d9⟩; have k9 := HO.out w5 w9 _ k5 d9 hX)
          | (go_at_call 26; refine (K2'.out w4 _ _ r4).mono ?_; rintro e w5 ⟨rfl, r5, d5⟩; have k5 := HO.out w4 w5 _ k4 d5 hX)
          | (go_at_call 26; refine (K1.out _ _ _ r3).mono ?_; rintro e w4 ⟨rfl, r4, d4⟩; have k4 := HO.out _ w4 _ k3 d4 hX))
        obtain ⟨y1, y2⟩ := set5 (v0 := .string id) (v1 := .int .i64 kk) (v2 := .int .i64 ss) (v3 := .int .i64 yy) (v4 := .string tt) hz
        refine bodyPost_ret (v := tellR (id, kk, ss, yy, tt, 0)) (by simp [results, Tryd.results16, go_sem, cell_of y1]) rfl ?_
        exact ⟨rfl, hbb.out.trans (y2.below (Nat.le_refl _))⟩
      case inr =>
        have r3 := HN.out w2 g _ 1 (c1 - 1) k1 (.inl rfl) (by omega) (by omega)
        obtain ⟨k3, hX⟩ := HS.out w2 (.cells #[.slice (some ⟨g, 1, none⟩) (P.length - 1) (c1 - 1)] 56) k2
        go_wp2_with (first
          | (go_at_call 14; refine (KA.out w7 k7).mono ?_; rintro e w8 ⟨a8, n8, c8, rfl, cv1, cv2, q8, k8⟩; obtain ⟨hz, t0, t1, t2, t3, t4, f0, f1, f2, f3, f4, hbb⟩ := HX.out w8 k8; have p0 := cell_of q8 0; have p1 := cell_of q8 1; have p2 := cell_of q8 2; have p3 := cell_of q8 3; have p4 := cell_of q8 4; simp at p0 p1 p2 p3 p4)
          | (go_at_call 27; refine (K4.out w6 _ _ r6).mono ?_; rintro e w7 ⟨rfl, r7, d7⟩; have k7 := HO.out w6 w7 _ k6 d7 hX)
          | (go_at_call 27; refine (K3.out w9 _ _ r9).mono ?_; rintro e w6 ⟨rfl, r6, d6⟩; have k6 := HO.out w9 w6 _ k9 d6 hX)
          | (go_at_call 26; refine (K2b.out w5 _ _ r5).mono ?_; rintro e w9 ⟨rfl, r9, d9⟩; have k9 := HO.out w5 w9 _ k5 d9 hX)
          | (go_at_call 26; refine (K2'.out w4 _ _ r4).mono ?_; rintro e w5 ⟨rfl, r5, d5⟩; have k5 := HO.out w4 w5 _ k4 d5 hX)
          | (go_at_call 26; refine (K1.out _ _ _ r3).mono ?_; rintro e w4 ⟨rfl, r4, d4⟩; have k4 := HO.out _ w4 _ k3 d4 hX))
        obtain ⟨y1, y2⟩ := set5 (v0 := .string id) (v1 := .int .i64 kk) (v2 := .int .i64 ss) (v3 := .int .i64 yy) (v4 := .string tt) hz
        refine bodyPost_ret (v := tellR (id, kk, ss, yy, tt, 0)) (by simp [results, Tryd.results16, go_sem, cell_of y1]) rfl ?_
        exact ⟨rfl, hbb.out.trans (y2.below (Nat.le_refl _))⟩
    · rw [HBAD (.inr he)]
      have hS : ((strF (fn (msg 2 (repIs id kk ss yy tt))) (msg 2 (repIs id kk ss yy tt)).length).toList == (strF f n).toList) = false := by
        have hmb : ∀ x ∈ msg 2 (repIs id kk ss yy tt), 0 ≤ x ∧ x ≤ 255 := msgR_by hm
        have hne : strF (fn (msg 2 (repIs id kk ss yy tt))) (msg 2 (repIs id kk ss yy tt)).length ≠ strF f n := fun e => by
          have := strF_inj (fn_by hmb) hby e
          rw [lst_fn] at this
          exact he this.symm
        rw [ByteArray.toList_eq, ByteArray.toList_eq]
        simp only [beq_eq_false_iff_ne, ne_eq]
        intro e
        apply hne
        cases hA : strF (fn (msg 2 (repIs id kk ss yy tt))) (msg 2 (repIs id kk ss yy tt)).length with
        | mk d =>
          cases hB : strF f n with
          | mk d' =>
            rw [hA, hB] at e
            simp at e
            rw [e]
      generalize strF (fn (msg 2 (repIs id kk ss yy tt))) (msg 2 (repIs id kk ss yy tt)).length = S1 at *
      generalize strF f n = S2 at *
      clear HBAD HGOOD hm hby he
      go_enter Tryd.func16, Tryd.ntmps16
      go_wp2_with (go_at_call 25; (try rw [← hW]); refine HU2.mono ?_; rintro e w2 ⟨g, c1, a2, c2, rfl, k1, kc, kl, ku, k2⟩)
      case inl =>
        have r3 := HN.out w2 g _ 0 0 k1 (.inr (by omega)) (by omega) (by omega)
        obtain ⟨k3, hX⟩ := HS.out w2 (.cells #[.slice (some ⟨g, 0, none⟩) (P.length - 1) 0] 56) k2
        go_wp2_with (first
          | (go_at_call 14; refine (KA.out w7 k7).mono ?_; rintro e w8 ⟨a8, n8, c8, rfl, cv1, cv2, q8, k8⟩; obtain ⟨hz, t0, t1, t2, t3, t4, f0, f1, f2, f3, f4, hbb⟩ := HX.out w8 k8; have p0 := cell_of q8 0; have p1 := cell_of q8 1; have p2 := cell_of q8 2; have p3 := cell_of q8 3; have p4 := cell_of q8 4; simp at p0 p1 p2 p3 p4)
          | (go_at_call 27; refine (K4.out w6 _ _ r6).mono ?_; rintro e w7 ⟨rfl, r7, d7⟩; have k7 := HO.out w6 w7 _ k6 d7 hX)
          | (go_at_call 27; refine (K3.out w9 _ _ r9).mono ?_; rintro e w6 ⟨rfl, r6, d6⟩; have k6 := HO.out w9 w6 _ k9 d6 hX)
          | (go_at_call 26; refine (K2b.out w5 _ _ r5).mono ?_; rintro e w9 ⟨rfl, r9, d9⟩; have k9 := HO.out w5 w9 _ k5 d9 hX)
          | (go_at_call 26; refine (K2'.out w4 _ _ r4).mono ?_; rintro e w5 ⟨rfl, r5, d5⟩; have k5 := HO.out w4 w5 _ k4 d5 hX)
          | (go_at_call 26; refine (K1.out _ _ _ r3).mono ?_; rintro e w4 ⟨rfl, r4, d4⟩; have k4 := HO.out _ w4 _ k3 d4 hX))
        obtain ⟨y1, y2⟩ := set5 (v0 := .string ⟨#[]⟩) (v1 := .int .i64 0) (v2 := .int .i64 0) (v3 := .int .i64 0) (v4 := .string ⟨#[]⟩) hz
        refine bodyPost_ret (v := tellR (⟨#[]⟩, 0, 0, 0, ⟨#[]⟩, 5)) (by simp [results, Tryd.results16, go_sem, cell_of y1]) rfl ?_
        exact ⟨rfl, hbb.out.trans (y2.below (Nat.le_refl _))⟩
      case inr =>
        have r3 := HN.out w2 g _ 1 (c1 - 1) k1 (.inl rfl) (by omega) (by omega)
        obtain ⟨k3, hX⟩ := HS.out w2 (.cells #[.slice (some ⟨g, 1, none⟩) (P.length - 1) (c1 - 1)] 56) k2
        go_wp2_with (first
          | (go_at_call 14; refine (KA.out w7 k7).mono ?_; rintro e w8 ⟨a8, n8, c8, rfl, cv1, cv2, q8, k8⟩; obtain ⟨hz, t0, t1, t2, t3, t4, f0, f1, f2, f3, f4, hbb⟩ := HX.out w8 k8; have p0 := cell_of q8 0; have p1 := cell_of q8 1; have p2 := cell_of q8 2; have p3 := cell_of q8 3; have p4 := cell_of q8 4; simp at p0 p1 p2 p3 p4)
          | (go_at_call 27; refine (K4.out w6 _ _ r6).mono ?_; rintro e w7 ⟨rfl, r7, d7⟩; have k7 := HO.out w6 w7 _ k6 d7 hX)
          | (go_at_call 27; refine (K3.out w9 _ _ r9).mono ?_; rintro e w6 ⟨rfl, r6, d6⟩; have k6 := HO.out w9 w6 _ k9 d6 hX)
          | (go_at_call 26; refine (K2b.out w5 _ _ r5).mono ?_; rintro e w9 ⟨rfl, r9, d9⟩; have k9 := HO.out w5 w9 _ k5 d9 hX)
          | (go_at_call 26; refine (K2'.out w4 _ _ r4).mono ?_; rintro e w5 ⟨rfl, r5, d5⟩; have k5 := HO.out w4 w5 _ k4 d5 hX)
          | (go_at_call 26; refine (K1.out _ _ _ r3).mono ?_; rintro e w4 ⟨rfl, r4, d4⟩; have k4 := HO.out _ w4 _ k3 d4 hX))
        obtain ⟨y1, y2⟩ := set5 (v0 := .string ⟨#[]⟩) (v1 := .int .i64 0) (v2 := .int .i64 0) (v3 := .int .i64 0) (v4 := .string ⟨#[]⟩) hz
        refine bodyPost_ret (v := tellR (⟨#[]⟩, 0, 0, 0, ⟨#[]⟩, 5)) (by simp [results, Tryd.results16, go_sem, cell_of y1]) rfl ?_
        exact ⟨rfl, hbb.out.trans (y2.below (Nat.le_refl _))⟩
end Go.Proofs.YtbpolfoagmehhaaDoor
