/-
Contract of the document's own log: Open, the walk. Conditions: the sectors are the disk's, nothing pends.
-/
import Derived.Test.YtmjoklppibfdmaaDoorGl
namespace Go.Proofs.YtmjoklppibfdmaaDoor
open Go.RowKit
set_option linter.unusedVariables false

set_option maxRecDepth 100000 in
set_option maxHeartbeats 4000000 in
theorem zOpen (X n from_ sectors : Nat) (F : Nat → Prop) (e : Nat → Int) (w : World) (h : Sx w X F n 0 e) (hp : from_ + sectors ≤ n) (hs1 : 1 ≤ sectors) :
    Calls Tryd.prog 32 #[.pointer (some ⟨X, 0, none⟩), .int .i64 (from_ : Int), .int .i64 (sectors : Int)] w fun r w' => ∃ M v first tot size R, r = .returned (.tuple #[.pointer (some ⟨M, 0, none⟩), v, .int .i64 0]) ∧ Hid (ZOpened w w' X n from_ sectors F e M v first tot size R) := by
  obtain ⟨n1, n2⟩ := h.n2
  obtain ⟨gB, cB, c0⟩ := h.head
  have hby := h.by_
  have hFl := h.lt
  obtain ⟨E, hE⟩ : ∃ E, from0 e from_ = E := ⟨_, rfl⟩
  have hbE : ∀ i, 0 ≤ E i ∧ E i ≤ 255 := fun i => by rw [← hE]; exact hby _
  have hn0 : (0 : Int) ≤ (n : Int) := by omega
  have hn9 : (n : Int) ≤ 4096 := by omega
  have d1 : decide ((from_ : Int) < 0) = false := decide_eq_false (by omega)
  have d2 : decide ((sectors : Int) < 1) = false := decide_eq_false (by omega)
  have d3 : decide ((n : Int) < (from_ : Int)) = false := decide_eq_false (by omega)
  have d5 : decide (n < from_) = false := decide_eq_false (by omega)
  have hw : IntKind.i64.wrap ((n : Int) - (from_ : Int)) = (n : Int) - (from_ : Int) := by rw [IntKind.wrap_i64]; omega
  have d4 : decide ((n : Int) - (from_ : Int) < (sectors : Int)) = false := decide_eq_false (by omega)
  have HS : Hid (Sx w X F n 0 e) := h
  obtain ⟨o, ho⟩ : ∃ o, Obj.cells #[.pointer (some ⟨X, 0, none⟩), .int .i64 (from_ : Int), .int .i64 (sectors : Int), .int .i64 1, .int .i64 0, .int .i64 0, .slice none 0 0, .int .i64 0] 113 = o := ⟨_, rfl⟩
  have hb0 : Below w.heap.size w (w.alloc o) := (Below.refl _ w).alloc (Nat.le_refl _) o
  have HZ0 : Hid (Zl (w.alloc o) w.heap.size X from_ sectors (max 0 1) 0 0 (.slice none 0 0) 0) := by
    rw [← ho]
    exact heap_alloc_at _ _ _ rfl
  clear h
  go_enter Tryd.func32, Tryd.ntmps32
  go_wp2_with fail
  try rw [ho]
  clear ho c0 d1 d2 d3 d4 d5 hw
  go_loopw [10, 11, 54] (fun s10 s11 s54 wr => ∃ first k : Nat, k ≤ sectors ∧ s54 = .int .i64 (k : Int) ∧ s11 = .int .i64 (k : Int) ∧ first ≤ 4611686018427387904 ∧ Hid (Taken E first (k * 112) k) ∧ Hid (Own wr (w.heap.size + 1) s10 (lst (lg E) (k * 112))) ∧ Hid (Zl wr w.heap.size X from_ sectors (max first 1) 0 0 (.slice none 0 0) 0) ∧ Hid (Below w.heap.size w wr)) (fun _ _ i _ => sectors - (intOf i).toNat)
  case atStart => exact ⟨0, 0, Nat.zero_le _, rfl, rfl, by omega, Taken.nil E, World.ownsRow_nil _ _ _ _, HZ0, hb0⟩
  case round =>
    obtain ⟨first, k, hk, rfl, rfl, hfi, HT, HO, HZ, HB⟩ := hrel
    have hsw := (Array.getElem?_eq_some_iff.1 HZ.out).1
    obtain ⟨a0, cs, rfl, _, _⟩ := HO.out.fst
    obtain ⟨T, hT⟩ : ∃ T, k * 112 = T := ⟨_, rfl⟩
    rw [hT] at HT HO ⊢
    have HI9 : Hid (k = 0 ↔ first = 0) := by
      refine ⟨fun h => (HT.out.none h).1, fun h => ?_⟩
      refine Decidable.byContradiction fun h0 => ?_
      obtain ⟨q, rfl⟩ : ∃ q, k = q + 1 := ⟨k - 1, by omega⟩
      have := (HT.out.last q rfl).2.2.h1
      omega
    by_cases hlt : k < sectors
    · have hlt' : (k : Int) < (sectors : Int) := by omega
      have HR : Hid (Calls Tryd.prog 65 #[.pointer (some ⟨X, 0, none⟩), .int .i64 ((from_ : Int) + (k : Int))] wr fun r w1 => ∃ g c, r = .returned (.tuple #[.slice (some ⟨g, 0, none⟩) 128 c, .int .i64 0]) ∧ Hid (Own w1 wr.heap.size (.slice (some ⟨g, 0, none⟩) 128 c) (lst (secAt E k) 128)) ∧ Hid (Below wr.heap.size wr w1) ∧ Hid (Calls Tryd.prog 66 #[.slice (some ⟨g, 0, none⟩) 128 c, .int .i64 (k : Int)] w1 fun r w2 => ZrAns (secAt E k) k g r ∧ Hid (Below w1.heap.size w1 w2))) := by
        show Calls _ _ _ _ _
        rw [show (from_ : Int) + (k : Int) = ((from_ + k : Nat) : Int) by omega]
        refine (sxRead X (from_ + k) n 0 F e wr (HS.out.below HB.out) (by omega) (by omega)).mono ?_
        rintro r w1 ⟨g, c, rfl, o1, hc1, hc2, b1⟩
        have o2 := o1.out.ext (G := secAt E k) (fun i hi => by rw [← hE]; exact (from0_at e from_ k i).symm)
        refine ⟨g, c, rfl, o2, b1, ?_⟩
        refine (zRead g c k (secAt E k) w1 (fun i hi => o2.cellF i hi) hc1 hc2 (fun i => hbE _) (by omega)).mono ?_
        rintro r w2 ⟨h1, h2⟩
        exact ⟨h1, h2⟩
      go_wp2_with fail
      refine HR.out.mono ?_
      rintro r w1 ⟨g, c, rfl, O1, B1, CR⟩
      clear HR
      go_wp2_with fail
      refine CR.out.mono ?_
      rintro r w2 ⟨hans, B2⟩
      clear CR
      have HB12 : Hid (Below wr.heap.size wr w2) := B1.out.trans (B2.out.mono B1.out.size)
      rcases hans with ⟨N, u, c', hr, rfl, hc1, hc2⟩ | ⟨hno, rfl⟩
      · by_cases hk0 : k = 0 ∨ N = first
        · have hu := hr.hu
          have hN1 := hr.h1
          have hN2 := hr.h2
          have hO1 := World.ownsRow.lt O1.out g rfl
          have HT2 : Hid (Taken E N (T + u) (k + 1)) := HT.out.step hT.symm hr hk0
          obtain ⟨W3, hW3⟩ : ∃ W3, w2.setCell ⟨w.heap.size, 3, none⟩ (.int .i64 (N : Int)) = W3 := ⟨_, rfl⟩
          have p3 : Part (fun k => k = w.heap.size) w2 W3 := by rw [← hW3]; exact (Part.refl (fun k => k = w.heap.size) w2).setCell (p := ⟨w.heap.size, 3, none⟩) (fun _ => rfl) _
          have hs3 := p3.size
          have hs12 := HB12.out.size
          have hsB := HB.out.size
          have HZ3 : Hid (Zl W3 w.heap.size X from_ sectors (max N 1) 0 0 (.slice none 0 0) 0) := by
            rw [← hW3, show max N 1 = N by omega]
            exact heap_set_at (HZ.out.below HB12.out) _
          have hO2 : Own W3 (w.heap.size + 1) (.slice a0 T cs) (lst (lg E) T) := by
            have h9 := HO.out.below HB12.out (Nat.le_refl _)
            exact Part.row p3 h9 (fun q hq h => by have := (World.ownsRow.lt h9 q hq).1; omega)
          have hF : From W3 (some ⟨g, 12, none⟩) u (sh (secAt E k) 12) := .inr ⟨_, rfl, fun i hi => by
            rw [Addr.add_lit]
            refine p3.cell (p := ⟨g, 12 + i, none⟩) (fun h => by have : g = w.heap.size := h; omega) ?_
            rw [B2.out.cell (p := ⟨g, 12 + i, none⟩) hO1.2]
            exact O1.out.cellF (12 + i) (by omega)⟩
          have HB3 : Hid (Below w.heap.size w W3) := (HB.out.trans (HB12.out.mono hsB)).trans ⟨p3.os, p3.tape, p3.output, p3.size, fun q hq => p3.block q (by omega) (by omega)⟩
          have HX : Hid (∀ v' w4, Own w4 (w.heap.size + 1) v' (lst (lg E) T ++ lst (sh (secAt E k) 12) u) → Below (w.heap.size + 1) W3 w4 → (∃ a1 c1, v' = .slice a1 (T + u) c1) ∧ Own w4 (w.heap.size + 1) v' (lst (lg E) (T + u)) ∧ Zl w4 w.heap.size X from_ sectors (max N 1) 0 0 (.slice none 0 0) 0 ∧ Below w.heap.size w w4) := fun v' w4 h1 h2 => by
            rw [zlst_cat (lg E) _ T u (fun i hi => by rw [← hT]; exact (lg_at E k i (by omega)).symm)] at h1
            obtain ⟨a1, c1, e1, _⟩ := h1.fst
            exact ⟨⟨a1, c1, e1⟩, h1, (h2.block w.heap.size (by omega)).trans HZ3.out, HB3.out.trans (h2.mono (by omega))⟩
          have hsl : (lst (lg E) T).length + u ≤ 140737488355328 := by rw [lst_length]; omega
          have hs9 : w.heap.size + 1 ≤ W3.heap.size := by omega
          obtain ⟨mf, hmf⟩ : ∃ mf, max first 1 = mf := ⟨_, rfl⟩
          have HZ2 : Zl w2 w.heap.size X from_ sectors (max first 1) 0 0 (.slice none 0 0) 0 := HZ.out.below HB12.out
          rw [hmf] at HZ2
          obtain ⟨_, _, _, z3, _⟩ := zget HZ2
          have f3 : w2.frozen? ⟨w.heap.size, 3, none⟩ = false := cells_free HZ2 3
          have hkk : (decide ((0 : Int) < (k : Int)) = false ∧ ¬ (0 : Int) < (k : Int) ∧ ¬ 0 < k) ∨ (decide ((0 : Int) < (k : Int)) = true ∧ (0 : Int) < (k : Int) ∧ N = mf) := by
            rcases Nat.eq_zero_or_pos k with h | h
            · exact .inl ⟨decide_eq_false (by omega), by omega, by omega⟩
            · refine .inr ⟨decide_eq_true (by omega), by omega, ?_⟩
              omega
          subst hW3
          have hk1 : (k : Int) ≤ 4096 := by omega
          have hk2 : (0 : Int) ≤ (k : Int) := by omega
          clear HZ2 hmf p3 hr HO HZ HT O1 B1 B2 HB12 HB hs12 hsB hs3 HI9 HZ0 hk0 hO1
          rcases hkk with ⟨d9, d8, d7⟩ | ⟨d9, d8, rfl⟩
          all_goals
            by_cases hfull : u < 112
            · have hl : (u : Int) < 112 := by omega
              have HHs : Hid (Has E sectors N (T + u)) := ⟨k + 1, by omega, HT2.out, .inr (.inl ⟨by omega, by omega⟩)⟩
              go_wp2_with (at_builtin; refine wpList_app rfl _ _ rfl (w.heap.size + 1) _ (lst (lg E) T) rfl hO2 (some ⟨g, 12, none⟩) u c' (sh (secAt E k) 12) rfl hF (fun h => by cases h) hsl hs9 ?_; intro v' w4 o3 b3)
              all_goals
                obtain ⟨⟨a1, c1, rfl⟩, o4, z4, b4⟩ := HX.out v' w4 o3 b3
                have HO4 : Hid (Own w4 (w.heap.size + 1) (.slice a1 (T + u) c1) (lst (lg E) (T + u))) := o4
                have HZ4 : Hid (Zl w4 w.heap.size X from_ sectors (max N 1) 0 0 (.slice none 0 0) 0) := z4
                have HB4 : Hid (Below w.heap.size w w4) := b4
                clear o3 b3 HX o4 z4 b4 hO2 hF
                obtain ⟨T2, hT2⟩ : ∃ T2, T + u = T2 := ⟨_, rfl⟩
                rw [hT2] at HO4 HHs ⊢
                have HTl : Hid (Calls Tryd.prog 67 #[.slice a1 T2 c1] w4 fun r w3 => ∃ (v : Value) (size : Nat) (R : List (Nat × Nat)), r = .returned (.tuple #[v, .int .i64 (size : Int)]) ∧ size ≤ T2 ∧ T2 ≤ c1 ∧ c1 ≤ 9223372036854775807 ∧ R.length ≤ 458752 ∧ (∃ av cv, v = .slice av R.length cv) ∧ (a1 = none ∧ c1 = 0 ∨ ∃ g, a1 = some ⟨g, 0, none⟩) ∧ Hid (Zl w3 w.heap.size X from_ sectors (max N 1) 0 0 (.slice none 0 0) 0) ∧
                    Hid (∀ w4, Zl w4 w.heap.size X from_ sectors (max N 1) 0 0 (.slice a1 size c1) size → Part (fun k => k = w.heap.size) w3 w4 → w4.heap.size = w3.heap.size → ∀ y z : Int, y = (((k + 1) : Nat) : Int) → z = (T2 : Int) → Calls Tryd.prog 68 #[.pointer (some ⟨w.heap.size, 0, none⟩), .int .i64 y, .int .i64 z] w4 fun r w5 => r = .returned (.tuple #[]) ∧ Hid (Zl w5 w.heap.size X from_ sectors (max N 1) 0 0 (.slice a1 size c1) size) ∧ Hid (∀ w6, Zl w6 w.heap.size X from_ sectors (max N 1) (max N 1 + R.length - 1) (max N 1 + R.length - 1) (.slice a1 size c1) size → Part (fun k => k = w.heap.size) w5 w6 → w6.heap.size = w5.heap.size → ZOpened w w6 X n from_ sectors F e w.heap.size v N T2 size R))) := by
                  have hT9 := zTail (used := (k + 1)) HS.out hp hs1 (first := N) (tot := T2) (a0 := a1) (cs := c1) (we := w4) ?f9 ?o9 ?z9 ?b9 ?h9 ?i9 ?t9 ?u9
                  case f9 => omega
                  case o9 => rw [hE]; exact HO4.out
                  case z9 => exact HZ4.out
                  case b9 => exact HB4.out
                  case h9 => rw [hE]; exact HHs.out
                  case i9 => omega
                  case t9 => omega
                  case u9 => omega
                  exact hT9
                clear HO4 HZ4 HB4 HHs HT2 HZ3 HB3 hby hbE hlt z3 f3
                obtain ⟨m1, hm1⟩ : ∃ m1, max N 1 = m1 := ⟨_, rfl⟩
                have hm2 : (1 : Int) ≤ (m1 : Int) := by omega
                have hm3 : (m1 : Int) ≤ 4611686018427387904 := by omega
                rw [hm1] at HTl
                clear hm1
                go_wp2_with fail
                refine HTl.out.mono ?_
                rintro r w3 ⟨v, size, R, rfl, q1, q2, q3, q4, ⟨av, cv, rfl⟩, hac, HZ3, HK⟩
                obtain ⟨_, _, _, _, _, _, x6, x7⟩ := zget HZ3.out
                have f6 : w3.frozen? ⟨w.heap.size, 6, none⟩ = false := cells_free HZ3.out 6
                have f7 : w3.frozen? ⟨w.heap.size, 7, none⟩ = false := cells_free HZ3.out 7
                have q5 : (0 : Int) ≤ (size : Int) := by omega
                have q6 : (size : Int) ≤ (c1 : Int) := by omega
                have q7 : (R.length : Int) ≤ 458752 := by omega
                have q8 : (0 : Int) ≤ (R.length : Int) := by omega
                have hvv : Hid ((m1 : Int) + (R.length : Int) - 1 = ((m1 + R.length - 1 : Nat) : Int)) := (by omega : (m1 : Int) + (R.length : Int) - 1 = ((m1 + R.length - 1 : Nat) : Int))
                clear HTl
                have hac2 : (a1 = none ∧ c1 = 0 ∧ size = 0 ∧ T2 = 0) ∨ ∃ g, a1 = some ⟨g, 0, none⟩ := hac.imp (fun h => ⟨h.1, h.2, by omega, by omega⟩) id
                clear hac
                rcases hac2 with ⟨rfl, rfl, rfl, hT0⟩ | ⟨ga, rfl⟩
                all_goals try (exfalso; omega)
                all_goals
                  go_wp2_with fail
                  refine (HK.out _ (by exact heap_set_at (heap_set_at HZ3.out _) _) (((Part.refl (fun k => k = w.heap.size) w3).setCell (p := ⟨w.heap.size, 6, none⟩) (fun _ => rfl) _).setCell (p := ⟨w.heap.size, 7, none⟩) (fun _ => rfl) _) (by simp) _ _ (by first | rfl | omega) (by first | rfl | omega)).mono ?_
                  rintro r w5 ⟨rfl, HZ5, HE⟩
                  obtain ⟨_, _, _, y3, y4, y5, _, _⟩ := zget HZ5.out
                  have f4 : w5.frozen? ⟨w.heap.size, 4, none⟩ = false := cells_free HZ5.out 4
                  have f5 : w5.frozen? ⟨w.heap.size, 5, none⟩ = false := cells_free HZ5.out 5
                  clear HK HZ3 x6 x7 f6 f7
                  go_wp2
                  go_ret3
                  refine ⟨_, _, N, T2, _, R, rfl, HE.out _ ?_ ?_ ?_⟩
                  · rw [hvv.out]
                    exact heap_set_at (heap_set_at HZ5.out _) _
                  · exact ((Part.refl (fun k => k = w.heap.size) w5).setCell (p := ⟨w.heap.size, 4, none⟩) (fun _ => rfl) _).setCell (p := ⟨w.heap.size, 5, none⟩) (fun _ => rfl) _
                  · simp
            · obtain rfl : u = 112 := by omega
              have HT3 : Hid (Taken E N ((k + 1) * 112) (k + 1)) := by rw [show (k + 1) * 112 = T + 112 by omega]; exact HT2.out
              go_wp2_with (at_builtin; refine wpList_app rfl _ _ rfl (w.heap.size + 1) _ (lst (lg E) T) rfl hO2 (some ⟨g, 12, none⟩) 112 c' (sh (secAt E k) 12) rfl hF (fun h => by cases h) hsl hs9 ?_; intro v' w4 o3 b3)
              all_goals
                obtain ⟨_, o4, z4, b4⟩ := HX.out v' w4 o3 b3
                have HO4 : Hid (Own w4 (w.heap.size + 1) v' (lst (lg E) ((k + 1) * 112))) := by rw [show (k + 1) * 112 = T + 112 by omega]; exact o4
                have HZ4 : Hid (Zl w4 w.heap.size X from_ sectors (max N 1) 0 0 (.slice none 0 0) 0) := z4
                have HB4 : Hid (Below w.heap.size w w4) := b4
                clear o3 b3 HX o4 z4 b4 hO2 hF
                go_wp2
                go_roundw
                case rel => exact ⟨N, k + 1, by omega, by go_num, by go_num, by omega, HT3, HO4, HZ4, HB4⟩
                case measure => simp [intOf]; omega
        · have h1 : (0 : Int) < (k : Int) := by omega
          have h2 : ¬ N = first := by omega
          have hN1 := hr.h1
          have h3 : 1 ≤ first := by have := HI9.out; omega
          have hmx : max first 1 = first := by omega
          obtain ⟨_, _, _, z3, _⟩ := zget (HZ.out.below HB12.out)
          rw [hmx] at z3
          have h2' : ((N : Int) == (first : Int)) = false := by rw [beq_eq_false_iff_ne]; omega
          have d9 : decide ((0 : Int) < (k : Int)) = true := decide_eq_true h1
          have HEnd : Hid (Ends E sectors first T k) := .inr (.inr (fun N' u' h => by
            have := (h.uniq hr).1
            exact ⟨by omega, by omega⟩))
          clear hmx
          have HTl : Hid (Calls Tryd.prog 67 #[.slice a0 T cs] w2 fun r w3 => ∃ (v : Value) (size : Nat) (R : List (Nat × Nat)), r = .returned (.tuple #[v, .int .i64 (size : Int)]) ∧ size ≤ T ∧ T ≤ cs ∧ cs ≤ 9223372036854775807 ∧ R.length ≤ 458752 ∧ (∃ av cv, v = .slice av R.length cv) ∧ (a0 = none ∧ cs = 0 ∨ ∃ g, a0 = some ⟨g, 0, none⟩) ∧ Hid (Zl w3 w.heap.size X from_ sectors (max first 1) 0 0 (.slice none 0 0) 0) ∧
              Hid (∀ w4, Zl w4 w.heap.size X from_ sectors (max first 1) 0 0 (.slice a0 size cs) size → Part (fun k => k = w.heap.size) w3 w4 → w4.heap.size = w3.heap.size → ∀ y z : Int, y = ((k : Nat) : Int) → z = (T : Int) → Calls Tryd.prog 68 #[.pointer (some ⟨w.heap.size, 0, none⟩), .int .i64 y, .int .i64 z] w4 fun r w5 => r = .returned (.tuple #[]) ∧ Hid (Zl w5 w.heap.size X from_ sectors (max first 1) 0 0 (.slice a0 size cs) size) ∧ Hid (∀ w6, Zl w6 w.heap.size X from_ sectors (max first 1) (max first 1 + R.length - 1) (max first 1 + R.length - 1) (.slice a0 size cs) size → Part (fun k => k = w.heap.size) w5 w6 → w6.heap.size = w5.heap.size → ZOpened w w6 X n from_ sectors F e w.heap.size v first T size R))) := by
            have hT9 := zTail (used := k) HS.out hp hs1 (first := first) (tot := T) (a0 := a0) (cs := cs) (we := w2) ?f9 ?o9 ?z9 ?b9 ?h9 ?i9 ?t9 ?u9
            case f9 => omega
            case o9 => rw [hE]; exact HO.out.below HB12.out (Nat.le_refl _)
            case z9 => exact HZ.out.below HB12.out
            case b9 => exact HB.out.trans (HB12.out.mono HB.out.size)
            case h9 => rw [hE]; exact ⟨k, hk, HT.out, HEnd.out⟩
            case i9 => exact HI9.out
            case t9 => omega
            case u9 => exact hk
            exact hT9
          clear HB HZ0 HT HO HZ B1 B2 O1 hby hbE hr HB12 HEnd HI9 hlt hk0 h2 hN1 h3
          obtain ⟨m1, hm1⟩ : ∃ m1, max first 1 = m1 := ⟨_, rfl⟩
          have hm2 : (1 : Int) ≤ (m1 : Int) := by omega
          have hm3 : (m1 : Int) ≤ 4611686018427387904 := by omega
          rw [hm1] at HTl
          clear hm1
          go_wp2_with fail
          refine HTl.out.mono ?_
          rintro r w3 ⟨v, size, R, rfl, q1, q2, q3, q4, ⟨av, cv, rfl⟩, hac, HZ3, HK⟩
          obtain ⟨_, _, _, _, _, _, x6, x7⟩ := zget HZ3.out
          have f6 : w3.frozen? ⟨w.heap.size, 6, none⟩ = false := cells_free HZ3.out 6
          have f7 : w3.frozen? ⟨w.heap.size, 7, none⟩ = false := cells_free HZ3.out 7
          have q5 : (0 : Int) ≤ (size : Int) := by omega
          have q6 : (size : Int) ≤ (cs : Int) := by omega
          have q7 : (R.length : Int) ≤ 458752 := by omega
          have q8 : (0 : Int) ≤ (R.length : Int) := by omega
          have hvv : Hid ((m1 : Int) + (R.length : Int) - 1 = ((m1 + R.length - 1 : Nat) : Int)) := (by omega : (m1 : Int) + (R.length : Int) - 1 = ((m1 + R.length - 1 : Nat) : Int))
          clear HTl
          have hac2 : (a0 = none ∧ cs = 0 ∧ size = 0 ∧ T = 0) ∨ ∃ g, a0 = some ⟨g, 0, none⟩ := hac.imp (fun h => ⟨h.1, h.2, by omega, by omega⟩) id
          clear hac
          rcases hac2 with ⟨rfl, rfl, rfl, hT0⟩ | ⟨ga, rfl⟩
          all_goals try (exfalso; omega)
          all_goals
            go_wp2_with fail
            refine (HK.out _ (by exact heap_set_at (heap_set_at HZ3.out _) _) (((Part.refl (fun k => k = w.heap.size) w3).setCell (p := ⟨w.heap.size, 6, none⟩) (fun _ => rfl) _).setCell (p := ⟨w.heap.size, 7, none⟩) (fun _ => rfl) _) (by simp) _ _ (by first | rfl | omega) (by first | rfl | omega)).mono ?_
            rintro r w5 ⟨rfl, HZ5, HE⟩
            obtain ⟨_, _, _, y3, y4, y5, _, _⟩ := zget HZ5.out
            have f4 : w5.frozen? ⟨w.heap.size, 4, none⟩ = false := cells_free HZ5.out 4
            have f5 : w5.frozen? ⟨w.heap.size, 5, none⟩ = false := cells_free HZ5.out 5
            clear HK HZ3 x6 x7 f6 f7
            go_wp2
            go_ret3
            refine ⟨_, _, first, T, _, R, rfl, HE.out _ ?_ ?_ ?_⟩
            · rw [hvv.out]
              exact heap_set_at (heap_set_at HZ5.out _) _
            · exact ((Part.refl (fun k => k = w.heap.size) w5).setCell (p := ⟨w.heap.size, 4, none⟩) (fun _ => rfl) _).setCell (p := ⟨w.heap.size, 5, none⟩) (fun _ => rfl) _
            · simp
      · have HEnd : Hid (Ends E sectors first T k) := .inr (.inr (fun N u h => (hno N u h).elim))
        have HTl : Hid (Calls Tryd.prog 67 #[.slice a0 T cs] w2 fun r w3 => ∃ (v : Value) (size : Nat) (R : List (Nat × Nat)), r = .returned (.tuple #[v, .int .i64 (size : Int)]) ∧ size ≤ T ∧ T ≤ cs ∧ cs ≤ 9223372036854775807 ∧ R.length ≤ 458752 ∧ (∃ av cv, v = .slice av R.length cv) ∧ (a0 = none ∧ cs = 0 ∨ ∃ g, a0 = some ⟨g, 0, none⟩) ∧ Hid (Zl w3 w.heap.size X from_ sectors (max first 1) 0 0 (.slice none 0 0) 0) ∧
            Hid (∀ w4, Zl w4 w.heap.size X from_ sectors (max first 1) 0 0 (.slice a0 size cs) size → Part (fun k => k = w.heap.size) w3 w4 → w4.heap.size = w3.heap.size → ∀ y z : Int, y = ((k : Nat) : Int) → z = (T : Int) → Calls Tryd.prog 68 #[.pointer (some ⟨w.heap.size, 0, none⟩), .int .i64 y, .int .i64 z] w4 fun r w5 => r = .returned (.tuple #[]) ∧ Hid (Zl w5 w.heap.size X from_ sectors (max first 1) 0 0 (.slice a0 size cs) size) ∧ Hid (∀ w6, Zl w6 w.heap.size X from_ sectors (max first 1) (max first 1 + R.length - 1) (max first 1 + R.length - 1) (.slice a0 size cs) size → Part (fun k => k = w.heap.size) w5 w6 → w6.heap.size = w5.heap.size → ZOpened w w6 X n from_ sectors F e w.heap.size v first T size R))) := by
          have hT9 := zTail (used := k) HS.out hp hs1 (first := first) (tot := T) (a0 := a0) (cs := cs) (we := w2) ?f9 ?o9 ?z9 ?b9 ?h9 ?i9 ?t9 ?u9
          case f9 => omega
          case o9 => rw [hE]; exact HO.out.below HB12.out (Nat.le_refl _)
          case z9 => exact HZ.out.below HB12.out
          case b9 => exact HB.out.trans (HB12.out.mono HB.out.size)
          case h9 => rw [hE]; exact ⟨k, hk, HT.out, HEnd.out⟩
          case i9 => exact HI9.out
          case t9 => omega
          case u9 => exact hk
          exact hT9
        clear HB HZ0 HT HO HZ B1 B2 O1 hby hbE hno HB12 HEnd HI9 hlt
        obtain ⟨m1, hm1⟩ : ∃ m1, max first 1 = m1 := ⟨_, rfl⟩
        have hm2 : (1 : Int) ≤ (m1 : Int) := by omega
        have hm3 : (m1 : Int) ≤ 4611686018427387904 := by omega
        rw [hm1] at HTl
        clear hm1
        go_wp2_with fail
        refine HTl.out.mono ?_
        rintro r w3 ⟨v, size, R, rfl, q1, q2, q3, q4, ⟨av, cv, rfl⟩, hac, HZ3, HK⟩
        obtain ⟨_, _, _, _, _, _, x6, x7⟩ := zget HZ3.out
        have f6 : w3.frozen? ⟨w.heap.size, 6, none⟩ = false := cells_free HZ3.out 6
        have f7 : w3.frozen? ⟨w.heap.size, 7, none⟩ = false := cells_free HZ3.out 7
        have q5 : (0 : Int) ≤ (size : Int) := by omega
        have q6 : (size : Int) ≤ (cs : Int) := by omega
        have q7 : (R.length : Int) ≤ 458752 := by omega
        have q8 : (0 : Int) ≤ (R.length : Int) := by omega
        have hvv : Hid ((m1 : Int) + (R.length : Int) - 1 = ((m1 + R.length - 1 : Nat) : Int)) := (by omega : (m1 : Int) + (R.length : Int) - 1 = ((m1 + R.length - 1 : Nat) : Int))
        clear HTl
        have hac2 : (a0 = none ∧ cs = 0 ∧ size = 0 ∧ T = 0) ∨ ∃ g, a0 = some ⟨g, 0, none⟩ := hac.imp (fun h => ⟨h.1, h.2, by omega, by omega⟩) id
        clear hac
        rcases hac2 with ⟨rfl, rfl, rfl, hT0⟩ | ⟨ga, rfl⟩
        all_goals try (exfalso; omega)
        all_goals
          go_wp2_with fail
          refine (HK.out _ (by exact heap_set_at (heap_set_at HZ3.out _) _) (((Part.refl (fun k => k = w.heap.size) w3).setCell (p := ⟨w.heap.size, 6, none⟩) (fun _ => rfl) _).setCell (p := ⟨w.heap.size, 7, none⟩) (fun _ => rfl) _) (by simp) _ _ (by first | rfl | omega) (by first | rfl | omega)).mono ?_
          rintro r w5 ⟨rfl, HZ5, HE⟩
          obtain ⟨_, _, _, y3, y4, y5, _, _⟩ := zget HZ5.out
          have f4 : w5.frozen? ⟨w.heap.size, 4, none⟩ = false := cells_free HZ5.out 4
          have f5 : w5.frozen? ⟨w.heap.size, 5, none⟩ = false := cells_free HZ5.out 5
          clear HK HZ3 x6 x7 f6 f7
          go_wp2
          go_ret3
          refine ⟨_, _, first, T, _, R, rfl, HE.out _ ?_ ?_ ?_⟩
          · rw [hvv.out]
            exact heap_set_at (heap_set_at HZ5.out _) _
          · exact ((Part.refl (fun k => k = w.heap.size) w5).setCell (p := ⟨w.heap.size, 4, none⟩) (fun _ => rfl) _).setCell (p := ⟨w.heap.size, 5, none⟩) (fun _ => rfl) _
          · simp
    · have hge : ¬ (k : Int) < (sectors : Int) := by omega
      have HEnd : Hid (Ends E sectors first T k) := .inl (by omega)
      have HTl : Hid (Calls Tryd.prog 67 #[.slice a0 T cs] wr fun r w3 => ∃ (v : Value) (size : Nat) (R : List (Nat × Nat)), r = .returned (.tuple #[v, .int .i64 (size : Int)]) ∧ size ≤ T ∧ T ≤ cs ∧ cs ≤ 9223372036854775807 ∧ R.length ≤ 458752 ∧ (∃ av cv, v = .slice av R.length cv) ∧ (a0 = none ∧ cs = 0 ∨ ∃ g, a0 = some ⟨g, 0, none⟩) ∧ Hid (Zl w3 w.heap.size X from_ sectors (max first 1) 0 0 (.slice none 0 0) 0) ∧
          Hid (∀ w4, Zl w4 w.heap.size X from_ sectors (max first 1) 0 0 (.slice a0 size cs) size → Part (fun k => k = w.heap.size) w3 w4 → w4.heap.size = w3.heap.size → ∀ y z : Int, y = ((k : Nat) : Int) → z = (T : Int) → Calls Tryd.prog 68 #[.pointer (some ⟨w.heap.size, 0, none⟩), .int .i64 y, .int .i64 z] w4 fun r w5 => r = .returned (.tuple #[]) ∧ Hid (Zl w5 w.heap.size X from_ sectors (max first 1) 0 0 (.slice a0 size cs) size) ∧ Hid (∀ w6, Zl w6 w.heap.size X from_ sectors (max first 1) (max first 1 + R.length - 1) (max first 1 + R.length - 1) (.slice a0 size cs) size → Part (fun k => k = w.heap.size) w5 w6 → w6.heap.size = w5.heap.size → ZOpened w w6 X n from_ sectors F e w.heap.size v first T size R))) := by
        have hT9 := zTail (used := k) HS.out hp hs1 (first := first) (tot := T) (a0 := a0) (cs := cs) (we := wr) ?f9 ?o9 ?z9 ?b9 ?h9 ?i9 ?t9 ?u9
        case f9 => omega
        case o9 => rw [hE]; exact HO.out
        case z9 => exact HZ.out
        case b9 => exact HB.out
        case h9 => rw [hE]; exact ⟨k, hk, HT.out, HEnd.out⟩
        case i9 => exact HI9.out
        case t9 => omega
        case u9 => exact hk
        exact hT9
      clear HB HZ0 HT HO HZ hby hbE HEnd HI9 hlt
      obtain ⟨m1, hm1⟩ : ∃ m1, max first 1 = m1 := ⟨_, rfl⟩
      have hm2 : (1 : Int) ≤ (m1 : Int) := by omega
      have hm3 : (m1 : Int) ≤ 4611686018427387904 := by omega
      rw [hm1] at HTl
      clear hm1
      go_wp2_with fail
      refine HTl.out.mono ?_
      rintro r w3 ⟨v, size, R, rfl, q1, q2, q3, q4, ⟨av, cv, rfl⟩, hac, HZ3, HK⟩
      obtain ⟨_, _, _, _, _, _, x6, x7⟩ := zget HZ3.out
      have f6 : w3.frozen? ⟨w.heap.size, 6, none⟩ = false := cells_free HZ3.out 6
      have f7 : w3.frozen? ⟨w.heap.size, 7, none⟩ = false := cells_free HZ3.out 7
      have q5 : (0 : Int) ≤ (size : Int) := by omega
      have q6 : (size : Int) ≤ (cs : Int) := by omega
      have q7 : (R.length : Int) ≤ 458752 := by omega
      have q8 : (0 : Int) ≤ (R.length : Int) := by omega
      have hvv : Hid ((m1 : Int) + (R.length : Int) - 1 = ((m1 + R.length - 1 : Nat) : Int)) := (by omega : (m1 : Int) + (R.length : Int) - 1 = ((m1 + R.length - 1 : Nat) : Int))
      clear HTl
      have hac2 : (a0 = none ∧ cs = 0 ∧ size = 0 ∧ T = 0) ∨ ∃ g, a0 = some ⟨g, 0, none⟩ := hac.imp (fun h => ⟨h.1, h.2, by omega, by omega⟩) id
      clear hac
      rcases hac2 with ⟨rfl, rfl, rfl, hT0⟩ | ⟨ga, rfl⟩
      all_goals try (exfalso; omega)
      all_goals
        go_wp2_with fail
        refine (HK.out _ (by exact heap_set_at (heap_set_at HZ3.out _) _) (((Part.refl (fun k => k = w.heap.size) w3).setCell (p := ⟨w.heap.size, 6, none⟩) (fun _ => rfl) _).setCell (p := ⟨w.heap.size, 7, none⟩) (fun _ => rfl) _) (by simp) _ _ (by first | rfl | omega) (by first | rfl | omega)).mono ?_
        rintro r w5 ⟨rfl, HZ5, HE⟩
        obtain ⟨_, _, _, y3, y4, y5, _, _⟩ := zget HZ5.out
        have f4 : w5.frozen? ⟨w.heap.size, 4, none⟩ = false := cells_free HZ5.out 4
        have f5 : w5.frozen? ⟨w.heap.size, 5, none⟩ = false := cells_free HZ5.out 5
        clear HK HZ3 x6 x7 f6 f7
        go_wp2
        go_ret3
        refine ⟨_, _, first, T, _, R, rfl, HE.out _ ?_ ?_ ?_⟩
        · rw [hvv.out]
          exact heap_set_at (heap_set_at HZ5.out _) _
        · exact ((Part.refl (fun k => k = w.heap.size) w5).setCell (p := ⟨w.heap.size, 4, none⟩) (fun _ => rfl) _).setCell (p := ⟨w.heap.size, 5, none⟩) (fun _ => rfl) _
        · simp
end Go.Proofs.YtmjoklppibfdmaaDoor
