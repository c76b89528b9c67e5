/-
  CodeVerifies: the law's walk.
-/
import Derived.Test.YtpjgdpfpgpaenaaDoorCvK
namespace Go.Proofs.YtpjgdpfpgpaenaaDoor
open Go.RowKit
set_option linter.unusedVariables false
set_option linter.unusedSimpArgs false

set_option maxRecDepth 100000 in
set_option maxHeartbeats 8000000 in
theorem law_verifies {c : Cd} {v : Value} {w : World} (h : CAt w c v) (hf : c.fit) (ht : Bare w) (hT : Tab w) : Calls Tryd.prog 3 #[v] w fun e w' => e = .returned (.bool true) ∧ Hid (Below w.heap.size w w') := by
  obtain ⟨ai, ci, ad, cd, an, cn, X, rfl, h1, h2, h3, h4, h5, h6, h7⟩ := id h
  obtain ⟨val, hval⟩ : ∃ val, Value.agg #[.slice ai c.ni ci, .slice ad c.D.length cd, .slice an c.ns cn] = val := ⟨_, rfl⟩
  obtain ⟨W0, hW⟩ : ∃ W0, w.alloc (.cells #[.slice ai c.ni ci, .slice ad c.D.length cd, .slice an c.ns cn] 26) = W0 := ⟨_, rfl⟩
  obtain ⟨B, hB⟩ : ∃ B, w.heap.size = B := ⟨_, rfl⟩
  have hb0 : Below w.heap.size w W0 := by rw [← hW]; exact blw_al (Below.refl _ _) _
  have hs : W0.heap[B]? = some (.cells #[.slice ai c.ni ci, .slice ad c.D.length cd, .slice an c.ns cn] 26 (0, 0)) := by rw [← hW]; exact heap_alloc_at _ _ _ hB.symm
  have k0 : Hid (Below W0.heap.size W0 W0) := hid (Below.refl _ _)
  have HX : Hid (∀ V, Hid (Below W0.heap.size W0 V) → V.cell? ⟨B, 0, none⟩ = some (.slice ai c.ni ci) ∧ V.cell? ⟨B, 1, none⟩ = some (.slice ad c.D.length cd) ∧ V.cell? ⟨B, 2, none⟩ = some (.slice an c.ns cn)) := hid fun V hV => by
    have e := (hV.out.block B (Array.getElem?_eq_some_iff.1 hs).1).trans hs
    exact ⟨by rw [cells_at e]; rfl, by rw [cells_at e]; rfl, by rw [cells_at e]; rfl⟩
  have HK : Hid (∀ V, Hid (Below W0.heap.size W0 V) → Hid (Below w.heap.size w V)) := hid fun V hV => hid (hb0.trans (hV.out.mono hb0.size))
  have HE1 : Hid (∀ V, Hid (Below W0.heap.size W0 V) → Calls Tryd.prog 4 #[.agg #[.slice ai c.ni ci, .slice ad c.D.length cd, .slice an c.ns cn]] V fun e w' => Hid (Enc e w' c) ∧ Hid (Below W0.heap.size W0 w')) := hid fun V hV => by
    have hb := (HK.out V hV).out
    refine (c_encode (h.below hb) hf (ht.below hb)).mono ?_
    rintro e w' ⟨q1, q2⟩
    exact ⟨q1, hid (hV.out.trans (q2.out.mono hV.out.size))⟩
  have HE2 : Hid (∀ V, Hid (Below W0.heap.size W0 V) → Calls Tryd.prog 5 #[.agg #[.slice ai c.ni ci, .slice ad c.D.length cd, .slice an c.ns cn]] V fun e w' => Hid (Enc e w' c) ∧ Hid (Below V.heap.size V w') ∧ Hid (Below W0.heap.size W0 w')) := hid fun V hV => by
    have hb := (HK.out V hV).out
    refine (x_encode (h.below hb) hf).mono ?_
    rintro e w' ⟨q1, q2⟩
    exact ⟨q1, q2, hid (hV.out.trans (q2.out.mono hV.out.size))⟩
  have Hf := hid hf
  have HV1 : Hid (∀ V, Hid (Below W0.heap.size W0 V) → Calls Tryd.prog 6 #[.agg #[.slice ai c.ni ci, .slice ad c.D.length cd, .slice an c.ns cn]] V fun e w' => Vfy e c.ok ∧ Hid (Below V.heap.size V w')) := hid fun V hV => by
    have hb := (HK.out V hV).out
    refine (c_verify (h.below hb) hf (ht.below hb)).mono ?_
    rintro e w' ⟨q1, q2⟩
    exact ⟨q1, q2⟩
  have HV2 : Hid (∀ V, Hid (Below W0.heap.size W0 V) → Calls Tryd.prog 7 #[.agg #[.slice ai c.ni ci, .slice ad c.D.length cd, .slice an c.ns cn]] V fun e w' => Vfy e c.ok ∧ Hid (Below V.heap.size V w')) := hid fun V hV => by
    have hb := (HK.out V hV).out
    refine (x_verify (h.below hb) hf).mono ?_
    rintro e w' ⟨q1, q2⟩
    exact ⟨q1, q2⟩
  have HH1 : Hid (∀ V, Hid (Below W0.heap.size W0 V) → Calls Tryd.prog 9 #[.agg #[.slice ai c.ni ci, .slice ad c.D.length cd, .slice an c.ns cn]] V fun e w' => Hsh e c ∧ Hid (Below V.heap.size V w')) := hid fun V hV => by
    have hb := (HK.out V hV).out
    refine (c_hash (h.below hb) hf (ht.below hb) (hT.below hb)).mono ?_
    rintro e w' ⟨q1, q2⟩
    exact ⟨q1, q2⟩
  have HH2 : Hid (∀ V, Hid (Below W0.heap.size W0 V) → Calls Tryd.prog 10 #[.agg #[.slice ai c.ni ci, .slice ad c.D.length cd, .slice an c.ns cn]] V fun e w' => Hsh e c ∧ Hid (Below V.heap.size V w')) := hid fun V hV => by
    have hb := (HK.out V hV).out
    refine (x_hash (h.below hb) hf).mono ?_
    rintro e w' ⟨q1, q2⟩
    exact ⟨q1, q2⟩
  obtain ⟨c0, c1, c2⟩ := HX.out W0 k0
  clear h h1 h2 h3 h4 h5 h6 h7 hf ht hT hs hb0 hval
  go_enter Tryd.func3, Tryd.ntmps3
  go_wp2_with fail
  refine (HE1.out _ k0).mono ?_
  clear HE1 c0 c1 c2
  rintro e w1 ⟨hE1, k1⟩
  obtain ⟨c0, c1, c2⟩ := HX.out w1 k1
  have H2 := hid (HE2.out w1 k1)
  clear HE2
  rcases hE1.out with ⟨hok, rfl⟩ | ⟨hok, a, k, rfl, hF⟩
  · have Hok := hid hok
    clear hok hE1
    go_wp2_with fail
    refine H2.out.mono ?_
    clear H2 c0 c1 c2
    rintro e w2 ⟨hE2, -, k2⟩
    rcases hE2.out with ⟨-, rfl⟩ | ⟨hok, _⟩
    · obtain ⟨c0, c1, c2⟩ := HX.out w2 k2
      clear hE2 k1
      have Q1 : Hid (∀ V, Hid (Below w2.heap.size w2 V) → Calls Tryd.prog 6 #[.agg #[.slice ai c.ni ci, .slice ad c.D.length cd, .slice an c.ns cn]] V fun e w' => e = .returned (.int .i64 130) ∧ Hid (Below w2.heap.size w2 w')) := hid fun V hV => by
        refine (HV1.out V (hid (k2.out.trans (hV.out.mono k2.out.size)))).mono ?_
        rintro e w' ⟨q1, q2⟩
        refine ⟨?_, hid (hV.out.trans (q2.out.mono hV.out.size))⟩
        rcases q1 with ⟨q, h⟩ | ⟨q, h⟩
        · exact absurd q Hok.out
        · exact h
      have Q2 : Hid (∀ V, Hid (Below w2.heap.size w2 V) → Calls Tryd.prog 7 #[.agg #[.slice ai c.ni ci, .slice ad c.D.length cd, .slice an c.ns cn]] V fun e w' => e = .returned (.int .i64 130) ∧ Hid (Below w2.heap.size w2 w')) := hid fun V hV => by
        refine (HV2.out V (hid (k2.out.trans (hV.out.mono k2.out.size)))).mono ?_
        rintro e w' ⟨q1, q2⟩
        refine ⟨?_, hid (hV.out.trans (q2.out.mono hV.out.size))⟩
        rcases q1 with ⟨q, h⟩ | ⟨q, h⟩
        · exact absurd q Hok.out
        · exact h
      have Q3 : Hid (∀ V, Hid (Below w2.heap.size w2 V) → Calls Tryd.prog 9 #[.agg #[.slice ai c.ni ci, .slice ad c.D.length cd, .slice an c.ns cn]] V fun e w' => e = .returned (.int .u32 0) ∧ Hid (Below w2.heap.size w2 w')) := hid fun V hV => by
        refine (HH1.out V (hid (k2.out.trans (hV.out.mono k2.out.size)))).mono ?_
        rintro e w' ⟨q1, q2⟩
        refine ⟨?_, hid (hV.out.trans (q2.out.mono hV.out.size))⟩
        rcases q1 with ⟨q, h⟩ | ⟨q, h⟩
        · exact h
        · exact absurd q Hok.out
      have Q4 : Hid (∀ V, Hid (Below w2.heap.size w2 V) → Calls Tryd.prog 10 #[.agg #[.slice ai c.ni ci, .slice ad c.D.length cd, .slice an c.ns cn]] V fun e w' => e = .returned (.int .u32 0) ∧ Hid (Below w2.heap.size w2 w')) := hid fun V hV => by
        refine (HH2.out V (hid (k2.out.trans (hV.out.mono k2.out.size)))).mono ?_
        rintro e w' ⟨q1, q2⟩
        refine ⟨?_, hid (hV.out.trans (q2.out.mono hV.out.size))⟩
        rcases q1 with ⟨q, h⟩ | ⟨q, h⟩
        · exact h
        · exact absurd q Hok.out
      have HX2 : Hid (∀ V, Hid (Below w2.heap.size w2 V) → V.cell? ⟨B, 0, none⟩ = some (.slice ai c.ni ci) ∧ V.cell? ⟨B, 1, none⟩ = some (.slice ad c.D.length cd) ∧ V.cell? ⟨B, 2, none⟩ = some (.slice an c.ns cn)) := hid fun V hV => HX.out V (hid (k2.out.trans (hV.out.mono k2.out.size)))
      have kk : Hid (Below w2.heap.size w2 w2) := hid (Below.refl _ _)
      have QE : Hid (∀ V, Hid (Below w2.heap.size w2 V) → Calls Tryd.prog 8 #[.slice none 0 0, .slice none 0 0] V fun e w' => e = .returned (.bool true) ∧ Hid (Below w2.heap.size w2 w')) := hid fun V hV => by
        obtain QQ := equal_yes none none 0 0 0 0 (fun _ => 0) (fun _ => 0) V (.inl ⟨rfl, rfl⟩) (.inl ⟨rfl, rfl⟩) (hid rfl)
        refine QQ.mono ?_
        rintro e w' ⟨h1, h2⟩
        subst h2
        exact ⟨h1, hV⟩
      clear HV1 HV2 HH1 HH2 HX c0 c1 c2
      go_wp2_with fail
      refine wp_region_held_drew (S := (fun wq => wq.cell? ⟨B, 0, none⟩ = some (.slice ai c.ni ci) ∧ wq.cell? ⟨B, 1, none⟩ = some (.slice ad c.D.length cd) ∧ wq.cell? ⟨B, 2, none⟩ = some (.slice an c.ns cn))) (by kernel_rfl) (HX2.out _ (bdw kk)) (fun hHeld => ?_)
      refine wpAnyH_take (i := 0) (oi := ({ dst := some 17, op := Op.load 26 (Operand.tmp 1), type := 26, pos := "law.go:35", after := #[], guard := none } : Oper)) (v := ?_) rfl (by kernel_rfl) (by kernel_rfl) (by kernel_rfl) (fun _ _ _ h => h) (Or.inl ⟨by rfl, ?_⟩) (by assumption) ?_
      rotate_left 1
      · (intro w hSw; (try dsimp only at hSw); go_simp) <;> (first | done | with_reducible rfl)
      (try simp only [Act.put, List.setIfInBounds_toArray, List.set_cons_zero, List.set_cons_succ])
      refine wpAnyH_take (i := 2) (oi := ({ dst := some 19, op := Op.load 26 (Operand.tmp 1), type := 26, pos := "law.go:35", after := #[], guard := none } : Oper)) (v := ?_) rfl (by kernel_rfl) (by kernel_rfl) (by kernel_rfl) (fun _ _ _ h => h) (Or.inl ⟨by rfl, ?_⟩) (by assumption) ?_
      rotate_left 1
      · (intro w hSw; (try dsimp only at hSw); go_simp) <;> (first | done | with_reducible rfl)
      (try simp only [Act.put, List.setIfInBounds_toArray, List.set_cons_zero, List.set_cons_succ])
      refine wpAnyH_ready (rs := [1]) (by kernel_rfl) (by simp) ?_
      refine AllReadyH.cons (o := ({ dst := some 18, op := Op.call { callee := Callee.value (Operand.func 6), args := #[Operand.tmp 17], argTypes := #[26] }, type := 28, pos := "law.go:35", after := #[{ on := 0, ground := Ground.data }], guard := none } : Oper)) rfl (fun K hK => ?_) AllReadyH.nil
      go_simp
      go_wp2_with (go_at_call 6; with_reducible refine (Q1.out _ (bdw kk)).mono ?_; rintro e w3 ⟨rfl, k3⟩)
      refine hK.out _ _ (HX2.out _ k3) (fun hHeld => ?_)
      clear hK K
      (try simp only [Act.put, List.setIfInBounds_toArray, List.set_cons_zero, List.set_cons_succ])
      refine wpAnyH_ready (rs := [3]) (by kernel_rfl) (by simp) ?_
      refine AllReadyH.cons (o := ({ dst := some 20, op := Op.call { callee := Callee.value (Operand.func 7), args := #[Operand.tmp 19], argTypes := #[26] }, type := 28, pos := "law.go:35", after := #[{ on := 2, ground := Ground.data }, { on := 1, ground := Ground.chain }], guard := none } : Oper)) rfl (fun K hK => ?_) AllReadyH.nil
      go_simp
      go_wp2_with (go_at_call 7; with_reducible refine (Q2.out _ k3).mono ?_; rintro e w4 ⟨rfl, k4⟩)
      refine hK.out _ _ (HX2.out _ k4) (fun hHeld => ?_)
      clear hK K
      (try simp only [Act.put, List.setIfInBounds_toArray, List.set_cons_zero, List.set_cons_succ])
      refine wpAnyH_take (i := 4) (oi := ({ dst := some 21, op := Op.binOp BinOp.eql 28 (Operand.tmp 18) (Operand.tmp 20) 28, type := 4, pos := "law.go:35", after := #[{ on := 1, ground := Ground.data }, { on := 3, ground := Ground.data }], guard := none } : Oper)) (v := ?_) rfl (by kernel_rfl) (by kernel_rfl) (by kernel_rfl) (fun _ _ _ h => h) (Or.inl ⟨by rfl, ?_⟩) (by assumption) ?_
      rotate_left 1
      · (intro w hSw; (try dsimp only at hSw); go_simp) <;> (first | done | with_reducible rfl)
      (try simp only [Act.put, List.setIfInBounds_toArray, List.set_cons_zero, List.set_cons_succ])
      refine wpAnyH_take (i := 5) (oi := ({ dst := some 22, op := Op.move (Operand.tmp 21), type := 4, pos := "law.go:35", after := #[{ on := 4, ground := Ground.data }, { on := 3, ground := Ground.chain }], guard := none } : Oper)) (v := ?_) rfl (by kernel_rfl) (by kernel_rfl) (by kernel_rfl) (fun _ _ _ h => h) (Or.inl ⟨by rfl, ?_⟩) (by assumption) ?_
      rotate_left 1
      · (intro w hSw; (try dsimp only at hSw); go_simp) <;> (first | done | with_reducible rfl)
      (try simp only [Act.put, List.setIfInBounds_toArray, List.set_cons_zero, List.set_cons_succ])
      refine wpAnyH_take (i := 6) (oi := ({ dst := some 23, op := Op.move (Operand.tmp 4), type := 28, pos := "law.go:35", after := #[{ on := 5, ground := Ground.guard }], guard := some (5, true) } : Oper)) (v := ?_) rfl (by kernel_rfl) (by kernel_rfl) (by kernel_rfl) (fun _ _ _ h => h) (Or.inl ⟨by rfl, ?_⟩) (by assumption) ?_
      rotate_left 1
      · (intro w hSw; (try dsimp only at hSw); go_simp) <;> (first | done | with_reducible rfl)
      (try simp only [Act.put, List.setIfInBounds_toArray, List.set_cons_zero, List.set_cons_succ])
      refine wpAnyH_take (i := 7) (oi := ({ dst := some 24, op := Op.move (Operand.tmp 6), type := 28, pos := "law.go:35", after := #[{ on := 5, ground := Ground.guard }], guard := some (5, true) } : Oper)) (v := ?_) rfl (by kernel_rfl) (by kernel_rfl) (by kernel_rfl) (fun _ _ _ h => h) (Or.inl ⟨by rfl, ?_⟩) (by assumption) ?_
      rotate_left 1
      · (intro w hSw; (try dsimp only at hSw); go_simp) <;> (first | done | with_reducible rfl)
      (try simp only [Act.put, List.setIfInBounds_toArray, List.set_cons_zero, List.set_cons_succ])
      refine wpAnyH_take (i := 8) (oi := ({ dst := some 25, op := Op.binOp BinOp.eql 28 (Operand.tmp 23) (Operand.tmp 24) 28, type := 4, pos := "law.go:35", after := #[{ on := 6, ground := Ground.data }, { on := 7, ground := Ground.data }, { on := 5, ground := Ground.guard }], guard := some (5, true) } : Oper)) (v := ?_) rfl (by kernel_rfl) (by kernel_rfl) (by kernel_rfl) (fun _ _ _ h => h) (Or.inl ⟨by rfl, ?_⟩) (by assumption) ?_
      rotate_left 1
      · (intro w hSw; (try dsimp only at hSw); go_simp) <;> (first | done | with_reducible rfl)
      (try simp only [Act.put, List.setIfInBounds_toArray, List.set_cons_zero, List.set_cons_succ])
      refine wpAnyH_take (i := 9) (oi := ({ dst := some 26, op := Op.pick (Operand.tmp 22) (Operand.tmp 25) (Operand.const (Value.bool false)), type := 4, pos := "law.go:35", after := #[{ on := 5, ground := Ground.data }, { on := 8, ground := Ground.data }], guard := none } : Oper)) (v := ?_) rfl (by kernel_rfl) (by kernel_rfl) (by kernel_rfl) (fun _ _ _ h => h) (Or.inl ⟨by rfl, ?_⟩) (by assumption) ?_
      rotate_left 1
      · (intro w hSw; (try dsimp only at hSw); go_simp) <;> (first | done | with_reducible rfl)
      (try simp only [Act.put, List.setIfInBounds_toArray, List.set_cons_zero, List.set_cons_succ])
      refine wpAnyH_take (i := 10) (oi := ({ dst := some 27, op := Op.move (Operand.tmp 26), type := 4, pos := "law.go:35", after := #[{ on := 9, ground := Ground.data }, { on := 5, ground := Ground.chain }], guard := none } : Oper)) (v := ?_) rfl (by kernel_rfl) (by kernel_rfl) (by kernel_rfl) (fun _ _ _ h => h) (Or.inl ⟨by rfl, ?_⟩) (by assumption) ?_
      rotate_left 1
      · (intro w hSw; (try dsimp only at hSw); go_simp) <;> (first | done | with_reducible rfl)
      (try simp only [Act.put, List.setIfInBounds_toArray, List.set_cons_zero, List.set_cons_succ])
      refine wpAnyH_take (i := 11) (oi := ({ dst := some 28, op := Op.move (Operand.tmp 3), type := 27, pos := "law.go:35", after := #[{ on := 10, ground := Ground.guard }], guard := some (10, true) } : Oper)) (v := ?_) rfl (by kernel_rfl) (by kernel_rfl) (by kernel_rfl) (fun _ _ _ h => h) (Or.inl ⟨by rfl, ?_⟩) (by assumption) ?_
      rotate_left 1
      · (intro w hSw; (try dsimp only at hSw); go_simp) <;> (first | done | with_reducible rfl)
      (try simp only [Act.put, List.setIfInBounds_toArray, List.set_cons_zero, List.set_cons_succ])
      refine wpAnyH_take (i := 12) (oi := ({ dst := some 29, op := Op.move (Operand.tmp 5), type := 27, pos := "law.go:35", after := #[{ on := 10, ground := Ground.guard }], guard := some (10, true) } : Oper)) (v := ?_) rfl (by kernel_rfl) (by kernel_rfl) (by kernel_rfl) (fun _ _ _ h => h) (Or.inl ⟨by rfl, ?_⟩) (by assumption) ?_
      rotate_left 1
      · (intro w hSw; (try dsimp only at hSw); go_simp) <;> (first | done | with_reducible rfl)
      (try simp only [Act.put, List.setIfInBounds_toArray, List.set_cons_zero, List.set_cons_succ])
      refine wpAnyH_ready (rs := [13]) (by kernel_rfl) (by simp) ?_
      refine AllReadyH.cons (o := ({ dst := some 30, op := Op.call { callee := Callee.value (Operand.func 8), args := #[Operand.tmp 28, Operand.tmp 29], argTypes := #[27, 27] }, type := 4, pos := "law.go:35", after := #[{ on := 11, ground := Ground.data }, { on := 12, ground := Ground.data }, { on := 10, ground := Ground.chain }, { on := 10, ground := Ground.guard }], guard := some (10, true) } : Oper)) rfl (fun K hK => ?_) AllReadyH.nil
      go_simp
      go_wp2_with (go_at_call 8; with_reducible refine (QE.out _ k4).mono ?_; rintro e w5 ⟨rfl, k5⟩)
      refine hK.out _ _ (HX2.out _ k5) (fun hHeld => ?_)
      clear hK K
      (try simp only [Act.put, List.setIfInBounds_toArray, List.set_cons_zero, List.set_cons_succ])
      refine wpAnyH_take (i := 14) (oi := ({ dst := some 31, op := Op.pick (Operand.tmp 27) (Operand.tmp 30) (Operand.const (Value.bool false)), type := 4, pos := "law.go:35", after := #[{ on := 10, ground := Ground.data }, { on := 13, ground := Ground.data }], guard := none } : Oper)) (v := ?_) rfl (by kernel_rfl) (by kernel_rfl) (by kernel_rfl) (fun _ _ _ h => h) (Or.inl ⟨by rfl, ?_⟩) (by assumption) ?_
      rotate_left 1
      · (intro w hSw; (try dsimp only at hSw); go_simp) <;> (first | done | with_reducible rfl)
      (try simp only [Act.put, List.setIfInBounds_toArray, List.set_cons_zero, List.set_cons_succ])
      refine wpAnyH_take (i := 15) (oi := ({ dst := some 32, op := Op.move (Operand.tmp 31), type := 4, pos := "law.go:35", after := #[{ on := 14, ground := Ground.data }, { on := 13, ground := Ground.chain }], guard := none } : Oper)) (v := ?_) rfl (by kernel_rfl) (by kernel_rfl) (by kernel_rfl) (fun _ _ _ h => h) (Or.inl ⟨by rfl, ?_⟩) (by assumption) ?_
      rotate_left 1
      · (intro w hSw; (try dsimp only at hSw); go_simp) <;> (first | done | with_reducible rfl)
      (try simp only [Act.put, List.setIfInBounds_toArray, List.set_cons_zero, List.set_cons_succ])
      refine wpAnyH_take (i := 16) (oi := ({ dst := some 33, op := Op.load 26 (Operand.tmp 1), type := 26, pos := "law.go:35", after := #[{ on := 15, ground := Ground.guard }], guard := some (15, true) } : Oper)) (v := ?_) rfl (by kernel_rfl) (by kernel_rfl) (by kernel_rfl) (fun _ _ _ h => h) (Or.inl ⟨by rfl, ?_⟩) (by assumption) ?_
      rotate_left 1
      · (intro w hSw; (try dsimp only at hSw); go_simp) <;> (first | done | with_reducible rfl)
      (try simp only [Act.put, List.setIfInBounds_toArray, List.set_cons_zero, List.set_cons_succ])
      refine wpAnyH_take (i := 18) (oi := ({ dst := some 35, op := Op.load 26 (Operand.tmp 1), type := 26, pos := "law.go:35", after := #[{ on := 15, ground := Ground.guard }], guard := some (15, true) } : Oper)) (v := ?_) rfl (by kernel_rfl) (by kernel_rfl) (by kernel_rfl) (fun _ _ _ h => h) (Or.inl ⟨by rfl, ?_⟩) (by assumption) ?_
      rotate_left 1
      · (intro w hSw; (try dsimp only at hSw); go_simp) <;> (first | done | with_reducible rfl)
      (try simp only [Act.put, List.setIfInBounds_toArray, List.set_cons_zero, List.set_cons_succ])
      refine wpAnyH_ready (rs := [17]) (by kernel_rfl) (by simp) ?_
      refine AllReadyH.cons (o := ({ dst := some 34, op := Op.call { callee := Callee.value (Operand.func 9), args := #[Operand.tmp 33], argTypes := #[26] }, type := 33, pos := "law.go:35", after := #[{ on := 16, ground := Ground.data }, { on := 15, ground := Ground.chain }, { on := 15, ground := Ground.guard }], guard := some (15, true) } : Oper)) rfl (fun K hK => ?_) AllReadyH.nil
      go_simp
      go_wp2_with (go_at_call 9; with_reducible refine (Q3.out _ k5).mono ?_; rintro e w6 ⟨rfl, k6⟩)
      refine hK.out _ _ (HX2.out _ k6) (fun hHeld => ?_)
      clear hK K
      (try simp only [Act.put, List.setIfInBounds_toArray, List.set_cons_zero, List.set_cons_succ])
      refine wpAnyH_ready (rs := [19]) (by kernel_rfl) (by simp) ?_
      refine AllReadyH.cons (o := ({ dst := some 36, op := Op.call { callee := Callee.value (Operand.func 10), args := #[Operand.tmp 35], argTypes := #[26] }, type := 33, pos := "law.go:35", after := #[{ on := 18, ground := Ground.data }, { on := 17, ground := Ground.chain }, { on := 15, ground := Ground.guard }], guard := some (15, true) } : Oper)) rfl (fun K hK => ?_) AllReadyH.nil
      go_simp
      go_wp2_with (go_at_call 10; with_reducible refine (Q4.out _ k6).mono ?_; rintro e w7 ⟨rfl, k7⟩)
      refine hK.out _ _ (HX2.out _ k7) (fun hHeld => ?_)
      clear hK K
      (try simp only [Act.put, List.setIfInBounds_toArray, List.set_cons_zero, List.set_cons_succ])
      refine wpAnyH_take (i := 20) (oi := ({ dst := some 37, op := Op.binOp BinOp.eql 33 (Operand.tmp 34) (Operand.tmp 36) 33, type := 4, pos := "law.go:35", after := #[{ on := 17, ground := Ground.data }, { on := 19, ground := Ground.data }, { on := 15, ground := Ground.guard }], guard := some (15, true) } : Oper)) (v := ?_) rfl (by kernel_rfl) (by kernel_rfl) (by kernel_rfl) (fun _ _ _ h => h) (Or.inl ⟨by rfl, ?_⟩) (by assumption) ?_
      rotate_left 1
      · (intro w hSw; (try dsimp only at hSw); go_simp) <;> (first | done | with_reducible rfl)
      (try simp only [Act.put, List.setIfInBounds_toArray, List.set_cons_zero, List.set_cons_succ])
      refine wpAnyH_take (i := 21) (oi := ({ dst := some 38, op := Op.pick (Operand.tmp 32) (Operand.tmp 37) (Operand.const (Value.bool false)), type := 4, pos := "law.go:35", after := #[{ on := 15, ground := Ground.data }, { on := 20, ground := Ground.data }], guard := none } : Oper)) (v := ?_) rfl (by kernel_rfl) (by kernel_rfl) (by kernel_rfl) (fun _ _ _ h => h) (Or.inl ⟨by rfl, ?_⟩) (by assumption) ?_
      rotate_left 1
      · (intro w hSw; (try dsimp only at hSw); go_simp) <;> (first | done | with_reducible rfl)
      (try simp only [Act.put, List.setIfInBounds_toArray, List.set_cons_zero, List.set_cons_succ])
      refine wpAnyH_take (i := 22) (oi := ({ dst := some 2, op := Op.assign (Operand.tmp 38), type := 4, pos := "law.go:35", after := #[{ on := 21, ground := Ground.data }, { on := 19, ground := Ground.chain }, { on := 0, ground := Ground.phase }, { on := 1, ground := Ground.phase }, { on := 2, ground := Ground.phase }, { on := 3, ground := Ground.phase }, { on := 4, ground := Ground.phase }, { on := 5, ground := Ground.phase }, { on := 6, ground := Ground.phase }, { on := 7, ground := Ground.phase }, { on := 8, ground := Ground.phase }, { on := 9, ground := Ground.phase }, { on := 10, ground := Ground.phase }, { on := 11, ground := Ground.phase }, { on := 12, ground := Ground.phase }, { on := 13, ground := Ground.phase }, { on := 14, ground := Ground.phase }, { on := 15, ground := Ground.phase }, { on := 16, ground := Ground.phase }, { on := 17, ground := Ground.phase }, { on := 18, ground := Ground.phase }, { on := 19, ground := Ground.phase }, { on := 20, ground := Ground.phase }, { on := 21, ground := Ground.phase }], guard := none } : Oper)) (v := ?_) rfl (by kernel_rfl) (by kernel_rfl) (by kernel_rfl) (fun _ _ _ h => h) (Or.inl ⟨by rfl, ?_⟩) (by assumption) ?_
      rotate_left 1
      · (intro w hSw; (try dsimp only at hSw); go_simp) <;> (first | done | with_reducible rfl)
      (try simp only [Act.put, List.setIfInBounds_toArray, List.set_cons_zero, List.set_cons_succ])
      refine wpAnyH_done (by kernel_rfl) ?_ _
      go_wp2
      go_ret
      exact ⟨rfl, HK.out _ (hid (k2.out.trans (k7.out.mono k2.out.size)))⟩
    · exact absurd hok Hok.out
  · have Hok := hid hok
    have HF := hid hF
    clear hok hE1 hF
    go_wp2_with fail
    refine H2.out.mono ?_
    clear H2 c0 c1 c2
    rintro e w2 ⟨hE2, kb, k2⟩
    rcases hE2.out with ⟨hok, _⟩ | ⟨-, a2, m2, rfl, hF2⟩
    · exact absurd Hok.out hok
    · obtain ⟨c0, c1, c2⟩ := HX.out w2 k2
      have HF1 : Hid (From w2 a c.enc.length (fn c.enc)) := hid (HF.out.below kb.out (Nat.le_refl _))
      have HF2 := hid hF2
      clear hE2 k1 kb HF hF2
      obtain ⟨Kz, hKz⟩ : ∃ Kz, ((Crc.sum (lstN (fn c.enc) c.enc.length) : Nat) : Int) = Kz := ⟨_, rfl⟩
      have Q1 : Hid (∀ V, Hid (Below w2.heap.size w2 V) → Calls Tryd.prog 6 #[.agg #[.slice ai c.ni ci, .slice ad c.D.length cd, .slice an c.ns cn]] V fun e w' => e = .returned (.int .i64 0) ∧ Hid (Below w2.heap.size w2 w')) := hid fun V hV => by
        refine (HV1.out V (hid (k2.out.trans (hV.out.mono k2.out.size)))).mono ?_
        rintro e w' ⟨q1, q2⟩
        refine ⟨?_, hid (hV.out.trans (q2.out.mono hV.out.size))⟩
        rcases q1 with ⟨q, h⟩ | ⟨q, h⟩
        · exact h
        · exact absurd Hok.out q
      have Q2 : Hid (∀ V, Hid (Below w2.heap.size w2 V) → Calls Tryd.prog 7 #[.agg #[.slice ai c.ni ci, .slice ad c.D.length cd, .slice an c.ns cn]] V fun e w' => e = .returned (.int .i64 0) ∧ Hid (Below w2.heap.size w2 w')) := hid fun V hV => by
        refine (HV2.out V (hid (k2.out.trans (hV.out.mono k2.out.size)))).mono ?_
        rintro e w' ⟨q1, q2⟩
        refine ⟨?_, hid (hV.out.trans (q2.out.mono hV.out.size))⟩
        rcases q1 with ⟨q, h⟩ | ⟨q, h⟩
        · exact h
        · exact absurd Hok.out q
      have Q3 : Hid (∀ V, Hid (Below w2.heap.size w2 V) → Calls Tryd.prog 9 #[.agg #[.slice ai c.ni ci, .slice ad c.D.length cd, .slice an c.ns cn]] V fun e w' => e = .returned (.int .u32 Kz) ∧ Hid (Below w2.heap.size w2 w')) := hid fun V hV => by
        refine (HH1.out V (hid (k2.out.trans (hV.out.mono k2.out.size)))).mono ?_
        rintro e w' ⟨q1, q2⟩
        refine ⟨?_, hid (hV.out.trans (q2.out.mono hV.out.size))⟩
        rcases q1 with ⟨q, h⟩ | ⟨q, h⟩
        · exact absurd Hok.out q
        · rw [h, hKz]
      have Q4 : Hid (∀ V, Hid (Below w2.heap.size w2 V) → Calls Tryd.prog 10 #[.agg #[.slice ai c.ni ci, .slice ad c.D.length cd, .slice an c.ns cn]] V fun e w' => e = .returned (.int .u32 Kz) ∧ Hid (Below w2.heap.size w2 w')) := hid fun V hV => by
        refine (HH2.out V (hid (k2.out.trans (hV.out.mono k2.out.size)))).mono ?_
        rintro e w' ⟨q1, q2⟩
        refine ⟨?_, hid (hV.out.trans (q2.out.mono hV.out.size))⟩
        rcases q1 with ⟨q, h⟩ | ⟨q, h⟩
        · exact absurd Hok.out q
        · rw [h, hKz]
      have HX2 : Hid (∀ V, Hid (Below w2.heap.size w2 V) → V.cell? ⟨B, 0, none⟩ = some (.slice ai c.ni ci) ∧ V.cell? ⟨B, 1, none⟩ = some (.slice ad c.D.length cd) ∧ V.cell? ⟨B, 2, none⟩ = some (.slice an c.ns cn)) := hid fun V hV => HX.out V (hid (k2.out.trans (hV.out.mono k2.out.size)))
      have kk : Hid (Below w2.heap.size w2 w2) := hid (Below.refl _ _)
      have QE : Hid (∀ V, Hid (Below w2.heap.size w2 V) → Calls Tryd.prog 8 #[.slice a c.enc.length k, .slice a2 c.enc.length m2] V fun e w' => e = .returned (.bool true) ∧ Hid (Below w2.heap.size w2 w')) := hid fun V hV => by
        obtain QQ := equal_yes a a2 c.enc.length k c.enc.length m2 (fn c.enc) (fn c.enc) V (HF1.out.below hV.out (Nat.le_refl _)) (HF2.out.below hV.out (Nat.le_refl _)) (hid rfl)
        refine QQ.mono ?_
        rintro e w' ⟨h1, h2⟩
        subst h2
        exact ⟨h1, hV⟩
      clear HV1 HV2 HH1 HH2 HX c0 c1 c2 HF1 HF2 hKz
      generalize c.enc.length = L at QE ⊢
      go_wp2_with fail
      refine wp_region_held_drew (S := (fun wq => wq.cell? ⟨B, 0, none⟩ = some (.slice ai c.ni ci) ∧ wq.cell? ⟨B, 1, none⟩ = some (.slice ad c.D.length cd) ∧ wq.cell? ⟨B, 2, none⟩ = some (.slice an c.ns cn))) (by kernel_rfl) (HX2.out _ (bdw kk)) (fun hHeld => ?_)
      refine wpAnyH_take (i := 0) (oi := ({ dst := some 17, op := Op.load 26 (Operand.tmp 1), type := 26, pos := "law.go:35", after := #[], guard := none } : Oper)) (v := ?_) rfl (by kernel_rfl) (by kernel_rfl) (by kernel_rfl) (fun _ _ _ h => h) (Or.inl ⟨by rfl, ?_⟩) (by assumption) ?_
      rotate_left 1
      · (intro w hSw; (try dsimp only at hSw); go_simp) <;> (first | done | with_reducible rfl)
      (try simp only [Act.put, List.setIfInBounds_toArray, List.set_cons_zero, List.set_cons_succ])
      refine wpAnyH_take (i := 2) (oi := ({ dst := some 19, op := Op.load 26 (Operand.tmp 1), type := 26, pos := "law.go:35", after := #[], guard := none } : Oper)) (v := ?_) rfl (by kernel_rfl) (by kernel_rfl) (by kernel_rfl) (fun _ _ _ h => h) (Or.inl ⟨by rfl, ?_⟩) (by assumption) ?_
      rotate_left 1
      · (intro w hSw; (try dsimp only at hSw); go_simp) <;> (first | done | with_reducible rfl)
      (try simp only [Act.put, List.setIfInBounds_toArray, List.set_cons_zero, List.set_cons_succ])
      refine wpAnyH_ready (rs := [1]) (by kernel_rfl) (by simp) ?_
      refine AllReadyH.cons (o := ({ dst := some 18, op := Op.call { callee := Callee.value (Operand.func 6), args := #[Operand.tmp 17], argTypes := #[26] }, type := 28, pos := "law.go:35", after := #[{ on := 0, ground := Ground.data }], guard := none } : Oper)) rfl (fun K hK => ?_) AllReadyH.nil
      go_simp
      go_wp2_with (go_at_call 6; with_reducible refine (Q1.out _ (bdw kk)).mono ?_; rintro e w3 ⟨rfl, k3⟩)
      refine hK.out _ _ (HX2.out _ k3) (fun hHeld => ?_)
      clear hK K
      (try simp only [Act.put, List.setIfInBounds_toArray, List.set_cons_zero, List.set_cons_succ])
      refine wpAnyH_ready (rs := [3]) (by kernel_rfl) (by simp) ?_
      refine AllReadyH.cons (o := ({ dst := some 20, op := Op.call { callee := Callee.value (Operand.func 7), args := #[Operand.tmp 19], argTypes := #[26] }, type := 28, pos := "law.go:35", after := #[{ on := 2, ground := Ground.data }, { on := 1, ground := Ground.chain }], guard := none } : Oper)) rfl (fun K hK => ?_) AllReadyH.nil
      go_simp
      go_wp2_with (go_at_call 7; with_reducible refine (Q2.out _ k3).mono ?_; rintro e w4 ⟨rfl, k4⟩)
      refine hK.out _ _ (HX2.out _ k4) (fun hHeld => ?_)
      clear hK K
      (try simp only [Act.put, List.setIfInBounds_toArray, List.set_cons_zero, List.set_cons_succ])
      refine wpAnyH_take (i := 4) (oi := ({ dst := some 21, op := Op.binOp BinOp.eql 28 (Operand.tmp 18) (Operand.tmp 20) 28, type := 4, pos := "law.go:35", after := #[{ on := 1, ground := Ground.data }, { on := 3, ground := Ground.data }], guard := none } : Oper)) (v := ?_) rfl (by kernel_rfl) (by kernel_rfl) (by kernel_rfl) (fun _ _ _ h => h) (Or.inl ⟨by rfl, ?_⟩) (by assumption) ?_
      rotate_left 1
      · (intro w hSw; (try dsimp only at hSw); go_simp) <;> (first | done | with_reducible rfl)
      (try simp only [Act.put, List.setIfInBounds_toArray, List.set_cons_zero, List.set_cons_succ])
      refine wpAnyH_take (i := 5) (oi := ({ dst := some 22, op := Op.move (Operand.tmp 21), type := 4, pos := "law.go:35", after := #[{ on := 4, ground := Ground.data }, { on := 3, ground := Ground.chain }], guard := none } : Oper)) (v := ?_) rfl (by kernel_rfl) (by kernel_rfl) (by kernel_rfl) (fun _ _ _ h => h) (Or.inl ⟨by rfl, ?_⟩) (by assumption) ?_
      rotate_left 1
      · (intro w hSw; (try dsimp only at hSw); go_simp) <;> (first | done | with_reducible rfl)
      (try simp only [Act.put, List.setIfInBounds_toArray, List.set_cons_zero, List.set_cons_succ])
      refine wpAnyH_take (i := 6) (oi := ({ dst := some 23, op := Op.move (Operand.tmp 4), type := 28, pos := "law.go:35", after := #[{ on := 5, ground := Ground.guard }], guard := some (5, true) } : Oper)) (v := ?_) rfl (by kernel_rfl) (by kernel_rfl) (by kernel_rfl) (fun _ _ _ h => h) (Or.inl ⟨by rfl, ?_⟩) (by assumption) ?_
      rotate_left 1
      · (intro w hSw; (try dsimp only at hSw); go_simp) <;> (first | done | with_reducible rfl)
      (try simp only [Act.put, List.setIfInBounds_toArray, List.set_cons_zero, List.set_cons_succ])
      refine wpAnyH_take (i := 7) (oi := ({ dst := some 24, op := Op.move (Operand.tmp 6), type := 28, pos := "law.go:35", after := #[{ on := 5, ground := Ground.guard }], guard := some (5, true) } : Oper)) (v := ?_) rfl (by kernel_rfl) (by kernel_rfl) (by kernel_rfl) (fun _ _ _ h => h) (Or.inl ⟨by rfl, ?_⟩) (by assumption) ?_
      rotate_left 1
      · (intro w hSw; (try dsimp only at hSw); go_simp) <;> (first | done | with_reducible rfl)
      (try simp only [Act.put, List.setIfInBounds_toArray, List.set_cons_zero, List.set_cons_succ])
      refine wpAnyH_take (i := 8) (oi := ({ dst := some 25, op := Op.binOp BinOp.eql 28 (Operand.tmp 23) (Operand.tmp 24) 28, type := 4, pos := "law.go:35", after := #[{ on := 6, ground := Ground.data }, { on := 7, ground := Ground.data }, { on := 5, ground := Ground.guard }], guard := some (5, true) } : Oper)) (v := ?_) rfl (by kernel_rfl) (by kernel_rfl) (by kernel_rfl) (fun _ _ _ h => h) (Or.inl ⟨by rfl, ?_⟩) (by assumption) ?_
      rotate_left 1
      · (intro w hSw; (try dsimp only at hSw); go_simp) <;> (first | done | with_reducible rfl)
      (try simp only [Act.put, List.setIfInBounds_toArray, List.set_cons_zero, List.set_cons_succ])
      refine wpAnyH_take (i := 9) (oi := ({ dst := some 26, op := Op.pick (Operand.tmp 22) (Operand.tmp 25) (Operand.const (Value.bool false)), type := 4, pos := "law.go:35", after := #[{ on := 5, ground := Ground.data }, { on := 8, ground := Ground.data }], guard := none } : Oper)) (v := ?_) rfl (by kernel_rfl) (by kernel_rfl) (by kernel_rfl) (fun _ _ _ h => h) (Or.inl ⟨by rfl, ?_⟩) (by assumption) ?_
      rotate_left 1
      · (intro w hSw; (try dsimp only at hSw); go_simp) <;> (first | done | with_reducible rfl)
      (try simp only [Act.put, List.setIfInBounds_toArray, List.set_cons_zero, List.set_cons_succ])
      refine wpAnyH_take (i := 10) (oi := ({ dst := some 27, op := Op.move (Operand.tmp 26), type := 4, pos := "law.go:35", after := #[{ on := 9, ground := Ground.data }, { on := 5, ground := Ground.chain }], guard := none } : Oper)) (v := ?_) rfl (by kernel_rfl) (by kernel_rfl) (by kernel_rfl) (fun _ _ _ h => h) (Or.inl ⟨by rfl, ?_⟩) (by assumption) ?_
      rotate_left 1
      · (intro w hSw; (try dsimp only at hSw); go_simp) <;> (first | done | with_reducible rfl)
      (try simp only [Act.put, List.setIfInBounds_toArray, List.set_cons_zero, List.set_cons_succ])
      refine wpAnyH_take (i := 11) (oi := ({ dst := some 28, op := Op.move (Operand.tmp 3), type := 27, pos := "law.go:35", after := #[{ on := 10, ground := Ground.guard }], guard := some (10, true) } : Oper)) (v := ?_) rfl (by kernel_rfl) (by kernel_rfl) (by kernel_rfl) (fun _ _ _ h => h) (Or.inl ⟨by rfl, ?_⟩) (by assumption) ?_
      rotate_left 1
      · (intro w hSw; (try dsimp only at hSw); go_simp) <;> (first | done | with_reducible rfl)
      (try simp only [Act.put, List.setIfInBounds_toArray, List.set_cons_zero, List.set_cons_succ])
      refine wpAnyH_take (i := 12) (oi := ({ dst := some 29, op := Op.move (Operand.tmp 5), type := 27, pos := "law.go:35", after := #[{ on := 10, ground := Ground.guard }], guard := some (10, true) } : Oper)) (v := ?_) rfl (by kernel_rfl) (by kernel_rfl) (by kernel_rfl) (fun _ _ _ h => h) (Or.inl ⟨by rfl, ?_⟩) (by assumption) ?_
      rotate_left 1
      · (intro w hSw; (try dsimp only at hSw); go_simp) <;> (first | done | with_reducible rfl)
      (try simp only [Act.put, List.setIfInBounds_toArray, List.set_cons_zero, List.set_cons_succ])
      refine wpAnyH_ready (rs := [13]) (by kernel_rfl) (by simp) ?_
      refine AllReadyH.cons (o := ({ dst := some 30, op := Op.call { callee := Callee.value (Operand.func 8), args := #[Operand.tmp 28, Operand.tmp 29], argTypes := #[27, 27] }, type := 4, pos := "law.go:35", after := #[{ on := 11, ground := Ground.data }, { on := 12, ground := Ground.data }, { on := 10, ground := Ground.chain }, { on := 10, ground := Ground.guard }], guard := some (10, true) } : Oper)) rfl (fun K hK => ?_) AllReadyH.nil
      go_simp
      go_wp2_with (go_at_call 8; with_reducible refine (QE.out _ k4).mono ?_; rintro e w5 ⟨rfl, k5⟩)
      refine hK.out _ _ (HX2.out _ k5) (fun hHeld => ?_)
      clear hK K
      (try simp only [Act.put, List.setIfInBounds_toArray, List.set_cons_zero, List.set_cons_succ])
      refine wpAnyH_take (i := 14) (oi := ({ dst := some 31, op := Op.pick (Operand.tmp 27) (Operand.tmp 30) (Operand.const (Value.bool false)), type := 4, pos := "law.go:35", after := #[{ on := 10, ground := Ground.data }, { on := 13, ground := Ground.data }], guard := none } : Oper)) (v := ?_) rfl (by kernel_rfl) (by kernel_rfl) (by kernel_rfl) (fun _ _ _ h => h) (Or.inl ⟨by rfl, ?_⟩) (by assumption) ?_
      rotate_left 1
      · (intro w hSw; (try dsimp only at hSw); go_simp) <;> (first | done | with_reducible rfl)
      (try simp only [Act.put, List.setIfInBounds_toArray, List.set_cons_zero, List.set_cons_succ])
      refine wpAnyH_take (i := 15) (oi := ({ dst := some 32, op := Op.move (Operand.tmp 31), type := 4, pos := "law.go:35", after := #[{ on := 14, ground := Ground.data }, { on := 13, ground := Ground.chain }], guard := none } : Oper)) (v := ?_) rfl (by kernel_rfl) (by kernel_rfl) (by kernel_rfl) (fun _ _ _ h => h) (Or.inl ⟨by rfl, ?_⟩) (by assumption) ?_
      rotate_left 1
      · (intro w hSw; (try dsimp only at hSw); go_simp) <;> (first | done | with_reducible rfl)
      (try simp only [Act.put, List.setIfInBounds_toArray, List.set_cons_zero, List.set_cons_succ])
      refine wpAnyH_take (i := 16) (oi := ({ dst := some 33, op := Op.load 26 (Operand.tmp 1), type := 26, pos := "law.go:35", after := #[{ on := 15, ground := Ground.guard }], guard := some (15, true) } : Oper)) (v := ?_) rfl (by kernel_rfl) (by kernel_rfl) (by kernel_rfl) (fun _ _ _ h => h) (Or.inl ⟨by rfl, ?_⟩) (by assumption) ?_
      rotate_left 1
      · (intro w hSw; (try dsimp only at hSw); go_simp) <;> (first | done | with_reducible rfl)
      (try simp only [Act.put, List.setIfInBounds_toArray, List.set_cons_zero, List.set_cons_succ])
      refine wpAnyH_take (i := 18) (oi := ({ dst := some 35, op := Op.load 26 (Operand.tmp 1), type := 26, pos := "law.go:35", after := #[{ on := 15, ground := Ground.guard }], guard := some (15, true) } : Oper)) (v := ?_) rfl (by kernel_rfl) (by kernel_rfl) (by kernel_rfl) (fun _ _ _ h => h) (Or.inl ⟨by rfl, ?_⟩) (by assumption) ?_
      rotate_left 1
      · (intro w hSw; (try dsimp only at hSw); go_simp) <;> (first | done | with_reducible rfl)
      (try simp only [Act.put, List.setIfInBounds_toArray, List.set_cons_zero, List.set_cons_succ])
      refine wpAnyH_ready (rs := [17]) (by kernel_rfl) (by simp) ?_
      refine AllReadyH.cons (o := ({ dst := some 34, op := Op.call { callee := Callee.value (Operand.func 9), args := #[Operand.tmp 33], argTypes := #[26] }, type := 33, pos := "law.go:35", after := #[{ on := 16, ground := Ground.data }, { on := 15, ground := Ground.chain }, { on := 15, ground := Ground.guard }], guard := some (15, true) } : Oper)) rfl (fun K hK => ?_) AllReadyH.nil
      go_simp
      go_wp2_with (go_at_call 9; with_reducible refine (Q3.out _ k5).mono ?_; rintro e w6 ⟨rfl, k6⟩)
      refine hK.out _ _ (HX2.out _ k6) (fun hHeld => ?_)
      clear hK K
      (try simp only [Act.put, List.setIfInBounds_toArray, List.set_cons_zero, List.set_cons_succ])
      refine wpAnyH_ready (rs := [19]) (by kernel_rfl) (by simp) ?_
      refine AllReadyH.cons (o := ({ dst := some 36, op := Op.call { callee := Callee.value (Operand.func 10), args := #[Operand.tmp 35], argTypes := #[26] }, type := 33, pos := "law.go:35", after := #[{ on := 18, ground := Ground.data }, { on := 17, ground := Ground.chain }, { on := 15, ground := Ground.guard }], guard := some (15, true) } : Oper)) rfl (fun K hK => ?_) AllReadyH.nil
      go_simp
      go_wp2_with (go_at_call 10; with_reducible refine (Q4.out _ k6).mono ?_; rintro e w7 ⟨rfl, k7⟩)
      refine hK.out _ _ (HX2.out _ k7) (fun hHeld => ?_)
      clear hK K
      (try simp only [Act.put, List.setIfInBounds_toArray, List.set_cons_zero, List.set_cons_succ])
      refine wpAnyH_take (i := 20) (oi := ({ dst := some 37, op := Op.binOp BinOp.eql 33 (Operand.tmp 34) (Operand.tmp 36) 33, type := 4, pos := "law.go:35", after := #[{ on := 17, ground := Ground.data }, { on := 19, ground := Ground.data }, { on := 15, ground := Ground.guard }], guard := some (15, true) } : Oper)) (v := ?_) rfl (by kernel_rfl) (by kernel_rfl) (by kernel_rfl) (fun _ _ _ h => h) (Or.inl ⟨by rfl, ?_⟩) (by assumption) ?_
      rotate_left 1
      · (intro w hSw; (try dsimp only at hSw); go_simp) <;> (first | done | with_reducible rfl)
      (try simp only [Act.put, List.setIfInBounds_toArray, List.set_cons_zero, List.set_cons_succ])
      refine wpAnyH_take (i := 21) (oi := ({ dst := some 38, op := Op.pick (Operand.tmp 32) (Operand.tmp 37) (Operand.const (Value.bool false)), type := 4, pos := "law.go:35", after := #[{ on := 15, ground := Ground.data }, { on := 20, ground := Ground.data }], guard := none } : Oper)) (v := ?_) rfl (by kernel_rfl) (by kernel_rfl) (by kernel_rfl) (fun _ _ _ h => h) (Or.inl ⟨by rfl, ?_⟩) (by assumption) ?_
      rotate_left 1
      · (intro w hSw; (try dsimp only at hSw); go_simp) <;> (first | done | with_reducible rfl)
      (try simp only [Act.put, List.setIfInBounds_toArray, List.set_cons_zero, List.set_cons_succ])
      refine wpAnyH_take (i := 22) (oi := ({ dst := some 2, op := Op.assign (Operand.tmp 38), type := 4, pos := "law.go:35", after := #[{ on := 21, ground := Ground.data }, { on := 19, ground := Ground.chain }, { on := 0, ground := Ground.phase }, { on := 1, ground := Ground.phase }, { on := 2, ground := Ground.phase }, { on := 3, ground := Ground.phase }, { on := 4, ground := Ground.phase }, { on := 5, ground := Ground.phase }, { on := 6, ground := Ground.phase }, { on := 7, ground := Ground.phase }, { on := 8, ground := Ground.phase }, { on := 9, ground := Ground.phase }, { on := 10, ground := Ground.phase }, { on := 11, ground := Ground.phase }, { on := 12, ground := Ground.phase }, { on := 13, ground := Ground.phase }, { on := 14, ground := Ground.phase }, { on := 15, ground := Ground.phase }, { on := 16, ground := Ground.phase }, { on := 17, ground := Ground.phase }, { on := 18, ground := Ground.phase }, { on := 19, ground := Ground.phase }, { on := 20, ground := Ground.phase }, { on := 21, ground := Ground.phase }], guard := none } : Oper)) (v := ?_) rfl (by kernel_rfl) (by kernel_rfl) (by kernel_rfl) (fun _ _ _ h => h) (Or.inl ⟨by rfl, ?_⟩) (by assumption) ?_
      rotate_left 1
      · (intro w hSw; (try dsimp only at hSw); go_simp) <;> (first | done | with_reducible rfl)
      (try simp only [Act.put, List.setIfInBounds_toArray, List.set_cons_zero, List.set_cons_succ])
      refine wpAnyH_done (by kernel_rfl) ?_ _
      go_wp2
      go_ret
      exact ⟨rfl, HK.out _ (hid (k2.out.trans (k7.out.mono k2.out.size)))⟩
end Go.Proofs.YtpjgdpfpgpaenaaDoor
