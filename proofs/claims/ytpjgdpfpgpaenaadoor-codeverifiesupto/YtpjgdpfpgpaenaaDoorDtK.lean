/-
  Contract of the document's may. Printed by tools/mkdt.py.
-/
import Derived.Test.YtpjgdpfpgpaenaaDoorGaj
namespace Go.Proofs.YtpjgdpfpgpaenaaDoor
open Go.RowKit
set_option linter.unusedVariables false

theorem Ans.iff {e : Ending} {p q : Prop} (h : Ans e p) (i : p ↔ q) : Ans e q := by
  obtain ⟨b, h1, h2⟩ := h
  exact ⟨b, h1, h2.trans i⟩
/-- What may asks. -/
def Dt.mayN (d : Dt) (n : Nat) : Prop := d.good ∧ d.dep ≤ n
theorem may_leaf {k : Int} {t : ByteArray} {l m : List Dt} {n : Nat} (h : sqB k = false) : (Dt.node k t l m).mayN n ↔ (l = [] ∧ m = [] ∧ textP k t) := by
  have h5 : k ≠ 5 := by rintro rfl; cases h
  have h6 : k ≠ 6 := by rintro rfl; cases h
  have hd : (Dt.node k t l m).dep = 0 := by
    show (if sqB k = true then 1 + max (depL l) (depL m) else 0) = 0
    rw [h]; rfl
  constructor
  · rintro ⟨⟨h, _⟩, _⟩
    rcases h with ⟨h, _⟩ | ⟨h, _⟩ | ⟨_, _, h⟩
    · exact absurd h h5
    · exact absurd h h6
    · exact h
  · rintro ⟨rfl, rfl, ht⟩
    exact ⟨⟨.inr (.inr ⟨h5, h6, rfl, rfl, ht⟩), trivial, trivial⟩, by rw [hd]; exact Nat.zero_le _⟩
theorem may_seq {k : Int} {t : ByteArray} {l m : List Dt} {n : Nat} (h : sqB k = true) : (Dt.node k t l m).mayN (n + 1) ↔ (fitP k t l m ∧ goodL (l ++ m) ∧ depL (l ++ m) ≤ n) := by
  have hd : (Dt.node k t l m).dep = 1 + max (depL l) (depL m) := by
    show (if sqB k = true then 1 + max (depL l) (depL m) else 0) = _
    rw [h]; rfl
  rw [goodL_append, depL_append]
  constructor
  · rintro ⟨⟨h1, h2⟩, h3⟩
    rw [hd] at h3
    exact ⟨h1, h2, by omega⟩
  · rintro ⟨h1, h2, h3⟩
    exact ⟨⟨h1, h2⟩, by rw [hd]; omega⟩
theorem may_zero {k : Int} {t : ByteArray} {l m : List Dt} (h : sqB k = true) : ¬ (Dt.node k t l m).mayN 0 := by
  rintro ⟨_, h3⟩
  have hd : (Dt.node k t l m).dep = 1 + max (depL l) (depL m) := by
    show (if sqB k = true then 1 + max (depL l) (depL m) else 0) = _
    rw [h]; rfl
  rw [hd] at h3
  omega
/-- Where the parts stand. -/
def Lm (B n : Nat) (W1 : World) (P : List Dt) (V : World) : Prop := Below (B + 1) W1 V ∧ goodL P ∧ depL P ≤ n
theorem Lm.no {Q P : List Dt} {x : Dt} {n j : Nat} (h : ¬ x.mayN n) (hj : j < P.length) (hx : P[j] = x) : ¬ (goodL (Q ++ P) ∧ depL (Q ++ P) ≤ n) := by
  rintro ⟨h1, h2⟩
  rw [goodL_append] at h1
  rw [depL_append] at h2
  have h3 := goodL_mem h1.2 j hj
  have h4 := depL_mem (l := P) j hj
  rw [hx] at h3 h4
  exact h ⟨h3, by omega⟩
set_option linter.unusedSimpArgs false in
set_option maxRecDepth 100000 in
set_option maxHeartbeats 8000000 in
theorem z_may (N : Nat) : ∀ (d : Dt) (v : Value) (n : Nat) (w : World), d.siz < N → DAt w d v → d.siz ≤ 1048576 → n ≤ 66 → Calls Tryd.prog 35 #[v, .int .i64 (n : Int)] w fun r w' => Ans r (d.mayN n) ∧ Hid (Below w.heap.size w w') := by
  induction N with
  | zero => exact fun d v n w h _ _ _ => absurd h (Nat.not_lt_zero _)
  | succ N ih =>
    intro d v n w hN hd hs hn
    have IH : Hid (∀ (d : Dt) (v : Value) (n : Nat) (w : World), d.siz < N → DAt w d v → d.siz ≤ 1048576 → n ≤ 66 → Calls Tryd.prog 35 #[v, .int .i64 (n : Int)] w fun r w' => Ans r (d.mayN n) ∧ Hid (Below w.heap.size w w')) := ih
    clear ih
    cases hd with
    | mk k t l m a b c c2 X Y hl hm ra rb sz =>
      obtain ⟨n1, hn1⟩ : ∃ n1, l.length = n1 := ⟨_, rfl⟩
      obtain ⟨n2, hn2⟩ : ∃ n2, m.length = n2 := ⟨_, rfl⟩
      obtain ⟨W1, hW1⟩ : ∃ W1, w.alloc (.cells #[.int .i64 k, .string t, .slice a n1 c, .slice b n2 c2] 42) = W1 := ⟨_, rfl⟩
      obtain ⟨B, hB⟩ : ∃ B, w.heap.size = B := ⟨_, rfl⟩
      have hs1 : W1.heap.size = B + 1 := by rw [← hW1, World.size_alloc, hB]
      have hb1 : Below B w W1 := by rw [← hW1]; exact (Below.refl _ w).alloc (by omega) _
      have h0 : W1.heap[B]? = some (.cells #[.int .i64 k, .string t, .slice a n1 c, .slice b n2 c2] 42 (0, 0)) := by rw [← hW1]; exact heap_alloc_at _ _ _ hB.symm
      have v0 : W1.cell? ⟨B, 0, none⟩ = some (.int .i64 k) := by rw [cells_at h0 0]; rfl
      have v1 : W1.cell? ⟨B, 1, none⟩ = some (.string t) := by rw [cells_at h0 1]; rfl
      have v2 : W1.cell? ⟨B, 2, none⟩ = some (.slice a n1 c) := by rw [cells_at h0 2]; rfl
      have v3 : W1.cell? ⟨B, 3, none⟩ = some (.slice b n2 c2) := by rw [cells_at h0 3]; rfl
      have HV : Hid (∀ V, Below (B + 1) W1 V → Below w.heap.size w V ∧ V.cell? ⟨B, 3, none⟩ = some (.slice b n2 c2)) := fun V h => ⟨by rw [hB]; exact hb1.trans (h.mono (Nat.le_succ _)), (h.cell (Nat.lt_succ_self _)).trans v3⟩
      have HS1 : Hid (W1.heap.size = B + 1) := hs1
      have hc1 : (n1 : Int) ≤ 9223372036854775807 := by omega
      have hc2 : (n2 : Int) ≤ 9223372036854775807 := by omega
      have hX : m.length = 1 → ∃ g o x, b = some ⟨g, o, none⟩ ∧ m = [x] ∧ W1.cell? ⟨g, o, none⟩ = some (.int .i64 x.kd) := fun hm' => by
        obtain ⟨g, o, e1, e2⟩ := rb (by omega)
        obtain ⟨x, hx⟩ := List.length_eq_one_iff.1 hm'
        obtain ⟨_, _, _, _, _, _, hk, _⟩ := (hm 0 (by omega)).form
        have hc := e2 0 (by omega) 0 (by decide)
        rw [hk] at hc
        have hc' : w.cell? ⟨g, o, none⟩ = some (.int .i64 m[0].kd) := by simpa using hc
        refine ⟨g, o, x, e1, hx, ?_⟩
        have hxx : m[0] = x := by subst hx; rfl
        rw [hxx] at hc'
        exact (hb1.cell (by have := World.block_lt_of_cell? w _ hc'; rw [← hB]; exact this)).trans hc'
      have hl0 : l = [] ↔ n1 = 0 := by rw [← hn1]; exact List.length_eq_zero_iff.symm
      have hm0 : m = [] ↔ n2 = 0 := by rw [← hn2]; exact List.length_eq_zero_iff.symm
      have hts : t.size ≤ 281474976710656 := by omega
      have hcc : 1 ≤ n2 → 1 ≤ c2 ∧ (n2 : Int) ≤ (c2 : Int) ∧ (c2 : Int) ≤ 9223372036854775807 := by omega
      have hz : t.toList.isEmpty = true ↔ t.size = 0 := by
        by_cases h : 0 < t.size
        · rw [notEmpty_of t h]; exact ⟨fun e => (by cases e), fun e => (by omega)⟩
        · rw [isEmpty_of t h]; exact ⟨fun _ => (by omega), fun _ => rfl⟩
      clear hs1 hb1 h0 sz
      rw [hn1, hn2]
      have HW1 : Hid (Below w.heap.size w W1) := (HV.out W1 (Below.refl _ _)).1
      have HC : Hid (Calls Tryd.prog 46 #[.string t] W1 fun e w' => Ans e (canP t.data.toList) ∧ w' = W1) := rCan t W1 hts
      have HN : Hid (Calls Tryd.prog 24 #[.string t] W1 fun e w' => Ans e (nameP t) ∧ Hid (Below W1.heap.size W1 w')) := z_name t W1
      have HNB : Hid (∀ V, Below W1.heap.size W1 V → Below w.heap.size w V) := fun V h => HW1.out.trans (h.mono HW1.out.size)
      clear hts
      cases hk : sqB k
      · -- no list and no vector
        have HI : Hid ((Dt.node k t l m).mayN n ↔ (n1 = 0 ∧ n2 = 0 ∧ textP k t)) := (may_leaf hk).trans (by rw [hl0, hm0])
        have d5 : (k == 5) = false := by unfold sqB at hk; simp at hk ⊢; exact hk.1
        have d6 : (k == 6) = false := by unfold sqB at hk; simp at hk ⊢; exact hk.2
        have d5' : (k != 5) = true := by unfold sqB at hk; simp at hk ⊢; exact hk.1
        have d6' : (k != 6) = true := by unfold sqB at hk; simp at hk ⊢; exact hk.2
        clear hk hX hcc hz hl0 hm0 hl hm ra rb hN hs
        have hf : (((n1 : Int) == 0) = true ∧ ((n2 : Int) == 0) = true ∧ n1 = 0 ∧ n2 = 0) ∨ (((n1 : Int) == 0) = true ∧ ((n2 : Int) == 0) = false ∧ ¬ (n1 = 0 ∧ n2 = 0)) ∨ (((n1 : Int) == 0) = false ∧ ¬ (n1 = 0 ∧ n2 = 0)) := by
          by_cases h1 : n1 = 0
          · by_cases h2 : n2 = 0
            · exact .inl ⟨by simpa using h1, by simpa using h2, h1, h2⟩
            · exact .inr (.inl ⟨by simpa using h1, by simpa using h2, fun h => h2 h.2⟩)
          · exact .inr (.inr ⟨by simpa using h1, fun h => h1 h.1⟩)
        have hkk : k = 1 ∨ k = 2 ∨ k = 3 ∨ k = 4 ∨ (¬ textP k t ∧ (k == 1) = false ∧ (k == 2) = false ∧ (k == 3) = false ∧ (k == 4) = false) := by
          by_cases h1 : k = 1
          · exact .inl h1
          by_cases h2 : k = 2
          · exact .inr (.inl h2)
          by_cases h3 : k = 3
          · exact .inr (.inr (.inl h3))
          by_cases h4 : k = 4
          · exact .inr (.inr (.inr (.inl h4)))
          refine .inr (.inr (.inr (.inr ⟨?_, by simpa using h1, by simpa using h2, by simpa using h3, by simpa using h4⟩)))
          rintro (⟨h, _⟩ | ⟨h, _⟩ | h | ⟨h, _⟩) <;> contradiction
        have HF := hid hf
        clear hf
        rcases hkk with rfl | rfl | rfl | rfl | ⟨hnt, q1, q2, q3, q4⟩
        · have hp : Hid (textP 1 t ↔ canP t.data.toList) := by
            unfold textP
            constructor
            · rintro (⟨_, h⟩ | ⟨h, _⟩ | h | ⟨h, _⟩)
              · exact h
              · cases h
              · cases h
              · cases h
            · exact fun h => .inl ⟨rfl, h⟩
          rcases HF.out with ⟨f1, f2, e1, e2⟩ | ⟨f1, f2, hne⟩ | ⟨f1, hne⟩
          · have HA : Hid ((Dt.node 1 t l m).mayN n ↔ canP t.data.toList) := HI.out.trans ⟨fun h => hp.out.1 h.2.2, fun h => ⟨e1, e2, hp.out.2 h⟩⟩
            clear e1 e2 HI hp
            go_enter Tryd.func35, Tryd.ntmps35
            go_wp2_with fail
            refine HC.out.mono ?_
            rintro r w1 ⟨⟨q, rfl, hq⟩, hw⟩
            obtain rfl : W1 = w1 := hw.symm
            go_wp2
            go_ret
            exact ⟨⟨q, rfl, hq.trans HA.out.symm⟩, HW1⟩
          all_goals
            have HA : Hid (¬ (Dt.node 1 t l m).mayN n) := fun h => hne ⟨(HI.out.1 h).1, (HI.out.1 h).2.1⟩
            clear hne HI hp
            go_enter Tryd.func35, Tryd.ntmps35
            go_wp2
            go_ret
            exact ⟨Ans.no HA.out, HW1⟩
        · have hp : Hid (textP 2 t ↔ ((t.toList == [35, 116]) || (t.toList == [35, 102])) = true) := by
            unfold textP
            constructor
            · rintro (⟨h, _⟩ | ⟨_, h⟩ | h | ⟨h, _⟩)
              · cases h
              · exact h
              · cases h
              · cases h
            · exact fun h => .inr (.inl ⟨rfl, h⟩)
          rcases HF.out with ⟨f1, f2, e1, e2⟩ | ⟨f1, f2, hne⟩ | ⟨f1, hne⟩
          · have HA : Hid ((Dt.node 2 t l m).mayN n ↔ ((t.toList == [35, 116]) || (t.toList == [35, 102])) = true) := HI.out.trans ⟨fun h => hp.out.1 h.2.2, fun h => ⟨e1, e2, hp.out.2 h⟩⟩
            clear e1 e2 HI hp
            cases t1 : (t.toList == [35, 116])
            · cases t2 : (t.toList == [35, 102])
              · have HB : Hid (¬ (Dt.node 2 t l m).mayN n) := fun h => by have := HA.out.1 h; rw [t1, t2] at this; cases this
                clear HA
                go_enter Tryd.func35, Tryd.ntmps35
                go_wp2
                go_ret
                exact ⟨Ans.no HB.out, HW1⟩
              · have HB : Hid ((Dt.node 2 t l m).mayN n) := HA.out.2 (by rw [t1, t2]; rfl)
                clear HA
                go_enter Tryd.func35, Tryd.ntmps35
                go_wp2
                go_ret
                exact ⟨Ans.yes HB.out, HW1⟩
            · have HB : Hid ((Dt.node 2 t l m).mayN n) := HA.out.2 (by rw [t1]; rfl)
              clear HA
              go_enter Tryd.func35, Tryd.ntmps35
              go_wp2
              go_ret
              exact ⟨Ans.yes HB.out, HW1⟩
          all_goals
            have HA : Hid (¬ (Dt.node 2 t l m).mayN n) := fun h => hne ⟨(HI.out.1 h).1, (HI.out.1 h).2.1⟩
            clear hne HI hp
            go_enter Tryd.func35, Tryd.ntmps35
            go_wp2
            go_ret
            exact ⟨Ans.no HA.out, HW1⟩
        · rcases HF.out with ⟨f1, f2, e1, e2⟩ | ⟨f1, f2, hne⟩ | ⟨f1, hne⟩
          · have HA : Hid ((Dt.node 3 t l m).mayN n) := HI.out.2 ⟨e1, e2, .inr (.inr (.inl rfl))⟩
            clear e1 e2 HI
            go_enter Tryd.func35, Tryd.ntmps35
            go_wp2
            go_ret
            exact ⟨Ans.yes HA.out, HW1⟩
          all_goals
            have HA : Hid (¬ (Dt.node 3 t l m).mayN n) := fun h => hne ⟨(HI.out.1 h).1, (HI.out.1 h).2.1⟩
            clear hne HI
            go_enter Tryd.func35, Tryd.ntmps35
            go_wp2
            go_ret
            exact ⟨Ans.no HA.out, HW1⟩
        · have hp : Hid (textP 4 t ↔ nameP t) := by
            unfold textP
            constructor
            · rintro (⟨h, _⟩ | ⟨h, _⟩ | h | ⟨_, h⟩)
              · cases h
              · cases h
              · cases h
              · exact h
            · exact fun h => .inr (.inr (.inr ⟨rfl, h⟩))
          rcases HF.out with ⟨f1, f2, e1, e2⟩ | ⟨f1, f2, hne⟩ | ⟨f1, hne⟩
          · have HA : Hid ((Dt.node 4 t l m).mayN n ↔ nameP t) := HI.out.trans ⟨fun h => hp.out.1 h.2.2, fun h => ⟨e1, e2, hp.out.2 h⟩⟩
            clear e1 e2 HI hp
            go_enter Tryd.func35, Tryd.ntmps35
            go_wp2_with fail
            refine HN.out.mono ?_
            rintro r w1 ⟨⟨q, rfl, hq⟩, hb1⟩
            go_wp2
            go_ret
            exact ⟨⟨q, rfl, hq.trans HA.out.symm⟩, HNB.out _ hb1.out⟩
          all_goals
            have HA : Hid (¬ (Dt.node 4 t l m).mayN n) := fun h => hne ⟨(HI.out.1 h).1, (HI.out.1 h).2.1⟩
            clear hne HI hp
            go_enter Tryd.func35, Tryd.ntmps35
            go_wp2
            go_ret
            exact ⟨Ans.no HA.out, HW1⟩
        · have HA : Hid (¬ (Dt.node k t l m).mayN n) := fun h => hnt (HI.out.1 h).2.2
          clear hnt HI
          rcases HF.out with ⟨f1, f2, -, -⟩ | ⟨f1, f2, -⟩ | ⟨f1, -⟩
          all_goals
            go_enter Tryd.func35, Tryd.ntmps35
            go_wp2
            go_ret
            exact ⟨Ans.no HA.out, HW1⟩
      · -- a list or a vector
        have dk2 : k = 5 ∨ k = 6 := by unfold sqB at hk; simpa using hk
        have hf : (((n1 : Int) == 0) = true ∧ ((n2 : Int) == 0) = true) ∨ (((n1 : Int) == 0) = true ∧ ((n2 : Int) == 0) = false) ∨ (((n1 : Int) == 0) = false) := by
          by_cases h1 : n1 = 0
          · by_cases h2 : n2 = 0
            · exact .inl ⟨by simpa using h1, by simpa using h2⟩
            · exact .inr (.inl ⟨by simpa using h1, by simpa using h2⟩)
          · exact .inr (.inr (by simpa using h1))
        have HF := hid hf
        clear hf HC HN HNB
        cases hte : t.toList.isEmpty
        · have HA : Hid (¬ (Dt.node k t l m).mayN n) := by
            have ht : t.size ≠ 0 := fun h => by rw [hz.2 h] at hte; cases hte
            rintro ⟨⟨h, _⟩, _⟩
            rcases h with ⟨_, h, _⟩ | ⟨_, h, _⟩ | ⟨h1, h2, _⟩
            · exact ht h
            · exact ht h
            · rcases dk2 with h | h
              · exact h1 h
              · exact h2 h
          clear hX hcc hz hl0 hm0 hl hm ra rb hN hs hk
          rcases dk2 with rfl | rfl
          all_goals
            rcases HF.out with ⟨f1, f2⟩ | ⟨f1, f2⟩ | f1
            all_goals
              go_enter Tryd.func35, Tryd.ntmps35
              go_wp2
              go_ret
              exact ⟨Ans.no HA.out, HW1⟩
        have ht0 : t.size = 0 := hz.1 hte
        clear hz
        cases n with
        | zero =>
          have HA : Hid (¬ (Dt.node k t l m).mayN 0) := may_zero hk
          have d0 : (((0 : Nat) : Int) ≤ 0) = True := eq_true (Int.le_refl _)
          clear hX hcc hl0 hm0 hl hm ra rb hN hs hk ht0
          rcases dk2 with rfl | rfl
          all_goals
            rcases HF.out with ⟨f1, f2⟩ | ⟨f1, f2⟩ | f1
            all_goals
              go_enter Tryd.func35, Tryd.ntmps35
              go_wp2
              go_ret
              exact ⟨Ans.no HA.out, HW1⟩
        | succ n =>
          have hnn1 : n ≤ 66 := Nat.le_of_succ_le hn
          rw [show ((n + 1 : Nat) : Int) = (n : Int) + 1 from rfl]
          have d0 : decide ((n : Int) + 1 ≤ 0) = false := decide_eq_false (by omega)
          have HI : Hid ((Dt.node k t l m).mayN (n + 1) ↔ (fitP k t l m ∧ goodL (l ++ m) ∧ depL (l ++ m) ≤ n)) := may_seq hk
          clear hk
          -- where it ends at once
          have NO : Hid (¬ fitP k t l m → ¬ (Dt.node k t l m).mayN (n + 1)) := fun h p => h (HI.out.1 p).1
          by_cases e2 : n2 = 0
          · have hmn : m = [] := hm0.2 e2
            have HM : Hid ((Dt.node k t l m).mayN (n + 1) ↔ (goodL (l ++ m) ∧ depL (l ++ m) ≤ n)) := by
              refine hid (HI.out.trans ⟨fun h => h.2, fun h => ⟨?_, h⟩⟩)
              rcases dk2 with hk | hk
              · exact .inl ⟨hk, ht0, .inl hmn⟩
              · exact .inr (.inl ⟨hk, ht0, hmn⟩)
            have g2 : decide ((0 : Int) < (n2 : Int)) = false := decide_eq_false (by omega)
            have g2' : decide (0 < n2) = false := decide_eq_false (by omega)
            have f2 : ((n2 : Int) == 0) = true := by rw [e2]; rfl
            have f1 : ((n1 : Int) == 0) = true ∨ ((n1 : Int) == 0) = false := by cases ((n1 : Int) == 0) <;> simp
            clear hX hcc hl0 hm0 HI NO HF e2 hmn ht0
            rcases dk2 with rfl | rfl
            all_goals
              rcases f1 with f1 | f1
              all_goals
                go_enter Tryd.func35, Tryd.ntmps35
                go_wp2_with fail
                go_loopw [103] (fun i wr => ∃ (j : Nat), i = .int .i64 (j : Int) ∧ j ≤ n1 ∧ Hid (Lm B n W1 (l.take j) wr)) (fun i _ => n1 - (intOf i).toNat)
                case atStart => exact ⟨0, rfl, Nat.zero_le _, Below.refl _ _, trivial, Nat.zero_le _⟩
                case round =>
                  clear hW1 v0 v1 v2 v3
                  obtain ⟨j, rfl, hj, HL⟩ := hrel
                  by_cases hlt : j < n1
                  · obtain ⟨hbw, -, -⟩ := HL.out
                    have l1 : (j : Int) < (n1 : Int) := by omega
                    have l2 : (0 : Int) ≤ (j : Int) := by omega
                    have hjl : j < l.length := by rw [hn1]; exact hlt
                    obtain ⟨g, o, rfl, hX⟩ := ra (by omega)
                    have hw0 := (HV.out wr hbw).1
                    have hXw : ∀ i, i < 4 → wr.cell? ⟨g, o + j * 4 + i, none⟩ = some (X j i) := fun i hi => (hw0.cell (World.block_lt_of_cell? w _ (hX j hjl i hi))).trans (hX j hjl i hi)
                    obtain ⟨ax, nx, cx, bx, mx, dx, e0, e1, e2, e3⟩ := (hl j hjl).form
                    have hvx : vx X j = .agg #[.int .i64 l[j].kd, .string l[j].tx, .slice ax nx cx, .slice bx mx dx] := by unfold vx; rw [e0, e1, e2, e3]
                    have hdj := hl j hjl
                    have hsz1 := Nat.lt_of_lt_of_le (siz_l _ _ _ _ j hjl) (Nat.le_of_lt_succ hN)
                    have hsz2' := Nat.le_trans (Nat.le_of_lt (siz_l _ _ _ _ j hjl)) hs
                    rw [hvx] at hdj
                    obtain ⟨x, hx⟩ : ∃ x, l[j] = x := ⟨_, rfl⟩
                    rw [hx] at hdj hsz1 hsz2' hvx e0 e1
                    have x0 : wr.cell? ⟨g, o + j * 4, none⟩ = some (X j 0) := hXw 0 (by decide)
                    have x1 := hXw 1 (by decide)
                    have x2 := hXw 2 (by decide)
                    have x3 := hXw 3 (by decide)
                    rw [e0] at x0
                    rw [e1] at x1
                    rw [e2] at x2
                    rw [e3] at x3
                    clear e0 e1 e2 e3 hvx
                    obtain ⟨V, hV⟩ : ∃ V, wr.alloc (.cells #[.int .i64 x.kd, .string x.tx, .slice ax nx cx, .slice bx mx dx] 42) = V := ⟨_, rfl⟩
                    have hbV : Below wr.heap.size wr V := by rw [← hV]; exact (Below.refl _ _).alloc (Nat.le_refl _) _
                    have hVn : V.heap[wr.heap.size]? = some (.cells #[.int .i64 x.kd, .string x.tx, .slice ax nx cx, .slice bx mx dx] 42 (0, 0)) := by rw [← hV]; exact heap_alloc_at _ _ _ rfl
                    obtain ⟨gv, hgv⟩ : ∃ gv, wr.heap.size = gv := ⟨_, rfl⟩
                    have p0 : V.cell? ⟨gv, 0, none⟩ = some (.int .i64 x.kd) := by rw [← hgv, cells_at hVn 0]; rfl
                    have p1 : V.cell? ⟨gv, 1, none⟩ = some (.string x.tx) := by rw [← hgv, cells_at hVn 1]; rfl
                    have p2 : V.cell? ⟨gv, 2, none⟩ = some (.slice ax nx cx) := by rw [← hgv, cells_at hVn 2]; rfl
                    have p3 : V.cell? ⟨gv, 3, none⟩ = some (.slice bx mx dx) := by rw [← hgv, cells_at hVn 3]; rfl
                    have hwB : B + 1 ≤ wr.heap.size := by rw [← HS1.out]; exact hbw.size
                    have HbV : Hid (∀ V', Below V.heap.size V V' → Below (B + 1) W1 V') := fun V' h => hbw.trans ((hbV.trans (h.mono hbV.size)).mono hwB)
                    have HD : Hid (DAt V x (.agg #[.int .i64 x.kd, .string x.tx, .slice ax nx cx, .slice bx mx dx])) := hdj.under (hw0.trans (hbV.mono hw0.size))
                    clear hVn hXw hw0 hbV hdj hwB
                    have HI : Hid (Calls Tryd.prog 35 #[.agg #[.int .i64 x.kd, .string x.tx, .slice ax nx cx, .slice bx mx dx], .int .i64 (n : Int)] V fun r w' => Ans r (x.mayN n) ∧ Hid (Below V.heap.size V w')) := IH.out x _ n V hsz1 HD.out hsz2' hnn1
                    clear hsz1 hsz2'
                    go_wp2_with fail
                    refine HI.out.mono ?_
                    rintro r w3 ⟨⟨q, rfl, hq⟩, hb3⟩
                    cases q
                    · have HA : Hid (¬ (goodL (l ++ m) ∧ depL (l ++ m) ≤ n)) := fun h => Lm.no (Q := []) (P := l) (fun p => by have := hq.2 p; cases this) hjl hx (by rw [goodL_append, depL_append] at h; exact ⟨h.1.1, Nat.le_trans (Nat.le_max_left _ _) h.2⟩)
                      have hb : Hid (Below w.heap.size w w3) := (HV.out _ (HbV.out _ hb3.out)).1
                      clear HL hx hq hbw
                      go_wp2
                      go_ret
                      exact ⟨Ans.no (fun p => HA.out (HM.out.1 p)), hb⟩
                    · have HS : Hid (Lm B n W1 (l.take (j + 1)) w3) := ⟨HbV.out _ hb3.out, by
                        obtain ⟨h1, h2⟩ := hq.1 rfl
                        have e := HL.out.2
                        rw [take_snoc _ _ hjl, hx, depL_app, goodL_app]
                        exact ⟨⟨e.1, h1⟩, by omega⟩⟩
                      clear HL hx hbw hq
                      go_wp2
                      go_roundw
                      case rel => exact ⟨j + 1, by go_num, by omega, HS⟩
                      case measure => simp [intOf]; omega
                  · obtain rfl : j = n1 := by omega
                    have HQ : Hid (Lm B n W1 (l) wr) := by have := HL.out; rw [← hn1, List.take_length] at this; exact this
                    have hv3 := (HV.out wr HQ.out.1).2
                    clear HL
                    go_wp2_with fail
                    go_loopw [116] (fun i wr => ∃ (j : Nat), i = .int .i64 (j : Int) ∧ j ≤ n2 ∧ Hid (Lm B n W1 (l ++ m.take j) wr)) (fun i _ => n2 - (intOf i).toNat)
                    case atStart => exact ⟨0, rfl, Nat.zero_le _, by simpa using HQ⟩
                    case round =>
                      clear HQ
                      obtain ⟨j, rfl, hj, HL⟩ := hrel
                      by_cases hlt : j < n2
                      · obtain ⟨hbw, -, -⟩ := HL.out
                        have l1 : (j : Int) < (n2 : Int) := by omega
                        have l2 : (0 : Int) ≤ (j : Int) := by omega
                        have hjl : j < m.length := by rw [hn2]; exact hlt
                        obtain ⟨g, o, rfl, hX⟩ := rb (by omega)
                        have hw0 := (HV.out wr hbw).1
                        have hXw : ∀ i, i < 4 → wr.cell? ⟨g, o + j * 4 + i, none⟩ = some (Y j i) := fun i hi => (hw0.cell (World.block_lt_of_cell? w _ (hX j hjl i hi))).trans (hX j hjl i hi)
                        obtain ⟨ax, nx, cx, bx, mx, dx, e0, e1, e2, e3⟩ := (hm j hjl).form
                        have hvx : vx Y j = .agg #[.int .i64 m[j].kd, .string m[j].tx, .slice ax nx cx, .slice bx mx dx] := by unfold vx; rw [e0, e1, e2, e3]
                        have hdj := hm j hjl
                        have hsz1 := Nat.lt_of_lt_of_le (siz_m _ _ _ _ j hjl) (Nat.le_of_lt_succ hN)
                        have hsz2' := Nat.le_trans (Nat.le_of_lt (siz_m _ _ _ _ j hjl)) hs
                        rw [hvx] at hdj
                        obtain ⟨x, hx⟩ : ∃ x, m[j] = x := ⟨_, rfl⟩
                        rw [hx] at hdj hsz1 hsz2' hvx e0 e1
                        have x0 : wr.cell? ⟨g, o + j * 4, none⟩ = some (Y j 0) := hXw 0 (by decide)
                        have x1 := hXw 1 (by decide)
                        have x2 := hXw 2 (by decide)
                        have x3 := hXw 3 (by decide)
                        rw [e0] at x0
                        rw [e1] at x1
                        rw [e2] at x2
                        rw [e3] at x3
                        clear e0 e1 e2 e3 hvx
                        obtain ⟨V, hV⟩ : ∃ V, wr.alloc (.cells #[.int .i64 x.kd, .string x.tx, .slice ax nx cx, .slice bx mx dx] 42) = V := ⟨_, rfl⟩
                        have hbV : Below wr.heap.size wr V := by rw [← hV]; exact (Below.refl _ _).alloc (Nat.le_refl _) _
                        have hVn : V.heap[wr.heap.size]? = some (.cells #[.int .i64 x.kd, .string x.tx, .slice ax nx cx, .slice bx mx dx] 42 (0, 0)) := by rw [← hV]; exact heap_alloc_at _ _ _ rfl
                        obtain ⟨gv, hgv⟩ : ∃ gv, wr.heap.size = gv := ⟨_, rfl⟩
                        have p0 : V.cell? ⟨gv, 0, none⟩ = some (.int .i64 x.kd) := by rw [← hgv, cells_at hVn 0]; rfl
                        have p1 : V.cell? ⟨gv, 1, none⟩ = some (.string x.tx) := by rw [← hgv, cells_at hVn 1]; rfl
                        have p2 : V.cell? ⟨gv, 2, none⟩ = some (.slice ax nx cx) := by rw [← hgv, cells_at hVn 2]; rfl
                        have p3 : V.cell? ⟨gv, 3, none⟩ = some (.slice bx mx dx) := by rw [← hgv, cells_at hVn 3]; rfl
                        have hwB : B + 1 ≤ wr.heap.size := by rw [← HS1.out]; exact hbw.size
                        have HbV : Hid (∀ V', Below V.heap.size V V' → Below (B + 1) W1 V') := fun V' h => hbw.trans ((hbV.trans (h.mono hbV.size)).mono hwB)
                        have HD : Hid (DAt V x (.agg #[.int .i64 x.kd, .string x.tx, .slice ax nx cx, .slice bx mx dx])) := hdj.under (hw0.trans (hbV.mono hw0.size))
                        clear hVn hXw hw0 hbV hdj hwB
                        have HI : Hid (Calls Tryd.prog 35 #[.agg #[.int .i64 x.kd, .string x.tx, .slice ax nx cx, .slice bx mx dx], .int .i64 (n : Int)] V fun r w' => Ans r (x.mayN n) ∧ Hid (Below V.heap.size V w')) := IH.out x _ n V hsz1 HD.out hsz2' hnn1
                        clear hsz1 hsz2'
                        go_wp2_with fail
                        refine HI.out.mono ?_
                        rintro r w3 ⟨⟨q, rfl, hq⟩, hb3⟩
                        cases q
                        · have HA : Hid (¬ (goodL (l ++ m) ∧ depL (l ++ m) ≤ n)) := Lm.no (fun p => by have := hq.2 p; cases this) hjl hx
                          have hb : Hid (Below w.heap.size w w3) := (HV.out _ (HbV.out _ hb3.out)).1
                          clear HL hx hq hbw
                          go_wp2
                          go_ret
                          exact ⟨Ans.no (fun p => HA.out (HM.out.1 p)), hb⟩
                        · have HS : Hid (Lm B n W1 (l ++ m.take (j + 1)) w3) := ⟨HbV.out _ hb3.out, by
                            obtain ⟨h1, h2⟩ := hq.1 rfl
                            have e := HL.out.2
                            rw [take_snoc _ _ hjl, hx, ← List.append_assoc, depL_app, goodL_app]
                            exact ⟨⟨e.1, h1⟩, by omega⟩⟩
                          clear HL hx hbw hq
                          go_wp2
                          go_roundw
                          case rel => exact ⟨j + 1, by go_num, by omega, HS⟩
                          case measure => simp [intOf]; omega
                      · obtain rfl : j = n2 := by omega
                        have HQ : Hid (Lm B n W1 (l ++ m) wr) := by have := HL.out; rw [← hn2, List.take_length] at this; exact this
                        have hv3 := (HV.out wr HQ.out.1).2
                        clear HL
                        have HA : Hid ((goodL (l ++ m) ∧ depL (l ++ m) ≤ n)) := HQ.out.2
                        have hb : Hid (Below w.heap.size w wr) := (HV.out wr HQ.out.1).1
                        clear HQ
                        go_wp2
                        go_ret
                        exact ⟨Ans.yes (HM.out.2 HA.out), hb⟩
          · have f2 : ((n2 : Int) == 0) = false := by simpa using e2
            have g2 : (0 : Int) < (n2 : Int) := by omega
            rcases dk2 with rfl | rfl
            · by_cases e3 : n2 = 1
              · obtain ⟨g0, o0, x', hb0, hmx, hcx⟩ := hX (by omega)
                obtain ⟨s1, s2, s3⟩ := hcc (by omega)
                have g3 : ((1 : Int) < (n2 : Int)) = False := eq_false (by omega)
                subst hb0
                generalize hkx : x'.kd = kx at hcx
                by_cases e1 : n1 = 0
                · have f1 : ((n1 : Int) == 0) = true := by rw [e1]; rfl
                  have HA : Hid (¬ (Dt.node 5 t l m).mayN (n + 1)) := NO.out (by
                    rintro (⟨_, _, h⟩ | ⟨h, _⟩ | ⟨h, _⟩)
                    · rcases h with h | ⟨_, _, h, _⟩
                      · exact e2 (hm0.1 h)
                      · exact h (hl0.2 e1)
                    · cases h
                    · exact h rfl)
                  clear hX hcc hl0 hm0 HI NO HF e2 e3 hmx hkx ht0 e1 hl hm ra rb hN hs
                  go_enter Tryd.func35, Tryd.ntmps35
                  go_wp2
                  go_ret
                  exact ⟨Ans.no HA.out, HW1⟩
                · have f1 : ((n1 : Int) == 0) = false := by simpa using e1
                  by_cases e5 : kx = 5
                  · have d7 : (kx == 5) = true := by simpa using e5
                    have HA : Hid (¬ (Dt.node 5 t l m).mayN (n + 1)) := NO.out (by
                      rintro (⟨_, _, h⟩ | ⟨h, _⟩ | ⟨h, _⟩)
                      · rcases h with h | ⟨y, h, _, hy⟩
                        · exact e2 (hm0.1 h)
                        · rw [hmx] at h
                          injection h with h
                          subst h
                          exact hy (hkx.trans e5)
                      · cases h
                      · exact h rfl)
                    clear hX hcc hl0 hm0 HI NO HF e2 e3 hmx hkx ht0 e1 hl hm ra rb hN hs e5
                    go_enter Tryd.func35, Tryd.ntmps35
                    go_wp2
                    go_ret
                    exact ⟨Ans.no HA.out, HW1⟩
                  · have d7 : (kx == 5) = false := by simpa using e5
                    have HM : Hid ((Dt.node 5 t l m).mayN (n + 1) ↔ (goodL (l ++ m) ∧ depL (l ++ m) ≤ n)) := hid (HI.out.trans ⟨fun h => h.2, fun h => ⟨.inl ⟨rfl, ht0, .inr ⟨x', hmx, fun h => e1 (hl0.1 h), by rw [hkx]; exact e5⟩⟩, h⟩⟩)
                    clear hX hcc hl0 hm0 HI NO HF e2 e3 hmx hkx ht0 e1 e5
                    go_enter Tryd.func35, Tryd.ntmps35
                    go_wp2_with fail
                    go_loopw [103] (fun i wr => ∃ (j : Nat), i = .int .i64 (j : Int) ∧ j ≤ n1 ∧ Hid (Lm B n W1 (l.take j) wr)) (fun i _ => n1 - (intOf i).toNat)
                    case atStart => exact ⟨0, rfl, Nat.zero_le _, Below.refl _ _, trivial, Nat.zero_le _⟩
                    case round =>
                      clear hW1 v0 v1 v2 v3
                      obtain ⟨j, rfl, hj, HL⟩ := hrel
                      by_cases hlt : j < n1
                      · obtain ⟨hbw, -, -⟩ := HL.out
                        have l1 : (j : Int) < (n1 : Int) := by omega
                        have l2 : (0 : Int) ≤ (j : Int) := by omega
                        have hjl : j < l.length := by rw [hn1]; exact hlt
                        obtain ⟨g, o, rfl, hX⟩ := ra (by omega)
                        have hw0 := (HV.out wr hbw).1
                        have hXw : ∀ i, i < 4 → wr.cell? ⟨g, o + j * 4 + i, none⟩ = some (X j i) := fun i hi => (hw0.cell (World.block_lt_of_cell? w _ (hX j hjl i hi))).trans (hX j hjl i hi)
                        obtain ⟨ax, nx, cx, bx, mx, dx, e0, e1, e2, e3⟩ := (hl j hjl).form
                        have hvx : vx X j = .agg #[.int .i64 l[j].kd, .string l[j].tx, .slice ax nx cx, .slice bx mx dx] := by unfold vx; rw [e0, e1, e2, e3]
                        have hdj := hl j hjl
                        have hsz1 := Nat.lt_of_lt_of_le (siz_l _ _ _ _ j hjl) (Nat.le_of_lt_succ hN)
                        have hsz2' := Nat.le_trans (Nat.le_of_lt (siz_l _ _ _ _ j hjl)) hs
                        rw [hvx] at hdj
                        obtain ⟨x, hx⟩ : ∃ x, l[j] = x := ⟨_, rfl⟩
                        rw [hx] at hdj hsz1 hsz2' hvx e0 e1
                        have x0 : wr.cell? ⟨g, o + j * 4, none⟩ = some (X j 0) := hXw 0 (by decide)
                        have x1 := hXw 1 (by decide)
                        have x2 := hXw 2 (by decide)
                        have x3 := hXw 3 (by decide)
                        rw [e0] at x0
                        rw [e1] at x1
                        rw [e2] at x2
                        rw [e3] at x3
                        clear e0 e1 e2 e3 hvx
                        obtain ⟨V, hV⟩ : ∃ V, wr.alloc (.cells #[.int .i64 x.kd, .string x.tx, .slice ax nx cx, .slice bx mx dx] 42) = V := ⟨_, rfl⟩
                        have hbV : Below wr.heap.size wr V := by rw [← hV]; exact (Below.refl _ _).alloc (Nat.le_refl _) _
                        have hVn : V.heap[wr.heap.size]? = some (.cells #[.int .i64 x.kd, .string x.tx, .slice ax nx cx, .slice bx mx dx] 42 (0, 0)) := by rw [← hV]; exact heap_alloc_at _ _ _ rfl
                        obtain ⟨gv, hgv⟩ : ∃ gv, wr.heap.size = gv := ⟨_, rfl⟩
                        have p0 : V.cell? ⟨gv, 0, none⟩ = some (.int .i64 x.kd) := by rw [← hgv, cells_at hVn 0]; rfl
                        have p1 : V.cell? ⟨gv, 1, none⟩ = some (.string x.tx) := by rw [← hgv, cells_at hVn 1]; rfl
                        have p2 : V.cell? ⟨gv, 2, none⟩ = some (.slice ax nx cx) := by rw [← hgv, cells_at hVn 2]; rfl
                        have p3 : V.cell? ⟨gv, 3, none⟩ = some (.slice bx mx dx) := by rw [← hgv, cells_at hVn 3]; rfl
                        have hwB : B + 1 ≤ wr.heap.size := by rw [← HS1.out]; exact hbw.size
                        have HbV : Hid (∀ V', Below V.heap.size V V' → Below (B + 1) W1 V') := fun V' h => hbw.trans ((hbV.trans (h.mono hbV.size)).mono hwB)
                        have HD : Hid (DAt V x (.agg #[.int .i64 x.kd, .string x.tx, .slice ax nx cx, .slice bx mx dx])) := hdj.under (hw0.trans (hbV.mono hw0.size))
                        clear hVn hXw hw0 hbV hdj hwB
                        have HI : Hid (Calls Tryd.prog 35 #[.agg #[.int .i64 x.kd, .string x.tx, .slice ax nx cx, .slice bx mx dx], .int .i64 (n : Int)] V fun r w' => Ans r (x.mayN n) ∧ Hid (Below V.heap.size V w')) := IH.out x _ n V hsz1 HD.out hsz2' hnn1
                        clear hsz1 hsz2'
                        go_wp2_with fail
                        refine HI.out.mono ?_
                        rintro r w3 ⟨⟨q, rfl, hq⟩, hb3⟩
                        cases q
                        · have HA : Hid (¬ (goodL (l ++ m) ∧ depL (l ++ m) ≤ n)) := fun h => Lm.no (Q := []) (P := l) (fun p => by have := hq.2 p; cases this) hjl hx (by rw [goodL_append, depL_append] at h; exact ⟨h.1.1, Nat.le_trans (Nat.le_max_left _ _) h.2⟩)
                          have hb : Hid (Below w.heap.size w w3) := (HV.out _ (HbV.out _ hb3.out)).1
                          clear HL hx hq hbw
                          go_wp2
                          go_ret
                          exact ⟨Ans.no (fun p => HA.out (HM.out.1 p)), hb⟩
                        · have HS : Hid (Lm B n W1 (l.take (j + 1)) w3) := ⟨HbV.out _ hb3.out, by
                            obtain ⟨h1, h2⟩ := hq.1 rfl
                            have e := HL.out.2
                            rw [take_snoc _ _ hjl, hx, depL_app, goodL_app]
                            exact ⟨⟨e.1, h1⟩, by omega⟩⟩
                          clear HL hx hbw hq
                          go_wp2
                          go_roundw
                          case rel => exact ⟨j + 1, by go_num, by omega, HS⟩
                          case measure => simp [intOf]; omega
                      · obtain rfl : j = n1 := by omega
                        have HQ : Hid (Lm B n W1 (l) wr) := by have := HL.out; rw [← hn1, List.take_length] at this; exact this
                        have hv3 := (HV.out wr HQ.out.1).2
                        clear HL
                        go_wp2_with fail
                        go_loopw [116] (fun i wr => ∃ (j : Nat), i = .int .i64 (j : Int) ∧ j ≤ n2 ∧ Hid (Lm B n W1 (l ++ m.take j) wr)) (fun i _ => n2 - (intOf i).toNat)
                        case atStart => exact ⟨0, rfl, Nat.zero_le _, by simpa using HQ⟩
                        case round =>
                          clear HQ
                          obtain ⟨j, rfl, hj, HL⟩ := hrel
                          by_cases hlt : j < n2
                          · obtain ⟨hbw, -, -⟩ := HL.out
                            have l1 : (j : Int) < (n2 : Int) := by omega
                            have l2 : (0 : Int) ≤ (j : Int) := by omega
                            have hjl : j < m.length := by rw [hn2]; exact hlt
                            have hX : ∀ j, j < m.length → ∀ i, i < 4 → w.cell? ⟨g0, o0 + j * 4 + i, none⟩ = some (Y j i) := by
                              obtain ⟨g, o, ea, h⟩ := rb (by omega)
                              cases ea
                              exact h
                            have hw0 := (HV.out wr hbw).1
                            have hXw : ∀ i, i < 4 → wr.cell? ⟨g0, o0 + j * 4 + i, none⟩ = some (Y j i) := fun i hi => (hw0.cell (World.block_lt_of_cell? w _ (hX j hjl i hi))).trans (hX j hjl i hi)
                            obtain ⟨ax, nx, cx, bx, mx, dx, e0, e1, e2, e3⟩ := (hm j hjl).form
                            have hvx : vx Y j = .agg #[.int .i64 m[j].kd, .string m[j].tx, .slice ax nx cx, .slice bx mx dx] := by unfold vx; rw [e0, e1, e2, e3]
                            have hdj := hm j hjl
                            have hsz1 := Nat.lt_of_lt_of_le (siz_m _ _ _ _ j hjl) (Nat.le_of_lt_succ hN)
                            have hsz2' := Nat.le_trans (Nat.le_of_lt (siz_m _ _ _ _ j hjl)) hs
                            rw [hvx] at hdj
                            obtain ⟨x, hx⟩ : ∃ x, m[j] = x := ⟨_, rfl⟩
                            rw [hx] at hdj hsz1 hsz2' hvx e0 e1
                            have x0 : wr.cell? ⟨g0, o0 + j * 4, none⟩ = some (Y j 0) := hXw 0 (by decide)
                            have x1 := hXw 1 (by decide)
                            have x2 := hXw 2 (by decide)
                            have x3 := hXw 3 (by decide)
                            rw [e0] at x0
                            rw [e1] at x1
                            rw [e2] at x2
                            rw [e3] at x3
                            clear e0 e1 e2 e3 hvx
                            obtain ⟨V, hV⟩ : ∃ V, wr.alloc (.cells #[.int .i64 x.kd, .string x.tx, .slice ax nx cx, .slice bx mx dx] 42) = V := ⟨_, rfl⟩
                            have hbV : Below wr.heap.size wr V := by rw [← hV]; exact (Below.refl _ _).alloc (Nat.le_refl _) _
                            have hVn : V.heap[wr.heap.size]? = some (.cells #[.int .i64 x.kd, .string x.tx, .slice ax nx cx, .slice bx mx dx] 42 (0, 0)) := by rw [← hV]; exact heap_alloc_at _ _ _ rfl
                            obtain ⟨gv, hgv⟩ : ∃ gv, wr.heap.size = gv := ⟨_, rfl⟩
                            have p0 : V.cell? ⟨gv, 0, none⟩ = some (.int .i64 x.kd) := by rw [← hgv, cells_at hVn 0]; rfl
                            have p1 : V.cell? ⟨gv, 1, none⟩ = some (.string x.tx) := by rw [← hgv, cells_at hVn 1]; rfl
                            have p2 : V.cell? ⟨gv, 2, none⟩ = some (.slice ax nx cx) := by rw [← hgv, cells_at hVn 2]; rfl
                            have p3 : V.cell? ⟨gv, 3, none⟩ = some (.slice bx mx dx) := by rw [← hgv, cells_at hVn 3]; rfl
                            have hwB : B + 1 ≤ wr.heap.size := by rw [← HS1.out]; exact hbw.size
                            have HbV : Hid (∀ V', Below V.heap.size V V' → Below (B + 1) W1 V') := fun V' h => hbw.trans ((hbV.trans (h.mono hbV.size)).mono hwB)
                            have HD : Hid (DAt V x (.agg #[.int .i64 x.kd, .string x.tx, .slice ax nx cx, .slice bx mx dx])) := hdj.under (hw0.trans (hbV.mono hw0.size))
                            clear hVn hXw hw0 hbV hdj hwB
                            have HI : Hid (Calls Tryd.prog 35 #[.agg #[.int .i64 x.kd, .string x.tx, .slice ax nx cx, .slice bx mx dx], .int .i64 (n : Int)] V fun r w' => Ans r (x.mayN n) ∧ Hid (Below V.heap.size V w')) := IH.out x _ n V hsz1 HD.out hsz2' hnn1
                            clear hsz1 hsz2'
                            go_wp2_with fail
                            refine HI.out.mono ?_
                            rintro r w3 ⟨⟨q, rfl, hq⟩, hb3⟩
                            cases q
                            · have HA : Hid (¬ (goodL (l ++ m) ∧ depL (l ++ m) ≤ n)) := Lm.no (fun p => by have := hq.2 p; cases this) hjl hx
                              have hb : Hid (Below w.heap.size w w3) := (HV.out _ (HbV.out _ hb3.out)).1
                              clear HL hx hq hbw
                              go_wp2
                              go_ret
                              exact ⟨Ans.no (fun p => HA.out (HM.out.1 p)), hb⟩
                            · have HS : Hid (Lm B n W1 (l ++ m.take (j + 1)) w3) := ⟨HbV.out _ hb3.out, by
                                obtain ⟨h1, h2⟩ := hq.1 rfl
                                have e := HL.out.2
                                rw [take_snoc _ _ hjl, hx, ← List.append_assoc, depL_app, goodL_app]
                                exact ⟨⟨e.1, h1⟩, by omega⟩⟩
                              clear HL hx hbw hq
                              go_wp2
                              go_roundw
                              case rel => exact ⟨j + 1, by go_num, by omega, HS⟩
                              case measure => simp [intOf]; omega
                          · obtain rfl : j = n2 := by omega
                            have HQ : Hid (Lm B n W1 (l ++ m) wr) := by have := HL.out; rw [← hn2, List.take_length] at this; exact this
                            have hv3 := (HV.out wr HQ.out.1).2
                            clear HL
                            have HA : Hid ((goodL (l ++ m) ∧ depL (l ++ m) ≤ n)) := HQ.out.2
                            have hb : Hid (Below w.heap.size w wr) := (HV.out wr HQ.out.1).1
                            clear HQ
                            go_wp2
                            go_ret
                            exact ⟨Ans.yes (HM.out.2 HA.out), hb⟩
              · have g3 : (1 : Int) < (n2 : Int) := by omega
                have HA : Hid (¬ (Dt.node 5 t l m).mayN (n + 1)) := NO.out (by
                  rintro (⟨_, _, h⟩ | ⟨h, _⟩ | ⟨h, _⟩)
                  · rcases h with h | ⟨y, h, _⟩
                    · exact e2 (hm0.1 h)
                    · rw [h] at hn2
                      exact e3 hn2.symm
                  · cases h
                  · exact h rfl)
                have f1 : ((n1 : Int) == 0) = true ∨ ((n1 : Int) == 0) = false := by cases ((n1 : Int) == 0) <;> simp
                clear hX hcc hl0 hm0 HI NO HF e2 e3 ht0 hl hm ra rb hN hs
                rcases f1 with f1 | f1
                all_goals
                  go_enter Tryd.func35, Tryd.ntmps35
                  go_wp2
                  go_ret
                  exact ⟨Ans.no HA.out, HW1⟩
            · have HA : Hid (¬ (Dt.node 6 t l m).mayN (n + 1)) := NO.out (by
                rintro (⟨h, _⟩ | ⟨_, _, h⟩ | ⟨_, h, _⟩)
                · cases h
                · exact e2 (hm0.1 h)
                · exact h rfl)
              have f1 : ((n1 : Int) == 0) = true ∨ ((n1 : Int) == 0) = false := by cases ((n1 : Int) == 0) <;> simp
              clear hX hcc hl0 hm0 HI NO HF e2 ht0 hl hm ra rb hN hs
              rcases f1 with f1 | f1
              all_goals
                go_enter Tryd.func35, Tryd.ntmps35
                go_wp2
                go_ret
                exact ⟨Ans.no HA.out, HW1⟩
end Go.Proofs.YtpjgdpfpgpaenaaDoor
