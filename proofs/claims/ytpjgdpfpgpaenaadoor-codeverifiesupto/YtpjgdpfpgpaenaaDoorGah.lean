/-
  Data as trees: how deep, how many, whether they may be; how they lie in memory.
  Contract of datum's fits.
-/
import Derived.Test.YtpjgdpfpgpaenaaDoorGag
namespace Go.Proofs.YtpjgdpfpgpaenaaDoor
open Go.RowKit
set_option linter.unusedVariables false

/-- A datum: kind, text, items, and what stands behind the dot. -/
inductive Dt where
  | node (k : Int) (t : ByteArray) (l m : List Dt)
def Dt.kd : Dt → Int
  | .node k _ _ _ => k
def Dt.tx : Dt → ByteArray
  | .node _ t _ _ => t
/-- A list or a vector. -/
def sqB (k : Int) : Bool := k == 5 || k == 6
mutual
def Dt.dep : Dt → Nat
  | .node k _ l m => if sqB k then 1 + max (depL l) (depL m) else 0
def depL : List Dt → Nat
  | [] => 0
  | x :: r => max x.dep (depL r)
end
mutual
def Dt.siz : Dt → Nat
  | .node _ _ l m => 1 + (sizL l + sizL m)
def sizL : List Dt → Nat
  | [] => 0
  | x :: r => x.siz + sizL r
end
mutual
/-- Data and letters in all. -/
def Dt.wt : Dt → Nat
  | .node _ t l m => 1 + t.size + (wtL l + wtL m)
def wtL : List Dt → Nat
  | [] => 0
  | x :: r => x.wt + wtL r
end
def textP (k : Int) (t : ByteArray) : Prop := (k = 1 ∧ canP t.data.toList) ∨ (k = 2 ∧ ((t.toList == [35, 116]) || (t.toList == [35, 102])) = true) ∨ k = 3 ∨ (k = 4 ∧ nameP t)
def tailP (l m : List Dt) : Prop := m = [] ∨ ∃ x, m = [x] ∧ l ≠ [] ∧ x.kd ≠ 5
/-- Its own fields are as its kind asks. -/
def fitP (k : Int) (t : ByteArray) (l m : List Dt) : Prop := (k = 5 ∧ t.size = 0 ∧ tailP l m) ∨ (k = 6 ∧ t.size = 0 ∧ m = []) ∨ (k ≠ 5 ∧ k ≠ 6 ∧ l = [] ∧ m = [] ∧ textP k t)
mutual
def Dt.good : Dt → Prop
  | .node k t l m => fitP k t l m ∧ goodL l ∧ goodL m
def goodL : List Dt → Prop
  | [] => True
  | x :: r => x.good ∧ goodL r
end
theorem depL_app : ∀ (l : List Dt) (x : Dt), depL (l ++ [x]) = max (depL l) x.dep
  | [], x => by simp [depL]
  | y :: r, x => by
    show max y.dep (depL (r ++ [x])) = max (max y.dep (depL r)) x.dep
    rw [depL_app r x]; omega
theorem sizL_app : ∀ (l : List Dt) (x : Dt), sizL (l ++ [x]) = sizL l + x.siz
  | [], x => by simp [sizL]
  | y :: r, x => by
    show y.siz + sizL (r ++ [x]) = y.siz + sizL r + x.siz
    rw [sizL_app r x]; omega
theorem goodL_app : ∀ (l : List Dt) (x : Dt), goodL (l ++ [x]) ↔ goodL l ∧ x.good
  | [], x => by simp [goodL]
  | y :: r, x => by
    show (y.good ∧ goodL (r ++ [x])) ↔ ((y.good ∧ goodL r) ∧ x.good)
    rw [goodL_app r x]
    exact and_assoc.symm
theorem take_snoc {α : Type} (l : List α) (j : Nat) (h : j < l.length) : l.take (j + 1) = l.take j ++ [l[j]] := by rw [List.take_append_getElem]
theorem goodL_mem {l : List Dt} (h : goodL l) (j : Nat) (hj : j < l.length) : l[j].good := by
  induction l generalizing j with
  | nil => simp at hj
  | cons x r ih =>
    cases j with
    | zero => exact h.1
    | succ j => exact ih h.2 j (by simpa using hj)
theorem depL_mem {l : List Dt} (j : Nat) (hj : j < l.length) : l[j].dep ≤ depL l := by
  induction l generalizing j with
  | nil => simp at hj
  | cons x r ih =>
    cases j with
    | zero => show x.dep ≤ max x.dep _; omega
    | succ j =>
      have hj' : j < r.length := by simpa using hj
      have := ih j hj'
      show r[j].dep ≤ max x.dep (depL r)
      omega
theorem sizL_mem {l : List Dt} (j : Nat) (hj : j < l.length) : l[j].siz ≤ sizL l := by
  induction l generalizing j with
  | nil => simp at hj
  | cons x r ih =>
    cases j with
    | zero => show x.siz ≤ x.siz + _; omega
    | succ j =>
      have hj' : j < r.length := by simpa using hj
      have := ih j hj'
      show r[j].siz ≤ x.siz + sizL r
      omega
theorem sizL_take (l : List Dt) (j : Nat) : sizL (l.take j) ≤ sizL l := by
  induction l generalizing j with
  | nil => simp
  | cons x r ih =>
    cases j with
    | zero => exact Nat.zero_le _
    | succ j =>
      have := ih j
      show x.siz + sizL (r.take j) ≤ x.siz + sizL r
      omega
theorem siz_l (k : Int) (t : ByteArray) (l m : List Dt) (j : Nat) (h : j < l.length) : l[j].siz < (Dt.node k t l m).siz := by
  have := sizL_mem j h
  show _ < 1 + (sizL l + sizL m)
  omega
theorem siz_m (k : Int) (t : ByteArray) (l m : List Dt) (j : Nat) (h : j < m.length) : m[j].siz < (Dt.node k t l m).siz := by
  have := sizL_mem j h
  show _ < 1 + (sizL l + sizL m)
  omega
/-- A row of data in memory. -/
def RowAt (w : World) (a : Option Addr) (n : Nat) (X : Nat → Nat → Value) : Prop := 0 < n → ∃ g o, a = some ⟨g, o, none⟩ ∧ ∀ j, j < n → ∀ i, i < 4 → w.cell? ⟨g, o + j * 4 + i, none⟩ = some (X j i)
theorem RowAt.below {w w' : World} {a : Option Addr} {n : Nat} {X : Nat → Nat → Value} (h : RowAt w a n X) (hb : Below w.heap.size w w') : RowAt w' a n X := fun hn => by
  obtain ⟨g, o, h1, h2⟩ := h hn
  exact ⟨g, o, h1, fun j hj i hi => (hb.cell (World.block_lt_of_cell? w _ (h2 j hj i hi))).trans (h2 j hj i hi)⟩
def vx (X : Nat → Nat → Value) (j : Nat) : Value := .agg #[X j 0, X j 1, X j 2, X j 3]
/-- A datum in memory. -/
inductive DAt (w : World) : Dt → Value → Prop
  | mk (k : Int) (t : ByteArray) (l m : List Dt) (a b : Option Addr) (c c2 : Nat) (X Y : Nat → Nat → Value)
    (hl : ∀ j (h : j < l.length), DAt w l[j] (vx X j)) (hm : ∀ j (h : j < m.length), DAt w m[j] (vx Y j))
    (ra : RowAt w a l.length X) (rb : RowAt w b m.length Y)
    (sz : l.length ≤ c ∧ c ≤ 9223372036854775807 ∧ m.length ≤ c2 ∧ c2 ≤ 9223372036854775807 ∧ t.size ≤ 140737488355328) :
    DAt w (.node k t l m) (.agg #[.int .i64 k, .string t, .slice a l.length c, .slice b m.length c2])
theorem DAt.under {w w' : World} {d : Dt} {v : Value} (h : DAt w d v) (hb : Below w.heap.size w w') : DAt w' d v := by
  induction h with
  | mk k t l m a b c c2 X Y hl hm ra rb sz ih1 ih2 => exact .mk k t l m a b c c2 X Y ih1 ih2 (ra.below hb) (rb.below hb) sz
/-- An element's fields. -/
theorem DAt.form {w : World} {d : Dt} {X : Nat → Nat → Value} {j : Nat} (h : DAt w d (vx X j)) : ∃ a n c b n2 c2, X j 0 = .int .i64 d.kd ∧ X j 1 = .string d.tx ∧ X j 2 = .slice a n c ∧ X j 3 = .slice b n2 c2 := by
  generalize hv : vx X j = v at h
  cases h with
  | mk k t l m a b c c2 X' Y hl hm ra rb sz =>
    unfold vx at hv
    injection hv with hv
    have h0 := congrArg (fun z => z[0]?) hv
    have h1 := congrArg (fun z => z[1]?) hv
    have h2 := congrArg (fun z => z[2]?) hv
    have h3 := congrArg (fun z => z[3]?) hv
    simp at h0 h1 h2 h3
    exact ⟨a, _, c, b, _, c2, h0, h1, h2, h3⟩
end Go.Proofs.YtpjgdpfpgpaenaaDoor

namespace Go.Proofs.YtpjgdpfpgpaenaaDoor
open Go.RowKit
set_option linter.unusedVariables false

theorem dt_text (k : Int) (t : ByteArray) (a b : Option Addr) (n c n2 c2 : Nat) (w : World) : Calls Tryd.prog 50 #[.agg #[.int .i64 k, .string t, .slice a n c, .slice b n2 c2]] w fun e w' => Ans e (textP k t) ∧ Hid (Below w.heap.size w w') := by
  obtain ⟨W0, hW⟩ : ∃ W0, w.alloc (.cells #[.int .i64 k, .string t, .slice a n c, .slice b n2 c2] 42) = W0 := ⟨_, rfl⟩
  have hb0 : Below w.heap.size w W0 := by rw [← hW]; exact (Below.refl _ w).alloc (Nat.le_refl _) _
  have h00 : W0.heap[w.heap.size]? = some (.cells #[.int .i64 k, .string t, .slice a n c, .slice b n2 c2] 42 (0, 0)) := by rw [← hW]; exact heap_alloc_at _ _ _ rfl
  obtain ⟨B, hB⟩ : ∃ B, w.heap.size = B := ⟨_, rfl⟩
  have c0 : W0.cell? ⟨B, 0, none⟩ = some (.int .i64 k) := by rw [hB] at h00; rw [cells_at h00 0]; rfl
  have c1 : W0.cell? ⟨B, 1, none⟩ = some (.string t) := by rw [hB] at h00; rw [cells_at h00 1]; rfl
  have HB : Hid (Below w.heap.size w W0) := hb0
  have HN : Hid (Calls Tryd.prog 52 #[.string t] W0 fun e w' => Ans e (canP t.data.toList) ∧ w' = W0) := nCan t W0
  have HT : Hid (Calls Tryd.prog 53 #[.string t] W0 fun e w' => e = .returned (.bool ((t.toList == [35, 116]) || (t.toList == [35, 102]))) ∧ w' = W0) := dt_truth t W0
  have HM : Hid (Calls Tryd.prog 54 #[.string t] W0 fun e w' => Ans e (nameP t) ∧ Hid (Below W0.heap.size W0 w')) := dt_name t W0
  clear h00 hb0
  by_cases h1 : k = 1
  · subst h1
    have hp : Hid (textP 1 t ↔ canP t.data.toList) := by
      unfold textP
      constructor
      · rintro (⟨_, h⟩ | ⟨h, _⟩ | h | ⟨h, _⟩)
        · exact h
        · cases h
        · cases h
        · cases h
      · exact fun h => .inl ⟨rfl, h⟩
    go_enter Tryd.func50, Tryd.ntmps50
    go_wp2_with fail
    try rw [hW]
    try rw [hB]
    go_wp2_with fail
    refine HN.out.mono ?_
    rintro r w1 ⟨⟨q, rfl, hq⟩, hw⟩
    obtain rfl : W0 = w1 := hw.symm
    go_wp2
    go_ret
    exact ⟨⟨q, rfl, hq.trans hp.out.symm⟩, HB⟩
  · by_cases h2 : k = 2
    · subst h2
      have hp : Hid (textP 2 t ↔ ((t.toList == [35, 116]) || (t.toList == [35, 102])) = true) := by
        unfold textP
        constructor
        · rintro (⟨h, _⟩ | ⟨_, h⟩ | h | ⟨h, _⟩)
          · cases h
          · exact h
          · cases h
          · cases h
        · exact fun h => .inr (.inl ⟨rfl, h⟩)
      generalize ((t.toList == [35, 116]) || (t.toList == [35, 102])) = tb at HT hp
      clear h1
      go_enter Tryd.func50, Tryd.ntmps50
      go_wp2_with fail
      try rw [hW]
      try rw [hB]
      go_wp2_with fail
      refine HT.out.mono ?_
      rintro r w1 ⟨rfl, hw⟩
      obtain rfl : W0 = w1 := hw.symm
      go_wp2
      go_ret
      exact ⟨⟨tb, rfl, hp.out.symm⟩, HB⟩
    · by_cases h3 : k = 3
      · subst h3
        have hp : Hid (textP 3 t) := .inr (.inr (.inl rfl))
        clear h1 h2
        go_enter Tryd.func50, Tryd.ntmps50
        go_wp2_with fail
        try rw [hW]
        try rw [hB]
        go_wp2
        go_ret
        exact ⟨Ans.yes hp.out, by first | exact HB | (rw [← hB]; exact HB)⟩
      · by_cases h4 : k = 4
        · subst h4
          have hp : Hid (textP 4 t ↔ nameP t) := by
            unfold textP
            constructor
            · rintro (⟨h, _⟩ | ⟨h, _⟩ | h | ⟨_, h⟩)
              · cases h
              · cases h
              · cases h
              · exact h
            · exact fun h => .inr (.inr (.inr ⟨rfl, h⟩))
          clear h1 h2 h3
          go_enter Tryd.func50, Tryd.ntmps50
          go_wp2_with fail
          try rw [hW]
          try rw [hB]
          go_wp2_with fail
          refine HM.out.mono ?_
          rintro r w1 ⟨⟨q, rfl, hq⟩, hb1⟩
          go_wp2
          go_ret
          exact ⟨⟨q, rfl, hq.trans hp.out.symm⟩, HB.out.trans (hb1.out.mono HB.out.size)⟩
        · have hp : Hid (¬ textP k t) := by
            unfold textP
            rintro (⟨h, _⟩ | ⟨h, _⟩ | h | ⟨h, _⟩) <;> contradiction
          have d1 : (k == 1) = false := by simpa using h1
          have d2 : (k == 2) = false := by simpa using h2
          have d3 : (k == 3) = false := by simpa using h3
          have d4 : (k == 4) = false := by simpa using h4
          clear h1 h2 h3 h4
          go_enter Tryd.func50, Tryd.ntmps50
          go_wp2_with fail
          try rw [hW]
          try rw [hB]
          go_wp2
          go_ret
          exact ⟨Ans.no hp.out, by first | exact HB | (rw [← hB]; exact HB)⟩
/-- What stands behind the dot, in memory. -/
theorem dt_tail {k : Int} {t : ByteArray} {l m : List Dt} {a b : Option Addr} {n1 n2 c c2 : Nat} {w : World} (hn1 : l.length = n1) (hn2 : m.length = n2) (h : DAt w (.node k t l m) (.agg #[.int .i64 k, .string t, .slice a n1 c, .slice b n2 c2])) : Calls Tryd.prog 49 #[.agg #[.int .i64 k, .string t, .slice a n1 c, .slice b n2 c2]] w fun e w' => Ans e (tailP l m) ∧ Hid (Below w.heap.size w w') := by
  obtain ⟨W0, hW⟩ : ∃ W0, w.alloc (.cells #[.int .i64 k, .string t, .slice a n1 c, .slice b n2 c2] 42) = W0 := ⟨_, rfl⟩
  have hb0 : Below w.heap.size w W0 := by rw [← hW]; exact (Below.refl _ w).alloc (Nat.le_refl _) _
  have h00 : W0.heap[w.heap.size]? = some (.cells #[.int .i64 k, .string t, .slice a n1 c, .slice b n2 c2] 42 (0, 0)) := by rw [← hW]; exact heap_alloc_at _ _ _ rfl
  obtain ⟨B, hB⟩ : ∃ B, w.heap.size = B := ⟨_, rfl⟩
  have c2' : W0.cell? ⟨B, 2, none⟩ = some (.slice a n1 c) := by rw [hB] at h00; rw [cells_at h00 2]; rfl
  have c3 : W0.cell? ⟨B, 3, none⟩ = some (.slice b n2 c2) := by rw [hB] at h00; rw [cells_at h00 3]; rfl
  have HB : Hid (Below w.heap.size w W0) := hb0
  have h' := h.under hb0
  have hX : m.length = 1 → ∃ g o x, b = some ⟨g, o, none⟩ ∧ m = [x] ∧ W0.cell? ⟨g, o, none⟩ = some (.int .i64 x.kd) := fun hm => by
    cases h' with
    | mk _ _ _ _ _ _ _ _ X Y hl hmm ra rb sz =>
      obtain ⟨g, o, e1, e2⟩ := rb (by omega)
      obtain ⟨x, hx⟩ := List.length_eq_one_iff.1 hm
      have hk := (hmm 0 (by omega)).form
      obtain ⟨_, _, _, _, _, _, hk, _⟩ := hk
      have hc := e2 0 (by omega) 0 (by decide)
      rw [hk] at hc
      refine ⟨g, o, x, e1, hx, ?_⟩
      subst hx
      simpa using hc
  have hl0 : l = [] ↔ n1 = 0 := by rw [← hn1]; exact List.length_eq_zero_iff.symm
  have hm0 : m = [] ↔ n2 = 0 := by rw [← hn2]; exact List.length_eq_zero_iff.symm
  have hsz : 1 ≤ n2 → 1 ≤ c2 ∧ (n2 : Int) ≤ (c2 : Int) ∧ (c2 : Int) ≤ 9223372036854775807 := by
    cases h with
    | mk _ _ _ _ _ _ _ _ X Y hl hmm ra rb sz => omega
  clear h h' h00 hb0
  by_cases h0 : n2 = 0
  · have hp : Hid (tailP l m) := .inl (hm0.2 h0)
    have d0 : ((n2 : Int) == 0) = true := by simpa using h0
    clear hX hl0 hm0 hsz h0
    go_enter Tryd.func49, Tryd.ntmps49
    go_wp2_with fail
    try rw [hW]
    try rw [hB]
    go_wp2
    go_ret
    exact ⟨Ans.yes hp.out, by first | exact HB | (rw [← hB]; exact HB) | (rw [hW]; exact HB)⟩
  · have d0 : ((n2 : Int) == 0) = false := by simpa using h0
    by_cases h1 : n2 = 1
    · obtain ⟨g, o, x, rfl, rfl, cx⟩ := hX (by omega)
      have hp : Hid (tailP l [x] ↔ (0 < n1 ∧ x.kd ≠ 5)) := by
        unfold tailP
        constructor
        · rintro (h | ⟨y, h, hl, hk⟩)
          · cases h
          · injection h with h
            subst h
            exact ⟨by have := mt hl0.2 hl; omega, hk⟩
        · rintro ⟨h, hk⟩
          exact .inr ⟨x, rfl, fun e => by have := hl0.1 e; omega, hk⟩
      generalize x.kd = kx at hp cx
      have d1 : ((n2 : Int) == 1) = true := by rw [h1]; rfl
      obtain ⟨s1, s2, s3⟩ := hsz (by omega)
      have l2 : (0 : Int) < (n2 : Int) := by omega
      by_cases h2 : 0 < n1
      · have d2 : (0 : Int) < (n1 : Int) := by omega
        by_cases h3 : kx = 5
        · have d3 : (kx != 5) = false := by rw [h3]; rfl
          have hn : Hid (¬ tailP l [x]) := fun p => (hp.out.1 p).2 h3
          clear hX hl0 hm0 hsz h0 h1 h2 h3 hp
          go_enter Tryd.func49, Tryd.ntmps49
          go_wp2_with fail
          try rw [hW]
          try rw [hB]
          go_wp2
          go_ret
          exact ⟨Ans.no hn.out, by first | exact HB | (rw [← hB]; exact HB) | (rw [hW]; exact HB)⟩
        · have d3 : (kx != 5) = true := by simp [h3]
          have hn : Hid (tailP l [x]) := hp.out.2 ⟨h2, h3⟩
          clear hX hl0 hm0 hsz h0 h1 h2 h3 hp
          go_enter Tryd.func49, Tryd.ntmps49
          go_wp2_with fail
          try rw [hW]
          try rw [hB]
          go_wp2
          go_ret
          exact ⟨Ans.yes hn.out, by first | exact HB | (rw [← hB]; exact HB) | (rw [hW]; exact HB)⟩
      · have d2 : ¬ (0 : Int) < (n1 : Int) := by omega
        have hn : Hid (¬ tailP l [x]) := fun p => h2 (hp.out.1 p).1
        clear hX hl0 hm0 hsz h0 h1 h2 hp
        go_enter Tryd.func49, Tryd.ntmps49
        go_wp2_with fail
        try rw [hW]
        try rw [hB]
        go_wp2
        go_ret
        exact ⟨Ans.no hn.out, by first | exact HB | (rw [← hB]; exact HB) | (rw [hW]; exact HB)⟩
    · have d1 : ((n2 : Int) == 1) = false := by simp; omega
      have hn : Hid (¬ tailP l m) := by
        rintro (h | ⟨x, h, _⟩)
        · exact h0 (hm0.1 h)
        · rw [h] at hn2
          exact h1 hn2.symm
      clear hX hl0 hm0 hsz h0 h1
      go_enter Tryd.func49, Tryd.ntmps49
      go_wp2_with fail
      try rw [hW]
      try rw [hB]
      go_wp2
      go_ret
      exact ⟨Ans.no hn.out, by first | exact HB | (rw [← hB]; exact HB) | (rw [hW]; exact HB)⟩
/-- A datum's own fields are as its kind asks. -/
theorem dt_fits {k : Int} {t : ByteArray} {l m : List Dt} {a b : Option Addr} {n1 n2 c c2 : Nat} {w : World} (hn1 : l.length = n1) (hn2 : m.length = n2) (h : DAt w (.node k t l m) (.agg #[.int .i64 k, .string t, .slice a n1 c, .slice b n2 c2])) : Calls Tryd.prog 45 #[.agg #[.int .i64 k, .string t, .slice a n1 c, .slice b n2 c2]] w fun e w' => Ans e (fitP k t l m) ∧ Hid (Below w.heap.size w w') := by
  obtain ⟨W0, hW⟩ : ∃ W0, w.alloc (.cells #[.int .i64 k, .string t, .slice a n1 c, .slice b n2 c2] 42) = W0 := ⟨_, rfl⟩
  have hb0 : Below w.heap.size w W0 := by rw [← hW]; exact (Below.refl _ w).alloc (Nat.le_refl _) _
  have h00 : W0.heap[w.heap.size]? = some (.cells #[.int .i64 k, .string t, .slice a n1 c, .slice b n2 c2] 42 (0, 0)) := by rw [← hW]; exact heap_alloc_at _ _ _ rfl
  obtain ⟨B, hB⟩ : ∃ B, w.heap.size = B := ⟨_, rfl⟩
  rw [hB] at h00
  have c0 : W0.cell? ⟨B, 0, none⟩ = some (.int .i64 k) := by rw [cells_at h00 0]; rfl
  have c1 : W0.cell? ⟨B, 1, none⟩ = some (.string t) := by rw [cells_at h00 1]; rfl
  have c2' : W0.cell? ⟨B, 2, none⟩ = some (.slice a n1 c) := by rw [cells_at h00 2]; rfl
  have c3 : W0.cell? ⟨B, 3, none⟩ = some (.slice b n2 c2) := by rw [cells_at h00 3]; rfl
  have HB : Hid (Below w.heap.size w W0) := hb0
  have HT : Hid (Calls Tryd.prog 49 #[.agg #[.int .i64 k, .string t, .slice a n1 c, .slice b n2 c2]] W0 fun e w' => Ans e (tailP l m) ∧ Hid (Below W0.heap.size W0 w')) := dt_tail hn1 hn2 (h.under hb0)
  have HX : Hid (Calls Tryd.prog 50 #[.agg #[.int .i64 k, .string t, .slice a n1 c, .slice b n2 c2]] W0 fun e w' => Ans e (textP k t) ∧ Hid (Below W0.heap.size W0 w')) := dt_text k t a b n1 c n2 c2 W0
  have hl0 : l = [] ↔ n1 = 0 := by rw [← hn1]; exact List.length_eq_zero_iff.symm
  have hm0 : m = [] ↔ n2 = 0 := by rw [← hn2]; exact List.length_eq_zero_iff.symm
  clear h h00 hb0
  have hz : t.toList.isEmpty = true ↔ t.size = 0 := by
    by_cases h : 0 < t.size
    · rw [notEmpty_of t h]; exact ⟨fun e => (by cases e), fun e => (by omega)⟩
    · rw [isEmpty_of t h]; exact ⟨fun _ => (by omega), fun _ => rfl⟩
  by_cases h5 : k = 5
  · have hp : Hid (fitP k t l m ↔ (t.size = 0 ∧ tailP l m)) := by
      unfold fitP
      constructor
      · rintro (⟨_, h⟩ | ⟨h, _⟩ | ⟨h, _⟩)
        · exact h
        · rw [h5] at h; cases h
        · exact absurd h5 h
      · exact fun h => .inl ⟨h5, h⟩
    have d5 : (k == 5) = true := by simpa using h5
    cases hte : t.toList.isEmpty
    · have hn : Hid (¬ fitP k t l m) := fun p => by rw [hz.2 (hp.out.1 p).1] at hte; cases hte
      clear h5 hp hz hl0 hm0
      go_enter Tryd.func45, Tryd.ntmps45
      go_wp2_with fail
      try rw [hW]
      try rw [hB]
      go_wp2
      go_ret
      exact ⟨Ans.no hn.out, by first | exact HB | (rw [← hB]; exact HB) | (rw [hW]; exact HB)⟩
    · have hp2 : Hid (fitP k t l m ↔ tailP l m) := hp.out.trans (and_iff_right (hz.1 hte))
      clear h5 hp hz hl0 hm0
      go_enter Tryd.func45, Tryd.ntmps45
      go_wp2_with fail
      try rw [hW]
      try rw [hB]
      go_wp2_with fail
      refine HT.out.mono ?_
      rintro r w1 ⟨⟨q, rfl, hq⟩, hb1⟩
      have hq : Hid (q = true ↔ tailP l m) := hq
      go_wp2
      go_ret
      exact ⟨⟨q, rfl, hq.out.trans hp2.out.symm⟩, HB.out.trans (hb1.out.mono HB.out.size)⟩
  · have d5 : (k == 5) = false := by simpa using h5
    by_cases h6 : k = 6
    · have hp : Hid (fitP k t l m ↔ (t.size = 0 ∧ m = [])) := by
        unfold fitP
        constructor
        · rintro (⟨h, _⟩ | ⟨_, h⟩ | ⟨_, h, _⟩)
          · exact absurd h h5
          · exact h
          · exact absurd h6 h
        · exact fun h => .inr (.inl ⟨h6, h⟩)
      have d6 : (k == 6) = true := by simpa using h6
      cases hte : t.toList.isEmpty
      · have hn : Hid (¬ fitP k t l m) := fun p => by rw [hz.2 (hp.out.1 p).1] at hte; cases hte
        clear h5 h6 hp hz hl0 hm0
        go_enter Tryd.func45, Tryd.ntmps45
        go_wp2_with fail
        try rw [hW]
        try rw [hB]
        go_wp2
        go_ret
        exact ⟨Ans.no hn.out, by first | exact HB | (rw [← hB]; exact HB) | (rw [hW]; exact HB)⟩
      · have hp2 : Hid (((n2 : Int) == 0) = true ↔ fitP k t l m) := by
          refine Iff.trans ?_ hp.out.symm
          constructor
          · exact fun h => ⟨hz.1 hte, hm0.2 (by simpa using h)⟩
          · exact fun h => by simpa using hm0.1 h.2
        clear h5 h6 hp hz hl0 hm0
        go_enter Tryd.func45, Tryd.ntmps45
        go_wp2_with fail
        try rw [hW]
        try rw [hB]
        go_wp2
        go_ret
        exact ⟨⟨_, rfl, hp2.out⟩, by first | exact HB | (rw [← hB]; exact HB) | (rw [hW]; exact HB)⟩
    · have d6 : (k == 6) = false := by simpa using h6
      have hp : Hid (fitP k t l m ↔ (n1 = 0 ∧ n2 = 0 ∧ textP k t)) := by
        unfold fitP
        constructor
        · rintro (⟨h, _⟩ | ⟨h, _⟩ | ⟨_, _, h1, h2, h3⟩)
          · exact absurd h h5
          · exact absurd h h6
          · exact ⟨hl0.1 h1, hm0.1 h2, h3⟩
        · exact fun h => .inr (.inr ⟨h5, h6, hl0.2 h.1, hm0.2 h.2.1, h.2.2⟩)
      clear h5 h6 hz hl0 hm0
      by_cases g1 : n1 = 0
      · have d1 : ((n1 : Int) == 0) = true := by rw [g1]; rfl
        by_cases g2 : n2 = 0
        · have d2 : ((n2 : Int) == 0) = true := by rw [g2]; rfl
          have hp2 : Hid (fitP k t l m ↔ textP k t) := hp.out.trans ⟨fun h => h.2.2, fun h => ⟨g1, g2, h⟩⟩
          clear g1 g2 hp
          go_enter Tryd.func45, Tryd.ntmps45
          go_wp2_with fail
          try rw [hW]
          try rw [hB]
          go_wp2_with fail
          refine HX.out.mono ?_
          rintro r w1 ⟨⟨q, rfl, hq⟩, hb1⟩
          have hq : Hid (q = true ↔ textP k t) := hq
          go_wp2
          go_ret
          exact ⟨⟨q, rfl, hq.out.trans hp2.out.symm⟩, HB.out.trans (hb1.out.mono HB.out.size)⟩
        · have d2 : ((n2 : Int) == 0) = false := by simp; omega
          have hn : Hid (¬ fitP k t l m) := fun p => g2 (hp.out.1 p).2.1
          clear g1 g2 hp
          go_enter Tryd.func45, Tryd.ntmps45
          go_wp2_with fail
          try rw [hW]
          try rw [hB]
          go_wp2
          go_ret
          exact ⟨Ans.no hn.out, by first | exact HB | (rw [← hB]; exact HB) | (rw [hW]; exact HB)⟩
      · have d1 : ((n1 : Int) == 0) = false := by simp; omega
        have hn : Hid (¬ fitP k t l m) := fun p => g1 (hp.out.1 p).1
        clear g1 hp
        go_enter Tryd.func45, Tryd.ntmps45
        go_wp2_with fail
        try rw [hW]
        try rw [hB]
        go_wp2
        go_ret
        exact ⟨Ans.no hn.out, by first | exact HB | (rw [← hB]; exact HB) | (rw [hW]; exact HB)⟩
end Go.Proofs.YtpjgdpfpgpaenaaDoor
