/-
  A manager's state with one transaction changed; transaction.add.
  transaction.add.
-/
import Derived.Test.YthfokciijcmhbaaGreatDoorGbh
import Derived.Deep.AppendLies
import Derived.Deep.RegionHeld3
namespace Go.Proofs.YthfokciijcmhbaaGreatDoor
open Go.RowKit
set_option linter.unusedVariables false

variable {B0 : Nat} {P P' : Nat → Prop} {w w' : World} {Z S L la N : Nat} {g : Int} {T : Nat → Tr}
theorem ty_same {w : World} {q : Nat} {c1 c2 : Array Value} {t1 t2 : TypeId} {z1 z2 : Nat × Nat} (h1 : w.heap[q]? = some (.cells c1 t1 z1)) (h2 : w.heap[q]? = some (.cells c2 t2 z2)) : t1 = t2 := by
  rw [h1] at h2
  injection h2 with h2
  injection h2
/-- The blocks of one transaction. -/
def TrB (x : Tr) (b : Nat) : Prop := b = x.b ∨ x.pv.ownBlock = some b ∨ x.uv.ownBlock = some b
def updT (T : Nat → Tr) (i : Nat) (x : Tr) : Nat → Tr := fun j => if j = i then x else T j
theorem updT_same (T : Nat → Tr) (i : Nat) (x : Tr) : updT T i x i = x := if_pos rfl
theorem updT_other (T : Nat → Tr) {i j : Nat} (x : Tr) (h : j ≠ i) : updT T i x j = T j := if_neg h
set_option maxRecDepth 100000 in
theorem Mt.newT (k : Mt B0 P w Z S L g la N T) (hlt : ∀ b, P b → b < w.heap.size) (i : Nat) (hi : i < N) (x : Tr) (hb : x.b = (T i).b) (hn : x.no = (T i).no) (hp : Part (TrB (T i)) w w') (h1 : w'.heap[x.b]? = some (trO x)) (h2 : w'.ownsRow B0 3 1 x.pv x.ps.length (psL x.ps)) (h3 : w'.ownsRow B0 163 8 x.uv x.us.length (usL x.no x.us)) (h4 : ∀ q, x.pv.ownBlock = some q → (T i).pv.ownBlock = some q ∨ w.heap.size ≤ q) (h5 : ∀ q, x.uv.ownBlock = some q → (T i).uv.ownBlock = some q ∨ w.heap.size ≤ q) (hs : x.ps.length ≤ 1000 ∧ x.us.length ≤ 1000) : Mt B0 P w' Z S L g la N (updT T i x) ∧ Part (Ours B0 P w) w w' := by
  obtain ⟨ov, l1, l2, l3⟩ := k.lay
  have tP : ∀ j q, j < N → (T j).pv.ownBlock = some q → ∃ cur, w.heap[q]? = some (.cells cur 3 (0, 0)) := fun j q hj e => row_block (k.pr j hj) e
  have tU : ∀ j q, j < N → (T j).uv.ownBlock = some q → ∃ cur, w.heap[q]? = some (.cells cur 163 (0, 0)) := fun j q hj e => row_block (k.ur j hj) e
  have off : ∀ q cs t, w.heap[q]? = some (.cells cs t (0, 0)) → (t = 95 → q ≠ (T i).b) → (t = 3 → (T i).pv.ownBlock ≠ some q) → (t = 163 → (T i).uv.ownBlock ≠ some q) → ¬ TrB (T i) q := fun q cs t e a1 a2 a3 h => by
    rcases h with h | h | h
    · exact a1 (ty_same e (by rw [h]; exact k.tr i hi)) h
    · obtain ⟨cur, e2⟩ := tP i q hi h
      exact a2 (ty_same e e2) h
    · obtain ⟨cur, e2⟩ := tU i q hi h
      exact a3 (ty_same e e2) h
  have bb : ∀ j, (updT T i x j).b = (T j).b := fun j => by
    by_cases h : j = i
    · rw [h, updT_same, hb]
    · rw [updT_other T x h]
  have nn : ∀ j, (updT T i x j).no = (T j).no := fun j => by
    by_cases h : j = i
    · rw [h, updT_same, hn]
    · rw [updT_other T x h]
  have lP : ∀ j q, j < N → (T j).pv.ownBlock = some q → q < w.heap.size := fun j q hj e => by
    obtain ⟨cur, e2⟩ := tP j q hj e
    exact (Array.getElem?_eq_some_iff.1 e2).1
  have lU : ∀ j q, j < N → (T j).uv.ownBlock = some q → q < w.heap.size := fun j q hj e => by
    obtain ⟨cur, e2⟩ := tU j q hj e
    exact (Array.getElem?_eq_some_iff.1 e2).1
  refine ⟨⟨⟨ov, (hp.block Z k.lt (off Z _ _ l1 (fun e => absurd e (by decide)) (fun e => absurd e (by decide)) (fun e => absurd e (by decide)))).trans l1, (Tx.Rw.ext (g := fun j => (updT T i x j).b) (hp.row l2 (fun q e => by
      obtain ⟨cur, e2⟩ := row_block l2 e
      exact off q _ _ e2 (fun e => absurd e (by decide)) (fun e => absurd e (by decide)) (fun e => absurd e (by decide)))) (fun j _ => (bb j).symm)), l3⟩, fun j hj => ?_, fun j hj => ?_, fun j hj => ?_, fun a c ha hc e => k.ap a c ha hc (by rw [bb, bb] at e; exact e), fun a c q ha hc e1 e2 => ?_, fun a c q ha hc e1 e2 => ?_, ⟨k.out.1, fun j hj => by rw [bb]; exact k.out.2.1 j hj, fun j q hj e => ?_, fun j q hj e => ?_⟩, ⟨k.low.1, fun j hj => by rw [bb]; exact k.low.2 j hj⟩, k.nn, fun j hj => ?_, k.la_⟩, hp.mono fun q _ h => ?_⟩
  · by_cases h : j = i
    · rw [h, updT_same]; exact h1
    · rw [updT_other T x h]
      exact (hp.block _ (Array.getElem?_eq_some_iff.1 (k.tr j hj)).1 (off _ _ _ (k.tr j hj) (fun _ e => h (k.ap j i hj hi e)) (fun e => absurd e (by decide)) (fun e => absurd e (by decide)))).trans (k.tr j hj)
  · by_cases h : j = i
    · rw [h, updT_same]; exact h2
    · rw [updT_other T x h]
      refine hp.row (k.pr j hj) (fun q e => ?_)
      obtain ⟨cur, e2⟩ := tP j q hj e
      exact off q _ _ e2 (fun e => absurd e (by decide)) (fun _ e3 => h (k.pp j i q hj hi e e3)) (fun e => absurd e (by decide))
  · by_cases h : j = i
    · rw [h, updT_same]; exact h3
    · rw [updT_other T x h]
      refine hp.row (k.ur j hj) (fun q e => ?_)
      obtain ⟨cur, e2⟩ := tU j q hj e
      exact off q _ _ e2 (fun e => absurd e (by decide)) (fun e => absurd e (by decide)) (fun _ e3 => h (k.uu j i q hj hi e e3))
  · by_cases h : a = i
    · by_cases h' : c = i
      · rw [h, h']
      · rw [h, updT_same] at e1
        rw [updT_other T x h'] at e2
        rcases h4 q e1 with e1 | e1
        · rw [h]; exact k.pp i c q hi hc e1 e2
        · have := lP c q hc e2; omega
    · rw [updT_other T x h] at e1
      by_cases h' : c = i
      · rw [h', updT_same] at e2
        rcases h4 q e2 with e2 | e2
        · rw [h']; exact k.pp a i q ha hi e1 e2
        · have := lP a q ha e1; omega
      · rw [updT_other T x h'] at e2
        exact k.pp a c q ha hc e1 e2
  · by_cases h : a = i
    · by_cases h' : c = i
      · rw [h, h']
      · rw [h, updT_same] at e1
        rw [updT_other T x h'] at e2
        rcases h5 q e1 with e1 | e1
        · rw [h]; exact k.uu i c q hi hc e1 e2
        · have := lU c q hc e2; omega
    · rw [updT_other T x h] at e1
      by_cases h' : c = i
      · rw [h', updT_same] at e2
        rcases h5 q e2 with e2 | e2
        · rw [h']; exact k.uu a i q ha hi e1 e2
        · have := lU a q ha e1; omega
      · rw [updT_other T x h'] at e2
        exact k.uu a c q ha hc e1 e2
  · by_cases h : j = i
    · rw [h, updT_same] at e
      rcases h4 q e with e | e
      · exact k.out.2.2.1 i q hi e
      · exact fun hq => by have := hlt q hq; omega
    · rw [updT_other T x h] at e
      exact k.out.2.2.1 j q hj e
  · by_cases h : j = i
    · rw [h, updT_same] at e
      rcases h5 q e with e | e
      · exact k.out.2.2.2 i q hi e
      · exact fun hq => by have := hlt q hq; omega
    · rw [updT_other T x h] at e
      exact k.out.2.2.2 j q hj e
  · rw [nn]
    by_cases h : j = i
    · rw [h, updT_same]
      exact ⟨hs.1, hs.2, (k.sm i hi).2.2⟩
    · rw [updT_other T x h]
      exact k.sm j hj
  · rcases h with rfl | h | h
    · exact k.oursT i hi
    · exact k.oursP i q hi h
    · exact k.oursU i q hi h
/-- Where an appended row lies. -/
theorem grew_at {v : Value} {gg : Nat} {H : Nat} (h : v.ownBlock = some gg ∨ gg = H) (n cap : Nat) : ∀ q, (Value.slice (some ⟨gg, 0, none⟩) n cap).ownBlock = some q → v.ownBlock = some q ∨ q = H := fun q e => by
  have e : some gg = some q := e
  injection e with e
  rw [← e]
  exact h
theorem Ours.back {w1 : World} (h : Part (Ours B0 P w) w w1) : ∀ i, i < w.heap.size → Ours B0 P w1 i → Ours B0 P w i := fun i hi ho => by
  obtain ⟨h1, h2, cs, t, e, ht⟩ := ho
  by_cases hq : Ours B0 P w i
  · exact hq
  · rw [h.block i hi hq] at e
    exact ⟨h1, h2, cs, t, e, ht⟩
/-- What add leaves: one more page, if it is not there, and one more update. -/
def Adt (B0 : Nat) (P : Nat → Prop) (w : World) (Z S L : Nat) (g : Int) (la N : Nat) (T : Nat → Tr) (i : Nat) (u : Up) (w' : World) : Prop := ∃ pv uv, Mt B0 P w' Z S L g la N (updT T i ⟨(T i).b, (T i).no, pv, if Ci (T i).ps (u.pg : Int) then (T i).ps else (T i).ps ++ [u.pg], uv, (T i).us ++ [u]⟩) ∧ Part (Ours B0 P w) w w'
end Go.Proofs.YthfokciijcmhbaaGreatDoor

namespace Go.Proofs.YthfokciijcmhbaaGreatDoor
open Go.RowKit
set_option linter.unusedVariables false

variable {B0 : Nat} {P P' : Nat → Prop} {w w' : World} {Z S L la N : Nat} {g : Int} {T : Nat → Tr}
theorem infoNum : (Tryz.prog.info? 3).map (fun i => (i.zero, i.size, i.bytes)) = some (some (.int .i64 0), 1, 8) := by kernel_rfl
theorem infoEnt : (Tryz.prog.info? 163).map (fun i => (i.zero, i.size, i.bytes)) = some (some (.agg #[.int .i64 0, .int .i64 0, .int .i64 0, .int .i64 0, .int .i64 0, .string ByteArray.empty, .string ByteArray.empty, .int .i64 0]), 8, 80) := by kernel_rfl
theorem psL_snoc (l : List Nat) (p : Nat) : psL l ++ [Value.int .i64 (p : Int)] = psL (l ++ [p]) := by unfold psL; rw [List.map_append]; rfl
theorem usL_snoc (no : Nat) (l : List Up) (u : Up) : usL no l ++ upL no u = usL no (l ++ [u]) := by unfold usL; rw [List.map_append, List.flatten_append]; simp
/-- What add leaves before it is over: the record in its box, the pages in place. -/
def Ad1 (B0 : Nat) (P : Nat → Prop) (w : World) (Z S L : Nat) (g : Int) (la N : Nat) (T : Nat → Tr) (i B : Nat) (cs : Array Value) (ps : List Nat) (v : World) : Prop := v.heap[B]? = some (.cells cs 114 (0, 0)) ∧ ∃ pv, Mt B0 P v Z S L g la N (updT T i ⟨(T i).b, (T i).no, pv, ps, (T i).uv, (T i).us⟩) ∧ Part (Ours B0 P w) w v
theorem Ad1.below {i B : Nat} {cs : Array Value} {ps : List Nat} {v v' : World} (h : Ad1 B0 P w Z S L g la N T i B cs ps v) (hb : Below v.heap.size v v') : Ad1 B0 P w Z S L g la N T i B cs ps v' := by
  obtain ⟨h1, pv, h2, h3⟩ := h
  exact ⟨(hb.block B (Array.getElem?_eq_some_iff.1 h1).1).trans h1, pv, h2.below hb, h3.trans (Part.ofBelow (F := Ours B0 P v) hb) (Ours.back h3)⟩
theorem updT_self (T : Nat → Tr) (i : Nat) : updT T i (T i) = T := by
  funext j
  unfold updT
  split
  · rename_i h; rw [h]
  · rfl
theorem updT_twice (T : Nat → Tr) (i : Nat) (x y : Tr) : updT (updT T i x) i y = updT T i y := by
  funext j
  unfold updT
  split <;> rfl
theorem boxed_free {B : Nat} {cs : Array Value} (h : w.heap[B]? = some (.cells cs 114 (0, 0))) : ¬ Ours B0 P w B := fun ⟨_, _, c2, t, e, ht⟩ => by
  have := ty_same h e
  subst this
  rcases ht with h | h | h | h | h <;> exact absurd h (by decide)
set_option maxRecDepth 100000 in
/-- The page is put behind the others. -/
theorem Mt.addPage (k : Mt B0 P w Z S L g la N T) (hlt : ∀ b, P b → b < w.heap.size) (i : Nat) (hi : i < N) (B : Nat) (cs : Array Value) (hB : w.heap[B]? = some (.cells cs 114 (0, 0))) (p : Nat) (hs : (T i).ps.length < 1000) (wq : World) (o : Obj) (hq : Below w.heap.size w wq) (gg cap : Nat) (w2 : World) (h2 : w2.ownsRow B0 3 1 (.slice (some ⟨gg, 0, none⟩) ((T i).ps.length + 1) cap) ((T i).ps.length + 1) (psL (T i).ps ++ [.int .i64 (p : Int)])) (hg : (wq.alloc o).grownBy w2 (T i).pv.ownBlock) (ha : (T i).pv.ownBlock = some gg ∨ gg = (wq.alloc o).heap.size) :
    (w2.cell? ⟨(T i).b, 1, none⟩ = some (T i).pv ∧ w2.frozen? ⟨(T i).b, 1, none⟩ = false) ∧ (w2.cell? ⟨B, 2, none⟩ = w.cell? ⟨B, 2, none⟩) ∧ Hid (∀ v, v.heap = (w2.setCell ⟨(T i).b, 1, none⟩ (.slice (some ⟨gg, 0, none⟩) ((T i).ps.length + 1) cap)).heap → v.os = w2.os → v.tape = w2.tape → v.output = w2.output → Ad1 B0 P w Z S L g la N T i B cs ((T i).ps ++ [p]) v) := by
  have hb2 : Below w.heap.size w (wq.alloc o) := hq.alloc hq.size o
  have hs2 := hb2.size
  have nT : (T i).pv.ownBlock ≠ some (T i).b := fun e => by
    obtain ⟨cur, e2⟩ := row_block (k.pr i hi) e
    exact absurd (ty_same e2 (k.tr i hi)) (by decide)
  have nB : (T i).pv.ownBlock ≠ some B := fun e => by
    obtain ⟨cur, e2⟩ := row_block (k.pr i hi) e
    exact absurd (ty_same e2 hB) (by decide)
  have nU : ∀ q, (T i).uv.ownBlock = some q → (T i).pv.ownBlock ≠ some q := fun q e e' => by
    obtain ⟨cur, e2⟩ := row_block (k.pr i hi) e'
    obtain ⟨cu2, e3⟩ := row_block (k.ur i hi) e
    exact absurd (ty_same e2 e3) (by decide)
  have hTl := (Array.getElem?_eq_some_iff.1 (k.tr i hi)).1
  have hBl := (Array.getElem?_eq_some_iff.1 hB).1
  have eT : w2.heap[(T i).b]? = some (trO (T i)) := (hg.block _ (by omega) (fun e => nT e.symm)).trans ((hb2.block _ hTl).trans (k.tr i hi))
  have eB : w2.heap[B]? = some (.cells cs 114 (0, 0)) := (hg.block _ (by omega) (fun e => nB e.symm)).trans ((hb2.block _ hBl).trans hB)
  have pg : Part (fun b => (T i).pv.ownBlock = some b) w w2 := (Part.ofBelow hb2).grown hg (fun q e _ => e)
  refine ⟨⟨by rw [cells_at eT 1]; rfl, cells_free eT 1⟩, by rw [cells_at eB 2, cells_at hB 2], fun v hv h1 h3 h4 => ?_⟩
  obtain ⟨pv, hpv⟩ : ∃ pv, Value.slice (some ⟨gg, 0, none⟩) ((T i).ps.length + 1) cap = pv := ⟨_, rfl⟩
  have gr := grew_at ha ((T i).ps.length + 1) cap
  rw [hpv] at hv h2 gr
  have ne9 : pv.ownBlock ≠ some (T i).b := fun e => by
    rcases gr _ e with e | e
    · exact nT e
    · omega
  have p2 : Part (fun b => b = (T i).b ∨ (T i).pv.ownBlock = some b ∨ (T i).uv.ownBlock = some b) w v := by
    have a1 : Part (fun b => b = (T i).b ∨ (T i).pv.ownBlock = some b ∨ (T i).uv.ownBlock = some b) w (w2.setCell ⟨(T i).b, 1, none⟩ pv) := (pg.mono fun b _ h => .inr (.inl h)).setCell (p := ⟨(T i).b, 1, none⟩) (fun _ => .inl rfl) _
    exact a1.heap hv h1 h3 h4
  have e1 : v.heap[(T i).b]? = some (trO ⟨(T i).b, (T i).no, pv, (T i).ps ++ [p], (T i).uv, (T i).us⟩) := by
    rw [hv, heap_set_at eT]
    rfl
  have r1 : v.ownsRow B0 3 1 pv ((T i).ps ++ [p]).length (psL ((T i).ps ++ [p])) := by
    rw [← psL_snoc, List.length_append]
    exact row_heap (row_set h2 ne9 1 pv) hv
  have r2 : v.ownsRow B0 163 8 (T i).uv (T i).us.length (usL (T i).no (T i).us) := by
    have a2 := pg.row (k.ur i hi) nU
    refine row_heap (row_set a2 (fun e => ?_) 1 pv) hv
    obtain ⟨cur, e2⟩ := row_block (k.ur i hi) e
    exact absurd (ty_same e2 (k.tr i hi)) (by decide)
  have key := k.newT hlt i hi ⟨(T i).b, (T i).no, pv, (T i).ps ++ [p], (T i).uv, (T i).us⟩ rfl rfl p2 e1 r1 r2 (fun q e => (gr q e).imp id (fun h => by omega)) (fun q e => .inl e) ⟨by show ((T i).ps ++ [p]).length ≤ 1000; rw [List.length_append]; show _ + 1 ≤ 1000; omega, (k.sm i hi).2.1⟩
  refine ⟨?_, pv, key.1, key.2⟩
  rw [hv]
  have := (Part.refl (fun b => b = (T i).b) w2).setCell (p := ⟨(T i).b, 1, none⟩) (fun _ => rfl) pv
  exact (this.block B (Array.getElem?_eq_some_iff.1 eB).1 (fun e => by
    have := k.tr i hi
    rw [← e, hB] at this
    injection this with this
    injection this with _ this
    exact absurd this (by decide))).trans eB
end Go.Proofs.YthfokciijcmhbaaGreatDoor
