/-
  A buffer that is written to the disk: the state behind save.
-/
import Derived.Test.YtnaobkpncfbnaaaGreatDoorPwB
namespace Go.Proofs.YtnaobkpncfbnaaaGreatDoor
open Go.RowKit
set_option linter.unusedVariables false

/-- The buffers, the i-th not dirty any more. -/
def cleanX (X : Nat → Bf) (i : Nat) : Nat → Bf := fun j => if j = i then { X i with fi := 0 } else X j
theorem clean_at (X : Nat → Bf) (i j : Nat) : (cleanX X i j).b = (X j).b ∧ (cleanX X i j).pg = (X j).pg ∧ (cleanX X i j).ls = (X j).ls ∧ (cleanX X i j).ld = (X j).ld ∧ (cleanX X i j).pn = (X j).pn := by
  unfold cleanX
  by_cases h : j = i
  · subst h; rw [if_pos rfl]; exact ⟨rfl, rfl, rfl, rfl, rfl⟩
  · rw [if_neg h]; exact ⟨rfl, rfl, rfl, rfl, rfl⟩
theorem clean_self (X : Nat → Bf) (i : Nat) : cleanX X i i = { X i with fi := 0 } := if_pos rfl
theorem clean_other (X : Nat → Bf) {i j : Nat} (h : j ≠ i) : cleanX X i j = X j := if_neg h
theorem clean_same (X : Nat → Bf) {i : Nat} (h : (X i).fi = 0) : cleanX X i = X := by
  funext j
  by_cases e : j = i
  · subst e
    rw [clean_self]
    rw [← h]
  · exact clean_other X e
theorem Ps.clean {B0 : Nat} {w : World} {S D L fr pg bf n : Nat} {m : Int} {X : Nat → Bf} (k : Ps B0 w S m D L fr pg bf n X) (i : Nat) (hi : i < n) : Ps B0 (w.setCell ⟨(X i).b, 3, none⟩ (.int .i64 0)) S m D L fr pg bf n (cleanX X i) := by
  obtain ⟨held, h1, h2⟩ := k.lay
  have hb := k.buf i hi
  have hbS : S ≠ (X i).b := fun e => by
    rw [← e, h1] at hb
    injection hb with hb
    injection hb with _ hb
    exact absurd hb (by decide)
  have hv : held.ownBlock ≠ some (X i).b := fun e => by
    rcases h2.open with ⟨h, _⟩ | ⟨g, c, cur, h, hg, _⟩
    · rw [h] at e; cases e
    · rw [h] at e
      have e : some g = some (X i).b := e
      injection e with e
      rw [e, hb] at hg
      injection hg with hg
      injection hg with _ hg
      exact absurd hg (by decide)
  refine ⟨⟨held, (heap_set_other w hbS 3 _).trans h1, Rw.ext (f := fun j => (X j).b) (row_set h2 hv 3 _) (fun j hj => (clean_at X i j).1.symm)⟩, fun j hj => ?_, fun a b ha hb' e => ?_, k.nn, k.low⟩
  · by_cases e : j = i
    · subst e
      rw [clean_self]
      exact heap_set_at hb _
    · rw [clean_other X e]
      exact (heap_set_other w (fun e' => e (k.apart j i hj hi e')) 3 _).trans (k.buf j hj)
  · rw [(clean_at X i a).1, (clean_at X i b).1] at e
    exact k.apart a b ha hb' e
variable {B0 : Nat} {A : Prop} {w w1 : World} {P : Nat → Prop} {S D L bf n M last forced : Nat} {m : Int} {X : Nat → Bf} {e : Nat → Int} {ln : Nat → Nat} {lo : Nat → Nat → Int}
theorem Pw.wrote (k : Pw B0 A w P S m D L bf n X M e last forced ln lo) (i : Nat) (hi : i < n) (hA : A → (X i).ls ≤ forced) (h0 : 0 < (X i).ls) {F : Nat → Prop} {T : Nat} {vt : Value} (hl : Lp w L T D F last forced vt) (hFP : ∀ b, F b → P b) (hT : P T) (hV : ∀ b, vt.ownBlock = some b → P b) (hty : ∀ b, F b → Dt w b) (hs : Sd w1 D (fun b => F b ∨ (w.heap.size ≤ b ∧ b < w1.heap.size)) 14 (M + 1) (ovs e (4 + (X i).pg) (pg (X i).ls (lo (X i).pg)))) (hp : Part F w w1) :
    Pw B0 A (w1.setCell ⟨(X i).b, 3, none⟩ (.int .i64 0)) (fun b => P b ∨ (w.heap.size ≤ b ∧ b < w1.heap.size)) S m D L bf n (cleanX X i) (M + 1) (ovs e (4 + (X i).pg) (pg (X i).ls (lo (X i).pg))) last forced ln lo ∧ Part (Fq B0 P w) w (w1.setCell ⟨(X i).b, 3, none⟩ (.int .i64 0)) := by
  obtain ⟨held, h1, _⟩ := k.ps.lay
  have hsz := hp.size
  have hnt : ∀ b cs t, F b → w.heap[b]? = some (.cells cs t (0, 0)) → t ≠ 97 ∧ t ≠ 111 ∧ t ≠ 91 := fun b cs t hf e => by
    obtain ⟨cs', t', e', ht⟩ := hty b hf
    rw [e'] at e
    injection e with e
    injection e with _ e
    subst e
    rcases ht with rfl | rfl | rfl | rfl <;> decide
  have hnS : ¬ F S := fun hf => (hnt S _ _ hf h1).2.2 rfl
  have ps1 := k.ps.part hp hnS (fun b cs t hf e => ⟨(hnt b cs t hf e).1, (hnt b cs t hf e).2.1⟩)
  have hb := k.ps.buf i hi
  have hblt := (Array.getElem?_eq_some_iff.1 hb).1
  have hb1 := ps1.buf i hi
  have ty : ∀ b cs t, w.heap[b]? = some (.cells cs t (0, 0)) → t ≠ 111 → b ≠ (X i).b := fun b cs t e ht e' => by
    rw [e', hb] at e
    injection e with e
    injection e with _ e
    exact ht e.symm
  have ty1 : ∀ b cs t, w1.heap[b]? = some (.cells cs t (0, 0)) → t ≠ 111 → b ≠ (X i).b := fun b cs t e ht e' => by
    rw [e', hb1] at e
    injection e with e
    injection e with _ e
    exact ht e.symm
  have pc : Part (fun b => b = (X i).b) w1 (w1.setCell ⟨(X i).b, 3, none⟩ (.int .i64 0)) := (Part.refl (fun b => b = (X i).b) w1).setCell (p := ⟨(X i).b, 3, none⟩) (fun _ => rfl) _
  have c0 := fun j => clean_at X i j
  have hl1 : Lp w1 L T D (fun b => F b ∨ (w.heap.size ≤ b ∧ b < w1.heap.size)) last forced vt := by
    have hq := hl.part hp hl.nL hl.nT hl.nV
    obtain ⟨q, place, tl, f, k1, k2, _⟩ := hl.lay
    have lL := (Array.getElem?_eq_some_iff.1 k1.hL).1
    have lT := (Array.getElem?_eq_some_iff.1 k1.hT).1
    exact ⟨hq.lay, hl.ne, fun h => h.elim hl.nL (fun h => by omega), fun h => h.elim hl.nT (fun h => by omega), fun b hb h => h.elim (hl.nV b hb) (fun h => by obtain ⟨cur, e⟩ := row_block k2 hb; have := (Array.getElem?_eq_some_iff.1 e).1; omega), hl.fl⟩
  obtain ⟨q, place, tl, f, g1, g2, _⟩ := hl1.lay
  have gL := ty1 L _ _ g1.hL (by decide)
  have gT := ty1 T _ _ g1.hT (by decide)
  have gV : ∀ b, vt.ownBlock = some b → b ≠ (X i).b := fun b hb => by
    obtain ⟨cur, e⟩ := row_block g2 hb
    exact ty1 b _ _ e (by decide)
  have ts := hs.typed
  have hnb : ∀ b, (F b ∨ (w.heap.size ≤ b ∧ b < w1.heap.size)) ∧ Dt w1 b → b ≠ (X i).b := fun b hb => by
    obtain ⟨_, cs, t, e, ht⟩ := hb
    exact ty1 b _ _ e (by rcases ht with rfl | rfl | rfl | rfl <;> decide)
  have ldlt : ∀ j b, j < n → (X j).ld.ownBlock = some b → b < w.heap.size ∧ b ≠ (X i).b := fun j b hj hb => by
    obtain ⟨cur, e⟩ := row_block (k.ld j hj) hb
    exact ⟨(Array.getElem?_eq_some_iff.1 e).1, ty b _ _ e (by decide)⟩
  have hdk : ∀ p, p < 10 → ∀ l f, (p ≠ (X i).pg → Pgs e p l f) → (p = (X i).pg → l = (X i).ls ∧ f = lo (X i).pg) → Pgs (ovs e (4 + (X i).pg) (pg (X i).ls (lo (X i).pg))) p l f := fun p hp l f h1 h2 => by
    by_cases hq : p = (X i).pg
    · obtain ⟨rfl, rfl⟩ := h2 hq
      exact .inr ⟨h0, fun j hj => by rw [ovs_at _ _ _ _ _ hj, if_pos (by omega)]⟩
    · exact (h1 hq).ext fun j hj => by rw [ovs_at _ _ _ _ _ hj, if_neg (by omega)]
  have lsn : (X i).ls = ln (X i).pg := (k.cl i hi).2.2.1
  refine ⟨⟨ps1.clean i hi, ⟨T, _, vt, ts.part pc hnb, (hl1.less (F' := fun b => (F b ∨ (w.heap.size ≤ b ∧ b < w1.heap.size)) ∧ Dt w1 b) (fun b h => h.1)).part pc gL gT gV, fun b h => h.1.imp (hFP b) id, .inl hT, fun b hb => .inl (hV b hb)⟩, .inl k.pS, ?_, ?_, fun b hb => ?_, ?_, fun j hj => ?_, fun j b hj hb => ?_, fun j hj => ?_, fun p hp' hn => ?_, fun a b ha hb' e' => ?_, k.by_, k.lm, fun p hp' => ?_, k.al, k.nb, fun j hj => by rw [(c0 j).1]; exact k.bl j hj, k.tl⟩, ?_⟩
  · exact (k.tab.partG hp (fun h => k.np.1 (hFP _ h))).partG pc (fun e' => by
      have t0 := (congrArg (fun b => w.cell? ⟨b, 0, none⟩) e').symm.trans (k.tab 0 (by decide))
      rw [cells_at hb 0] at t0
      injection t0 with t0
      injection t0 with t0
      exact absurd t0 (by decide))
  · have s1 := (Array.getElem?_eq_some_iff.1 k.pl).1
    have lL : L < w.heap.size := by
      obtain ⟨_, _, _, _, z1, _⟩ := hl.lay
      exact (Array.getElem?_eq_some_iff.1 z1.hL).1
    have lt0 := k.tab.lt
    exact ⟨fun h => h.elim k.np.1 (fun h => by omega), fun h => h.elim k.np.2.1 (fun h => by omega), fun h => h.elim k.np.2.2 (fun h => by omega)⟩
  · have := pc.size
    rcases hb with hb | hb
    · have := k.lt b hb; omega
    · omega
  · exact (pc.block _ (by have := (Array.getElem?_eq_some_iff.1 k.pl).1; omega) (ty (S + 1) _ _ k.pl (by decide))).trans ((hp.block _ (Array.getElem?_eq_some_iff.1 k.pl).1 (fun h => k.np.2.1 (hFP _ h))).trans k.pl)
  · rw [(c0 j).2.2.2.1, (c0 j).2.1]
    exact pc.row (hp.row (k.ld j hj) (fun b hb h => k.nP j b hj hb (hFP _ h))) (fun b hb => (ldlt j b hj hb).2)
  · rw [(c0 j).2.2.2.1] at hb
    have := (ldlt j b hj hb).1
    exact fun h => h.elim (k.nP j b hj hb) (fun h => by omega)
  · rw [(c0 j).2.1, (c0 j).2.2.1, (c0 j).2.2.2.2]
    obtain ⟨z1, z2, z3, z4, z5⟩ := k.cl j hj
    refine ⟨z1, z2, z3, fun hf => hdk _ z1 _ _ (fun hne => z4 ?_) (fun he => ?_), fun hf => ?_⟩
    · rwa [clean_other X (fun e' => hne (by rw [e']))] at hf
    · rw [he, lsn]; exact ⟨rfl, rfl⟩
    · by_cases e' : j = i
      · rw [e']; exact h0
      · rw [clean_other X e'] at hf; exact z5 hf
  · refine hdk p hp' _ _ (fun _ => k.off p hp' (fun j hj => by have := hn j hj; rwa [(c0 j).2.1] at this)) (fun he => ?_)
    exact absurd ((c0 i).2.1.trans he.symm) (hn i hi)
  · rw [(c0 a).2.1, (c0 b).2.1] at e'
    exact k.pa a b ha hb' e'
  · by_cases hq : p = (X i).pg
    · exact ⟨(X i).ls, lo (X i).pg, hdk p hp' _ _ (fun h => absurd hq h) (fun _ => ⟨rfl, rfl⟩), hA⟩
    · obtain ⟨l, f, d1, d2⟩ := k.dk p hp'
      exact ⟨l, f, hdk p hp' _ _ (fun _ => d1) (fun h => absurd h hq), d2⟩
  · exact (hp.mono (fun b _ hf => .inl (hFP b hf))).trans pc (fun b _ e' => by have e' : b = (X i).b := e'; subst e'; exact .inr ⟨k.bl i hi, _, _, _, hb, .inr rfl⟩)
end Go.Proofs.YtnaobkpncfbnaaaGreatDoor
