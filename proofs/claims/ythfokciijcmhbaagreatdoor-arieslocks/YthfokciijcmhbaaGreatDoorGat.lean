/-
  A buffer that is written to the disk: the state behind save.
  Contract of a log area's save: sectors with loads, from a place on, made durable. Conditions: the sectors are the disk's; the loads lie apart from it; the library's table of sums is as it starts.
-/
import Derived.Test.YthfokciijcmhbaaGreatDoorGas
import Derived.Test.YthfokciijcmhbaaGreatDoorGap
namespace Go.Proofs.YthfokciijcmhbaaGreatDoor
open Go.RowKit
set_option linter.unusedVariables false

/-- The buffers, the i-th not dirty any more. -/
def cleanX (X : Nat → Bf) (i : Nat) : Nat → Bf := fun j => if j = i then { X i with fi := 0 } else X j
theorem clean_at (X : Nat → Bf) (i j : Nat) : (cleanX X i j).b = (X j).b ∧ (cleanX X i j).pg = (X j).pg ∧ (cleanX X i j).ls = (X j).ls ∧ (cleanX X i j).ld = (X j).ld ∧ (cleanX X i j).pn = (X j).pn := by
  unfold cleanX
  by_cases h : j = i
  · subst h; rw [if_pos rfl]; exact ⟨rfl, rfl, rfl, rfl, rfl⟩
  · rw [if_neg h]; exact ⟨rfl, rfl, rfl, rfl, rfl⟩
theorem clean_self (X : Nat → Bf) (i : Nat) : cleanX X i i = { X i with fi := 0 } := if_pos rfl
theorem clean_other (X : Nat → Bf) {i j : Nat} (h : j ≠ i) : cleanX X i j = X j := if_neg h
theorem clean_same (X : Nat → Bf) {i : Nat} (h : (X i).fi = 0) : cleanX X i = X := by
  funext j
  by_cases e : j = i
  · subst e
    rw [clean_self]
    rw [← h]
  · exact clean_other X e
theorem Ps.clean {B0 : Nat} {w : World} {S D L fr pg bf n : Nat} {m : Int} {X : Nat → Bf} (k : Ps B0 w S m D L fr pg bf n X) (i : Nat) (hi : i < n) : Ps B0 (w.setCell ⟨(X i).b, 3, none⟩ (.int .i64 0)) S m D L fr pg bf n (cleanX X i) := by
  obtain ⟨held, h1, h2⟩ := k.lay
  have hb := k.buf i hi
  have hbS : S ≠ (X i).b := fun e => by
    rw [← e, h1] at hb
    injection hb with hb
    injection hb with _ hb
    exact absurd hb (by decide)
  have hv : held.ownBlock ≠ some (X i).b := fun e => by
    rcases h2.open with ⟨h, _⟩ | ⟨g, c, cur, h, hg, _⟩
    · rw [h] at e; cases e
    · rw [h] at e
      have e : some g = some (X i).b := e
      injection e with e
      rw [e, hb] at hg
      injection hg with hg
      injection hg with _ hg
      exact absurd hg (by decide)
  refine ⟨⟨held, (heap_set_other w hbS 3 _).trans h1, Rw.ext (f := fun j => (X j).b) (row_set h2 hv 3 _) (fun j hj => (clean_at X i j).1.symm)⟩, fun j hj => ?_, fun a b ha hb' e => ?_, k.nn, k.low⟩
  · by_cases e : j = i
    · subst e
      rw [clean_self]
      exact heap_set_at hb _
    · rw [clean_other X e]
      exact (heap_set_other w (fun e' => e (k.apart j i hj hi e')) 3 _).trans (k.buf j hj)
  · rw [(clean_at X i a).1, (clean_at X i b).1] at e
    exact k.apart a b ha hb' e
variable {B0 : Nat} {A : Ax} {w w1 : World} {P : Nat → Prop} {S D L bf n M last forced : Nat} {m : Int} {X : Nat → Bf} {e : Nat → Int} {ln : Nat → Nat} {lo : Nat → Nat → Int}
theorem Pw.wrote (k : Pw B0 A w P S m D L bf n X M e last forced ln lo) (i : Nat) (hi : i < n) (hA : A → (X i).ls ≤ forced) (h0 : 0 < (X i).ls) {F : Nat → Prop} {T : Nat} {vt : Value} (hl : Lp A w L T D F last forced vt) (hFP : ∀ b, F b → P b) (hT : P T) (hV : ∀ b, vt.ownBlock = some b → P b) (hty : ∀ b, F b → Dt w b) (hs : Sd w1 D (fun b => F b ∨ (w.heap.size ≤ b ∧ b < w1.heap.size)) 46 (M + 1) (ovs e (40 + (X i).pg) (pg (X i).ls (lo (X i).pg)))) (hp : Part F w w1) :
    Pw B0 A (w1.setCell ⟨(X i).b, 3, none⟩ (.int .i64 0)) (fun b => P b ∨ (w.heap.size ≤ b ∧ b < w1.heap.size)) S m D L bf n (cleanX X i) (M + 1) (ovs e (40 + (X i).pg) (pg (X i).ls (lo (X i).pg))) last forced ln lo ∧ Part (Fq B0 P w) w (w1.setCell ⟨(X i).b, 3, none⟩ (.int .i64 0)) := by
  obtain ⟨held, h1, _⟩ := k.ps.lay
  have hsz := hp.size
  have hnt : ∀ b cs t, F b → w.heap[b]? = some (.cells cs t (0, 0)) → t ≠ 166 ∧ t ≠ 170 ∧ t ≠ 143 := fun b cs t hf e => by
    obtain ⟨cs', t', e', ht⟩ := hty b hf
    rw [e'] at e
    injection e with e
    injection e with _ e
    subst e
    rcases ht with rfl | rfl | rfl | rfl <;> decide
  have hnS : ¬ F S := fun hf => (hnt S _ _ hf h1).2.2 rfl
  have ps1 := k.ps.part hp hnS (fun b cs t hf e => ⟨(hnt b cs t hf e).1, (hnt b cs t hf e).2.1⟩)
  have hb := k.ps.buf i hi
  have hblt := (Array.getElem?_eq_some_iff.1 hb).1
  have hb1 := ps1.buf i hi
  have ty : ∀ b cs t, w.heap[b]? = some (.cells cs t (0, 0)) → t ≠ 170 → b ≠ (X i).b := fun b cs t e ht e' => by
    rw [e', hb] at e
    injection e with e
    injection e with _ e
    exact ht e.symm
  have ty1 : ∀ b cs t, w1.heap[b]? = some (.cells cs t (0, 0)) → t ≠ 170 → b ≠ (X i).b := fun b cs t e ht e' => by
    rw [e', hb1] at e
    injection e with e
    injection e with _ e
    exact ht e.symm
  have pc : Part (fun b => b = (X i).b) w1 (w1.setCell ⟨(X i).b, 3, none⟩ (.int .i64 0)) := (Part.refl (fun b => b = (X i).b) w1).setCell (p := ⟨(X i).b, 3, none⟩) (fun _ => rfl) _
  have c0 := fun j => clean_at X i j
  have hl1 : Lp A w1 L T D (fun b => F b ∨ (w.heap.size ≤ b ∧ b < w1.heap.size)) last forced vt := by
    have hq := hl.part hp hl.nL hl.nT hl.nV
    obtain ⟨q, place, tl, f, k1, k2, _⟩ := hl.lay
    have lL := (Array.getElem?_eq_some_iff.1 k1.hL).1
    have lT := (Array.getElem?_eq_some_iff.1 k1.hT).1
    exact ⟨hq.lay, hl.ne, fun h => h.elim hl.nL (fun h => by omega), fun h => h.elim hl.nT (fun h => by omega), fun b hb h => h.elim (hl.nV b hb) (fun h => by obtain ⟨cur, e⟩ := row_block k2 hb; have := (Array.getElem?_eq_some_iff.1 e).1; omega), hl.fl⟩
  obtain ⟨q, place, tl, f, g1, g2, _⟩ := hl1.lay
  have gL := ty1 L _ _ g1.hL (by decide)
  have gT := ty1 T _ _ g1.hT (by decide)
  have gV : ∀ b, vt.ownBlock = some b → b ≠ (X i).b := fun b hb => by
    obtain ⟨cur, e⟩ := row_block g2 hb
    exact ty1 b _ _ e (by decide)
  have ts := hs.typed
  have hnb : ∀ b, (F b ∨ (w.heap.size ≤ b ∧ b < w1.heap.size)) ∧ Dt w1 b → b ≠ (X i).b := fun b hb => by
    obtain ⟨_, cs, t, e, ht⟩ := hb
    exact ty1 b _ _ e (by rcases ht with rfl | rfl | rfl | rfl <;> decide)
  have ldlt : ∀ j b, j < n → (X j).ld.ownBlock = some b → b < w.heap.size ∧ b ≠ (X i).b := fun j b hj hb => by
    obtain ⟨cur, e⟩ := row_block (k.ld j hj) hb
    exact ⟨(Array.getElem?_eq_some_iff.1 e).1, ty b _ _ e (by decide)⟩
  have hdk : ∀ p, p < 6 → ∀ l f, (p ≠ (X i).pg → Pgs e p l f) → (p = (X i).pg → l = (X i).ls ∧ f = lo (X i).pg) → Pgs (ovs e (40 + (X i).pg) (pg (X i).ls (lo (X i).pg))) p l f := fun p hp l f h1 h2 => by
    by_cases hq : p = (X i).pg
    · obtain ⟨rfl, rfl⟩ := h2 hq
      exact .inr ⟨h0, fun j hj => by rw [ovs_at _ _ _ _ _ hj, if_pos (by omega)]⟩
    · exact (h1 hq).ext fun j hj => by rw [ovs_at _ _ _ _ _ hj, if_neg (by omega)]
  have lsn : (X i).ls = ln (X i).pg := (k.cl i hi).2.2.1
  refine ⟨⟨ps1.clean i hi, ⟨T, _, vt, ts.part pc hnb, (hl1.less (F' := fun b => (F b ∨ (w.heap.size ≤ b ∧ b < w1.heap.size)) ∧ Dt w1 b) (fun b h => h.1)).part pc gL gT gV, fun b h => h.1.imp (hFP b) id, .inl hT, fun b hb => .inl (hV b hb)⟩, .inl k.pS, ?_, ?_, fun b hb => ?_, ?_, fun j hj => ?_, fun j b hj hb => ?_, fun j hj => ?_, fun p hp' hn => ?_, fun a b ha hb' e' => ?_, k.by_, k.lm, fun p hp' => ?_, k.al, k.nb, fun j hj => by rw [(c0 j).1]; exact k.bl j hj, k.tl⟩, ?_⟩
  · exact (k.tab.partG hp (fun h => k.np.1 (hFP _ h))).partG pc (fun e' => by
      have t0 := (congrArg (fun b => w.cell? ⟨b, 0, none⟩) e').symm.trans (k.tab 0 (by decide))
      rw [cells_at hb 0] at t0
      injection t0 with t0
      injection t0 with t0
      exact absurd t0 (by decide))
  · have s1 := (Array.getElem?_eq_some_iff.1 k.pl).1
    have lL : L < w.heap.size := by
      obtain ⟨_, _, _, _, z1, _⟩ := hl.lay
      exact (Array.getElem?_eq_some_iff.1 z1.hL).1
    have lt0 := k.tab.lt
    exact ⟨fun h => h.elim k.np.1 (fun h => by omega), fun h => h.elim k.np.2.1 (fun h => by omega), fun h => h.elim k.np.2.2 (fun h => by omega)⟩
  · have := pc.size
    rcases hb with hb | hb
    · have := k.lt b hb; omega
    · omega
  · exact (pc.block _ (by have := (Array.getElem?_eq_some_iff.1 k.pl).1; omega) (ty (S + 1) _ _ k.pl (by decide))).trans ((hp.block _ (Array.getElem?_eq_some_iff.1 k.pl).1 (fun h => k.np.2.1 (hFP _ h))).trans k.pl)
  · rw [(c0 j).2.2.2.1, (c0 j).2.1]
    exact pc.row (hp.row (k.ld j hj) (fun b hb h => k.nP j b hj hb (hFP _ h))) (fun b hb => (ldlt j b hj hb).2)
  · rw [(c0 j).2.2.2.1] at hb
    have := (ldlt j b hj hb).1
    exact fun h => h.elim (k.nP j b hj hb) (fun h => by omega)
  · rw [(c0 j).2.1, (c0 j).2.2.1, (c0 j).2.2.2.2]
    obtain ⟨z1, z2, z3, z4, z5⟩ := k.cl j hj
    refine ⟨z1, z2, z3, fun hf => hdk _ z1 _ _ (fun hne => z4 ?_) (fun he => ?_), fun hf => ?_⟩
    · rwa [clean_other X (fun e' => hne (by rw [e']))] at hf
    · rw [he, lsn]; exact ⟨rfl, rfl⟩
    · by_cases e' : j = i
      · rw [e']; exact h0
      · rw [clean_other X e'] at hf; exact z5 hf
  · refine hdk p hp' _ _ (fun _ => k.off p hp' (fun j hj => by have := hn j hj; rwa [(c0 j).2.1] at this)) (fun he => ?_)
    exact absurd ((c0 i).2.1.trans he.symm) (hn i hi)
  · rw [(c0 a).2.1, (c0 b).2.1] at e'
    exact k.pa a b ha hb' e'
  · by_cases hq : p = (X i).pg
    · exact ⟨(X i).ls, lo (X i).pg, hdk p hp' _ _ (fun h => absurd hq h) (fun _ => ⟨rfl, rfl⟩), hA⟩
    · obtain ⟨l, f, d1, d2⟩ := k.dk p hp'
      exact ⟨l, f, hdk p hp' _ _ (fun _ => d1) (fun h => absurd h hq), d2⟩
  · exact (hp.mono (fun b _ hf => .inl (hFP b hf))).trans pc (fun b _ e' => by have e' : b = (X i).b := e'; subst e'; exact .inr ⟨k.bl i hi, _, _, _, hb, .inr rfl⟩)
end Go.Proofs.YthfokciijcmhbaaGreatDoor

namespace Go.Proofs.YthfokciijcmhbaaGreatDoor
open Go.RowKit
set_option linter.unusedVariables false

/-- The disk's bytes with k sectors written, from a place on. -/
def svs (e : Nat → Int) (at_ place first : Nat) (Ls : Nat → Nat) (f : Nat → Nat → Int) : Nat → Nat → Int
  | 0 => e
  | k + 1 => ovs (svs e at_ place first Ls f k) (at_ + (place + k)) (lsec (place + k) first (Ls k) (f k))
theorem svs_at (e : Nat → Int) (at_ place first : Nat) (Ls : Nat → Nat) (f : Nat → Nat → Int) (p i : Nat) (hi : i < 128) : ∀ k, svs e at_ place first Ls f k (p * 128 + i) = if at_ + place ≤ p ∧ p < at_ + place + k then lsec (p - at_) first (Ls (p - at_ - place)) (f (p - at_ - place)) i else e (p * 128 + i)
  | 0 => by rw [svs, if_neg (by omega)]
  | k + 1 => by
    rw [svs, ovs_at _ _ _ _ _ hi, svs_at e at_ place first Ls f p i hi k]
    by_cases h : p = at_ + (place + k)
    · subst h
      rw [if_pos rfl, if_pos (by omega), show at_ + (place + k) - at_ = place + k by omega, show place + k - place = k by omega]
    · rw [if_neg h]
      by_cases h2 : at_ + place ≤ p ∧ p < at_ + place + k
      · rw [if_pos h2, if_pos (by omega)]
      · rw [if_neg h2, if_neg (by omega)]
theorem svs_by {e : Nat → Int} (h : ∀ i, 0 ≤ e i ∧ e i ≤ 255) {at_ place first : Nat} {Ls : Nat → Nat} {f : Nat → Nat → Int} (hL : ∀ k, Ls k ≤ 112) (hf : ∀ k i, 0 ≤ f k i ∧ f k i ≤ 255) : ∀ k i, 0 ≤ svs e at_ place first Ls f k i ∧ svs e at_ place first Ls f k i ≤ 255
  | 0, i => h i
  | k + 1, i => ov_by (svs_by h hL hf k) (sec_by (hdL_by (hL k)) (hf k) _ _) _ _ i

set_option maxRecDepth 100000 in
set_option maxHeartbeats 2000000 in
theorem saveL (D n from_ sectors place first N : Nat) (F : Nat → Prop) (e : Nat → Int) (g0 c0 : Nat) (A : Nat → Option Addr) (Ls C : Nat → Nat) (f : Nat → Nat → Int) (w : World) (h : Sd w D F n 0 e) (hn : n ≤ 4096) (hp : from_ + place + N ≤ n) (hN : first ≤ 9223372036854775807) (ht : Tab w) (htb : ¬ F 0)
    (hIm : ∀ wr, Part F w wr → Img wr (some ⟨g0, 0, none⟩) N A Ls C f) (hL : ∀ k, Ls k ≤ 112) (hf : ∀ k i, 0 ≤ f k i ∧ f k i ≤ 255) :
    Calls Tryz.prog 95 #[.agg #[.pointer (some ⟨D, 0, none⟩), .int .i64 (from_ : Int), .int .i64 (sectors : Int)], .int .i64 (place : Int), .int .i64 (first : Int), .slice (some ⟨g0, 0, none⟩) N c0] w fun r w' => r = .returned (.int .i64 0) ∧ Sd w' D (fun k => F k ∨ (w.heap.size ≤ k ∧ k < w'.heap.size)) n 0 (svs e from_ place first Ls f N) ∧ Part F w w' := by
  obtain ⟨o, ho⟩ : ∃ o, Obj.cells #[.pointer (some ⟨D, 0, none⟩), .int .i64 (from_ : Int), .int .i64 (sectors : Int)] 127 = o := ⟨_, rfl⟩
  have hb0 : Below w.heap.size w (w.alloc o) := (Below.refl _ w).alloc (Nat.le_refl _) o
  have hh0 : (w.alloc o).heap[w.heap.size]? = some (.cells #[.pointer (some ⟨D, 0, none⟩), .int .i64 (from_ : Int), .int .i64 (sectors : Int)] 127 (0, 0)) := by rw [← ho]; exact heap_alloc_at _ _ _ rfl
  have hsz : (w.alloc o).heap.size = w.heap.size + 1 := by simp
  have hFl := h.lt
  have hby := h.by_
  have HI : Hid (∀ wr, Part F (w.alloc o) wr → wr.cell? ⟨w.heap.size, 0, none⟩ = some (.pointer (some ⟨D, 0, none⟩)) ∧ wr.cell? ⟨w.heap.size, 1, none⟩ = some (.int .i64 (from_ : Int)) ∧ wr.cell? ⟨w.heap.size, 2, none⟩ = some (.int .i64 (sectors : Int)) ∧ Tab wr ∧ w.heap.size + 1 ≤ wr.heap.size ∧ Part F w wr) := fun wr hb => by
    have hs := hb.size
    have e1 := (hb.block w.heap.size (by omega) (fun k => by have := hFl _ k; omega)).trans hh0
    refine ⟨by rw [cells_at e1 0]; rfl, by rw [cells_at e1 1]; rfl, by rw [cells_at e1 2]; rfl, fun i hi => ?_, by omega, (Part.ofBelow hb0).trans hb (fun _ _ k => k)⟩
    have := (ht.below hb0 (Nat.le_refl _)) i hi
    exact hb.cell htb this
  have hS0 : Sd (w.alloc o) D (fun k => F k ∨ (w.heap.size + 1 ≤ k ∧ k < (w.alloc o).heap.size)) n 0 e := (h.below hb0).grow (fun k hk => .inl hk) (fun k hk => by
    rcases hk with hk | hk
    · have := hFl k hk; omega
    · exact hk.2)
  have HIm : Hid (∀ wr, Part F w wr → Img wr (some ⟨g0, 0, none⟩) N A Ls C f) := hIm
  have HL : Hid (∀ k, Ls k ≤ 112) := hL
  have HF : Hid (∀ k i, 0 ≤ f k i ∧ f k i ≤ 255) := hf
  clear h ht hh0 hIm hL hf
  go_enter Tryz.func95, Tryz.ntmps95
  go_wp2
  try rw [ho]
  go_loopw [14] (fun i wr => ∃ k : Nat, k ≤ N ∧ i = .int .i64 (k : Int) ∧ Sd wr D (fun k => F k ∨ (w.heap.size + 1 ≤ k ∧ k < wr.heap.size)) n k (svs e from_ place first Ls f k) ∧ Part F (w.alloc o) wr) (fun i _ => N - (intOf i).toNat)
  case atStart => exact ⟨0, Nat.zero_le _, rfl, hS0, Part.refl _ _⟩
  case round =>
    obtain ⟨k, hk, rfl, hS, hP⟩ := hrel
    obtain ⟨z0, z1, z2, ht2, hs2, hPw⟩ := HI.out wr hP
    by_cases hlt : k < N
    · have hlt' : (k : Int) < (N : Int) := by omega
      have hk0 : (0 : Int) ≤ (k : Int) := by omega
      obtain ⟨b, off, hbo, hcell, hfrom, _⟩ := HIm.out wr hPw k hlt
      cases hbo
      rw [Nat.zero_add] at hcell
      have hLk := HL.out k
      have hb1 : Below wr.heap.size wr wr.drew := blw_drewN 1 (Below.refl _ _)
      have hPd : Part F (w.alloc o) wr.drew := hP.drewN 1
      have HE : Hid (∀ z : Int, z = ((place + k : Nat) : Int) → Calls Tryz.prog 105 #[.int .i64 z, .int .i64 (first : Int), .slice (A k) (Ls k) (C k)] wr.drew fun r w' => ∃ g2 c2, r = .returned (.slice (some ⟨g2, 0, none⟩) 128 c2) ∧ Hid (∀ z : Int, z = ((place + k : Nat) : Int) → Calls Tryz.prog 104 #[.agg #[.pointer (some ⟨D, 0, none⟩), .int .i64 (from_ : Int), .int .i64 (sectors : Int)], .int .i64 z, .slice (some ⟨g2, 0, none⟩) 128 c2] w' fun r w'' => r = .returned (.int .i64 0) ∧ Sd w'' D (fun k => F k ∨ (w.heap.size + 1 ≤ k ∧ k < w''.heap.size)) n (k + 1) (svs e from_ place first Ls f (k + 1)) ∧ Part F (w.alloc o) w'') ∧ w'.cell? ⟨w.heap.size, 0, none⟩ = some (.pointer (some ⟨D, 0, none⟩)) ∧ w'.cell? ⟨w.heap.size, 1, none⟩ = some (.int .i64 (from_ : Int)) ∧ w'.cell? ⟨w.heap.size, 2, none⟩ = some (.int .i64 (sectors : Int))) := fun z hz => by
        subst hz
        refine (encL (place + k) first (Ls k) (C k) (A k) (f k) wr.drew (by omega) hN hLk (hfrom.below hb1 (Nat.le_refl _)) (HF.out k) (ht2.below hb1 (Nat.le_refl _))).mono ?_
        rintro r w2 ⟨g2, c2, rfl, ho2, hc2, hb2⟩
        have hb3 : Below wr.heap.size wr w2 := hb1.trans hb2
        have hg2 : wr.heap.size ≤ g2 := (World.ownsRow.lt ho2 g2 rfl).1
        refine ⟨g2, c2, rfl, fun z hz => ?_, ?_⟩
        · subst hz
          refine (aWriteS D n from_ sectors (place + k) k _ _ g2 c2 _ w2 (hS.below hb3) (by omega) hn (by omega) (own_from ho2) (sec_by (hdL_by hLk) (HF.out k) _ _) (fun hx => ?_)).mono ?_
          · rcases hx with hx | hx
            · have := hFl _ hx; omega
            · omega
          · rintro r w3 ⟨rfl, s3, p3⟩
            have hz2 := hb3.size
            have hz3 := p3.size
            refine ⟨rfl, s3.grow (fun k hk => ?_) (fun k hk => ?_), (hP.trans (Part.ofBelow (F := fun _ => False) hb3) (fun _ _ h => h.elim)).trans p3 (fun k hk hk2 => ?_)⟩
            · rcases hk with (hk | hk) | hk
              · exact .inl hk
              · exact .inr (by omega)
              · exact .inr (by omega)
            · rcases hk with hk | hk
              · exact s3.lt k (.inl (.inl hk))
              · exact hk.2
            · rcases hk2 with hk2 | hk2
              · exact hk2
              · omega
        · obtain ⟨c1, c2', c3, _⟩ := HI.out w2 (hP.trans (Part.ofBelow (F := fun _ => False) hb3) (fun _ _ h => h.elim))
          exact ⟨c1, c2', c3⟩
      have HZ : Hid (IntKind.i64.wrap ((place : Int) + (k : Int)) = ((place + k : Nat) : Int)) := (by rw [IntKind.wrap_i64]; omega : IntKind.i64.wrap ((place : Int) + (k : Int)) = ((place + k : Nat) : Int))
      have hpb : (place : Int) ≤ 4096 := by omega
      have hkb : (k : Int) ≤ 4096 := by omega
      obtain ⟨u0, u1, u2, _⟩ := HI.out wr.drew hPd
      clear hS ht2 hfrom
      go_upto_region 4 with fail
      go_cut [11] (fun s11 wc => s11 = .int .i64 0 ∧ Sd wc D (fun k => F k ∨ (w.heap.size + 1 ≤ k ∧ k < wc.heap.size)) n (k + 1) (svs e from_ place first Ls f (k + 1)) ∧ Part F (w.alloc o) wc)
      case first =>
        go_region_with (first
          | (go_at_call 105; refine (HE.out _ (by first | exact HZ.out | omega)).mono ?_; rintro r w2 ⟨g2, c2, rfl, HW, f0, f1, f2⟩)
          | (go_at_call 104; refine (HW.out _ (by first | exact HZ.out | omega)).mono ?_; rintro r w3 ⟨rfl, hs3, hp3⟩))
        all_goals
          go_wp2_with fail
          go_meet
          exact ⟨rfl, hs3, hp3⟩
      case rest =>
        obtain ⟨rfl, hs3, hp3⟩ := hcut
        clear HE
        go_wp2
        go_roundw
        case rel => exact ⟨k + 1, by omega, by go_num, hs3, hp3⟩
        case measure => simp [intOf]; omega
    · obtain rfl : k = N := by omega
      have hge : ¬ (k : Int) < (k : Int) := by omega
      have CF := sdFlush D n _ _ _ wr hS (by omega)
      have hz5 := hP.size
      clear hS
      go_wp2_with fail
      refine CF.mono ?_
      rintro r w1 ⟨rfl, s1, p1⟩
      have hz1 := p1.size
      have q2 : Part F w w1 := (HI.out w1 (hP.trans p1 (fun k hk hk2 => by
        rcases hk2 with hk2 | hk2
        · exact hk2
        · omega))).2.2.2.2.2
      have q1 := s1.grow (G := fun k => F k ∨ (w.heap.size ≤ k ∧ k < w1.heap.size)) (fun k hk => hk.imp id (fun hk => by omega)) (fun k hk => by
        rcases hk with hk | hk
        · exact s1.lt k (.inl hk)
        · exact hk.2)
      clear CF s1 p1
      go_wp2
      go_ret
      exact ⟨rfl, q1, q2⟩
end Go.Proofs.YthfokciijcmhbaaGreatDoor
