/-
  A heap's mover under way over a list (Rn): what stays and what is turned by one move, by one word that is set.
-/
import Derived.Test.YtmpilcamnhlalaaDoorHpKl
namespace Go.Proofs.YtmpilcamnhlalaaDoor
open Go.RowKit
set_option linter.unusedVariables false

/-- What a young collection over a list begins with: t young pairs that y tells, behind them what oo leads to; the fields that count as roots. -/
structure Env where
  no : Nat
  ny : Nat
  t : Nat
  oc : Nat
  L : Nat
  mb : Nat
  rl : Nat
  fb : Nat
  W0 : Nat
  sy : Value
  so : Value
  vm : Value
  sr : Value
  K : Nat → Nat
  FB : Nat → Nat
  FL : Nat → Nat
  FW : Nat → Nat → Int
  y : Nat → Nat
  oo : Option Nat
  kf : Nat → Int
def Env.lk (E : Env) (s : Nat) : Option Nat := if s + 1 < E.t then some (E.no + E.y (s + 1)) else E.oo
def Env.nx (E : Env) (s : Nat) : Option Nat := if s + 1 < E.t then some (E.no + (s + 1)) else E.oo
def Env.r0 (E : Env) : Option Nat := if 0 < E.t then some (E.no + E.y 0) else E.oo
def Env.r1 (E : Env) : Option Nat := if 0 < E.t then some (E.no + 0) else E.oo
def Env.fw (E : Env) : Nat → Nat → Nat → Int
  | 0, j, q => E.FW j q
  | a + 1, j, q => if j = E.no + E.y a ∧ q = 1 then kw (E.nx a) else E.fw a j q
structure EnvOk (E : Env) : Prop where
  y1 : ∀ s, s < E.t → E.y s < E.ny
  yi : ∀ a b, a < E.t → b < E.t → E.y a = E.y b → a = b
  fl : ∀ s, s < E.t → E.FL (E.no + E.y s) = 2
  f0 : ∀ s, s < E.t → ∃ a : Nat, a ≤ 1000000 ∧ E.FW (E.no + E.y s) 0 = 2 * (a : Int) + 1
  f1 : ∀ s, s < E.t → E.FW (E.no + E.y s) 1 = kw (E.lk s)
  o1 : ∀ j, E.oo = some j → j < E.no
  l1 : 1 ≤ E.L
  l2 : E.L ≤ 2
  k1 : E.kf (E.L - 1) = kw E.r0
  k0 : ∀ q, q + 1 < E.L → Sk E.no (E.kf q)
  n1 : E.no + E.t ≤ 1000
  n2 : E.ny ≤ 1000
  n3 : E.oc ≤ 1000
  b1 : E.W0 ≤ E.mb
  b2 : ∀ k, E.vm.ownBlock = some k → E.W0 ≤ k
  b3 : E.fb < E.W0
  b4 : ∀ k, E.sr.ownBlock = some k → k < E.W0 ∧ k ≠ E.fb
  b5 : ∀ j, j < E.no + E.ny → E.FB j < E.W0 ∧ E.FB j ≠ E.fb ∧ E.sr.ownBlock ≠ some (E.FB j)
  b6 : ∀ i j, i < E.no + E.ny → j < E.no + E.ny → E.FB i = E.FB j → i = j
structure Rn (E : Env) (w0 w : World) (c a : Nat) (b1 b2 : Bool) (vto : Value) : Prop where
  mv : Mv w E.mb E.no E.ny c E.oc E.sy E.vm vto E.K E.FB E.FL E.y
  hr : w.ownsRow 0 28 1 E.sr 1 [.int .i64 (kw (if b1 then E.r1 else E.r0))]
  hf : w.heap[E.fb]? = some (.cells (wrow (fun q => if b2 = true ∧ q + 1 = E.L then kw E.r1 else E.kf q) E.L) 28 (0, 0))
  ff : ∀ j, j < E.no + E.ny → w.heap[E.FB j]? = some (.cells (wrow (E.fw a j) (E.FL j)) 28 (0, 0))
  hl : w.heap[E.rl]? = some (.cells #[E.sr, .slice (some ⟨E.fb, 0, none⟩) E.L E.L] 33 (0, 0))
  vt : vto.ownBlock = E.so.ownBlock ∨ ∃ k, vto.ownBlock = some k ∧ E.W0 ≤ k
  pt : Part (fun k => E.so.ownBlock = some k ∨ E.sr.ownBlock = some k ∨ k = E.fb ∨ ∃ j, j < E.no + E.ny ∧ k = E.FB j) w0 w
theorem cells_ne {w : World} {g h : Nat} {c d : Array Value} {t u : TypeId} (h1 : w.heap[g]? = some (.cells c t (0, 0))) (h2 : w.heap[h]? = some (.cells d u (0, 0))) (ht : t ≠ u) : g ≠ h := fun e => by
  rw [e, h2] at h1
  injection h1 with h1
  injection h1 with _ h1 _
  exact ht h1.symm
theorem row_block {w : World} {B : Nat} {e : TypeId} {s : Nat} {v : Value} {n : Nat} {xs : List Value} (h : w.ownsRow B e s v n xs) {k : Nat} (hk : v.ownBlock = some k) : ∃ cur, w.heap[k]? = some (.cells cur e (0, 0)) := by
  rcases h.2 with ⟨rfl, _⟩ | ⟨g, cap, cur, rfl, h2, h3, _⟩
  · cases hk
  · cases hk; exact ⟨cur, h3⟩
/-- Draws alone. -/
theorem Rn.dr {E : Env} {w0 w w' : World} {c a : Nat} {b1 b2 : Bool} {vto : Value} (h : Rn E w0 w c a b1 b2 vto) (hd : Dr w w') : Rn E w0 w' c a b1 b2 vto := by
  obtain ⟨q, rfl⟩ := hd
  exact ⟨h.mv.below (blw_drewN q (Below.refl _ _)), row_heap h.hr rfl, h.hf, h.ff, h.hl, h.vt, h.pt.drewN q⟩
/-- One object more is moved. -/
theorem Rn.move {E : Env} {w0 w w' : World} {c a : Nat} {b1 b2 : Bool} {vto : Value} (ok : EnvOk E) (hw0 : w0.heap.size = E.W0) (h : Rn E w0 w c a b1 b2 vto) (hm : Moved w w' E.mb E.no E.ny c E.oc E.sy E.vm vto E.K E.FB E.FL E.y) : ∃ v', Rn E w0 w' (c + 1) a b1 b2 v' := by
  obtain ⟨v', m1, m2, m3⟩ := hm
  have hs := h.pt.size
  have key : ∀ k cur, w.heap[k]? = some (.cells cur 28 (0, 0)) → k < E.W0 → w'.heap[k]? = some (.cells cur 28 (0, 0)) := fun k cur hk hl => m2.pair hk (fun e => by
    rcases e with e | e | e
    · have := ok.b1; omega
    · have := ok.b2 k e; omega
    · exact row_ne h.mv.rt hk (by decide) e)
  refine ⟨v', m1, m2.row h.hr (fun k hk e => ?_), key _ _ h.hf ok.b3, fun j hj => key _ _ (h.ff j hj) (ok.b5 j hj).1, m2.pair h.hl (fun e => ?_), ?_, h.pt.trans m2 (fun k hk e => ?_)⟩
  · obtain ⟨cur, hc⟩ := row_block h.hr hk
    have := (ok.b4 k hk).1
    rcases e with e | e | e
    · have := ok.b1; omega
    · have := ok.b2 k e; omega
    · exact row_ne h.mv.rt hc (by decide) e
  · rcases e with e | e | e
    · exact cells_ne h.hl h.mv.hm (by decide) e
    · exact row_ne h.mv.rm h.hl (by decide) e
    · exact row_ne h.mv.rt h.hl (by decide) e
  · rcases m3 with e | ⟨k, e, l⟩
    · rw [e]; exact h.vt
    · exact .inr ⟨k, e, by omega⟩
  · rcases e with e | e | e
    · have := ok.b1; omega
    · have := ok.b2 k e; omega
    · rcases h.vt with e2 | ⟨k2, e2, l2⟩
      · exact .inl (by rw [← e2]; exact e)
      · rw [e2] at e; cases e; omega
/-- A word of a list that lies below is set. -/
theorem Rn.other {E : Env} {w0 w : World} {c a : Nat} {b1 b2 : Bool} {vto : Value} (ok : EnvOk E) (h : Rn E w0 w c a b1 b2 vto) (k i : Nat) (v : Value) {cur : Array Value} (hk : w.heap[k]? = some (.cells cur 28 (0, 0))) (hl : k < E.W0) : Mv (w.setCell ⟨k, i, none⟩ v) E.mb E.no E.ny c E.oc E.sy E.vm vto E.K E.FB E.FL E.y ∧ (w.setCell ⟨k, i, none⟩ v).heap[E.rl]? = some (.cells #[E.sr, .slice (some ⟨E.fb, 0, none⟩) E.L E.L] 33 (0, 0)) := by
  have hp : Part (fun q => q = k) w (w.setCell ⟨k, i, none⟩ v) := (Part.refl (fun q => q = k) w).setCell (p := ⟨k, i, none⟩) (fun _ => rfl) _
  refine ⟨h.mv.part hp (cells_ne h.mv.hm hk (by decide)) (fun q hq e => ?_) (fun q hq e => ?_) (fun q hq e => ?_), hp.pair h.hl (cells_ne h.hl hk (by decide))⟩
  · subst e; exact row_ne h.mv.rs hk (by decide) hq
  · subst e; have := ok.b2 _ hq; omega
  · subst e; exact row_ne h.mv.rt hk (by decide) hq
theorem Rn.setR {E : Env} {w0 w : World} {c a g cr : Nat} {b2 : Bool} {vto : Value} (ok : EnvOk E) (hg : E.sr = .slice (some ⟨g, 0, none⟩) 1 cr) (h : Rn E w0 w c a false b2 vto) : Rn E w0 (w.setCell ⟨g, 0, none⟩ (.int .i64 (kw E.r1))) c a true b2 vto := by
  have hgb : E.sr.ownBlock = some g := by rw [hg]; rfl
  obtain ⟨cur, hc⟩ := row_block h.hr hgb
  obtain ⟨gl, gf⟩ := ok.b4 g hgb
  obtain ⟨m1, m2⟩ := h.other ok g 0 (.int .i64 (kw E.r1)) hc gl
  have hr := h.hr
  rw [hg] at hr
  obtain ⟨g', c', e', _, _, r3⟩ := row_put1 (u' := .int .i64 (kw E.r1)) hr
  cases e'
  refine ⟨m1, by rw [hg]; exact r3, (heap_set_other w (fun e => gf e.symm) 0 _).trans h.hf, fun j hj => (heap_set_other w (fun e => (ok.b5 j hj).2.2 (by rw [e]; exact hgb)) 0 _).trans (h.ff j hj), m2, h.vt, h.pt.setCell (p := ⟨g, 0, none⟩) (fun _ => .inr (.inl hgb)) _⟩
theorem wrow_set (f g : Nat → Int) (m i : Nat) (z : Int) (hi : i < m) (h1 : g i = z) (h2 : ∀ q, q < m → q ≠ i → g q = f q) : (wrow f m).setIfInBounds i (.int .i64 z) = wrow g m := by
  apply Array.ext_getElem?
  intro j
  by_cases hj : j = i
  · subst hj
    rw [Array.getElem?_setIfInBounds_self_of_lt (by simp [wrow]; omega), wrow_get _ _ _ hi, h1]
  · rw [Array.getElem?_setIfInBounds_ne (by omega)]
    by_cases hj2 : j < m
    · rw [wrow_get _ _ _ hj2, wrow_get _ _ _ hj2, h2 j hj2 hj]
    · rw [Array.getElem?_eq_none (by simp [wrow]; omega), Array.getElem?_eq_none (by simp [wrow]; omega)]
theorem Rn.setF {E : Env} {w0 w : World} {c a : Nat} {b1 : Bool} {vto : Value} (ok : EnvOk E) (h : Rn E w0 w c a b1 false vto) : Rn E w0 (w.setCell ⟨E.fb, E.L - 1, none⟩ (.int .i64 (kw E.r1))) c a b1 true vto := by
  have l1 := ok.l1
  obtain ⟨m1, m2⟩ := h.other ok E.fb (E.L - 1) (.int .i64 (kw E.r1)) h.hf ok.b3
  refine ⟨m1, row_set h.hr (fun e => (ok.b4 _ e).2 rfl) _ _, ?_, fun j hj => (heap_set_other w (ok.b5 j hj).2.1 _ _).trans (h.ff j hj), m2, h.vt, h.pt.setCell (p := ⟨E.fb, E.L - 1, none⟩) (fun _ => .inr (.inr (.inl rfl))) _⟩
  rw [heap_set_at h.hf, wrow_set _ (fun q => if true = true ∧ q + 1 = E.L then kw E.r1 else E.kf q) E.L (E.L - 1) _ (by omega) (if_pos ⟨rfl, by omega⟩) (fun q hq hne => ?_)]
  rw [if_neg (fun e => hne (by omega)), if_neg (fun e => by cases e.1)]
theorem Rn.setJ {E : Env} {w0 w : World} {c a : Nat} {b1 b2 : Bool} {vto : Value} (ok : EnvOk E) (ha : a < E.t) (h : Rn E w0 w c a b1 b2 vto) : Rn E w0 (w.setCell ⟨E.FB (E.no + E.y a), 1, none⟩ (.int .i64 (kw (E.nx a)))) c (a + 1) b1 b2 vto := by
  have hj := ok.y1 a ha
  have hjn : E.no + E.y a < E.no + E.ny := by omega
  obtain ⟨x1, x2, x3⟩ := ok.b5 _ hjn
  obtain ⟨m1, m2⟩ := h.other ok _ 1 (.int .i64 (kw (E.nx a))) (h.ff _ hjn) x1
  refine ⟨m1, row_set h.hr (fun e => x3 e) _ _, (heap_set_other w (fun e => x2 e.symm) _ _).trans h.hf, fun j hj2 => ?_, m2, h.vt, h.pt.setCell (p := ⟨E.FB (E.no + E.y a), 1, none⟩) (fun _ => .inr (.inr (.inr ⟨_, hjn, rfl⟩))) _⟩
  by_cases e : j = E.no + E.y a
  · subst e
    rw [heap_set_at (h.ff _ hjn), wrow_set _ (E.fw (a + 1) (E.no + E.y a)) _ 1 _ (by rw [ok.fl a ha]; decide) (by rw [Env.fw, if_pos ⟨rfl, rfl⟩]) (fun q hq hne => by rw [Env.fw, if_neg (fun e => hne e.2)])]
  · rw [heap_set_other w (fun e2 => e (ok.b6 _ _ hj2 hjn e2)) _ _, h.ff j hj2]
    congr 2
    unfold wrow
    congr 1
    apply List.map_congr_left
    intro q _
    rw [Env.fw, if_neg (fun e2 => e e2.1)]
/-- A word that stays as it is. -/
theorem Rn.sameR {E : Env} {w0 w : World} {c a : Nat} {b2 : Bool} {vto : Value} (h : Rn E w0 w c a false b2 vto) (e : E.r1 = E.r0) : Rn E w0 w c a true b2 vto := ⟨h.mv, by rw [if_pos rfl, e]; exact h.hr, h.hf, h.ff, h.hl, h.vt, h.pt⟩
theorem wrow_ext {f g : Nat → Int} {m : Nat} (h : ∀ q, q < m → f q = g q) : wrow f m = wrow g m := by
  unfold wrow
  congr 1
  apply List.map_congr_left
  intro q hq
  rw [h q (List.mem_range.1 hq)]
theorem Rn.sameF {E : Env} {w0 w : World} {c a : Nat} {b1 : Bool} {vto : Value} (ok : EnvOk E) (h : Rn E w0 w c a b1 false vto) (e : E.r1 = E.r0) : Rn E w0 w c a b1 true vto := by
  refine ⟨h.mv, h.hr, ?_, h.ff, h.hl, h.vt, h.pt⟩
  rw [h.hf]
  congr 2
  refine wrow_ext (fun q hq => ?_)
  rw [if_neg (fun e => by cases e.1)]
  by_cases e2 : q + 1 = E.L
  · rw [if_pos ⟨rfl, e2⟩, e, ← ok.k1]
    congr 1
    omega
  · rw [if_neg (fun e => e2 e.2)]
theorem Env.fw_young {E : Env} (ok : EnvOk E) {s : Nat} (hs : s < E.t) : ∀ a, a ≤ s → ∀ q, E.fw a (E.no + E.y s) q = E.FW (E.no + E.y s) q
  | 0, _, q => rfl
  | a + 1, ha, q => by
    rw [Env.fw, if_neg (fun e => by
      have := ok.yi s a hs (by omega) (by omega)
      omega), E.fw_young ok hs a (by omega) q]
theorem Rn.sameJ {E : Env} {w0 w : World} {c a : Nat} {b1 b2 : Bool} {vto : Value} (ok : EnvOk E) (ha : a < E.t) (h : Rn E w0 w c a b1 b2 vto) (e : E.nx a = E.lk a) : Rn E w0 w c (a + 1) b1 b2 vto := by
  refine ⟨h.mv, h.hr, h.hf, fun j hj => ?_, h.hl, h.vt, h.pt⟩
  rw [h.ff j hj]
  congr 2
  refine wrow_ext (fun q hq => ?_)
  rw [Env.fw]
  by_cases e2 : j = E.no + E.y a ∧ q = 1
  · rw [if_pos e2, e, e2.1, e2.2, E.fw_young ok ha a (Nat.le_refl _), ok.f1 a ha]
  · rw [if_neg e2]
end Go.Proofs.YtmpilcamnhlalaaDoor
