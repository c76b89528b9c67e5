/-
  PoolAhead: a round's calls and what comes behind, over the law's state.
-/
import Derived.Test.YtnaobkpncfbnaaaGreatDoorGf
import Derived.Test.YtnaobkpncfbnaaaGreatDoorPwT
import Derived.Test.YtnaobkpncfbnaaaGreatDoorZeros
namespace Go.Proofs.YtnaobkpncfbnaaaGreatDoor
open Go.RowKit
set_option linter.unusedVariables false

variable {A : Prop} {w0 w w' wq : World} {P P' : Nat → Prop} {S D L bf n M last forced : Nat} {m : Int} {X : Nat → Bf} {e : Nat → Int} {ln : Nat → Nat} {lo : Nat → Nat → Int} {mb k la1 mm : Nat} {fv : Nat → Option Value}
theorem Pw.fl {B0 : Nat} (k : Pw B0 A w P S m D L bf n X M e last forced ln lo) : forced ≤ last := by
  obtain ⟨_, _, _, _, z, _⟩ := k.lay
  exact z.fl
/-- Behind a call of the pool's or the log's that puts nothing. -/
theorem Lw.went {n' M' la' fo' : Nat} {X' : Nat → Bf} {e' : Nat → Int} (h : Lw A w0 w P S D L bf n X M e last forced ln lo mb k fv) (j1 : Pw w0.heap.size A w' P' S 0 D L bf n' X' M' e' la' fo' ln lo) (j3 : Part (Fw w0.heap.size P w) w w') (j4 : ∀ b, P' b → P b ∨ w.heap.size ≤ b) : Lw A w0 w' P' S D L bf n' X' M' e' la' fo' ln lo mb k fv := by
  have hbs := h.bel.size
  refine ⟨j1, h.bel.trans (j3.below (fun b hf => ?_) hbs), fun b hb => ?_, h.ib.part j3 (map_notF h.ib.isMap h.nb.2), ⟨h.nb.1, fun hb => ?_⟩, fun p hp => ?_⟩
  · rcases hf with hf | hf
    · exact h.low b hf
    · exact hf.1
  · rcases j4 b hb with h1 | h1
    · exact h.low b h1
    · omega
  · rcases j4 mb hb with h1 | h1
    · exact h.nb.2 h1
    · have := h.ib.lt; omega
  · rcases h.at_ p hp with h1 | ⟨g, c, h1, h2, h3⟩
    · exact .inl h1
    · exact .inr ⟨g, c, h1, h2, h3.step j3 j4⟩
/-- The law's state with what was put: la records, k puts, at most mm writes. -/
def Lc (w0 : World) (S D L bf mb la k mm : Nat) (ln : Nat → Nat) (lo : Nat → Nat → Int) (fv : Nat → Option Value) (w : World) : Prop := ∃ P n X M e fo, Lw True w0 w P S D L bf n X M e la fo ln lo mb k fv ∧ M ≤ mm
def La (w0 : World) (S D L bf mb la k mm : Nat) (w : World) : Prop := ∃ ln lo fv, Lc w0 S D L bf mb la k mm ln lo fv w
theorem Lc.below (h : Lc w0 S D L bf mb la1 k mm ln lo fv w) (hb : Below w.heap.size w w') : Lc w0 S D L bf mb la1 k mm ln lo fv w' := by
  obtain ⟨P, n, X, M, e, fo, h, hM⟩ := h
  exact ⟨P, n, X, M, e, fo, h.below hb, hM⟩
theorem La.below (h : La w0 S D L bf mb la1 k mm w) (hb : Below w.heap.size w w') : La w0 S D L bf mb la1 k mm w' := by
  obtain ⟨ln, lo, fv, h⟩ := h
  exact ⟨ln, lo, fv, h.below hb⟩
theorem La.more {mm' : Nat} (h : La w0 S D L bf mb la1 k mm w) (hm : mm ≤ mm') : La w0 S D L bf mb la1 k mm' w := by
  obtain ⟨ln, lo, fv, P, n, X, M, e, fo, h, hM⟩ := h
  exact ⟨ln, lo, fv, P, n, X, M, e, fo, h, by omega⟩
theorem Lc.bel (h : Lc w0 S D L bf mb la1 k mm ln lo fv w) : Below w0.heap.size w0 w := by
  obtain ⟨P, n, X, M, e, fo, h, hM⟩ := h
  exact h.bel
theorem La.bel (h : La w0 S D L bf mb la1 k mm w) : Below w0.heap.size w0 w := by
  obtain ⟨ln, lo, fv, h⟩ := h
  exact h.bel
theorem Lc.ptd {M' : Nat} (h : Lw True w0 w P S D L bf n X M e la1 forced ln lo mb k fv) (hp : Ptd w0.heap.size True w P S 0 D L bf M' la1 forced ln lo w') (hm : M' ≤ mm) : Lc w0 S D L bf mb la1 k mm ln lo fv w' := by
  obtain ⟨n', X', P', e', fo', j1, j2, j3, j4, _⟩ := hp
  exact ⟨P', n', X', M', e', fo', h.went j1 j3 j4, hm⟩
/-- The state with a box that is none of the pool's blocks. -/
def Lb (w0 : World) (S D L bf mb la1 k mm x : Nat) (cs : Array Value) (w : World) : Prop := ∃ ln lo fv P n X M e fo, Lw True w0 w P S D L bf n X M e la1 fo ln lo mb k fv ∧ M ≤ mm ∧ ¬ P x ∧ w.heap[x]? = some (.cells cs 38 (0, 0))
theorem Lb.la {x : Nat} {cs : Array Value} (h : Lb w0 S D L bf mb la1 k mm x cs w) : La w0 S D L bf mb la1 k mm w := by
  obtain ⟨ln, lo, fv, P, n, X, M, e, fo, h, hM, _⟩ := h
  exact ⟨ln, lo, fv, P, n, X, M, e, fo, h, hM⟩
theorem Lb.box {x : Nat} {cs : Array Value} (h : Lb w0 S D L bf mb la1 k mm x cs w) : w.heap[x]? = some (.cells cs 38 (0, 0)) := by
  obtain ⟨ln, lo, fv, P, n, X, M, e, fo, h, hM, _, hb⟩ := h
  exact hb
theorem Lb.below {x : Nat} {cs : Array Value} (h : Lb w0 S D L bf mb la1 k mm x cs w) (hb : Below w.heap.size w w') : Lb w0 S D L bf mb la1 k mm x cs w' := by
  obtain ⟨ln, lo, fv, P, n, X, M, e, fo, h, hM, hx, hc⟩ := h
  exact ⟨ln, lo, fv, P, n, X, M, e, fo, h.below hb, hM, hx, (hb.block x (Array.getElem?_eq_some_iff.1 hc).1).trans hc⟩
theorem box_notF {x B0 : Nat} {cs : Array Value} (hP : ¬ P x) (hc : w.heap[x]? = some (.cells cs 38 (0, 0))) : ¬ Fw B0 P w x := fun hf => by
  rcases hf with hf | ⟨_, cs', t, fz, e, ht⟩
  · exact hP hf
  · rw [hc] at e
    injection e with e
    injection e with _ e
    subst e
    rcases ht with ht | ht <;> exact absurd ht (by decide)
/-- Append of the law's record. -/
theorem a_append (h : La w0 S D L bf mb k k mm w) (hk : k ≤ 1000) (hb : Below w.heap.size w wq) (x : Nat) (cs : Array Value) (hx : w.heap.size ≤ x) (hxc : wq.heap[x]? = some (.cells cs 38 (0, 0))) (g c : Nat) (hg : w.heap.size ≤ g) (hc : wq.cell? ⟨g, 0, none⟩ = some (.int .u8 1)) : Calls Tryz.prog 9 #[.pointer (some ⟨L, 0, none⟩), .slice (some ⟨g, 0, none⟩) 1 c] wq fun r w' => (r = .returned (.tuple #[.int .i64 0, .int .i64 4]) ∧ Hid (Below w0.heap.size w0 w')) ∨ (∃ z, z = (k : Int) + 1 ∧ r = .returned (.tuple #[.int .i64 z, .int .i64 0]) ∧ Hid (Lb w0 S D L bf mb (k + 1) k mm x cs w')) := by
  obtain ⟨ln, lo, fv, P, n, X, M, e, fo, h, hM⟩ := h
  have hl := h.pw.lt
  have hq := h.below hb
  refine (pw_append hq.pw (by omega) g c 1 ⟨by decide, by decide⟩ hc (fun hP => by have := hl g hP; omega)).mono fun r w' hr => ?_
  rcases hr with ⟨hr, hb2⟩ | ⟨hr, P', j1, j2, j3⟩
  · exact .inl ⟨hr, hq.bel.trans (hb2.mono hq.bel.size)⟩
  · have hxl := (Array.getElem?_eq_some_iff.1 hxc).1
    have hnP : ¬ P x := fun hP => by have := hl x hP; omega
    exact .inr ⟨((k + 1 : Nat) : Int), by omega, hr, ln, lo, fv, P', n, X, M, e, fo, hq.went j1 (Fq.wide j2) j3, hM, fun hP => by
      rcases j3 x hP with h1 | h1
      · exact hnP h1
      · omega, ((Fq.wide j2).block x hxl (box_notF hnP hxc)).trans hxc⟩
/-- Put, and the map's store. -/
theorem a_put {x : Nat} {cs : Array Value} (h : Lb w0 S D L bf mb (k + 1) k mm x cs w) (hk : k ≤ 100) (hm : mm ≤ 1000) (hb : Below w.heap.size w wq) {z g c : Nat} {f : Nat → Int} (hz : z < 10) (hbf : 0 < bf) (ho : Own wq w.heap.size (.slice (some ⟨g, 0, none⟩) 112 c) (lst f 112)) (hby : ∀ i, 0 ≤ f i ∧ f i ≤ 255) (t : Int) (ht : t = (k : Int) + 1) : Calls Tryz.prog 11 #[.pointer (some ⟨S + 1, 0, none⟩), .int .i64 (z : Int), .int .i64 t, .slice (some ⟨g, 0, none⟩) 112 c] wq fun r w1 => r = .returned (.int .i64 0) ∧ ∃ w2, (Instr.mapUpdate 35 (.map (some mb)) (.int .i64 (z : Int)) (.slice (some ⟨g, 0, none⟩) 112 c)).run Tryz.prog w1 = .ok () w2 ∧ Hid (Lb w0 S D L bf mb (k + 1) (k + 1) (mm + 1) x cs w2) := by
  obtain ⟨ln, lo, fv, P, n, X, M, e, fo, h, hM, hxP, hxc⟩ := h
  have hl := h.pw.lt
  have hbs := h.bel.size
  have hq := h.below hb
  have hxl := (Array.getElem?_eq_some_iff.1 hxc).1
  have hxq := (hb.block x hxl).trans hxc
  have hg : Ldo w0 wq P g c f := ⟨ho.mono hbs, fun hP => by have := hl g hP; have := (World.ownsRow.lt ho g rfl).1; omega⟩
  have := p_putW hq.pw z (k + 1) hz ⟨by omega, by omega⟩ (fun _ => Nat.le_refl _) (some ⟨g, 0, none⟩) c f hg.from_ (fun y hy => by injection hy with hy; rw [← hy]; exact hg.notF) hby (by omega) hbf (fun wr h0 kr => s_saveG kr 0 h0 (by omega))
  rw [show ((k + 1 : Nat) : Int) = t by omega] at this
  refine this.mono fun r w1 ⟨hr, HE⟩ => ?_
  obtain ⟨n', X', P', e', fo', j1, j2, j3, j4, _⟩ := HE.out
  have i1 : Im w1 mb k fv := hq.ib.part j3 (map_notF hq.ib.isMap hq.nb.2)
  have hx1 := (j3.block x (Array.getElem?_eq_some_iff.1 hxq).1 (box_notF hxP hxq)).trans hxq
  obtain ⟨w2, r2, m2, p2⟩ := i1.store 35 36 Tryz.underlying35 (by omega) hz (.slice (some ⟨g, 0, none⟩) 112 c)
  have b1 : Below w0.heap.size w0 w1 := hq.bel.trans (j3.below (fun b hf => by
    rcases hf with hf | hf
    · exact hq.low b hf
    · exact hf.1) hq.bel.size)
  have nP' : ¬ P' mb := fun hb => by
    rcases j4 mb hb with h1 | h1
    · exact hq.nb.2 h1
    · have := hq.ib.lt; omega
  have hqs := hq.bel.size
  refine ⟨hr, w2, r2, upd ln z (k + 1), upd lo z f, upd fv z (some (.slice (some ⟨g, 0, none⟩) 112 c)), P', n', X', M + 1, e', fo', ⟨j1.mapped i1.isMap nP' p2, b1.trans (p2.below (fun b e1 => by have e1 : b = mb := e1; rw [e1]; exact hq.nb.1) b1.size), fun b hb => ?_, m2, ⟨hq.nb.1, nP'⟩, fun p hp' => ?_⟩, by omega, fun hP => ?_, (p2.block x (Array.getElem?_eq_some_iff.1 hx1).1 (fun e1 => ?_)).trans hx1⟩
  · rcases j4 b hb with h1 | h1
    · exact hq.low b h1
    · omega
  · by_cases ez : p = z
    · subst ez
      rw [upd_at, upd_at, upd_at]
      exact .inr ⟨g, c, rfl, by omega, (hg.step j3 j4).other i1.isMap p2⟩
    · rw [upd_ne fv _ ez, upd_ne ln _ ez, upd_ne lo _ ez]
      rcases hq.at_ p hp' with h1 | ⟨g', c', h1, h2, h3⟩
      · exact .inl h1
      · exact .inr ⟨g', c', h1, h2, (h3.step j3 j4).other i1.isMap p2⟩
  · rcases j4 x hP with h1 | h1
    · exact hxP h1
    · have := (Array.getElem?_eq_some_iff.1 hxq).1; omega
  · obtain ⟨es, cl, hm'⟩ := i1.isMap
    have e1 : x = mb := e1
    rw [← e1, hx1] at hm'
    cases hm'
/-- Flush. -/
theorem a_flush (h : La w0 S D L bf mb la1 k mm w) (hm : mm ≤ 1000) {z : Nat} (hz : z < 10) : Calls Tryz.prog 12 #[.pointer (some ⟨S + 1, 0, none⟩), .int .i64 (z : Int)] w fun r w' => r = .returned (.int .i64 0) ∧ Hid (La w0 S D L bf mb la1 k (mm + 1) w') := by
  obtain ⟨ln, lo, fv, P, n, X, M, e, fo, h, hM⟩ := h
  exact (p_flushW h.pw z hz (by omega)).mono fun r w' ⟨hr, HE⟩ => ⟨hr, ln, lo, fv, Lc.ptd h HE.out.1 (by omega)⟩
/-- A page's sector that is read: the number in it is one that the log has forced. -/
theorem a_read (h : La w0 S D L bf mb la1 k mm w) (hla : la1 ≤ 255) (hm : mm ≤ 1000) {z : Nat} (hz : z < 10) (t : Int) (ht : t = 4 + (z : Int)) : Calls Tryz.prog 13 #[.pointer (some ⟨D, 0, none⟩), .int .i64 t] w fun r w' => ∃ g c l fo : Nat, r = .returned (.tuple #[.slice (some ⟨g, 0, none⟩) 128 c, .int .i64 0]) ∧ l ≤ fo ∧ fo ≤ 255 ∧ 128 ≤ c ∧ Hid (∀ j, j < 8 → w'.cell? ⟨g, 4 + j, none⟩ = some (.int .u8 (if j = 0 then (l : Int) else 0))) ∧ Hid (∀ q, Calls Tryz.prog 14 #[.pointer (some ⟨L, 0, none⟩)] (w'.drewN q) fun r w2 => r = .returned (.int .i64 (fo : Int)) ∧ w2 = w'.drewN q) ∧ Hid (La w0 S D L bf mb la1 k mm w') := by
  obtain ⟨ln, lo, fv, P, n, X, M, e, fo, h, hM⟩ := h
  obtain ⟨l, f, hp, hlf⟩ := h.pw.dk z hz
  have hlf := hlf trivial
  have hfl := h.pw.fl
  refine (pw_dread h.pw z hz (by omega) w (Dr0.refl w) t ht).mono fun r w1 ⟨g, c, hr, hb, HE⟩ => ?_
  obtain ⟨k1, hf, hc⟩ := HE.out
  refine ⟨g, c, l, fo, hr, hlf, by omega, hc, fun j hj => ?_, fun q => pw_forced (k1.below (blw_drewN q (Below.refl _ _))), ln, lo, fv, P, n, X, M, e, fo, h.below hb, hM⟩
  rcases hf with ⟨h1, _⟩ | ⟨y, h1, h2⟩
  · cases h1
  · injection h1 with h1
    subst h1
    have h3 := h2 (4 + j) (by omega)
    rw [Addr.add_lit, Nat.zero_add] at h3
    rw [h3]
    congr 2
    show e ((4 + z) * 128 + (4 + j)) = _
    rcases hp with ⟨e0, hp, _⟩ | ⟨_, hp⟩
    · rw [hp _ (by omega), e0]
      split <;> rfl
    · rw [hp _ (by omega), pg_num l f j hj]
      unfold leAt
      by_cases hj0 : j = 0
      · rw [if_pos hj0, hj0, Nat.pow_zero, Nat.div_one, Nat.mod_eq_of_lt (by omega)]
      · have : 256 ≤ 256 ^ j := by
          have := Nat.pow_le_pow_right (show 0 < 256 by decide) (show 1 ≤ j by omega)
          simpa using this
        rw [if_neg hj0, Nat.div_eq_of_lt (by omega)]
        rfl
/-- Get, and what is held against it. -/
theorem a_get (h : Lc w0 S D L bf mb la1 k mm ln lo fv w) (hm : mm ≤ 1000) (hbf : 0 < bf) {z : Nat} (hz : z < 10) {a : Option Addr} {n9 c9 : Nat} (hv : fv z = some (.slice a n9 c9)) : Calls Tryz.prog 15 #[.pointer (some ⟨S + 1, 0, none⟩), .int .i64 (z : Int)] w fun r w' => ∃ g c, r = .returned (.tuple #[.slice (some ⟨g, 0, none⟩) 112 c, .int .i64 (ln z : Int), .int .i64 0]) ∧ Hid (Lc w0 S D L bf mb la1 k (mm + 1) ln lo fv w') ∧ Hid (Calls Tryz.prog 16 #[.slice (some ⟨g, 0, none⟩) 112 c, .slice a n9 c9] w' fun r w2 => r = .returned (.bool true) ∧ w2 = w') := by
  obtain ⟨P, n, X, M, e, fo, h, hM⟩ := h
  refine (p_getW h.pw z hz (by omega) hbf).mono fun r w' ⟨g, c, hr, HE⟩ => ⟨g, c, hr, Lc.ptd h HE.out.1 (by omega), ?_⟩
  obtain ⟨P', n', X', M', e', fo', h', _⟩ := Lc.ptd (mm := M + 1) h HE.out.1 (Nat.le_refl _)
  rcases h'.at_ z hz with ⟨h3, _⟩ | ⟨g2, c2, h3, _, h4⟩
  · rw [hv] at h3; cases h3
  · rw [hv] at h3
    injection h3 with h3
    injection h3 with h3 h5 h6
    subst h3 h5 h6
    exact equal_yes _ _ 112 c 112 c9 (lo z) (lo z) w' HE.out.2 h4.from_ rfl
theorem Lc.look (h : Lc w0 S D L bf mb la1 k mm ln lo fv w) {p : Nat} (hp : p < 10) : (Instr.lookup 35 (.map (some mb)) (.int .i64 (p : Int)) true).run Tryz.prog w = .ok (.tuple #[(fv p).getD (.slice none 0 0), .bool (fv p).isSome]) w ∧ (fv p = none ∨ ∃ g c, fv p = some (.slice (some ⟨g, 0, none⟩) 112 c)) := by
  obtain ⟨P, n, X, M, e, fo, h, hM⟩ := h
  refine ⟨h.ib.lookB hp, ?_⟩
  rcases h.at_ p hp with ⟨h1, _⟩ | ⟨g, c, h1, _⟩
  · exact .inl h1
  · exact .inr ⟨g, c, h1⟩
theorem Lc.more {mm' : Nat} (h : Lc w0 S D L bf mb la1 k mm ln lo fv w) (hm : mm ≤ mm') : Lc w0 S D L bf mb la1 k mm' ln lo fv w := by
  obtain ⟨P, n, X, M, e, fo, h, hM⟩ := h
  exact ⟨P, n, X, M, e, fo, h, by omega⟩
/-- All, and Table behind it. -/
theorem a_all (h : Lc w0 S D L bf mb la1 k mm ln lo fv w) (hm : mm ≤ 1000) : Calls Tryz.prog 17 #[.pointer (some ⟨S + 1, 0, none⟩)] w fun r w' => r = .returned (.int .i64 0) ∧ Hid (Below w0.heap.size w0 w') ∧ Hid (Calls Tryz.prog 18 #[.pointer (some ⟨S + 1, 0, none⟩)] w' fun r w2 => r = .returned (.slice none 0 0) ∧ Hid (Below w0.heap.size w0 w2)) := by
  obtain ⟨P, n, X, M, e, fo, h, hM⟩ := h
  refine (p_allW h.pw (by omega) (fun wq P' X' M' e' fo' i kq hfo hi hM' => s_saveG kq i hi hM')).mono fun r w' ⟨hr, HE⟩ => ?_
  obtain ⟨X', P', e', fo', j1, j2, j3, j4, j5⟩ := HE.out
  have h' := h.went j1 j3 j4
  exact ⟨hr, h'.bel, (p_tableW h'.pw j5).mono fun r w2 ⟨hr2, HE2⟩ => ⟨hr2, (Lc.ptd (mm := 0) h' HE2.out.1 (Nat.le_refl _)).bel⟩⟩
end Go.Proofs.YtnaobkpncfbnaaaGreatDoor
