/-
  The law's map of last versions (Lm), and that versions only rise (Lin).
-/
import Derived.Test.YtdackomidfofgaaStAe
namespace Go.Proofs.Ytdackomidfofgaa
open Go.RowKit Go.Maps
set_option linter.unusedVariables false
set_option maxRecDepth 100000

abbrev Ei := { x : List UInt8 × Int // x.1.length ≤ maxLen }
def Ei.ky (x : Ei) : List UInt8 := x.1.1
def Ei.vl (x : Ei) : Value := .int .i64 x.1.2
def Ei.kv (x : Ei) : Kv := (x.ky, x.vl)
theorem kv_i : Ei.kv = fun x => (Ei.ky x, Ei.vl x) := rfl
abbrev Lf := List UInt8 → Int
def Lf.put (m : Lf) (k : List UInt8) (v : Int) : Lf := fun q => if k = q then v else m q
structure Lm (w : World) (n b : Nat) (m : Lf) : Prop where
  ex : ∃ L : List Ei, Mp w b (L.map Ei.kv) ∧ L.length ≤ n ∧ ∀ k, m k = ((fnd Ei.ky L k).map (fun x => x.1.2)).getD 0
theorem Lm.lt {w : World} {n b : Nat} {m : Lf} (h : Lm w n b m) : b < w.heap.size := by
  obtain ⟨L, h1, _⟩ := h.ex
  exact h1.lt
theorem Lm.part {w w' : World} {n b : Nat} {m : Lf} (h : Lm w n b m) {F : Nat → Prop} (p : Part F w w') (hb : ¬ F b) : Lm w' n b m := by
  obtain ⟨L, h1, h2, h3⟩ := h.ex
  exact ⟨L, h1.part p hb, h2, h3⟩
theorem Lm.below {w w' : World} {n b : Nat} {m : Lf} (h : Lm w n b m) (hb : Below w.heap.size w w') : Lm w' n b m := h.part (F := fun _ => False) (.ofBelow hb) id
theorem Lm.made (w : World) : Lm (w.alloc (.map #[] 0)) 0 w.heap.size (fun _ => 0) := ⟨[], Mp.made w, Nat.le_refl _, fun _ => rfl⟩
theorem zeroI (w : World) : (zeroValue 3).run Try.prog w = .ok (.int .i64 0) w := by kernel_rfl
theorem Lm.look {w : World} {n b : Nat} {m : Lf} (h : Lm w n b m) (s : ByteArray) (hs : s.size ≤ maxLen) : (Instr.lookup 29 (.map (some b)) (.string s) false).run Try.prog w = .ok (.int .i64 (m s.data.toList)) w := by
  obtain ⟨L, h1, h2, h3⟩ := h.ex
  rw [h1.look Try.underlying29 (zeroI w) hs, kv_i, fnd_map, h3]
  cases fnd Ei.ky L s.data.toList <;> rfl
theorem Lm.put {w : World} {n b : Nat} {m : Lf} (h : Lm w n b m) (hn : n < 1099511627776) (s : ByteArray) (hs : s.size ≤ maxLen) (v : Int) :
    ∃ w2, (Instr.mapUpdate 29 (.map (some b)) (.string s) (.int .i64 v)).run Try.prog w = .ok () w2 ∧ Lm w2 (n + 1) b (m.put s.data.toList v) ∧ Part (fun q => q = b) w w2 := by
  obtain ⟨L, h1, h2, h3⟩ := h.ex
  obtain ⟨w2, hrun, hm, ht⟩ := h1.store Try.underlying29 (by rw [List.length_map]; unfold maxLen; omega) hs (.int .i64 v)
  have hsl : s.data.toList.length ≤ maxLen := by rw [Array.length_toList]; exact hs
  refine ⟨w2, hrun, ⟨putT Ei.ky L ⟨(s.data.toList, v), hsl⟩, ?_, ?_, fun k => ?_⟩, turned_part ht⟩
  · rw [kv_i, putT_map]; exact hm
  · have := putT_len (ky := Ei.ky) L ⟨(s.data.toList, v), hsl⟩
    omega
  · rw [fnd_put]
    show (if s.data.toList = k then v else m k) = _
    by_cases e : s.data.toList = k
    · rw [if_pos e, if_pos (show Ei.ky ⟨(s.data.toList, v), hsl⟩ = k from e)]
      rfl
    · rw [if_neg e, if_neg (show ¬ Ei.ky ⟨(s.data.toList, v), hsl⟩ = k from e)]
      exact h3 k
/-- No slot's version is below what was last seen. -/
structure Lin (S : Sm) (lf : Lf) : Prop where
  top : ∀ k, lf k ≤ S.clock
  low : ∀ k x, fnd Es.ky S.slots k = some x → lf k ≤ x.1.2.1
theorem Lin.publish {S : Sm} {T : Tm} {lf : Lf} {SL : List Es} {L : List El} (h : Lin S lf) (hP : Pub S.slots (clk S T) T.writes SL) : Lin { S with clock := clk S T, slots := SL, locks := L } lf := by
  refine ⟨fun k => Int.le_trans (h.top k) (clk_ge S T), fun k x hx => ?_⟩
  have hx : fnd Es.ky SL k = some x := hx
  by_cases hw : ∃ z ∈ T.writes, Eb.ky z = k
  · obtain ⟨z, _, _, y, hy, ey⟩ := (hP.1 k).1 hw
    rw [hy] at hx
    cases hx
    rw [ey]
    exact Int.le_trans (h.top k) (clk_ge S T)
  · exact h.low k x (by rw [← (hP.1 k).2 hw]; exact hx)
theorem Lin.locks {S : Sm} {lf : Lf} (h : Lin S lf) (L : List El) : Lin { S with locks := L } lf := ⟨h.top, h.low⟩
theorem Lin.put {w : World} {S : Sm} {lf : Lf} {m : Bf} (h : Lin S lf) (hS : Syt w S m) {x : Es} (hx : fnd Es.ky S.slots (Es.ky x) = some x) : Lin S (lf.put (Es.ky x) x.1.2.1) := by
  refine ⟨fun k => ?_, fun k y hy => ?_⟩
  · show (if Es.ky x = k then _ else _) ≤ _
    split
    · obtain ⟨_, _, _, _, h1⟩ := hS.2 _ x hx
      exact h1
    · exact h.top k
  · show (if Es.ky x = k then _ else _) ≤ _
    split
    · rename_i e
      rw [← e, hx] at hy
      cases hy
      exact Int.le_refl _
    · exact h.low k y hy
end Go.Proofs.Ytdackomidfofgaa
