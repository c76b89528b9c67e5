/-
  StmSerial's invariants over Begin, Get, and calls that end or lock.
-/
import Derived.Test.YtdackomidfofgaaStAd
namespace Go.Proofs.Ytdackomidfofgaa
open Go.RowKit Go.Maps
set_option linter.unusedVariables false

section
variable {α : Type} {ky : α → List UInt8}
theorem ins_self (x : α) : ∀ A : List α, x ∈ insT ky x A
  | [] => List.mem_singleton.2 rfl
  | y :: r => by
    rw [insT]
    split
    · exact List.mem_cons_self ..
    · exact List.mem_cons_of_mem _ (ins_self x r)
theorem ins_old (x : α) {y : α} : ∀ {A : List α}, y ∈ A → y ∈ insT ky x A
  | [], h => by cases h
  | z :: r, h => by
    rw [insT]
    split
    · exact List.mem_cons_of_mem _ h
    · rcases List.mem_cons.1 h with e | h
      · rw [e]; exact List.mem_cons_self ..
      · exact List.mem_cons_of_mem _ (ins_old x h)
theorem put_self (A : List α) (x : α) : x ∈ putT ky A x := ins_self x _
theorem put_old {A : List α} {x y : α} (h : y ∈ A) (hn : ky y ≠ ky x) : y ∈ putT ky A x := ins_old x (List.mem_filter.2 ⟨h, by simpa using hn⟩)
end
/-- A transaction that begins now. -/
theorem Tin.begin (S : Sm) (t rd wr : Nat) (m bg : Bf) (hb : ∀ k, bg k = m k) : Tin S ⟨t, rd, wr, S.clock, [], [], 0⟩ m (fun _ => none) bg := ⟨Int.le_refl _, fun k _ => by rw [hb], fun k xs h => by cases h⟩
/-- What Get gives is what the slots had when the transaction began. -/
theorem Tin.got {S : Sm} {U : Tm} {m rm bg : Bf} (h : Tin S U m rm bg) {k : List UInt8} (hs : sty S U k = false) : (m k).getD [] = (bg k).getD [] := by
  have h4 := (Bool.or_eq_false_iff.1 hs).2
  refine h.same k ?_
  have := of_decide_eq_false h4
  omega
theorem Tin.get {S : Sm} {U : Tm} {m rm bg : Bf} (h : Tin S U m rm bg) (y : Eu) {xs : List Int} (hx : (bg y.ky).getD [] = xs) : Tin S { U with reads := putT Eu.ky U.reads y } m (rm.put y.ky xs) bg := by
  refine ⟨h.time, h.same, fun q zs hq => ?_⟩
  by_cases e : y.ky = q
  · have h1 : (rm.put y.ky xs) q = some xs := if_pos e
    rw [h1] at hq
    cases hq
    exact ⟨by rw [← e]; exact hx, y, put_self _ _, e⟩
  · have h1 : (rm.put y.ky xs) q = rm q := if_neg e
    rw [h1] at hq
    obtain ⟨h2, z, hz, ez⟩ := h.read q zs hq
    exact ⟨h2, z, put_old hz (fun e' => e (e'.symm.trans ez)), ez⟩
/-- Get that is asked again, where the law has no note of it: more may be read than was noted. -/
theorem Tin.more {S : Sm} {U : Tm} {m rm bg : Bf} (h : Tin S U m rm bg) (y : Eu) : Tin S { U with reads := putT Eu.ky U.reads y } m rm bg := by
  refine ⟨h.time, h.same, fun q zs hq => ?_⟩
  obtain ⟨h2, z, hz, ez⟩ := h.read q zs hq
  by_cases e : y.ky = q
  · exact ⟨h2, y, put_self _ _, e⟩
  · exact ⟨h2, z, put_old hz (fun e' => e (e'.symm.trans ez)), ez⟩
/-- Locks, phases and writes do not matter to it. -/
theorem Tin.lock {S : Sm} {U : Tm} {m rm bg : Bf} (h : Tin S U m rm bg) (L : List El) (p : Int) (ws : List Eb) : Tin { S with locks := L } { U with ph := p, writes := ws } m rm bg := ⟨h.time, h.same, h.read⟩
theorem Tin.locks {S : Sm} {U : Tm} {m rm bg : Bf} (h : Tin S U m rm bg) (L : List El) : Tin { S with locks := L } U m rm bg := ⟨h.time, h.same, h.read⟩
theorem Syt.locks {w : World} {S : Sm} {m : Bf} (h : Syt w S m) (L : List El) : Syt w { S with locks := L } m := h
/-- The bytes of the slot under a name, in memory. -/
theorem Syt.at {w : World} {S : Sm} {m : Bf} (h : Syt w S m) (k : List UInt8) : From w (slt S k).2.1 (slt S k).2.2.1 (fn ((m k).getD [])) ∧ (slt S k).2.2.1 = ((m k).getD []).length := by
  unfold slt
  cases e : fnd Es.ky S.slots k with
  | none =>
    rw [h.1 k e]
    exact ⟨.inl ⟨rfl, rfl⟩, rfl⟩
  | some x =>
    obtain ⟨xs, e1, ho, _⟩ := h.2 k x e
    rw [e1]
    exact Own.at0 ho
/-- bytesOf gives the row's bytes. -/
theorem Syt.bytes {w : World} {S : Sm} {m : Bf} (h : Syt w S m) (hA : Apart Es.ky S.slots) {zs : List Zs} {ys : List Es} (hp : ys.Perm S.slots) (hz : zs.map (fun z => (z.ky, z.ver, z.xs)) = ys.map (fun x => (Es.ky x, x.1.2.1, (m (Es.ky x)).getD []))) (k : List UInt8) : mzf zs k = m k := by
  rw [mzf_at hA hp hz k]
  cases e : fnd Es.ky S.slots k with
  | none => rw [h.1 k e]; rfl
  | some x =>
    obtain ⟨xs, e1, _⟩ := h.2 k x e
    show some ((m (Es.ky x)).getD []) = _
    rw [(fnd_some e).1, e1]
    rfl
end Go.Proofs.Ytdackomidfofgaa
