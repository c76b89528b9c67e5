/-
  A space and a transaction in memory (Spc, Txc), and the calls that only look at them.
-/
import Derived.Test.YtdackomidfofgaaStBw
import Derived.Test.YtdackomidfofgaaStBr
import Derived.Test.YtdackomidfofgaaStBs
import Derived.LaidEqlPtr
namespace Go.Proofs.Ytdackomidfofgaa
open Go.RowKit Go.Maps
set_option linter.unusedVariables false

section
variable {α : Type} (ky : α → List UInt8)
/-- Entries by their keys: found, taken out, put in. -/
def fnd (A : List α) (k : List UInt8) : Option α := A.find? (fun x => ky x == k)
def insT (x : α) : List α → List α
  | [] => [x]
  | y :: r => if (Lit.string (ky x)).before (.string (ky y)) then x :: y :: r else y :: insT x r
def delT (A : List α) (k : List UInt8) : List α := A.filter fun x => !(ky x == k)
def putT (A : List α) (x : α) : List α := insT ky x (delT ky A (ky x))
variable {ky}
theorem insT_map {vl : α → Value} (x : α) : ∀ A : List α, (insT ky x A).map (fun y => (ky y, vl y)) = insK (ky x, vl x) (A.map fun y => (ky y, vl y))
  | [] => rfl
  | y :: r => by
    rw [List.map_cons, insT, insK]
    split
    · rfl
    · rw [List.map_cons, insT_map x r]
theorem delT_map {vl : α → Value} (k : List UInt8) : ∀ A : List α, (delT ky A k).map (fun y => (ky y, vl y)) = delL (A.map fun y => (ky y, vl y)) k
  | [] => rfl
  | y :: r => by
    have := delT_map (vl := vl) k r
    unfold delT delL at *
    rw [List.map_cons, List.filter_cons, List.filter_cons]
    split
    · rw [List.map_cons, this]
    · exact this
theorem putT_map {vl : α → Value} (A : List α) (x : α) : (putT ky A x).map (fun y => (ky y, vl y)) = putL (A.map fun y => (ky y, vl y)) (ky x) (vl x) := by
  rw [putT, insT_map, delT_map]
  rfl
theorem fnd_map {vl : α → Value} (k : List UInt8) (A : List α) : lk (A.map fun y => (ky y, vl y)) k = (fnd ky A k).map vl := by
  unfold lk fnd
  rw [List.find?_map]
  have : ((fun p : Kv => p.1 == k) ∘ fun y : α => (ky y, vl y)) = fun y => ky y == k := rfl
  rw [this]
  cases A.find? (fun y => ky y == k) <;> rfl
theorem fnd_ins (x : α) (k : List UInt8) : ∀ A : List α, (∀ y ∈ A, ky y ≠ ky x) → fnd ky (insT ky x A) k = if ky x = k then some x else fnd ky A k
  | [], _ => by
    unfold fnd insT
    by_cases h : ky x = k
    · simp [h]
    · simp [h]
  | y :: r, hA => by
    have ih := fnd_ins x k r (fun z hz => hA z (List.mem_cons_of_mem _ hz))
    have hy := hA y (List.mem_cons_self ..)
    unfold fnd at *
    rw [insT]
    split
    · by_cases h : ky x = k
      · simp [h]
      · simp [h]
    · rw [List.find?_cons, List.find?_cons, ih]
      by_cases h : ky x = k
      · subst h
        have : (ky y == ky x) = false := by simpa using hy
        simp [this]
      · rw [if_neg h, if_neg h]
theorem fnd_del (k0 k : List UInt8) : ∀ A : List α, fnd ky (delT ky A k0) k = if k0 = k then none else fnd ky A k
  | [] => by unfold fnd delT; split <;> rfl
  | y :: r => by
    have ih := fnd_del k0 k r
    unfold fnd delT at *
    rw [List.filter_cons]
    by_cases h : ky y = k0
    · have e : (!(ky y == k0)) = false := by simp [h]
      rw [e, if_neg (by decide), ih]
      by_cases h2 : k0 = k
      · rw [if_pos h2, if_pos h2]
      · have : (ky y == k) = false := by rw [h]; simpa using h2
        rw [if_neg h2, if_neg h2, List.find?_cons, this]
    · have e : (!(ky y == k0)) = true := by simp [h]
      rw [e, if_pos rfl, List.find?_cons, List.find?_cons, ih]
      by_cases h2 : k0 = k
      · subst h2
        have : (ky y == k0) = false := by simpa using h
        simp [this]
      · rw [if_neg h2, if_neg h2]
theorem mem_del {A : List α} {k : List UInt8} {y : α} (h : y ∈ delT ky A k) : ky y ≠ k ∧ y ∈ A := by
  have := List.mem_filter.1 h
  exact ⟨by simpa using this.2, this.1⟩
theorem fnd_put (A : List α) (x : α) (k : List UInt8) : fnd ky (putT ky A x) k = if ky x = k then some x else fnd ky A k := by
  rw [putT, fnd_ins x k _ (fun y hy => (mem_del hy).1), fnd_del]
  split <;> rfl
theorem fnd_some {A : List α} {k : List UInt8} {x : α} (h : fnd ky A k = some x) : ky x = k ∧ x ∈ A := by
  refine ⟨?_, List.mem_of_find?_eq_some h⟩
  have := List.find?_some h
  simpa using this
theorem fnd_none {A : List α} {k : List UInt8} (h : fnd ky A k = none) : ∀ x ∈ A, ky x ≠ k := fun x hx e => by
  have := List.find?_eq_none.1 h x hx
  simp [e] at this
theorem mem_ins {x y : α} : ∀ {A : List α}, y ∈ insT ky x A → y = x ∨ y ∈ A
  | [], h => .inl (by simpa [insT] using h)
  | z :: r, h => by
    rw [insT] at h
    split at h
    · rcases List.mem_cons.1 h with h | h
      · exact .inl h
      · exact .inr h
    · rcases List.mem_cons.1 h with h | h
      · exact .inr (h ▸ List.mem_cons_self ..)
      · rcases mem_ins h with h | h
        · exact .inl h
        · exact .inr (List.mem_cons_of_mem _ h)
theorem mem_put {A : List α} {x y : α} (h : y ∈ putT ky A x) : y = x ∨ y ∈ A := by
  rcases mem_ins h with h | h
  · exact .inl h
  · exact .inr (mem_del h).2
theorem insT_len (x : α) : ∀ A : List α, (insT ky x A).length = A.length + 1
  | [] => rfl
  | y :: r => by
    rw [insT]
    split
    · rfl
    · rw [List.length_cons, insT_len x r]; rfl
theorem delT_len (A : List α) (k : List UInt8) : (delT ky A k).length ≤ A.length := List.length_filter_le _ _
theorem putT_len (A : List α) (x : α) : (putT ky A x).length ≤ A.length + 1 := by
  rw [putT, insT_len]
  have := delT_len (ky := ky) A (ky x)
  omega
end

/-- A lock: a name, and the block of the transaction that holds it. -/
abbrev El := { x : List UInt8 × Nat // x.1.length ≤ maxLen }
def El.ky (x : El) : List UInt8 := x.1.1
def El.vl (x : El) : Value := .pointer (some ⟨x.1.2, 0, none⟩)
def El.kv (x : El) : Kv := (x.ky, x.vl)
theorem zeroEl (w : World) : (zeroValue 33).run Try.prog w = .ok (.pointer none) w := by kernel_rfl

/-- A space: its blocks, its clock, its slots and locks. -/
structure Sm where
  (sp sl lk : Nat)
  clock : Int
  slots : List Es
  locks : List El
/-- A transaction: its blocks, its time, what it read and wrote, its phase. -/
structure Tm where
  (t rd wr : Nat)
  time : Int
  reads : List Eu
  writes : List Eb
  ph : Int
structure Spc (w : World) (S : Sm) : Prop where
  cel : w.heap[S.sp]? = some (.cells #[.int .i64 S.clock, .map (some S.sl), .map (some S.lk)] 63 (0, 0))
  slo : Mp w S.sl (S.slots.map Es.kv)
  loc : Mp w S.lk (S.locks.map El.kv)
  ne : S.sl ≠ S.lk
  liv : ∀ x ∈ S.locks, ∃ cs, w.heap[x.1.2]? = some (.cells cs 67 (0, 0))
structure Txc (w : World) (S : Sm) (T : Tm) : Prop where
  cel : w.heap[T.t]? = some (.cells #[.pointer (some ⟨S.sp, 0, none⟩), .int .i64 T.time, .map (some T.rd), .map (some T.wr), .int .i64 T.ph] 67 (0, 0))
  red : Mp w T.rd (T.reads.map Eu.kv)
  wri : Mp w T.wr (T.writes.map Eb.kv)
  ne : T.rd ≠ T.wr ∧ T.rd ≠ S.sl ∧ T.rd ≠ S.lk ∧ T.wr ≠ S.sl ∧ T.wr ≠ S.lk
theorem Spc.part {F : Nat → Prop} {w w' : World} {S : Sm} (h : Spc w S) (p : Part F w w') (hn : ¬ F S.sp ∧ ¬ F S.sl ∧ ¬ F S.lk) (hl : ∀ b cs, F b → w.heap[b]? = some (.cells cs 67 (0, 0)) → ∃ cs', w'.heap[b]? = some (.cells cs' 67 (0, 0))) : Spc w' S := by
  refine ⟨(p.block _ (Array.getElem?_eq_some_iff.1 h.cel).1 hn.1).trans h.cel, h.slo.part p hn.2.1, h.loc.part p hn.2.2, h.ne, fun x hx => ?_⟩
  obtain ⟨cs, hc⟩ := h.liv x hx
  by_cases hF : F x.1.2
  · exact hl _ cs hF hc
  · exact ⟨cs, (p.block _ (Array.getElem?_eq_some_iff.1 hc).1 hF).trans hc⟩
theorem Txc.part {F : Nat → Prop} {w w' : World} {S : Sm} {T : Tm} (h : Txc w S T) (p : Part F w w') (hn : ¬ F T.t ∧ ¬ F T.rd ∧ ¬ F T.wr) : Txc w' S T :=
  ⟨(p.block _ (Array.getElem?_eq_some_iff.1 h.cel).1 hn.1).trans h.cel, h.red.part p hn.2.1, h.wri.part p hn.2.2, h.ne⟩
theorem Spc.below {w w' : World} {S : Sm} (h : Spc w S) (p : Below w.heap.size w w') : Spc w' S := h.part (F := fun _ => False) (.ofBelow p) ⟨id, id, id⟩ (fun _ _ f => f.elim)
theorem Txc.below {w w' : World} {S : Sm} {T : Tm} (h : Txc w S T) (p : Below w.heap.size w w') : Txc w' S T := h.part (F := fun _ => False) (.ofBelow p) ⟨id, id, id⟩
/-- The blocks of a space and of a transaction. -/
def Sm.own (S : Sm) (b : Nat) : Prop := b = S.sp ∨ b = S.sl ∨ b = S.lk
def Tm.own (T : Tm) (b : Nat) : Prop := b = T.t ∨ b = T.rd ∨ b = T.wr

theorem Spc.c0 {w : World} {S : Sm} (h : Spc w S) : w.cell? ⟨S.sp, 0, none⟩ = some (.int .i64 S.clock) := by rw [cells_at h.cel 0]; rfl
theorem Spc.c1 {w : World} {S : Sm} (h : Spc w S) : w.cell? ⟨S.sp, 1, none⟩ = some (.map (some S.sl)) := by rw [cells_at h.cel 1]; rfl
theorem Spc.c2 {w : World} {S : Sm} (h : Spc w S) : w.cell? ⟨S.sp, 2, none⟩ = some (.map (some S.lk)) := by rw [cells_at h.cel 2]; rfl
theorem Txc.c0 {w : World} {S : Sm} {T : Tm} (h : Txc w S T) : w.cell? ⟨T.t, 0, none⟩ = some (.pointer (some ⟨S.sp, 0, none⟩)) := by rw [cells_at h.cel 0]; rfl
theorem Txc.c1 {w : World} {S : Sm} {T : Tm} (h : Txc w S T) : w.cell? ⟨T.t, 1, none⟩ = some (.int .i64 T.time) := by rw [cells_at h.cel 1]; rfl
theorem Txc.c2 {w : World} {S : Sm} {T : Tm} (h : Txc w S T) : w.cell? ⟨T.t, 2, none⟩ = some (.map (some T.rd)) := by rw [cells_at h.cel 2]; rfl
theorem Txc.c3 {w : World} {S : Sm} {T : Tm} (h : Txc w S T) : w.cell? ⟨T.t, 3, none⟩ = some (.map (some T.wr)) := by rw [cells_at h.cel 3]; rfl
theorem Txc.c4 {w : World} {S : Sm} {T : Tm} (h : Txc w S T) : w.cell? ⟨T.t, 4, none⟩ = some (.int .i64 T.ph) := by rw [cells_at h.cel 4]; rfl

theorem kv_s : Es.kv = fun x => (Es.ky x, Es.vl x) := rfl
theorem kv_u : Eu.kv = fun x => (Eu.ky x, Eu.vl x) := rfl
theorem kv_b : Eb.kv = fun x => (Eb.ky x, Eb.vl x) := rfl
theorem kv_l : El.kv = fun x => (El.ky x, El.vl x) := rfl

set_option maxHeartbeats 400000
set_option maxRecDepth 100000
theorem s_missing {w : World} {S : Sm} (h : Spc w S) : Calls Try.prog 30 #[.pointer (some ⟨S.sp, 0, none⟩)] w fun e w' => e = .returned (.bool false) ∧ w' = w := by
  have c1 := h.c1
  have qT : ∀ (w : World) (r : Option Nat), (binOp .eql 60 (.map r) (.map none)).run Try.prog w = .ok (.bool r.isNone) w := fun w r => run_eql_map_nil w _ _ _ r Try.underlying60
  clear h
  go_enter Try.func30, Try.ntmps30
  go_wp2
  go_ret
  exact ⟨rfl, rfl⟩
theorem t_missing {w : World} {S : Sm} {T : Tm} (h : Txc w S T) : Calls Try.prog 32 #[.pointer (some ⟨T.t, 0, none⟩)] w fun e w' => e = .returned (.bool false) ∧ w' = w := by
  have c1 := h.c0
  clear h
  go_enter Try.func32, Try.ntmps32
  go_wp2
  go_ret
  exact ⟨rfl, rfl⟩
theorem s_clock {w : World} {S : Sm} (h : Spc w S) : Calls Try.prog 24 #[.pointer (some ⟨S.sp, 0, none⟩)] w fun e w' => e = .returned (.int .i64 S.clock) ∧ w' = w := by
  have c0 := h.c0
  have HM := s_missing h
  clear h
  go_enter Try.func24, Try.ntmps24
  go_wp2_with (go_at_call 30; refine HM.mono ?_; rintro e w' ⟨rfl, rfl⟩)
  go_ret
  exact ⟨rfl, rfl⟩
theorem t_phase {w : World} {S : Sm} {T : Tm} (h : Txc w S T) : Calls Try.prog 18 #[.pointer (some ⟨T.t, 0, none⟩)] w fun e w' => e = .returned (.int .i64 T.ph) ∧ w' = w := by
  have c4 := h.c4
  have HM := t_missing h
  clear h
  go_enter Try.func18, Try.ntmps18
  go_wp2_with (go_at_call 32; refine HM.mono ?_; rintro e w' ⟨rfl, rfl⟩)
  go_ret
  exact ⟨rfl, rfl⟩
/-- A name may be. -/
def nm (s : ByteArray) : Bool := decide (0 < s.size) && decide (s.size ≤ 11)
theorem p_isName (s : ByteArray) (w : World) : Calls Try.prog 28 #[.string s] w fun e w' => e = .returned (.bool (nm s)) ∧ w' = w := by
  by_cases h1 : 0 < s.size
  · by_cases h2 : s.size ≤ 11
    · have e1 : Hid (nm s = true) := (by unfold nm; simp [h1, h2] : nm s = true)
      have h1' : (0 : Int) < (s.size : Int) := by omega
      have h2' : (s.size : Int) ≤ 11 := by omega
      go_enter Try.func28, Try.ntmps28
      go_wp2
      go_ret
      exact ⟨by rw [e1.out]; rfl, rfl⟩
    · have e1 : Hid (nm s = false) := (by unfold nm; simp [h2] : nm s = false)
      have h1' : (0 : Int) < (s.size : Int) := by omega
      have h2' : decide ((s.size : Int) ≤ 11) = false := decide_eq_false (by omega)
      go_enter Try.func28, Try.ntmps28
      go_wp2
      go_ret
      exact ⟨by rw [e1.out]; rfl, rfl⟩
  · have e1 : Hid (nm s = false) := (by unfold nm; simp [h1] : nm s = false)
    have h1' : (s.size : Int) ≤ 0 := by omega
    go_enter Try.func28, Try.ntmps28
    go_wp2
    go_ret
    exact ⟨by rw [e1.out]; rfl, rfl⟩
end Go.Proofs.Ytdackomidfofgaa
