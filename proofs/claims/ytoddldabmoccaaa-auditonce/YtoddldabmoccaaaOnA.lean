/-
  AuditOnce: a journal's entries as they are handed in (Ent, Ens), which of them makes Once tell ErrAudit (Bad), and what both Once tell (res). No condition.
-/
import Derived.Test.YtoddldabmoccaaaStA
namespace Go.Proofs.Ytoddldabmoccaaa
open Go.RowKit Go.Maps
set_option linter.unusedVariables false

/-- An entry: its kind and name, and the reply: its name, status, session, reason, text. -/
structure Ent where
  kd : Int
  id : ByteArray
  rid : ByteArray
  st : Int
  ss : Int
  wy : Int
  tx : ByteArray
def Ent.rep (x : Ent) : Value := .agg #[.string x.rid, .int .i64 x.st, .int .i64 x.ss, .int .i64 x.wy, .string x.tx]
structure EnA (w : World) (b off : Nat) (x : Ent) : Prop where
  c0 : w.cell? ⟨b, off, none⟩ = some (.int .i64 x.kd)
  c1 : w.cell? ⟨b, off + 1, none⟩ = some (.string x.id)
  c2 : w.cell? ⟨b, off + 2, none⟩ = some (.string x.rid)
  c3 : w.cell? ⟨b, off + 3, none⟩ = some (.int .i64 x.st)
  c4 : w.cell? ⟨b, off + 4, none⟩ = some (.int .i64 x.ss)
  c5 : w.cell? ⟨b, off + 5, none⟩ = some (.int .i64 x.wy)
  c6 : w.cell? ⟨b, off + 6, none⟩ = some (.string x.tx)
  s1 : x.id.size ≤ maxLen
theorem EnA.of {w w' : World} {b off : Nat} {x : Ent} (h : EnA w b off x) (key : ∀ p v, w.cell? p = some v → w'.cell? p = some v) : EnA w' b off x :=
  ⟨key _ _ h.c0, key _ _ h.c1, key _ _ h.c2, key _ _ h.c3, key _ _ h.c4, key _ _ h.c5, key _ _ h.c6, h.s1⟩
/-- The n entries of a slice. -/
def Ens (w : World) (a0 : Option Addr) (n : Nat) (E : Nat → Ent) : Prop := ∀ r, r < n → ∃ b off, a0 = some ⟨b, off, none⟩ ∧ EnA w b (off + r * 7) (E r)
theorem Ens.below {w w' : World} {a0 : Option Addr} {n : Nat} {E : Nat → Ent} (h : Ens w a0 n E) (hb : Below w.heap.size w w') : Ens w' a0 n E := fun r hr => by
  obtain ⟨b, off, e, k⟩ := h r hr
  exact ⟨b, off, e, k.of fun p v hp => by rw [hb.cell (p := p) (World.block_lt_of_cell? w _ hp)]; exact hp⟩
/-- Two entries name the same request. -/
def Same (x y : Ent) : Prop := y.kd = 1 ∧ y.id.data.toList = x.id.data.toList
/-- Their replies are the same. -/
def SameR (x y : Ent) : Prop := y.rid.toList = x.rid.toList ∧ y.st = x.st ∧ y.ss = x.ss ∧ y.wy = x.wy ∧ y.tx.toList = x.tx.toList
theorem SameR.of {x y z : Ent} (h : SameR x y) (e : y.rep = z.rep) : SameR x z := by
  unfold Ent.rep at e
  injection e with e
  have e' := congrArg Array.toList e
  injection e' with e1 e'
  injection e' with e2 e'
  injection e' with e3 e'
  injection e' with e4 e'
  injection e' with e5 e'
  injection e1 with e1
  injection e2 with _ e2
  injection e3 with _ e3
  injection e4 with _ e4
  injection e5 with e5
  obtain ⟨h1, h2, h3, h4, h5⟩ := h
  exact ⟨by rw [← e1]; exact h1, by rw [← e2]; exact h2, by rw [← e3]; exact h3, by rw [← e4]; exact h4, by rw [← e5]; exact h5⟩
def Bad (E : Nat → Ent) (i : Nat) : Prop :=
  ((E i).kd = 1 ∧ ∃ j, j < i ∧ Same (E i) (E j)) ∨ ((E i).kd = 2 ∧ (¬ ∃ j, j < i ∧ Same (E i) (E j) ∧ SameR (E i) (E j)) ∧ (E i).wy ≠ 4)
open Classical in
noncomputable def res (E : Nat → Ent) (n : Nat) : Int := if ∃ i, i < n ∧ Bad E i then 240 else 0
theorem res_bad {E : Nat → Ent} {n i : Nat} (h : i < n) (hb : Bad E i) : res E n = 240 := if_pos ⟨i, h, hb⟩
theorem res_none {E : Nat → Ent} {n : Nat} (h : ∀ i, i < n → ¬ Bad E i) : res E n = 0 := if_neg fun ⟨i, h1, h2⟩ => h i h1 h2
/-- What the map has ahead of the i-th entry. -/
structure Dn (w : World) (b : Nat) (E : Nat → Ent) (i : Nat) : Prop where
  ex : ∃ L, Mp w b L ∧ L.length ≤ i ∧ (∀ k v, lk L k = some v → ∃ j, j < i ∧ (E j).kd = 1 ∧ (E j).id.data.toList = k ∧ v = (E j).rep) ∧ (∀ j, j < i → (E j).kd = 1 → lk L (E j).id.data.toList = some (E j).rep)
theorem Dn.made (w : World) (E : Nat → Ent) : Dn (w.alloc (.map #[] 0)) w.heap.size E 0 :=
  ⟨⟨[], Mp.made w, Nat.le_refl _, fun k v h => (by simp [lk] at h), fun j hj => (by omega)⟩⟩
theorem Dn.below {w w' : World} {b : Nat} {E : Nat → Ent} {i : Nat} (h : Dn w b E i) (hb : Below w.heap.size w w') : Dn w' b E i := by
  obtain ⟨L, h1, h2, h3, h4⟩ := h.ex
  exact ⟨L, h1.heap (hb.block _ h1.lt), h2, h3, h4⟩
theorem Dn.skip {w : World} {b : Nat} {E : Nat → Ent} {i : Nat} (h : Dn w b E i) (hk : (E i).kd ≠ 1) : Dn w b E (i + 1) := by
  obtain ⟨L, h1, h2, h3, h4⟩ := h.ex
  refine ⟨L, h1, by omega, fun k v hv => ?_, fun j hj hkd => ?_⟩
  · obtain ⟨j, hj, r⟩ := h3 k v hv
    exact ⟨j, by omega, r⟩
  · by_cases e : j = i
    · rw [e] at hkd; exact absurd hkd hk
    · exact h4 j (by omega) hkd
def zrep : Value := .agg #[.string ⟨#[]⟩, .int .i64 0, .int .i64 0, .int .i64 0, .string ⟨#[]⟩]
theorem zero28 (w : World) : (zeroValue 28).run Try.prog w = .ok zrep w := by kernel_rfl
/-- The look-up: the reply that was committed under a name. -/
theorem Dn.look {w : World} {b : Nat} {E : Nat → Ent} {i : Nat} (h : Dn w b E i) {x : Ent} (hs : x.id.size ≤ maxLen) :
    ((∃ j, j < i ∧ Same x (E j) ∧ (∀ k, k < i → Same x (E k) → (E k).rep = (E j).rep) ∧ (Instr.lookup 26 (.map (some b)) (.string x.id) true).run Try.prog w = .ok (.tuple #[(E j).rep, .bool true]) w) ∨
     ((∀ j, j < i → ¬ Same x (E j)) ∧ (Instr.lookup 26 (.map (some b)) (.string x.id) true).run Try.prog w = .ok (.tuple #[zrep, .bool false]) w)) := by
  obtain ⟨L, h1, h2, h3, h4⟩ := h.ex
  have hl := h1.look_ok Try.underlying26 (zero28 w) hs
  cases e : lk L x.id.data.toList with
  | none =>
    rw [e] at hl
    refine .inr ⟨fun j hj ⟨k1, k2⟩ => ?_, hl⟩
    have := h4 j hj k1
    rw [k2, e] at this
    cases this
  | some v =>
    rw [e] at hl
    obtain ⟨j, hj, k1, k2, rfl⟩ := h3 _ _ e
    exact .inl ⟨j, hj, ⟨k1, k2⟩, fun k hk ⟨q1, q2⟩ => by
      have := h4 k hk q1
      rw [q2, e] at this
      exact (Option.some.inj this).symm, hl⟩
/-- The store. -/
theorem Dn.put {w : World} {b : Nat} {E : Nat → Ent} {i : Nat} (h : Dn w b E i) (hi : i < 1099511627776 * 2) (hs : (E i).id.size ≤ maxLen) (hk : (E i).kd = 1) (hno : ∀ j, j < i → ¬ Same (E i) (E j)) :
    ∃ w2, (Instr.mapUpdate 26 (.map (some b)) (.string (E i).id) (E i).rep).run Try.prog w = .ok () w2 ∧ Dn w2 b E (i + 1) ∧ Part (fun q => q = b) w w2 := by
  obtain ⟨L, h1, h2, h3, h4⟩ := h.ex
  obtain ⟨w2, hrun, hm, ht⟩ := h1.store Try.underlying26 (by unfold maxLen; omega) hs (E i).rep
  refine ⟨w2, hrun, ⟨_, hm, ?_, fun k v hv => ?_, fun j hj hkd => ?_⟩, turned_part ht⟩
  · have := put_len L (E i).id.data.toList (E i).rep
    omega
  · by_cases e : k = (E i).id.data.toList
    · rw [e, lk_put_same] at hv
      exact ⟨i, by omega, hk, e.symm, (Option.some.inj hv).symm⟩
    · rw [lk_put_other e] at hv
      obtain ⟨j, hj, r⟩ := h3 k v hv
      exact ⟨j, by omega, r⟩
  · by_cases e : j = i
    · rw [e]; exact lk_put_same _ _ _
    · have hne : (E j).id.data.toList ≠ (E i).id.data.toList := fun he => hno j (by omega) ⟨hkd, he⟩
      rw [lk_put_other hne]
      exact h4 j (by omega) hkd
theorem Dn.obj {w : World} {b : Nat} {E : Nat → Ent} {i : Nat} (h : Dn w b E i) : ∃ es c, w.heap[b]? = some (.map es c) := by
  obtain ⟨L, h1, _⟩ := h.ex
  exact h1.obj
end Go.Proofs.Ytoddldabmoccaaa
