/-
  The map of DiskCrashes: of each sector the bytes of its last write, told by where they lie.
-/
import Derived.Test.YtjpjpfmhmcdibaaDkCopy2
import Derived.Maps.OwnSet
import Derived.Maps.OwnOps
namespace Go.Proofs.Ytjpjpfmhmcdibaa
open Go.RowKit
set_option linter.unusedVariables false

theorem lawK : Go.Maps.Keyed Try.prog 3 := Go.Maps.int_keyed Try.underlying3
theorem zeroB (w : World) : (zeroValue 31).run Try.prog w = .ok (.slice none 0 0) w := by kernel_rfl
open Classical in
/-- How an element reads: by where in block b it begins. -/
noncomputable def rdE (b : Nat) (v : Value) : Option (DataW Unit × List MemPlace) :=
  if v = .slice none 0 0 then some (.lit (.bool false), []) else if h : ∃ o : Nat, v = .slice (some ⟨b, o, none⟩) 128 128 then some (.lit (.int .i64 (h.choose : Int)), []) else none
theorem rdE_nil (b : Nat) : rdE b (.slice none 0 0) = some (.lit (.bool false), []) := by unfold rdE; rw [if_pos rfl]
theorem rdE_at (b o : Nat) : rdE b (.slice (some ⟨b, o, none⟩) 128 128) = some (.lit (.int .i64 (o : Int)), []) := by
  have h : ∃ o' : Nat, Value.slice (some ⟨b, o, none⟩) 128 128 = .slice (some ⟨b, o', none⟩) 128 128 := ⟨o, rfl⟩
  unfold rdE
  rw [if_neg (fun e => by cases e), dif_pos h]
  have h2 := h.choose_spec
  injection h2 with h3
  injection h3 with h4
  injection h4 with h5 h6
  rw [← h6]
theorem rdE_inv {b o : Nat} {v : Value} {ps : List MemPlace} (h : rdE b v = some (.lit (.int .i64 (o : Int)), ps)) : v = .slice (some ⟨b, o, none⟩) 128 128 := by
  unfold rdE at h
  split at h
  · cases h
  · split at h
    · next h1 h2 =>
      have h3 := h2.choose_spec
      injection h with h
      injection h with h _
      injection h with h
      injection h with _ h
      rw [h3]
      have : h2.choose = o := by omega
      rw [this]
    · cases h
theorem rdE_inv0 {b : Nat} {v : Value} {ps : List MemPlace} (h : rdE b v = some (.lit (.bool false), ps)) : v = .slice none 0 0 := by
  unfold rdE at h
  split at h
  · assumption
  · split at h
    · cases h
    · cases h
/-- The map behind the first k writes. -/
def mapD (tf : Nat → Nat) : Nat → DataW Unit
  | 0 => .map []
  | k + 1 => (mapD tf k).put (.int .i64 (tf k : Int)) (.lit (.int .i64 ((k * 128 : Nat) : Int)))
theorem mapD_is (tf : Nat → Nat) : ∀ k, Go.Maps.IsMap (mapD tf k)
  | 0 => Go.Maps.isMap_empty
  | k + 1 => (mapD_is tf k).put _ _
theorem mapD_look (tf : Nat → Nat) (i : Nat) : ∀ k, (lastAt tf k i = 0 → Go.Maps.has (mapD tf k) (.int .i64 (i : Int)) = false ∧ (mapD tf k).atKey (.int .i64 (i : Int)) (.lit (.bool false)) = .lit (.bool false)) ∧
    (∀ p : Nat, lastAt tf k i = (p : Int) + 1 → Go.Maps.has (mapD tf k) (.int .i64 (i : Int)) = true ∧ (mapD tf k).atKey (.int .i64 (i : Int)) (.lit (.bool false)) = .lit (.int .i64 ((p * 128 : Nat) : Int)))
  | 0 => ⟨fun _ => ⟨rfl, rfl⟩, fun p h => by simp [lastAt] at h; omega⟩
  | k + 1 => by
    rw [lastAt, mapD]
    by_cases e : tf k = i
    · subst e
      rw [if_pos rfl]
      refine ⟨fun h => by omega, fun p h => ?_⟩
      obtain rfl : p = k := by omega
      exact ⟨Go.Maps.has_put_same (mapD_is tf p) (by exact True.intro) _, Go.Maps.atKey_put_same (mapD_is tf p) (by exact True.intro) _ _⟩
    · rw [if_neg e]
      have hne : Lit.int .i64 (i : Int) ≠ Lit.int .i64 (tf k : Int) := fun h => by
        injection h with _ h
        omega
      rw [Go.Maps.has_put_other hne, Go.Maps.atKey_put_other hne]
      exact mapD_look tf i k
theorem map_part {w w' : World} {F : Nat → Prop} {R : Value → Option (DataW Unit × List MemPlace)} {b n : Nat} {D : DataW Unit} (h : w.ownsMap Try.prog 3 R b n D) (hp : Part F w w') (hn : ¬ F b) : w'.ownsMap Try.prog 3 R b n D := by
  have hl := h.lt
  obtain ⟨es, clock, hb, rest⟩ := h
  exact ⟨es, clock, by rw [hp.block b hl hn]; exact hb, rest⟩
/-- What a look-up tells. -/
theorem look_no {w : World} {M n b3 i k : Nat} {tf : Nat → Nat} (h : w.ownsMap Try.prog 3 (rdE b3) M n (mapD tf k)) (hi : i < 4) (h0 : lastAt tf k i = 0) : (Instr.lookup 28 (.map (some M)) (.int .i64 (i : Int)) true).run Try.prog w = .ok (.tuple #[.slice none 0 0, .bool false]) w := by
  obtain ⟨v, ps, hr, hv⟩ := h.look_ok lawK Try.underlying28 (zeroB w) (rdE_nil b3) (Go.Maps.keyOf_int_mk Try.underlying3 (WalkArith.wf_i64 (n := (i : Int)) (by omega)))
  obtain ⟨q1, q2⟩ := (mapD_look tf i k).1 h0
  rw [q2] at hv
  rw [q1, rdE_inv0 hv] at hr
  exact hr
theorem look_yes {w : World} {M n b3 i k p : Nat} {tf : Nat → Nat} (h : w.ownsMap Try.prog 3 (rdE b3) M n (mapD tf k)) (hi : i < 4) (h0 : lastAt tf k i = (p : Int) + 1) : (Instr.lookup 28 (.map (some M)) (.int .i64 (i : Int)) true).run Try.prog w = .ok (.tuple #[.slice (some ⟨b3, p * 128, none⟩) 128 128, .bool true]) w := by
  obtain ⟨v, ps, hr, hv⟩ := h.look_ok lawK Try.underlying28 (zeroB w) (rdE_nil b3) (Go.Maps.keyOf_int_mk Try.underlying3 (WalkArith.wf_i64 (n := (i : Int)) (by omega)))
  obtain ⟨q1, q2⟩ := (mapD_look tf i k).2 p h0
  rw [q2] at hv
  rw [q1, rdE_inv hv] at hr
  exact hr
/-- Nothing stays: as it was. -/
theorem setl_none (dur : Nat → Int) (tf : Nat → Nat) (ld : Nat → Int) : ∀ k, setl dur tf ld (fun _ => false) k = dur
  | 0 => rfl
  | k + 1 => by rw [setl]; simpa using setl_none dur tf ld k
theorem named_all (m p : Nat) (hp : p < m) : named (fun j => (j : Int)) m p = true := named_iff.2 ⟨p, hp, rfl⟩
theorem good_all (m : Nat) : Good (fun j => (j : Int)) m m := fun j hj => ⟨by show (0 : Int) ≤ (j : Int); omega, by show (j : Int) < (m : Int); omega, fun i hi e => by have e : (i : Int) = (j : Int) := e; omega⟩
end Go.Proofs.Ytjpjpfmhmcdibaa
