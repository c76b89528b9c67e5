/-
  Maps keyed by texts, told by the list of their entries (Mp): look-up, store, delete, length. No condition but that a key is no longer than a text may be.
-/
import Derived.Test.YtoddldabmoccaaaHpM
import Derived.Test.YtoddldabmoccaaaHpM
import Derived.Maps.OwnSet
import Derived.Maps.OwnIn
import Derived.Maps.Range
import Derived.Maps.RangeWalk
import Derived.Sort.KeysCollected
import Derived.Sort.MapsRangeIn
import Derived.Sort.OwnSorted
namespace Go.Proofs.Ytoddldabmoccaaa
open Go.RowKit Go.Maps
set_option linter.unusedVariables false

abbrev Kv := List UInt8 × Value
def idR (v : Value) : Option (DataW Value × List MemPlace) := some (.held v, [])
def toD (L : List Kv) : DataW Value := .map (L.map fun p => (Lit.string p.1, .held p.2))
/-- Block b is a map with these entries. -/
def Mp (w : World) (b : Nat) (L : List Kv) : Prop := w.ownsMap Try.prog 9 idR b L.length (toD L)
theorem law9 : Keyed Try.prog 9 := string_keyed Try.underlying9
/-- What stands under a key. -/
def lk (L : List Kv) (k : List UInt8) : Option Value := (L.find? (fun p => p.1 == k)).map (·.2)
def insK (x : Kv) : List Kv → List Kv
  | [] => [x]
  | y :: r => if (Lit.string x.1).before (.string y.1) then x :: y :: r else y :: insK x r
def delL (L : List Kv) (k : List UInt8) : List Kv := L.filter fun p => !(p.1 == k)
def putL (L : List Kv) (k : List UInt8) (v : Value) : List Kv := insK (k, v) (delL L k)

theorem ins_map (x : Kv) : ∀ L : List Kv, DataW.insert (Lit.string x.1, .held x.2) (L.map fun p => (Lit.string p.1, (.held p.2 : DataW Value))) = (insK x L).map fun p => (Lit.string p.1, .held p.2)
  | [] => rfl
  | y :: r => by
    rw [List.map_cons, DataW.insert, insK]
    split
    · rfl
    · rw [List.map_cons, ins_map x r]
theorem same_str (a b : List UInt8) : (Lit.string a).sameKey (.string b) = (a == b) := rfl
theorem fil_map (k : List UInt8) : ∀ L : List Kv, (L.map fun p => (Lit.string p.1, (.held p.2 : DataW Value))).filter (fun p => !p.1.sameKey (.string k)) = (delL L k).map fun p => (Lit.string p.1, .held p.2)
  | [] => rfl
  | y :: r => by
    rw [List.map_cons, delL, List.filter_cons, List.filter_cons, same_str]
    have := fil_map k r
    unfold delL at this
    split
    · rw [List.map_cons, this]
    · exact this
theorem toD_put (L : List Kv) (k : List UInt8) (v : Value) : (toD L).put (.string k) (.held v) = toD (putL L k v) := by
  unfold toD putL
  show DataW.map _ = _
  rw [fil_map, ins_map (k, v)]
theorem toD_del (L : List Kv) (k : List UInt8) : (toD L).del (.string k) = toD (delL L k) := by
  unfold toD
  show DataW.map _ = _
  rw [fil_map]
theorem toD_has (k : List UInt8) : ∀ L : List Kv, Maps.has (toD L) (.string k) = (lk L k).isSome := by
  intro L
  show (L.map fun p => (Lit.string p.1, (.held p.2 : DataW Value))).any (fun p => p.1.sameKey (.string k)) = _
  induction L with
  | nil => rfl
  | cons y r ih =>
    rw [List.map_cons, List.any_cons, same_str, ih]
    unfold lk
    rw [List.find?_cons]
    cases h : y.1 == k <;> simp
theorem toD_at (k : List UInt8) (z : Value) (L : List Kv) : (toD L).atKey (.string k) (.held z) = .held ((lk L k).getD z) := by
  unfold lk
  simp only [toD, DataW.atKey, List.find?_map]
  have : ((fun p : Lit × DataW Value => p.1.sameKey (Lit.string k)) ∘ fun p : Kv => (Lit.string p.1, (DataW.held p.2 : DataW Value))) = fun p => p.1 == k := rfl
  rw [this]
  cases L.find? (fun p => p.1 == k) <;> rfl
theorem toD_size (L : List Kv) : Maps.size (toD L) = L.length := by simp [Maps.size, toD]
theorem toD_is (L : List Kv) : IsMap (toD L) := ⟨_, rfl⟩
theorem lk_of {L L' : List Kv} {k k' : List UInt8} (h1 : Maps.has (toD L) (.string k) = Maps.has (toD L') (.string k')) (h2 : ∀ z, (toD L).atKey (.string k) z = (toD L').atKey (.string k') z) : lk L k = lk L' k' := by
  rw [toD_has, toD_has] at h1
  have h3 := h2 (.held undef)
  rw [toD_at, toD_at] at h3
  injection h3 with h3
  cases e : lk L k <;> cases e' : lk L' k' <;> rw [e, e'] at h1 h3
  · cases h1
  · cases h1
  · exact congrArg some h3
theorem str_ne' {k k' : List UInt8} (h : k' ≠ k) : Lit.string k' ≠ Lit.string k := fun e => h (by injection e)
theorem lk_put_same (L : List Kv) (k : List UInt8) (v : Value) : lk (putL L k v) k = some v := by
  have h1 : Maps.has (toD (putL L k v)) (.string k) = true := by rw [← toD_put]; exact has_put_same (toD_is L) (by exact True.intro) _
  have h2 := atKey_put_same (toD_is L) (k := Lit.string k) (by exact True.intro) (.held v) (.held undef)
  rw [toD_put, toD_at] at h2
  rw [toD_has] at h1
  injection h2 with h2
  cases e : lk (putL L k v) k <;> rw [e] at h1 h2
  · cases h1
  · exact congrArg some h2
theorem lk_put_other {L : List Kv} {k k' : List UInt8} (h : k' ≠ k) (v : Value) : lk (putL L k v) k' = lk L k' :=
  lk_of (by rw [← toD_put]; exact has_put_other (str_ne' h) _) (fun z => by rw [← toD_put]; exact atKey_put_other (str_ne' h) _ z)
theorem lk_del_same (L : List Kv) (k : List UInt8) : lk (delL L k) k = none := by
  have h1 : Maps.has (toD (delL L k)) (.string k) = false := by rw [← toD_del]; exact has_del_same
  rw [toD_has] at h1
  cases e : lk (delL L k) k
  · rfl
  · rw [e] at h1; cases h1
theorem lk_del_other {L : List Kv} {k k' : List UInt8} (h : k' ≠ k) : lk (delL L k) k' = lk L k' :=
  lk_of (by rw [← toD_del]; exact has_del_other (str_ne' h)) (fun z => by rw [← toD_del]; exact atKey_del_other (str_ne' h) z)
theorem ins_len (x : Kv) : ∀ L : List Kv, (insK x L).length = L.length + 1
  | [] => rfl
  | y :: r => by
    rw [insK]
    split
    · rfl
    · rw [List.length_cons, ins_len x r]; rfl
theorem put_len (L : List Kv) (k : List UInt8) (v : Value) : (putL L k v).length ≤ L.length + 1 := by
  rw [putL, ins_len]
  have := List.length_filter_le (fun p : Kv => !(p.1 == k)) L
  unfold delL
  omega
theorem del_len (L : List Kv) (k : List UInt8) : (delL L k).length ≤ L.length := List.length_filter_le _ _
theorem lk_mem {L : List Kv} {k : List UInt8} {v : Value} (h : lk L k = some v) : (k, v) ∈ L := by
  unfold lk at h
  cases e : L.find? (fun p => p.1 == k) with
  | none => rw [e] at h; cases h
  | some p =>
    rw [e] at h
    injection h with h
    have h1 := List.mem_of_find?_eq_some e
    have h2 := List.find?_some e
    have h3 : p.1 = k := by simpa using h2
    rw [← h3, ← h]
    exact h1

theorem tight {w : World} {b n : Nat} {D : DataW Value} (h : w.ownsMap Try.prog 9 idR b n D) : w.ownsMap Try.prog 9 idR b (Maps.size D) D := by
  obtain ⟨es, clock, h1, h2, h3, h4⟩ := h
  exact ⟨es, clock, h1, h2, by rw [h4]; simp [Maps.size, length_sorted], h4⟩
theorem Mp.of {w : World} {b n : Nat} {L : List Kv} (h : w.ownsMap Try.prog 9 idR b n (toD L)) : Mp w b L := by
  have := tight h
  rw [toD_size] at this
  exact this
theorem Mp.made (w : World) : Mp (w.alloc (.map #[] 0)) w.heap.size [] := World.ownsMap_made w _ _ _
theorem Mp.lt {w : World} {b : Nat} {L : List Kv} (h : Mp w b L) : b < w.heap.size := World.ownsMap.lt h
theorem Mp.part {F : Nat → Prop} {w w' : World} {b : Nat} {L : List Kv} (h : Mp w b L) (hp : Part F w w') (hn : ¬ F b) : Mp w' b L := by
  have hl := h.lt
  obtain ⟨es, clock, hb, rest⟩ := h
  exact ⟨es, clock, by rw [hp.block b hl hn]; exact hb, rest⟩
theorem Mp.heap {w w' : World} {b : Nat} {L : List Kv} (h : Mp w b L) (hh : w'.heap[b]? = w.heap[b]?) : Mp w' b L := by
  obtain ⟨es, clock, hb, rest⟩ := h
  exact ⟨es, clock, by rw [hh]; exact hb, rest⟩
/-- The entries of a map are no cells. -/
theorem Mp.obj {w : World} {b : Nat} {L : List Kv} (h : Mp w b L) : ∃ es c, w.heap[b]? = some (.map es c) := by
  obtain ⟨es, clock, hb, rest⟩ := h
  exact ⟨es, clock, hb⟩
theorem key_s (s : ByteArray) (h : s.size ≤ maxLen) : keyOf Try.prog 9 (.string s) = some (.string s.data.toList) := by
  simp [keyOf, Try.underlying9, mapKey, h]
theorem idR_inv {v : Value} {d : DataW Value} {ps : List MemPlace} {v' : Value} (h : idR v = some (d, ps)) (e : d = .held v') : v = v' := by
  subst e
  unfold idR at h
  injection h with h
  injection h with h
  injection h
theorem Mp.look {t e : TypeId} (ht : Try.prog.underlying t = some (.map 9 e)) {w : World} {z : Value} (hz : (zeroValue e).run Try.prog w = .ok z w) {b : Nat} {L : List Kv} (h : Mp w b L) {s : ByteArray} (hs : s.size ≤ maxLen) :
    (Instr.lookup t (.map (some b)) (.string s) false).run Try.prog w = .ok ((lk L s.data.toList).getD z) w := by
  obtain ⟨v, ps, hr, hv⟩ := World.ownsMap.lookup h law9 ht hz (zd := .held z) (zp := []) rfl (key_s s hs)
  rw [hr, idR_inv hv (toD_at _ _ _)]
theorem Mp.look_ok {t e : TypeId} (ht : Try.prog.underlying t = some (.map 9 e)) {w : World} {z : Value} (hz : (zeroValue e).run Try.prog w = .ok z w) {b : Nat} {L : List Kv} (h : Mp w b L) {s : ByteArray} (hs : s.size ≤ maxLen) :
    (Instr.lookup t (.map (some b)) (.string s) true).run Try.prog w = .ok (.tuple #[(lk L s.data.toList).getD z, .bool (lk L s.data.toList).isSome]) w := by
  obtain ⟨v, ps, hr, hv⟩ := World.ownsMap.look_ok h law9 ht hz (zd := .held z) (zp := []) rfl (key_s s hs)
  rw [hr, idR_inv hv (toD_at _ _ _), toD_has]
theorem Mp.store {t e : TypeId} (ht : Try.prog.underlying t = some (.map 9 e)) {w : World} {b : Nat} {L : List Kv} (h : Mp w b L) (hn : L.length < maxLen) {s : ByteArray} (hs : s.size ≤ maxLen) (v : Value) :
    ∃ w', (Instr.mapUpdate t (.map (some b)) (.string s) v).run Try.prog w = .ok () w' ∧ Mp w' b (putL L s.data.toList v) ∧ w.mapTurned w' b := by
  obtain ⟨w', hr, ho, ht⟩ := World.ownsMap.store h law9 ht hn (key_s s hs) (val := v) (d := .held v) (ps := []) rfl
  rw [toD_put] at ho
  exact ⟨w', hr, .of ho, ht⟩
theorem Mp.drop {t e : TypeId} (ht : Try.prog.underlying t = some (.map 9 e)) {w : World} {b : Nat} {L : List Kv} (h : Mp w b L) {s : ByteArray} (hs : s.size ≤ maxLen) (ty : TypeId) :
    ∃ w', (Builtin.delete_ #[t, 9] ty #[.map (some b), .string s]).run Try.prog w = .ok (.tuple #[]) w' ∧ Mp w' b (delL L s.data.toList) ∧ w.mapTurned w' b := by
  obtain ⟨w', hr, ho, ht⟩ := World.ownsMap.drop h law9 ht (key_s s hs) ty
  rw [toD_del] at ho
  exact ⟨w', hr, .of ho, ht⟩
theorem Mp.len {t e : TypeId} (ht : Try.prog.underlying t = some (.map 9 e)) {w : World} {b : Nat} {L : List Kv} (h : Mp w b L) (ty : TypeId) : (Builtin.len_ #[t] ty #[.map (some b)]).run Try.prog w = .ok (.int .i64 (L.length : Int)) w := by
  rw [World.ownsMap.len h ht ty, toD_size]
/-- A map that was turned, and all else. -/
theorem turned_part {w w' : World} {b : Nat} (h : w.mapTurned w' b) : Part (fun k => k = b) w w' := (Part.refl _ w).grown h.grown (fun k hk _ => (Option.some.inj hk).symm)
/-- No key stands twice. -/
theorem Mp.keys {w : World} {b : Nat} {L : List Kv} (h : Mp w b L) : L.Pairwise (fun p q => p.1 ≠ q.1) := by
  obtain ⟨es, hD, hp, _⟩ := World.ownsMap.entries h law9
  unfold toD at hD
  injection hD with hD
  rw [← hD] at hp
  exact (List.pairwise_map.1 hp).imp fun h e => h (congrArg Lit.string e)
theorem Mp.short {w : World} {b : Nat} {L : List Kv} (h : Mp w b L) : ∀ p ∈ L, p.1.length ≤ maxLen := fun p hp => by
  refine strKeys_le h Try.underlying9 p.1 ?_
  unfold toD strKeys
  exact List.mem_map.2 ⟨(.string p.1, .held p.2), List.mem_map.2 ⟨p, hp, rfl⟩, rfl⟩
theorem lk_in : ∀ {L : List Kv}, L.Pairwise (fun p q => p.1 ≠ q.1) → ∀ {p : Kv}, p ∈ L → lk L p.1 = some p.2
  | y :: r, hp, p, hm => by
    rw [List.pairwise_cons] at hp
    unfold lk
    rw [List.find?_cons]
    rcases List.mem_cons.1 hm with rfl | hm
    · simp
    · have : (y.1 == p.1) = false := by simpa using hp.1 p hm
      rw [this]
      exact lk_in hp.2 hm
end Go.Proofs.Ytoddldabmoccaaa
