/-
  Spoil over bytes of one's own: what stays (Spo): blocks ahead of S, blocks that are no bytes; bytes are bytes still (Byt).
-/
import Derived.Test.YtdcclfnbpckioaaGreatDoorSpL
namespace Go.Proofs.YtdcclfnbpckioaaGreatDoor
open Go.RowKit Go.Shelf
set_option linter.unusedVariables false
set_option maxRecDepth 100000
set_option maxHeartbeats 2000000

structure Spo (S : Nat) (w w' : World) : Prop where
  bel : Below S w w'
  tame : ∀ (g : Nat) (cur : Array Value), w.heap[g]? = some (.cells cur 5 (0, 0)) → ∃ cur' : Array Value, w'.heap[g]? = some (.cells cur' 5 (0, 0)) ∧ ∀ (i : Nat) (x : Int), cur[i]? = some (.int .u8 x) → ∃ y, cur'[i]? = some (.int .u8 y)
  keep : ∀ (g : Nat) (cs : Array Value) (t : TypeId) (z : Nat × Nat), t ≠ 5 → w.heap[g]? = some (.cells cs t z) → w'.heap[g]? = some (.cells cs t z)
theorem Spo.refl (S : Nat) (w : World) : Spo S w w := ⟨Below.refl _ _, fun g cur h => ⟨cur, h, fun i x hx => ⟨x, hx⟩⟩, fun _ _ _ _ _ h => h⟩
theorem Spo.trans {S : Nat} {a b c : World} (h : Spo S a b) (k : Spo S b c) : Spo S a c := by
  refine ⟨h.bel.trans k.bel, fun g cur hg => ?_, fun g cs t z ht hg => k.keep g cs t z ht (h.keep g cs t z ht hg)⟩
  obtain ⟨c1, h1, h2⟩ := h.tame g cur hg
  obtain ⟨c2, k1, k2⟩ := k.tame g c1 h1
  refine ⟨c2, k1, fun i x hx => ?_⟩
  obtain ⟨y, hy⟩ := h2 i x hx
  exact k2 i y hy
theorem Spo.ofBelow {S : Nat} {w w' : World} (hb : Below w.heap.size w w') (hS : S ≤ w.heap.size) : Spo S w w' :=
  ⟨hb.mono hS, fun g cur h => ⟨cur, (hb.block g (Array.getElem?_eq_some_iff.1 h).1).trans h, fun i x hx => ⟨x, hx⟩⟩, fun g cs t z _ h => (hb.block g (Array.getElem?_eq_some_iff.1 h).1).trans h⟩
theorem Spo.alloc {S : Nat} {a w : World} (h : Spo S a w) (hS : S ≤ w.heap.size) (o : Obj) : Spo S a (w.alloc o) := h.trans (.ofBelow ((Below.refl _ w).alloc (Nat.le_refl _) o) hS)
theorem Spo.set {S : Nat} {a w : World} (h : Spo S a w) {g k : Nat} {cur : Array Value} (hg : w.heap[g]? = some (.cells cur 5 (0, 0))) (hS : S ≤ g) (z : Int) : Spo S a (w.setCell ⟨g, k, none⟩ (.int .u8 z)) := by
  refine h.trans ⟨(((Only.refl g w).setCell rfl _ : Only g w _)).below hS, fun g' c' h' => ?_, fun g' cs t zz ht h' => ?_⟩
  · by_cases e : g' = g
    · subst e
      rw [hg] at h'
      injection h' with h'
      injection h' with h' _ _
      subst h'
      refine ⟨_, heap_set_at hg _, fun i x hx => ?_⟩
      by_cases e : k = i
      · subst e
        have := (Array.getElem?_eq_some_iff.1 hx).1
        exact ⟨z, by simp [this]⟩
      · exact ⟨x, by rw [Array.getElem?_setIfInBounds, if_neg e]; exact hx⟩
    · exact ⟨c', by rw [heap_set_other w e]; exact h', fun i x hx => ⟨x, hx⟩⟩
  · by_cases e : g' = g
    · subst e
      rw [hg] at h'
      injection h' with h'
      injection h' with _ h' _
      exact absurd h'.symm ht
    · rw [heap_set_other w e]; exact h'
/-- Bytes from block S on. -/
def Byt (S : Nat) (w : World) (v : Value) : Prop := ∃ a n c, v = .slice a n c ∧ n ≤ 140737488355328 ∧ (n = 0 ∨ ∃ (g : Nat) (cur : Array Value), a = some ⟨g, 0, none⟩ ∧ S ≤ g ∧ w.heap[g]? = some (.cells cur 5 (0, 0)) ∧ ∀ i, i < n → ∃ x, cur[i]? = some (.int .u8 x))
theorem Byt.sp {S : Nat} {w w' : World} {v : Value} (h : Byt S w v) (k : Spo S w w') : Byt S w' v := by
  obtain ⟨a, n, c, hv, hn, h⟩ := h
  refine ⟨a, n, c, hv, hn, ?_⟩
  rcases h with h | ⟨g, cur, h1, h2, h3, h4⟩
  · exact .inl h
  · obtain ⟨c', k1, k2⟩ := k.tame g cur h3
    refine .inr ⟨g, c', h1, h2, k1, fun i hi => ?_⟩
    obtain ⟨x, hx⟩ := h4 i hi
    exact k2 i x hx
theorem Own.byt {w : World} {S : Nat} {v : Value} {xs : List Int} (h : Own w S v xs) (hn : xs.length ≤ 140737488355328) : Byt S w v := by
  rcases h.2 with ⟨h1, h2⟩ | ⟨g, cap, cur, h1, hb, h2, _, _, h3, h4⟩
  · exact ⟨none, 0, 0, h1, by omega, .inl rfl⟩
  · refine ⟨_, _, _, h1, hn, .inr ⟨g, cur, rfl, hb, h2, fun i hi => ?_⟩⟩
    have h7 : (cur.toList.take (xs.length * 1))[i]? = cur.toList[i]? := List.getElem?_take_of_lt (by omega)
    rw [h4, List.getElem?_map, List.getElem?_eq_getElem hi, Array.getElem?_toList] at h7
    exact ⟨xs[i], h7.symm⟩
theorem spoilB (v : Value) (S : Nat) (w : World) (h : Byt S w v) :
    Calls Tryz.prog 15 #[v] w fun e w' => e = .returned (.tuple #[]) ∧ Spo S w w' := by
  obtain ⟨a, n, c, rfl, hn, h⟩ := h
  rcases h with rfl | ⟨g, cur0, rfl, hS, hg0, hc0⟩
  · go_enter Tryz.func15, Tryz.ntmps15
    go_wp2
    go_loopw [5] (fun i wr => i = .int .i64 0 ∧ wr = w) (fun i _ => 0)
    case atStart => exact ⟨rfl, rfl⟩
    case round =>
      obtain ⟨rfl, rfl⟩ := hrel
      go_wp2
      go_end0
      exact ⟨rfl, Spo.refl _ _⟩
  · have H0 : Hid (Spo S w w) := Spo.refl _ _
    have HG : Hid (∀ wr, Spo S w wr → ∃ cur : Array Value, wr.heap[g]? = some (.cells cur 5 (0, 0)) ∧ ∀ i, i < n → ∃ x, cur[i]? = some (.int .u8 x)) := fun wr k => by
      obtain ⟨c', k1, k2⟩ := k.tame g cur0 hg0
      refine ⟨c', k1, fun i hi => ?_⟩
      obtain ⟨x, hx⟩ := hc0 i hi
      exact k2 i x hx
    clear hg0 hc0
    go_enter Tryz.func15, Tryz.ntmps15
    go_wp2
    go_loopw [5] (fun i wr => ∃ k : Nat, k ≤ n ∧ i = .int .i64 (k : Int) ∧ Hid (Spo S w wr)) (fun i _ => n - (intOf i).toNat)
    case atStart => exact ⟨0, Nat.zero_le _, rfl, H0.out⟩
    case round =>
      obtain ⟨k, hk, rfl, hsp⟩ := hrel
      by_cases hlt : k < n
      · have hlt' : (k : Int) < (n : Int) := by omega
        have hk0 : (0 : Int) ≤ (k : Int) := by omega
        obtain ⟨cur, hg, hc⟩ := HG.out wr hsp.out
        obtain ⟨x, hx⟩ := hc k hlt
        have hx' : wr.cell? ⟨g, k, none⟩ = some (.int .u8 x) := (cells_at hg k).trans hx
        have hfz := cells_free hg k
        have HN : Hid (∀ z : Int, Spo S w (wr.setCell ⟨g, k, none⟩ (.int .u8 z))) := fun z => hsp.out.set hg hS z
        clear hg hc hx
        go_wp2
        go_roundw
        case rel => exact ⟨k + 1, by omega, by go_num, HN.out _⟩
        case measure => simp [intOf]; omega
      · obtain rfl : k = n := by omega
        go_wp2
        go_end0
        exact ⟨rfl, hsp.out⟩
end Go.Proofs.YtdcclfnbpckioaaGreatDoor
