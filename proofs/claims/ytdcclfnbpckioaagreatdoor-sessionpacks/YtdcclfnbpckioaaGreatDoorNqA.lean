/-
  net's codecs: what mark, number, text and join make.
-/
import Derived.Test.YtdcclfnbpckioaaGreatDoorNqN
import Derived.Laws.EntriesVeiled
import Derived.RangeFuncRecord
import Derived.Deep.RegionHeld2
namespace Go.Proofs.YtdcclfnbpckioaaGreatDoor
open Go.RowKit
set_option linter.unusedVariables false

theorem heap_new (w : World) (o : Obj) (k : Nat) (h : k = w.heap.size) : (w.alloc o).heap[k]? = some o := by
  subst h
  exact World.alloc_heap_new w o
/-- A codec: what writes, and what reads, each over what it has caught. -/
def cod (k1 k2 : Nat) (c1 c2 : Array Value) : Value := .agg #[.func (.func k1) #[] c1, .func (.func k2) #[] c2]
def ptr (b o : Nat) : Value := .pointer (some ⟨b, o, none⟩)

/-- What a codec is for: a byte that is always the same, a number of the request at q, a text of it. -/
inductive Sp where
  | mk (m : Int)
  | nm (o : Nat)
  | tx (o : Nat) (most : Int)
/-- The two functions of a codec; what they have caught lies in blocks from L on, below H. -/
def Cd (w : World) (L H q : Nat) : Sp → Value × Value → Prop
  | .mk m, x => ∃ b, L ≤ b ∧ b < H ∧ x = (.func (.func 70) #[] #[ptr b 0], .func (.func 71) #[] #[ptr b 0]) ∧ w.heap[b]? = some (.cells #[.int .u8 m] 5 (0, 0))
  | .nm o, x => ∃ b, L ≤ b ∧ b < H ∧ x = (.func (.func 73) #[] #[ptr b 0], .func (.func 74) #[] #[ptr b 0]) ∧ w.heap[b]? = some (.cells #[ptr q o] 74 (0, 0))
  | .tx o most, x => ∃ b c, L ≤ b ∧ b < H ∧ L ≤ c ∧ c < H ∧ x = (.func (.func 76) #[] #[ptr b 0], .func (.func 78) #[] #[ptr c 0, ptr b 0]) ∧ w.heap[b]? = some (.cells #[ptr q o] 76 (0, 0)) ∧ w.heap[c]? = some (.cells #[.int .i64 most] 3 (0, 0))
theorem Cd.kept {w w' : World} {L H L' H' q : Nat} {s : Sp} {x : Value × Value} (h : Cd w L H q s x) (hL : L' ≤ L) (hH : H ≤ H') (hk : ∀ k, L ≤ k → k < H → w'.heap[k]? = w.heap[k]?) : Cd w' L' H' q s x := by
  cases s with
  | mk m =>
    obtain ⟨b, h1, h2, h3, h4⟩ := h
    exact ⟨b, by omega, by omega, h3, (hk b h1 h2).trans h4⟩
  | nm o =>
    obtain ⟨b, h1, h2, h3, h4⟩ := h
    exact ⟨b, by omega, by omega, h3, (hk b h1 h2).trans h4⟩
  | tx o most =>
    obtain ⟨b, c, h1, h2, h3, h4, h5, h6, h7⟩ := h
    exact ⟨b, c, by omega, by omega, by omega, by omega, h5, (hk b h1 h2).trans h6, (hk c h3 h4).trans h7⟩
theorem Cd.below {w w' : World} {L H L' H' q B : Nat} {s : Sp} {x : Value × Value} (h : Cd w L H q s x) (hL : L' ≤ L) (hH : H ≤ H') (hb : Below B w w') (hB : H ≤ B) : Cd w' L' H' q s x := h.kept hL hH (fun k _ h2 => hb.block k (by omega))

theorem c_mark (m : Int) (q : Nat) (w : World) :
    Calls Tryz.prog 53 #[.int .u8 m] w fun e w' => ∃ x, e = .returned (.agg #[x.1, x.2]) ∧ Cd w' w.heap.size w'.heap.size q (.mk m) x ∧ Below w.heap.size w w' := by
  go_enter Tryz.func53, Tryz.ntmps53
  go_wp2
  refine bodyPost_ret (v := cod 70 71 #[ptr w.heap.size 0] #[ptr w.heap.size 0]) (by simp [results, Tryz.results53, go_sem, cod, ptr]) rfl ?_
  refine ⟨_, rfl, ⟨w.heap.size, Nat.le_refl _, by simp; omega, rfl, ?_⟩, ((Below.refl _ w).alloc (Nat.le_refl _) _).alloc (by simp) _⟩
  rw [Below.heap_alloc _ _ _ (by simp)]
  exact heap_new _ _ _ rfl
theorem c_num (q o : Nat) (w : World) :
    Calls Tryz.prog 54 #[ptr q o] w fun e w' => ∃ x, e = .returned (.agg #[x.1, x.2]) ∧ Cd w' w.heap.size w'.heap.size q (.nm o) x ∧ Below w.heap.size w w' := by
  unfold ptr
  go_enter Tryz.func54, Tryz.ntmps54
  go_wp2
  refine bodyPost_ret (v := cod 73 74 #[ptr w.heap.size 0] #[ptr w.heap.size 0]) (by simp [results, Tryz.results54, go_sem, cod, ptr]) rfl ?_
  refine ⟨_, rfl, ⟨w.heap.size, Nat.le_refl _, by simp; omega, rfl, ?_⟩, ((Below.refl _ w).alloc (Nat.le_refl _) _).alloc (by simp) _⟩
  rw [Below.heap_alloc _ _ _ (by simp)]
  exact heap_new _ _ _ rfl
theorem c_text (q o : Nat) (most : Int) (w : World) :
    Calls Tryz.prog 55 #[ptr q o, .int .i64 most] w fun e w' => ∃ x, e = .returned (.agg #[x.1, x.2]) ∧ Cd w' w.heap.size w'.heap.size q (.tx o most) x ∧ Below w.heap.size w w' := by
  unfold ptr
  go_enter Tryz.func55, Tryz.ntmps55
  go_wp2
  refine bodyPost_ret (v := cod 76 78 #[ptr w.heap.size 0] #[ptr (w.heap.size + 1) 0, ptr w.heap.size 0]) (by simp [results, Tryz.results55, go_sem, cod, ptr]) rfl ?_
  refine ⟨_, rfl, ⟨w.heap.size, w.heap.size + 1, Nat.le_refl _, by simp; omega, by omega, by simp, rfl, ?_, ?_⟩, (((Below.refl _ w).alloc (Nat.le_refl _) _).alloc (by simp) _).alloc (by simp; omega) _⟩
  · rw [Below.heap_alloc _ _ _ (by simp; omega), Below.heap_alloc _ _ _ (by simp)]
    exact heap_new _ _ _ rfl
  · rw [Below.heap_alloc _ _ _ (by simp)]
    exact heap_new _ _ _ (by simp)
/-- Codecs one behind the other. -/
structure Jn (w : World) (L H q : Nat) (v : Value) (ss : List Sp) (vs : List (Value × Value)) (j g : Nat) : Prop where
  val : v = .agg #[.func (.func 68) #[] #[.pointer (some ⟨j, 0, none⟩)], .func (.func 69) #[] #[.pointer (some ⟨j, 0, none⟩)]]
  j0 : L ≤ j
  j1 : j < H
  g0 : L ≤ g
  g1 : g < H
  box : w.heap[j]? = some (.cells #[.slice (some ⟨g, 0, none⟩) vs.length vs.length] 94 (0, 0))
  row : w.heap[g]? = some (.cells (vs.flatMap fun x => [x.1, x.2]).toArray 61 (0, 0))
  len : vs.length = ss.length
  all : ∀ (i : Nat) (s : Sp) (x : Value × Value), ss[i]? = some s → vs[i]? = some x → Cd w L H q s x
abbrev cJ (b : Nat) : Value := .agg #[.func (.func 68) #[] #[.pointer (some ⟨b, 0, none⟩)], .func (.func 69) #[] #[.pointer (some ⟨b, 0, none⟩)]]
theorem c_join (ao : Option Addr) (n c : Nat) (w : World) :
    Calls Tryz.prog 52 #[.slice ao n c] w fun e w' => e = .returned (cJ w.heap.size) ∧ w'.heap[w.heap.size]? = some (.cells #[.slice ao n c] 94 (0, 0)) ∧ Below w.heap.size w w' ∧ w.heap.size < w'.heap.size := by
  go_enter Tryz.func52, Tryz.ntmps52
  go_wp2
  refine bodyPost_ret (v := cod 68 69 #[ptr w.heap.size 0] #[ptr w.heap.size 0]) (by simp [results, Tryz.results52, go_sem, cod, ptr]) rfl ?_
  refine ⟨rfl, ?_, ((Below.refl _ w).alloc (Nat.le_refl _) _).alloc (by simp) _, by simp; omega⟩
  rw [Below.heap_alloc _ _ _ (by simp)]
  exact heap_new _ _ _ rfl
def askS : List Sp := [.mk 1, .nm 1, .nm 2, .tx 0 8, .tx 3 1200]
abbrev cM (b : Nat) : Value × Value := (.func (.func 70) #[] #[.pointer (some ⟨b, 0, none⟩)], .func (.func 71) #[] #[.pointer (some ⟨b, 0, none⟩)])
abbrev cN (b : Nat) : Value × Value := (.func (.func 73) #[] #[.pointer (some ⟨b, 0, none⟩)], .func (.func 74) #[] #[.pointer (some ⟨b, 0, none⟩)])
abbrev cT (b c : Nat) : Value × Value := (.func (.func 76) #[] #[.pointer (some ⟨b, 0, none⟩)], .func (.func 78) #[] #[.pointer (some ⟨c, 0, none⟩), .pointer (some ⟨b, 0, none⟩)])
/-- So many codecs are made. -/
def Mk (W : World) (q : Nat) (ss : List Sp) (vs : List (Value × Value)) (w : World) : Prop := Below W.heap.size W w ∧ vs.length = ss.length ∧ ∀ (i : Nat) (s : Sp) (x : Value × Value), ss[i]? = some s → vs[i]? = some x → Cd w W.heap.size w.heap.size q s x
theorem Mk.more {W w w' : World} {q : Nat} {ss : List Sp} {vs : List (Value × Value)} (h : Mk W q ss vs w) (hb : Below w.heap.size w w') {s : Sp} {x : Value × Value} (hx : Cd w' w.heap.size w'.heap.size q s x) : Mk W q (ss ++ [s]) (vs ++ [x]) w' := by
  obtain ⟨h1, h2, h3⟩ := h
  refine ⟨h1.trans (hb.mono h1.size), by simp [h2], fun i t y ht hy => ?_⟩
  rcases Nat.lt_or_ge i ss.length with g | g
  · rw [List.getElem?_append_left g] at ht
    rw [List.getElem?_append_left (by omega)] at hy
    exact (h3 i t y ht hy).below (Nat.le_refl _) hb.size hb (Nat.le_refl _)
  · rw [List.getElem?_append_right g] at ht
    rw [List.getElem?_append_right (by omega), h2] at hy
    have hi : i - ss.length = 0 := by
      rcases Nat.eq_zero_or_pos (i - ss.length) with e | e
      · exact e
      · rw [List.getElem?_eq_none (by simp; omega)] at ht
        cases ht
    rw [hi] at ht hy
    simp at ht hy
    subst ht
    subst hy
    exact hx.kept h1.size (Nat.le_refl _) (fun _ _ _ => rfl)
theorem k_mark {W w : World} {q : Nat} {ss : List Sp} {vs : List (Value × Value)} (m : Int) (h : Mk W q ss vs w) :
    Calls Tryz.prog 53 #[.int .u8 m] w fun e w' => ∃ b, e = .returned (.agg #[(cM b).1, (cM b).2]) ∧ Mk W q (ss ++ [.mk m]) (vs ++ [cM b]) w' := by
  refine (c_mark m q w).mono ?_
  rintro e w' ⟨x, rfl, hx, hb⟩
  obtain ⟨b, h1, h2, rfl, h4⟩ := id hx
  exact ⟨b, rfl, h.more hb hx⟩
theorem k_num {W w : World} {q : Nat} {ss : List Sp} {vs : List (Value × Value)} (o : Nat) (h : Mk W q ss vs w) :
    Calls Tryz.prog 54 #[.pointer (some ⟨q, o, none⟩)] w fun e w' => ∃ b, e = .returned (.agg #[(cN b).1, (cN b).2]) ∧ Mk W q (ss ++ [.nm o]) (vs ++ [cN b]) w' := by
  refine (c_num q o w).mono ?_
  rintro e w' ⟨x, rfl, hx, hb⟩
  obtain ⟨b, h1, h2, rfl, h4⟩ := id hx
  exact ⟨b, rfl, h.more hb hx⟩
theorem k_text {W w : World} {q : Nat} {ss : List Sp} {vs : List (Value × Value)} (o : Nat) (most : Int) (h : Mk W q ss vs w) :
    Calls Tryz.prog 55 #[.pointer (some ⟨q, o, none⟩), .int .i64 most] w fun e w' => ∃ b c, e = .returned (.agg #[(cT b c).1, (cT b c).2]) ∧ Mk W q (ss ++ [.tx o most]) (vs ++ [cT b c]) w' := by
  refine (c_text q o most w).mono ?_
  rintro e w' ⟨x, rfl, hx, hb⟩
  obtain ⟨b, c, h1, h2, h3, h4, rfl, h6, h7⟩ := id hx
  exact ⟨b, c, rfl, h.more hb hx⟩
theorem k_join {W w : World} {q : Nat} {ss : List Sp} {vs : List (Value × Value)} (h : Mk W q ss vs w) (cs : Array Value) (n : Nat) (hc : cs = (vs.flatMap fun x => [x.1, x.2]).toArray) (hn : n = vs.length) :
    Calls Tryz.prog 52 #[.slice (some ⟨w.heap.size, 0, none⟩) n n] (w.alloc (.cells cs 61)) fun e w' => ∃ j, e = .returned (cJ j) ∧ Jn w' W.heap.size w'.heap.size q (cJ j) ss vs j w.heap.size ∧ Below W.heap.size W w' := by
  obtain ⟨h1, h2, h3⟩ := h
  subst hc
  subst hn
  have hb0 : Below w.heap.size w (w.alloc (.cells (vs.flatMap fun x => [x.1, x.2]).toArray 61)) := (Below.refl _ w).alloc (Nat.le_refl _) _
  have hrow := heap_new w (.cells (vs.flatMap fun x => [x.1, x.2]).toArray 61) _ rfl
  have hsz : (w.alloc (.cells (vs.flatMap fun x => [x.1, x.2]).toArray 61)).heap.size = w.heap.size + 1 := by simp
  generalize w.alloc (.cells (vs.flatMap fun x => [x.1, x.2]).toArray 61) = w1 at *
  refine (c_join _ _ _ w1).mono ?_
  rintro e w' ⟨rfl, f1, f2, f3⟩
  have hs := h1.size
  refine ⟨_, rfl, ⟨rfl, by omega, f3, by omega, by omega, f1, (f2.block _ (by omega)).trans hrow, h2, fun i s x hs' hx => ?_⟩, h1.trans ((hb0.trans (f2.mono (by omega))).mono hs)⟩
  exact ((h3 i s x hs' hx).below (Nat.le_refl _) (Nat.le_refl _) hb0 (Nat.le_refl _)).below (Nat.le_refl _) (by omega) f2 (by omega)
/-- The result's cell is written: the codecs stay. -/
theorem Jn.told {w w' : World} {L H L' H' q : Nat} {v : Value} {ss : List Sp} {vs : List (Value × Value)} {j g : Nat} (h : Jn w L H q v ss vs j g) (hL : L' ≤ L) (hH : H ≤ H') (hk : ∀ k, L ≤ k → k < H → w'.heap[k]? = w.heap[k]?) : Jn w' L' H' q v ss vs j g :=
  ⟨h.val, Nat.le_trans hL h.j0, Nat.lt_of_lt_of_le h.j1 hH, Nat.le_trans hL h.g0, Nat.lt_of_lt_of_le h.g1 hH, (hk j h.j0 h.j1).trans h.box, (hk g h.g0 h.g1).trans h.row, h.len, fun i s x hs hx => (h.all i s x hs hx).kept hL hH hk⟩
theorem set2 {w : World} {g : Nat} {u0 u1 v0 v1 : Value} (h0 : w.cell? ⟨g, 0, none⟩ = some u0) (h1 : w.cell? ⟨g, 1, none⟩ = some u1) :
    ((w.setCell ⟨g, 0, none⟩ v0).setCell ⟨g, 1, none⟩ v1).cell? ⟨g, 0, none⟩ = some v0 ∧ ((w.setCell ⟨g, 0, none⟩ v0).setCell ⟨g, 1, none⟩ v1).cell? ⟨g, 1, none⟩ = some v1 ∧ Only g w ((w.setCell ⟨g, 0, none⟩ v0).setCell ⟨g, 1, none⟩ v1) := by
  refine ⟨?_, ?_, ((Only.refl g w).setCell rfl _).setCell rfl _⟩
  · rw [World.cell?_setCell_other _ _ _ _ (by simp), World.cell?_setCell_same _ _ _ h0]
  · exact World.cell?_setCell_same _ _ _ (by rw [World.cell?_setCell_other _ _ _ _ (by simp)]; exact h1)
def repS : List Sp := [.mk 2, .nm 1, .nm 2, .nm 3, .tx 0 8, .tx 4 1000]
set_option maxRecDepth 100000 in
set_option maxHeartbeats 1000000 in
theorem c_replying (q : Nat) (w : World) :
    Calls Tryz.prog 43 #[.pointer (some ⟨q, 0, none⟩)] w fun e w' => ∃ v vs j g, e = .returned v ∧ Jn w' w.heap.size w'.heap.size q v repS vs j g ∧ Below w.heap.size w w' := by
  obtain ⟨W, hW⟩ : ∃ W, W = w.alloc (.cells #[.nilFunc, .nilFunc] 61) := ⟨_, rfl⟩
  have H0 : Hid (Mk W q [] [] W.drew) := ⟨blw_drewN 1 (Below.refl _ W), rfl, fun i s x h => by simp at h⟩
  have HS : Hid (∀ wq, Below W.heap.size W wq → wq.cell? ⟨w.heap.size, 0, none⟩ = some .nilFunc ∧ wq.cell? ⟨w.heap.size, 1, none⟩ = some .nilFunc ∧ wq.frozen? ⟨w.heap.size, 0, none⟩ = false ∧ wq.frozen? ⟨w.heap.size, 1, none⟩ = false) := fun wq hq => by
    have e : wq.heap[w.heap.size]? = some (.cells #[.nilFunc, .nilFunc] 61 (0, 0)) := by
      rw [hq.block _ (by rw [hW]; simp), hW]
      exact heap_new _ _ _ rfl
    refine ⟨?_, ?_, ?_, ?_⟩ <;> simp [World.cell?, World.frozen?, e]
  have HZ : Hid (W.heap.size = w.heap.size + 1) := show W.heap.size = w.heap.size + 1 by rw [hW]; simp
  have HK : Hid (Below w.heap.size w W) := by rw [hW]; exact (Below.refl _ w).alloc (Nat.le_refl _) _
  go_enter Tryz.func43, Tryz.ntmps43
  go_wp2
  rw [← hW]
  clear hW
  go_region_held2 (fun _ => True) (trivial) (first
    | (go_at_call 53; refine (k_mark 2 H0.out).mono ?_; rintro e w1 ⟨b1, rfl, f1⟩)
    | (go_at_call 54; refine (k_num 1 f1).mono ?_; rintro e w2 ⟨b2, rfl, f2⟩)
    | (go_at_call 54; refine (k_num 2 f2).mono ?_; rintro e w3 ⟨b3, rfl, f3⟩)
    | (go_at_call 54; refine (k_num 3 f3).mono ?_; rintro e w9 ⟨b9, rfl, f9⟩)
    | (go_at_call 55; refine (k_text 0 8 f9).mono ?_; rintro e w4 ⟨b4, c4, rfl, f4⟩)
    | (go_at_call 55; refine (k_text 4 1000 f4).mono ?_; rintro e w5 ⟨b5, c5, rfl, f5⟩)
    | (go_at_call 52; refine (k_join f5 _ _ (by rfl) (by rfl)).mono ?_; rintro e w6 ⟨j, rfl, f6, f7⟩; obtain ⟨s1, s2, s3, s4⟩ := HS.out w6 f7))
  go_wp2
  obtain ⟨x1, x2, x3⟩ := set2 (v0 := .func (.func 68) #[] #[.pointer (some ⟨j, 0, none⟩)]) (v1 := .func (.func 69) #[] #[.pointer (some ⟨j, 0, none⟩)]) s1 s2
  have hsz : W.heap.size = w.heap.size + 1 := HZ.out
  refine bodyPost_ret (v := cJ j) (by simp [results, Tryz.results43, go_sem, x1, x2]) rfl ?_
  refine ⟨_, _, _, _, rfl, f6.told (by omega) (Nat.le_of_eq x3.size.symm) (fun k hk _ => x3.block k (by omega)), (HK.out.trans (f7.mono (by omega))).trans (x3.below (Nat.le_refl _))⟩
end Go.Proofs.YtdcclfnbpckioaaGreatDoor
