/-
  net's codecs: how each writes its part, and all of them one behind the other.
-/
import Derived.Test.YtdcclfnbpckioaaGreatDoorNqA
namespace Go.Proofs.YtdcclfnbpckioaaGreatDoor
open Go.RowKit
set_option linter.unusedVariables false

theorem cell_of {w : World} {b : Nat} {cs : Array Value} {t : TypeId} (h : w.heap[b]? = some (.cells cs t (0, 0))) (i : Nat) : w.cell? ⟨b, i, none⟩ = cs[i]? := by simp [World.cell?, h]

set_option maxHeartbeats 1000000 in
theorem w_mark (b : Nat) (m : Int) (B : Nat) (v : Value) (xs : List Int) (w : World) (hB : B ≤ w.heap.size) (hx : xs.length ≤ 65536) (ho : Own w B v xs) (hb : w.heap[b]? = some (.cells #[.int .u8 m] 5 (0, 0))) :
    Calls Tryz.prog 70 #[v, .pointer (some ⟨b, 0, none⟩)] w fun e w' => ∃ v', e = .returned v' ∧ Own w' B v' (xs ++ [m]) ∧ Below B w w' := by
  have hc : w.cell? ⟨b, 0, none⟩ = some (.int .u8 m) := cell_of hb 0
  have hb0 : Below w.heap.size w (w.alloc (.cells #[.int .u8 m] 5)) := (Below.refl _ w).alloc (Nat.le_refl _) _
  have ho1 := ho.below hb0 (Nat.le_refl _)
  have hfr : From (w.alloc (.cells #[.int .u8 m] 5)) (some ⟨w.heap.size, 0, none⟩) 1 (fun _ => m) := .inr ⟨_, rfl, fun i hi => by
    obtain rfl : i = 0 := by omega
    exact cell_of (heap_new w _ _ rfl) 0⟩
  have hsz : B ≤ (w.alloc (.cells #[.int .u8 m] 5)).heap.size := by simp; omega
  go_enter Tryz.func70, Tryz.ntmps70
  go_wp2_with (at_builtin; refine wpList_app rfl _ _ rfl B _ xs rfl ho1 (some ⟨w.heap.size, 0, none⟩) 1 1 (fun _ => m) rfl hfr (fun e => by cases e) (by omega) hsz ?_)
  intro v' w1 h1 h2
  go_wp2
  go_ret
  exact ⟨v', rfl, h1, (hb0.mono hB).trans h2⟩
set_option maxHeartbeats 1000000 in
theorem w_num (b q o : Nat) (z : Int) (B : Nat) (v : Value) (xs : List Int) (w : World) (hB : B ≤ w.heap.size) (hx : xs.length ≤ 65536) (ho : Own w B v xs) (hb : w.heap[b]? = some (.cells #[.pointer (some ⟨q, o, none⟩)] 74 (0, 0))) (hz : w.cell? ⟨q, o, none⟩ = some (.int .i64 z)) (hzm : z ≤ 9223372036854775807) :
    Calls Tryz.prog 73 #[v, .pointer (some ⟨b, 0, none⟩)] w fun e w' => ∃ v', e = .returned v' ∧ Own w' B v' (xs ++ putB z.toNat) ∧ Below B w w' := by
  have hc : w.cell? ⟨b, 0, none⟩ = some (.pointer (some ⟨q, o, none⟩)) := cell_of hb 0
  obtain ⟨ao, c, rfl, hf, h0, h1, h2, h3⟩ := ho.open
  have HP := wPut ao xs.length c (fn xs) z w (by omega) hf h0 hzm
  rw [lst_fn] at HP
  clear hf h3
  go_enter Tryz.func73, Tryz.ntmps73
  go_wp2_with fail
  refine HP.mono ?_
  rintro e w1 ⟨v1, rfl, k1, k2⟩
  go_wp2
  go_ret
  exact ⟨v1, rfl, k1.mono hB, k2.mono hB⟩
set_option maxHeartbeats 1000000 in
theorem w_text (b q o : Nat) (s : ByteArray) (B : Nat) (v : Value) (xs : List Int) (w : World) (hB : B ≤ w.heap.size) (hx : xs.length ≤ 65536) (ho : Own w B v xs) (hb : w.heap[b]? = some (.cells #[.pointer (some ⟨q, o, none⟩)] 76 (0, 0))) (hz : w.cell? ⟨q, o, none⟩ = some (.string s)) (hzm : s.size ≤ 65536) :
    Calls Tryz.prog 76 #[v, .pointer (some ⟨b, 0, none⟩)] w fun e w' => ∃ v', e = .returned v' ∧ Own w' B v' (xs ++ (putB s.size ++ strL s)) ∧ Below B w w' := by
  have hc : w.cell? ⟨b, 0, none⟩ = some (.pointer (some ⟨q, o, none⟩)) := cell_of hb 0
  obtain ⟨ao, c, rfl, hf, h0, h1, h2, h3⟩ := ho.open
  have HP := wText2 ao xs.length c (fn xs) s w (by omega) hf h0
  rw [lst_fn, List.append_assoc] at HP
  clear hf h3
  go_enter Tryz.func76, Tryz.ntmps76
  go_wp2_with fail
  refine HP.mono ?_
  rintro e w1 ⟨v1, rfl, k1, k2⟩
  go_wp2
  go_ret
  exact ⟨v1, rfl, k1.mono hB, k2.mono hB⟩

/-- What a codec writes of the request at q. -/
def Has (w : World) (q : Nat) : Sp → List Int → Prop
  | .mk m, ys => ys = [m]
  | .nm o, ys => ∃ z : Int, w.cell? ⟨q, o, none⟩ = some (.int .i64 z) ∧ z ≤ 9223372036854775807 ∧ ys = putB z.toNat
  | .tx o _, ys => ∃ s : ByteArray, w.cell? ⟨q, o, none⟩ = some (.string s) ∧ s.size ≤ 65536 ∧ ys = putB s.size ++ strL s
theorem Has.kept {w w' : World} {q : Nat} {s : Sp} {ys : List Int} (h : Has w q s ys) (hk : w'.heap[q]? = w.heap[q]?) : Has w' q s ys := by
  have e : ∀ o, w'.cell? ⟨q, o, none⟩ = w.cell? ⟨q, o, none⟩ := fun o => World.cell?_of_block (w := w) hk
  cases s with
  | mk m => exact h
  | nm o => obtain ⟨z, h1, h2⟩ := h; exact ⟨z, (e o).trans h1, h2⟩
  | tx o m => obtain ⟨z, h1, h2⟩ := h; exact ⟨z, (e o).trans h1, h2⟩
/-- The i-th codec's functions lie in the row. -/
theorem row_at {vs : List (Value × Value)} {i : Nat} {x : Value × Value} (h : vs[i]? = some x) : (vs.flatMap fun x => [x.1, x.2])[2 * i]? = some x.1 ∧ (vs.flatMap fun x => [x.1, x.2])[2 * i + 1]? = some x.2 := by
  induction vs generalizing i with
  | nil => simp at h
  | cons y ys ih =>
    cases i with
    | zero => simp at h; subst h; simp
    | succ i =>
      simp at h
      have := ih h
      rw [List.flatMap_cons, show 2 * (i + 1) = 2 * i + 1 + 1 by omega]
      simpa using this
set_option maxHeartbeats 4000000 in
theorem w_join {w : World} {L H q : Nat} {v : Value} {ss : List Sp} {vs : List (Value × Value)} {j g : Nat} (h : Jn w L H q v ss vs j g) (hH : H ≤ w.heap.size) (hq : q < w.heap.size) (yss : List (List Int)) (hlen : yss.length = ss.length) (hsm : ss.length ≤ 10) (hys : ∀ (i : Nat) (s : Sp) (ys : List Int), ss[i]? = some s → yss[i]? = some ys → Has w q s ys) (htot : yss.flatten.length ≤ 65536) :
    Calls Tryz.prog 68 #[.slice none 0 0, .pointer (some ⟨j, 0, none⟩)] w fun e w' => ∃ v', e = .returned v' ∧ Own w' w.heap.size v' yss.flatten ∧ Below w.heap.size w w' := by
  obtain ⟨N, hN⟩ : ∃ N, N = vs.length := ⟨_, rfl⟩
  have hc : w.cell? ⟨j, 0, none⟩ = some (.slice (some ⟨g, 0, none⟩) N N) := by rw [hN]; exact cell_of h.box 0
  have HL : Hid (N = ss.length ∧ yss.length = ss.length ∧ N = vs.length) := ⟨hN.trans h.len, hlen, hN⟩
  have hN10 : N ≤ 10 := by have := h.len; omega
  clear hN hlen
  go_enter Tryz.func68, Tryz.ntmps68
  go_wp2
  go_loopw [0, 8] (fun b i wr => ∃ (k : Nat), k ≤ N ∧ i = .int .i64 (k : Int) ∧ Hid (Own wr w.heap.size b (yss.take k).flatten) ∧ Below w.heap.size w wr) (fun _ i _ => N - (intOf i).toNat)
  case atStart => exact ⟨0, Nat.zero_le _, rfl, (show Own _ _ _ _ by simpa using own_nil w w.heap.size), Below.refl _ _⟩
  case round =>
    obtain ⟨k, hk, rfl, hO, hB⟩ := hrel
    by_cases hlt : k < N
    · obtain ⟨l1, l2, l3⟩ := HL.out
      obtain ⟨x, hx⟩ : ∃ x, vs[k]? = some x := ⟨_, List.getElem?_eq_getElem (by omega)⟩
      obtain ⟨s, hs⟩ : ∃ s, ss[k]? = some s := ⟨_, List.getElem?_eq_getElem (by omega)⟩
      obtain ⟨ys, hy⟩ : ∃ ys, yss[k]? = some ys := ⟨_, List.getElem?_eq_getElem (by omega)⟩
      have hrow : wr.heap[g]? = _ := (hB.block g (by have := h.g1; omega)).trans h.row
      have hcd : Cd wr L H q s x := (h.all k s x hs hx).below (Nat.le_refl _) (Nat.le_refl _) hB hH
      have hhas : Has wr q s ys := (hys k s ys hs hy).kept (hB.block q hq)
      have htk : (yss.take (k + 1)).flatten = (yss.take k).flatten ++ ys := by rw [List.take_add_one, hy]; simp
      have hll : (yss.take k).flatten.length ≤ 65536 := by
        have := congrArg List.length (congrArg List.flatten (List.take_append_drop k yss))
        rw [List.flatten_append, List.length_append] at this
        omega
      have c0 : wr.cell? ⟨g, k * 2, none⟩ = some x.1 := by rw [cell_of hrow, List.getElem?_toArray, Nat.mul_comm]; exact (row_at hx).1
      have c1 : wr.cell? ⟨g, k * 2 + 1, none⟩ = some x.2 := by rw [cell_of hrow, List.getElem?_toArray, Nat.mul_comm]; exact (row_at hx).2
      have hO' : ∀ o, Own (wr.alloc o) w.heap.size u0 (yss.take k).flatten := fun o => hO.out.below ((Below.refl _ wr).alloc (Nat.le_refl _) o) (Nat.le_refl _)
      have hq' : ∀ o, (wr.alloc o).heap[q]? = wr.heap[q]? := fun o => Below.heap_alloc _ _ _ (by have := hB.size; omega)
      have hsz : w.heap.size ≤ wr.heap.size := hB.size
      have hbox : ∀ (o : Obj) b, b < H → (wr.alloc o).heap[b]? = wr.heap[b]? := fun o b hb => Below.heap_alloc _ _ _ (by omega)
      have HB2 : Hid (∀ o w2, Below w.heap.size (wr.alloc o) w2 → Below w.heap.size w w2) := fun o w2 h => (hB.alloc (by omega) o).trans h
      have li : (k : Int) < (N : Int) := by omega
      have l0 : (0 : Int) ≤ (k : Int) := by omega
      clear hys hB hrow hx hs hy h HL l1 l2 l3
      cases s with
      | mk m =>
        obtain ⟨b, b1, b2, rfl, b4⟩ := hcd
        obtain rfl : ys = [m] := hhas
        have HC := fun o => w_mark b m w.heap.size u0 (yss.take k).flatten (wr.alloc o) (by simp; omega) hll (hO' o) ((hbox o b b2).trans b4)
        clear hO hO' hbox b4 hq'
        simp only [ptr] at c0 c1
        go_wp2_with (go_at_call 70; refine (HC _).mono ?_; rintro e w2 ⟨v2, rfl, k1, k2⟩)
        go_roundw
        case rel => exact ⟨k + 1, by omega, by go_num, (show Own _ _ _ _ by rw [htk]; exact k1), HB2.out _ _ k2⟩
        case measure => simp [intOf]; omega
      | nm o =>
        obtain ⟨b, b1, b2, rfl, b4⟩ := hcd
        obtain ⟨z, z1, z2, rfl⟩ := hhas
        have HC := fun o' => w_num b q o z w.heap.size u0 (yss.take k).flatten (wr.alloc o') (by simp; omega) hll (hO' o') ((hbox o' b b2).trans b4) ((World.cell?_of_block (w := wr) (hq' o')).trans z1) z2
        clear hO hO' hbox b4 hq'
        simp only [ptr] at c0 c1
        go_wp2_with (go_at_call 73; refine (HC _).mono ?_; rintro e w2 ⟨v2, rfl, k1, k2⟩)
        go_roundw
        case rel => exact ⟨k + 1, by omega, by go_num, (show Own _ _ _ _ by rw [htk]; exact k1), HB2.out _ _ k2⟩
        case measure => simp [intOf]; omega
      | tx o m =>
        obtain ⟨b, c, b1, b2, b5, b6, rfl, b4, b7⟩ := hcd
        obtain ⟨z, z1, z2, rfl⟩ := hhas
        have HC := fun o' => w_text b q o z w.heap.size u0 (yss.take k).flatten (wr.alloc o') (by simp; omega) hll (hO' o') ((hbox o' b b2).trans b4) ((World.cell?_of_block (w := wr) (hq' o')).trans z1) z2
        clear hO hO' hbox b4 hq' b7
        simp only [ptr] at c0 c1
        go_wp2_with (go_at_call 76; refine (HC _).mono ?_; rintro e w2 ⟨v2, rfl, k1, k2⟩)
        go_roundw
        case rel => exact ⟨k + 1, by omega, by go_num, (show Own _ _ _ _ by rw [htk]; exact k1), HB2.out _ _ k2⟩
        case measure => simp [intOf]; omega
    · obtain rfl : k = N := by omega
      have HO : Hid (Own wr w.heap.size u0 yss.flatten) := by
        have e : yss.take k = yss := List.take_of_length_le (by have := HL.out; omega)
        rw [e] at hO
        exact hO
      clear h hys hO
      go_wp2
      go_ret
      exact ⟨_, rfl, HO.out, hB⟩
end Go.Proofs.YtdcclfnbpckioaaGreatDoor
