/-
  The document's Once over entries that are handed in. No condition but that there are no more than a slice may have.
-/
import Derived.Test.YtoddldabmoccaaaOnA
namespace Go.Proofs.Ytoddldabmoccaaa
open Go.RowKit Go.Maps
set_option linter.unusedVariables false
set_option maxRecDepth 100000
set_option maxHeartbeats 2000000

def boxE (x : Ent) : Obj := .cells #[.int .i64 x.kd, .string x.id, .string x.rid, .int .i64 x.st, .int .i64 x.ss, .int .i64 x.wy, .string x.tx] 30
theorem box_at {w w' : World} {x : Ent} (hb : Below (w.alloc (boxE x)).heap.size (w.alloc (boxE x)) w') : EnA w' w.heap.size 0 x ∨ maxLen < x.id.size := by
  by_cases hs : x.id.size ≤ maxLen
  · have hn := heap_alloc_at w (boxE x) _ rfl
    have h1 : w'.heap[w.heap.size]? = some (boxE x) := (hb.block _ (Array.getElem?_eq_some_iff.1 hn).1).trans hn
    have k := fun i => cells_at (w := w') h1 i
    exact .inl ⟨k 0, k 1, k 2, k 3, k 4, k 5, k 6, hs⟩
  · exact .inr (by omega)
theorem same_iff (x y : Ent) : Same x y ↔ y.kd = 1 ∧ y.id.toList = x.id.toList := by
  unfold Same
  rw [ByteArray.toList_eq, ByteArray.toList_eq]
/-- How far the inner loop is. -/
def Fd (E : Nat → Ent) (x : Ent) (k : Nat) (fd : Bool) : Prop := (fd = true ↔ ∃ j, j < k ∧ Same x (E j) ∧ SameR x (E j)) ∧ (x.kd = 1 → ∀ j, j < k → ¬ Same x (E j))
theorem Fd.zero (E : Nat → Ent) (x : Ent) : Fd E x 0 false := ⟨⟨fun h => (by cases h), fun ⟨j, h, _⟩ => (by omega)⟩, fun _ j h => (by omega)⟩
theorem Fd.next {E : Nat → Ent} {x : Ent} {k : Nat} {fd : Bool} (h : Fd E x k fd) (fd' : Bool) (h1 : fd' = true ↔ (fd = true ∨ (Same x (E k) ∧ SameR x (E k)))) (h2 : x.kd = 1 → ¬ Same x (E k)) : Fd E x (k + 1) fd' := by
  refine ⟨?_, fun e j hj => ?_⟩
  · rw [h1, h.1]
    constructor
    · rintro (⟨j, hj, r⟩ | r)
      · exact ⟨j, by omega, r⟩
      · exact ⟨k, by omega, r⟩
    · rintro ⟨j, hj, r⟩
      by_cases e : j = k
      · rw [e] at r; exact .inr r
      · exact .inl ⟨j, by omega, r⟩
  · by_cases e1 : j = k
    · rw [e1]; exact h2 e
    · exact h.2 e j (by omega)
theorem nx {E : Nat → Ent} {x : Ent} {k : Nat} {W1 wr : World} {P : Bool → Prop} {Q : Prop} (h : ∀ fd' : Bool, P fd' → Q → Fd E x (k + 1) fd' ∧ ∀ o, Below W1.heap.size W1 (wr.alloc o)) (fd' : Bool) (o : Obj) (p : P fd') (q : Q) : Hid (Fd E x (k + 1) fd' ∧ Below W1.heap.size W1 (wr.alloc o)) := ⟨(h fd' p q).1, (h fd' p q).2 o⟩
theorem r_once {w : World} {a0 : Option Addr} {n c : Nat} {E : Nat → Ent} (hE : Ens w a0 n E) (hn : n ≤ 1759218604441) (hc : n ≤ c) :
    Calls Try.prog 5 #[.slice a0 n c] w fun e w' => e = .returned (.int .i64 (res E n)) ∧ Below w.heap.size w w' := by
  have h0 : Hid ((∀ j, j < 0 → ¬ Bad E j) ∧ Below w.heap.size w w) := ⟨fun j hj => by omega, Below.refl _ _⟩
  go_enter Try.func5, Try.ntmps5
  go_wp2
  go_loopw [10] (fun s wr => ∃ i : Nat, i ≤ n ∧ s = .int .i64 (i : Int) ∧ Hid ((∀ j, j < i → ¬ Bad E j) ∧ Below w.heap.size w wr)) (fun s _ => n - (intOf s).toNat)
  case atStart => exact ⟨0, Nat.zero_le _, rfl, h0⟩
  case round =>
    obtain ⟨i, hi, rfl, HJ⟩ := hrel
    obtain ⟨hnb, hB⟩ := HJ.out
    clear h0
    by_cases hlt : i < n
    · have l1 : (i : Int) < (n : Int) := by omega
      have l2 : (0 : Int) ≤ (i : Int) := by omega
      have l3 : (i : Int) ≤ (c : Int) := by omega
      obtain ⟨b, off, rfl, hx⟩ := (hE.below hB) i hlt
      obtain ⟨c0, c1, c2, c3, c4, c5, c6, s1⟩ := hx
      obtain ⟨x, hxe⟩ : ∃ x, E i = x := ⟨_, rfl⟩
      rw [hxe] at c0 c1 c2 c3 c4 c5 c6 s1
      obtain ⟨W1, hW1⟩ : ∃ W1, W1 = wr.alloc (boxE x) := ⟨_, rfl⟩
      have hb1 : Below wr.heap.size wr W1 := by rw [hW1]; exact (Below.refl _ wr).alloc (Nat.le_refl _) _
      have hB1 : Below w.heap.size w W1 := hB.trans (hb1.mono hB.size)
      have HB : Hid (Below w.heap.size w W1) := hB1
      have HW : Hid (W1 = wr.alloc (boxE x)) := hW1
      have hE1 : Hid (Ens W1 _ n E) := hE.below hB1
      have hW2 := hW1
      unfold boxE at hW2
      clear hW1 hb1 hB1 hB HJ hE
      have HX : Hid (∀ w', Below W1.heap.size W1 w' → EnA w' wr.heap.size 0 x) := fun w' hb => by
        rw [HW.out] at hb
        exact (box_at hb).resolve_right (by omega)
      have HS : Hid (Fd E x 0 false ∧ Below W1.heap.size W1 W1) := ⟨Fd.zero E x, Below.refl _ _⟩
      go_wp2
      rw [← hW2]
      clear hW2 HW
      generalize wr.heap.size = B0 at *
      go_loopw [5, 19] (fun s5 s19 w2 => ∃ (k : Nat) (fd : Bool), k ≤ i ∧ s19 = .int .i64 (k : Int) ∧ s5 = .bool fd ∧ Hid (Fd E x k fd ∧ Below W1.heap.size W1 w2)) (fun _ s _ => i - (intOf s).toNat)
      case atStart => exact ⟨0, false, Nat.zero_le _, rfl, rfl, HS⟩
      case round =>
        clear HS c0 c1 c2 c3 c4 c5 c6
        obtain ⟨k, fd, hk, rfl, rfl, HK⟩ := hrel
        obtain ⟨hF, hb2⟩ := HK.out
        have hBr : Below w.heap.size w wr := HB.out.trans (hb2.mono HB.out.size)
        clear HK
        by_cases hlk : k < i
        · have l4 : (k : Int) < (i : Int) := by omega
          have l5 : (0 : Int) ≤ (k : Int) := by omega
          obtain ⟨b', off', e0, hy⟩ := (hE1.out.below hb2) k (by omega)
          cases e0
          obtain ⟨c0, c1, c2, c3, c4, c5, c6, s2⟩ := hy
          obtain ⟨y, hye⟩ : ∃ y, E k = y := ⟨_, rfl⟩
          rw [hye] at c0 c1 c2 c3 c4 c5 c6 s2
          have hb3 : Below wr.heap.size wr (wr.alloc (boxE y)) := (Below.refl _ wr).alloc (Nat.le_refl _) _
          have hb4 : Below W1.heap.size W1 (wr.alloc (boxE y)) := hb2.trans (hb3.mono hb2.size)
          have hX := HX.out _ hb4
          unfold boxE at hX
          have d0 := hX.c0
          have d1 : _ = some (Value.string x.id) := hX.c1
          have d2 : _ = some (Value.string x.rid) := hX.c2
          have d3 : _ = some (Value.int .i64 x.st) := hX.c3
          have d4 : _ = some (Value.int .i64 x.ss) := hX.c4
          have d5 : _ = some (Value.int .i64 x.wy) := hX.c5
          have d6 : _ = some (Value.string x.tx) := hX.c6
          simp only [Nat.zero_add] at d1 d2 d3 d4 d5 d6
          have HR : Hid (x.kd = 1 → Same x y → res E n = 240 ∧ Below w.heap.size w (wr.alloc (boxE y))) := fun q1 q2 =>
            ⟨res_bad hlt (.inl ⟨by rw [hxe]; exact q1, k, hlk, by rw [hxe, hye]; exact q2⟩), hBr.alloc hBr.size _⟩
          have HN : Hid (∀ fd' : Bool, (fd' = true ↔ (fd = true ∨ (Same x y ∧ SameR x y))) → (x.kd = 1 → ¬ Same x y) → Fd E x (k + 1) fd' ∧ ∀ o, Below W1.heap.size W1 (wr.alloc o)) := fun fd' q1 q2 =>
            ⟨hF.next fd' (by rw [hye]; exact q1) (by rw [hye]; exact q2), fun o => hb2.alloc hb2.size o⟩
          unfold boxE at HR
          clear hb3 hb4 hX hb2 hF hBr hE1 HX HB hnb
          by_cases ky : y.kd = 1
          · rw [ky] at c0 d0 d1 d2 d3 d4 d5 d6 HR
            by_cases kid : y.id.toList = x.id.toList
            · have hq : (y.id.toList == x.id.toList) = true := by simpa using kid
              have hsm : Hid (Same x y) := (same_iff x y).2 ⟨ky, kid⟩
              by_cases kx : x.kd = 1
              · rw [kx] at d0
                have hk1 : Hid (x.kd = 1) := kx
                cases fd
                all_goals
                  go_wp2
                  go_ret
                  obtain ⟨h1, h2⟩ := HR.out hk1.out hsm.out
                  exact ⟨by rw [h1]; rfl, h2⟩
              · have hk1 : Hid (¬ x.kd = 1) := kx
                cases fd
                · go_wp2
                  all_goals
                    go_roundw
                    case rel => first
                       | exact ⟨k + 1, true, by omega, by go_num, rfl, nx HN.out _ _ ⟨fun _ => .inr ⟨hsm.out, by assumption, by assumption, by assumption, by assumption, by assumption⟩, fun _ => rfl⟩ (fun q1 h1 => hk1.out q1)⟩
                       | exact ⟨k + 1, false, by omega, by go_num, rfl, nx HN.out _ _ ⟨fun h => (by cases h), fun h => (by
                           rcases h with h | ⟨h1, h2⟩
                           · cases h
                           · obtain ⟨q1, q2, q3, q4, q5⟩ := h2
                             contradiction)⟩ (fun q1 h1 => hk1.out q1)⟩
                    case measure => simp [intOf]; omega
                · go_wp2
                  go_roundw
                  case rel => exact ⟨k + 1, true, by omega, by go_num, rfl, nx HN.out _ _ ⟨fun _ => .inl rfl, fun _ => rfl⟩ (fun q1 h1 => hk1.out q1)⟩
                  case measure => simp [intOf]; omega
            · have hq : (y.id.toList == x.id.toList) = false := by simpa using kid
              have hns : Hid (¬ Same x y) := fun h => kid ((same_iff x y).1 h).2
              cases fd
              all_goals
                go_wp2
                go_roundw
                case rel => exact ⟨k + 1, _, by omega, by go_num, rfl, nx HN.out _ _ ⟨fun h => .inl h, fun h => h.elim id (fun h => absurd h.1 hns.out)⟩ (fun q1 => hns.out)⟩
                case measure => simp [intOf]; omega
          · have hns : Hid (¬ Same x y) := fun h => ky h.1
            cases fd
            all_goals
              go_wp2
              go_roundw
              case rel => exact ⟨k + 1, _, by omega, by go_num, rfl, nx HN.out _ _ ⟨fun h => .inl h, fun h => h.elim id (fun h => absurd h.1 hns.out)⟩ (fun q1 => hns.out)⟩
              case measure => simp [intOf]; omega
        · obtain rfl : k = i := by omega
          have hX := HX.out _ hb2
          have d0 := hX.c0
          have d5 : _ = some (Value.int .i64 x.wy) := hX.c5
          simp only [Nat.zero_add] at d5
          have HR : Hid (x.kd = 2 → fd = false → x.wy ≠ 4 → res E n = 240 ∧ Below w.heap.size w wr) := fun q1 q2 q3 =>
            ⟨res_bad hlt (.inr ⟨by rw [hxe]; exact q1, (by rw [hxe]; intro h; have := hF.1.2 h; rw [q2] at this; cases this), by rw [hxe]; exact q3⟩), hBr⟩
          have HN : Hid ((x.kd = 2 → fd = false → x.wy = 4) → (∀ j, j < k + 1 → ¬ Bad E j) ∧ Below w.heap.size w wr) := fun q => ⟨fun j hj => by
            by_cases e : j = k
            · rw [e]
              rintro (⟨p1, j', hj', p2⟩ | ⟨p1, p2, p3⟩)
              · rw [hxe] at p1 p2; exact hF.2 p1 j' hj' p2
              · rw [hxe] at p1 p2 p3
                refine p3 (q p1 ?_)
                cases fd
                · rfl
                · exact absurd (hF.1.1 rfl) p2
            · exact hnb j (by omega), hBr⟩
          clear hX hb2 hF hBr hE1 HX HB hnb
          cases fd
          · go_wp2
            all_goals first
              | (go_ret
                 obtain ⟨h1, h2⟩ := HR.out (by assumption) (by trivial) (by simpa using ‹(x.wy != 4) = true›)
                 exact ⟨by rw [h1]; rfl, h2⟩)
              | (go_roundw
                 case rel => exact ⟨k + 1, by omega, by go_num, HN.out (fun q1 _ => by first | contradiction | simpa using ‹(x.wy != 4) = false›)⟩
                 case measure => simp [intOf]; omega)
              | (trace_state; sorry)
          · go_wp2
            all_goals first
              | (go_roundw
                 case rel => exact ⟨k + 1, by omega, by go_num, HN.out (fun _ q2 => by cases q2)⟩
                 case measure => simp [intOf]; omega)
              | (trace_state; sorry)
    · obtain rfl : i = n := by omega
      have HE : Hid (res E i = 0 ∧ Below w.heap.size w wr) := ⟨res_none hnb, hB⟩
      clear hnb hB HJ hE
      go_wp2
      go_ret
      exact ⟨by rw [HE.out.1]; rfl, HE.out.2⟩
end Go.Proofs.Ytoddldabmoccaaa
