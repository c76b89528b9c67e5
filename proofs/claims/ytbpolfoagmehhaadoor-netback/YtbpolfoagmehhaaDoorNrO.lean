/-
  NetReplies: the law's walk. Made by tools/mkrep.py. Condition: the table is laid; the bytes are at most 2^47.
-/
import Derived.Test.YtbpolfoagmehhaaDoorNrL
namespace Go.Proofs.YtbpolfoagmehhaaDoor
open Go.RowKit
set_option linter.unusedVariables false

set_option maxHeartbeats 4000000 in
theorem replies_walk (id : ByteArray) (st se wy : Int) (t : ByteArray) (a0 : Option Addr) (n c : Nat) (f : Nat → Int) (w : World) (hbig : n ≤ 140737488355328) (hby : ∀ i, 0 ≤ f i ∧ f i ≤ 255) (hf : From w a0 n f) (hnc : n ≤ c) (hc : c ≤ 9223372036854775807) (ht : Tab w) :
    Calls Tryd.prog 4 #[.agg #[.string id, .int .i64 st, .int .i64 se, .int .i64 wy, .string t], .slice a0 n c] w fun e w' => e = .returned (.bool true) ∧ Below w.heap.size w w' := by
  obtain ⟨W, hW⟩ : ∃ W, W = w.alloc (.cells #[.string id, .int .i64 st, .int .i64 se, .int .i64 wy, .string t] 34) := ⟨_, rfl⟩
  have hb0 : Below w.heap.size w W := by rw [hW]; exact (Below.refl _ w).alloc (Nat.le_refl _) _
  have hsz : w.heap.size < W.heap.size := by rw [hW]; simp
  have hq0 : W.heap[w.heap.size]? = some (.cells #[.string id, .int .i64 st, .int .i64 se, .int .i64 wy, .string t] 34 (0, 0)) := by rw [hW]; exact heap_new _ _ _ rfl
  have HC : Hid (∀ wq, Below W.heap.size W wq → wq.cell? ⟨w.heap.size, 0, none⟩ = some (.string id) ∧ wq.cell? ⟨w.heap.size, 1, none⟩ = some (.int .i64 st) ∧ wq.cell? ⟨w.heap.size, 2, none⟩ = some (.int .i64 se) ∧ wq.cell? ⟨w.heap.size, 3, none⟩ = some (.int .i64 wy) ∧ wq.cell? ⟨w.heap.size, 4, none⟩ = some (.string t)) := fun wq hq => by
    have e : wq.heap[w.heap.size]? = _ := (hq.block _ hsz).trans hq0
    exact ⟨cell_of e 0, cell_of e 1, cell_of e 2, cell_of e 3, cell_of e 4⟩
  have H1 : Hid (Calls Tryd.prog 13 #[.agg #[.string id, .int .i64 st, .int .i64 se, .int .i64 wy, .string t]] W fun e w' => ∃ v', e = .returned (.tuple #[v', .int .i64 (repE id st se wy t)]) ∧ Own w' W.heap.size v' (repB id st se wy t) ∧ Below W.heap.size W w') := n_rep id st se wy t W (ht.below hb0 (Nat.le_refl _))
  have H2 : Hid (∀ w1, Below W.heap.size W w1 → Calls Tryd.prog 14 #[.agg #[.string id, .int .i64 st, .int .i64 se, .int .i64 wy, .string t]] w1 fun e w' => ∃ v', e = .returned (.tuple #[v', .int .i64 (repE id st se wy t)]) ∧ Own w' w1.heap.size v' (repB id st se wy t) ∧ Below w1.heap.size w1 w') := fun w1 h1 => x_rep id st se wy t w1
  have H3 : Hid (∀ w2, Below W.heap.size W w2 → Calls Tryd.prog 15 #[.slice a0 n c] w2 fun e w' => e = .returned (tellR (resR f n)) ∧ Below w2.heap.size w2 w') := fun w2 h2 => n_readRep a0 n c f w2 hbig hby (hf.below (hb0.trans (h2.mono hb0.size)) (Nat.le_refl _)) hnc hc (ht.below (hb0.trans (h2.mono hb0.size)) (Nat.le_refl _))
  have H4 : Hid (∀ w2, Below W.heap.size W w2 → Calls Tryd.prog 16 #[.slice a0 n c] w2 fun e w' => e = .returned (tellR (resR f n)) ∧ Below w2.heap.size w2 w') := fun w2 h2 => x_readRep a0 n c f w2 hbig hby (hf.below (hb0.trans (h2.mono hb0.size)) (Nat.le_refl _)) hnc hc
  have HB : Hid (∀ wa wb, Below W.heap.size W wa → Below wa.heap.size wa wb → Below W.heap.size W wb) := fun wa wb h1 h2 => h1.trans (h2.mono h1.size)
  have HA : Hid (∀ wa o, Below W.heap.size W wa → Below W.heap.size W (wa.alloc o)) := fun wa o h1 => h1.alloc h1.size _
  have HZ : Hid (∀ wa, Below W.heap.size W wa → Below w.heap.size w wa) := fun wa h => hb0.trans (h.mono hb0.size)
  generalize repE id st se wy t = E at *
  generalize repB id st se wy t = L at *
  generalize resR f n = r at *
  obtain ⟨r1, r2, r3, r4, r6, r5⟩ := r
  clear hf ht hby hq0
  go_enter Tryd.func4, Tryd.ntmps4
  go_wp2_with (first
    | (go_at_call 16; refine (H4.out _ k3a).mono ?_; rintro e w4 ⟨rfl, b4⟩; have k4 := HB.out _ w4 k3a b4; have k4a := HA.out w4 (.cells #[.string r1, .int .i64 r2, .int .i64 r3, .int .i64 r4, .string r6] 34) k4)
    | (go_at_call 15; refine (H3.out w2 k2).mono ?_; rintro e w3 ⟨rfl, b3⟩; have k3 := HB.out w2 w3 k2 b3; have k3a := HA.out w3 (.cells #[.string r1, .int .i64 r2, .int .i64 r3, .int .i64 r4, .string r6] 34) k3)
    | (go_at_call 14; refine (H2.out w1 k1).mono ?_; rintro e w2 ⟨v2, rfl, o2, b2⟩; have k2 := HB.out w1 w2 k1 b2)
    | (go_at_call 13; (try rw [← hW]); refine H1.out.mono ?_; rintro e w1 ⟨v1, rfl, o1, k1⟩; obtain ⟨c10, c11, c12, c13, c14⟩ := HC.out w1 k1))
  obtain ⟨W5, hW5⟩ : ∃ W5, W5 = w4.alloc (.cells #[.string r1, .int .i64 r2, .int .i64 r3, .int .i64 r4, .string r6] 34) := ⟨_, rfl⟩
  rw [← hW5] at k4a ⊢
  have hb45 : Below w4.heap.size w4 W5 := by rw [hW5]; exact (Below.refl _ w4).alloc (Nat.le_refl _) _
  have h11 : W5.heap[w4.heap.size]? = some (.cells #[.string r1, .int .i64 r2, .int .i64 r3, .int .i64 r4, .string r6] 34 (0, 0)) := by rw [hW5]; exact heap_new _ _ _ rfl
  have h9 : W5.heap[w3.heap.size]? = some (.cells #[.string r1, .int .i64 r2, .int .i64 r3, .int .i64 r4, .string r6] 34 (0, 0)) := by
    have e3 := heap_new w3 (.cells #[.string r1, .int .i64 r2, .int .i64 r3, .int .i64 r4, .string r6] 34) _ rfl
    have e4 : w4.heap[w3.heap.size]? = _ := (b4.block _ (by simp)).trans e3
    exact (hb45.block _ (Array.getElem?_eq_some_iff.1 e4).1).trans e4
  have o15 : Own W5 W.heap.size v1 L := (((o1.below b2 (Nat.le_refl _)).below b3 (Nat.le_refl _)).below ((Below.refl _ w3).alloc (Nat.le_refl _) _) (Nat.le_refl _) |>.below b4 (Nat.le_refl _)).below hb45 (Nat.le_refl _)
  have o25 : Own W5 w1.heap.size v2 L := ((o2.below b3 (Nat.le_refl _)).below ((Below.refl _ w3).alloc (Nat.le_refl _) _) (Nat.le_refl _) |>.below b4 (Nat.le_refl _)).below hb45 (Nat.le_refl _)
  have HS : Hid (∀ wq, Below W5.heap.size W5 wq → (fun wq => wq.cell? ⟨w.heap.size, 0, none⟩ = some (.string id) ∧ wq.cell? ⟨w3.heap.size, 0, none⟩ = some (.string r1) ∧ wq.cell? ⟨w3.heap.size, 1, none⟩ = some (.int .i64 r2) ∧ wq.cell? ⟨w3.heap.size, 2, none⟩ = some (.int .i64 r3) ∧ wq.cell? ⟨w3.heap.size, 3, none⟩ = some (.int .i64 r4) ∧ wq.cell? ⟨w3.heap.size, 4, none⟩ = some (.string r6) ∧ wq.cell? ⟨w4.heap.size, 0, none⟩ = some (.string r1) ∧ wq.cell? ⟨w4.heap.size, 1, none⟩ = some (.int .i64 r2) ∧ wq.cell? ⟨w4.heap.size, 2, none⟩ = some (.int .i64 r3) ∧ wq.cell? ⟨w4.heap.size, 3, none⟩ = some (.int .i64 r4) ∧ wq.cell? ⟨w4.heap.size, 4, none⟩ = some (.string r6)) wq) := fun wq hq => by
    have e9 := (hq.block _ (Array.getElem?_eq_some_iff.1 h9).1).trans h9
    have e11 := (hq.block _ (Array.getElem?_eq_some_iff.1 h11).1).trans h11
    exact ⟨(HC.out wq (k4a.trans (hq.mono k4a.size))).1, cell_of e9 0, cell_of e9 1, cell_of e9 2, cell_of e9 3, cell_of e9 4, cell_of e11 0, cell_of e11 1, cell_of e11 2, cell_of e11 3, cell_of e11 4⟩
  have HEQ : Hid (∀ wq, Below W5.heap.size W5 wq → Calls Tryd.prog 10 #[v1, v2] wq fun e w' => e = .returned (.bool true) ∧ w' = wq) := fun wq hq => equal_own (o15.below hq (Nat.le_refl _)) (o25.below hq (Nat.le_refl _))
  have hd : Below W5.heap.size W5 W5 := Below.refl _ W5
  obtain ⟨g1, g2, g3, g4, g5, g6, g7, g8, g9, g10, g11⟩ := HS.out _ hd
  have HF : Hid (∀ wq, Below W5.heap.size W5 wq → Below w.heap.size w wq) := fun wq hq => HZ.out wq (k4a.trans (hq.mono k4a.size))
  clear hW hW5 h11 h9 o15 o25 o1 o2 b2 b3 b4 hb45 H1 H2 H3 H4 HC c10 c11 c12 c13 c14 HA HB HZ k1 k2 k3 k3a k4 k4a
  go_wp2_with (go_at_call 10; refine (HEQ.out W5 hd).mono ?_; rintro e w5 ⟨rfl, hw5⟩; rw [hw5]; clear hw5)
  go_ret
  exact ⟨rfl, HF.out _ (Below.refl _ _)⟩
end Go.Proofs.YtbpolfoagmehhaaDoor
