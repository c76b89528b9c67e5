/-
  A reply as a message: the document's Reply. Made by tools/mkrep.py.
-/
import Derived.Test.YtdcclfnbpckioaaGreatDoorNrE
namespace Go.Proofs.YtdcclfnbpckioaaGreatDoor
open Go.RowKit
set_option linter.unusedVariables false

set_option maxHeartbeats 2000000 in
theorem x_rep (id : ByteArray) (st se wy : Int) (t : ByteArray) (w : World) :
    Calls Tryz.prog 29 #[.agg #[.string id, .int .i64 st, .int .i64 se, .int .i64 wy, .string t]] w fun e w' => ∃ v', e = .returned (.tuple #[v', .int .i64 (repE id st se wy t)]) ∧ Own w' w.heap.size v' (repB id st se wy t) ∧ Below w.heap.size w w' := by
  obtain ⟨W, hW⟩ : ∃ W, W = w.alloc (.cells #[.string id, .int .i64 st, .int .i64 se, .int .i64 wy, .string t] 24) := ⟨_, rfl⟩
  have hb0 : Below w.heap.size w W := by rw [hW]; exact (Below.refl _ w).alloc (Nat.le_refl _) _
  have hsz : w.heap.size < W.heap.size := by rw [hW]; simp
  have hq0 : W.heap[w.heap.size]? = some (.cells #[.string id, .int .i64 st, .int .i64 se, .int .i64 wy, .string t] 24 (0, 0)) := by rw [hW]; exact heap_new _ _ _ rfl
  have HM := x_mayR id st se wy t W
  cases hm : mayR id st se wy t with
  | false =>
    rw [hm] at HM
    rw [show repE id st se wy t = 1 by simp [repE, hm], show repB id st se wy t = [] by simp [repB, hm]]
    clear hm hq0
    go_enter Tryz.func29, Tryz.ntmps29
    go_wp2_with (go_at_call 45; (try rw [← hW]); refine HM.mono ?_; rintro e w2 ⟨rfl, hb⟩)
    go_ret2
    exact ⟨_, rfl, own_nil _ _, hb0.trans (hb.mono hb0.size)⟩
  | true =>
    rw [hm] at HM
    rw [show repE id st se wy t = 0 by simp [repE, hm], show repB id st se wy t = msg 2 (repIs id st se wy t) by simp [repB, hm]]
    have hlen := rep_len hm
    have hby := rep_by hm
    have hkk : st ≤ 9223372036854775807 ∧ se ≤ 9223372036854775807 ∧ wy ≤ 9223372036854775807 ∧ id.size ≤ 65536 ∧ t.size ≤ 65536 := by simp [mayR, isIdB] at hm; omega
    have HC : Hid (∀ wq, Below W.heap.size W wq → wq.cell? ⟨w.heap.size, 0, none⟩ = some (.string id) ∧ wq.cell? ⟨w.heap.size, 1, none⟩ = some (.int .i64 st) ∧ wq.cell? ⟨w.heap.size, 2, none⟩ = some (.int .i64 se) ∧ wq.cell? ⟨w.heap.size, 3, none⟩ = some (.int .i64 wy) ∧ wq.cell? ⟨w.heap.size, 4, none⟩ = some (.string t)) := fun wq hq => by
      have e : wq.heap[w.heap.size]? = _ := (hq.block _ hsz).trans hq0
      exact ⟨cell_of e 0, cell_of e 1, cell_of e 2, cell_of e 3, cell_of e 4⟩
    have hl := hlen
    simp only [load, repIs, bytesAll, It.bytes, List.flatMap_cons, List.flatMap_nil, List.append_nil, List.length_cons, List.length_append] at hl
    have P1 : Hid (∀ wq, Below W.heap.size W wq → Calls Tryz.prog 26 #[.slice (some ⟨wq.heap.size, 0, none⟩) 1 1, .int .i64 st] (wq.alloc (.cells #[.int .u8 2] 5)).drew fun e w' => ∃ v', e = .returned v' ∧ Own w' W.heap.size v' ([2] ++ putB st.toNat) ∧ Below W.heap.size W w') := fun wq hq => x_put (w := (wq.alloc (.cells #[.int .u8 2] 5)).drew) st hkk.1 (own_one wq _ hq.size 2) (blw_drewN 1 (hq.alloc hq.size _)) (by simp)
    have P2 : Hid (∀ wq v, Below W.heap.size W wq → Own wq W.heap.size v ([2] ++ putB st.toNat) → Calls Tryz.prog 26 #[v, .int .i64 se] wq fun e w' => ∃ v', e = .returned v' ∧ Own w' W.heap.size v' ([2] ++ putB st.toNat ++ putB se.toNat) ∧ Below W.heap.size W w') := fun wq v hq ho => x_put se hkk.2.1 ho hq (by simp; omega)
    have P2b : Hid (∀ wq v, Below W.heap.size W wq → Own wq W.heap.size v ([2] ++ putB st.toNat ++ putB se.toNat) → Calls Tryz.prog 26 #[v, .int .i64 wy] wq fun e w' => ∃ v', e = .returned v' ∧ Own w' W.heap.size v' ([2] ++ putB st.toNat ++ putB se.toNat ++ putB wy.toNat) ∧ Below W.heap.size W w') := fun wq v hq ho => x_put wy hkk.2.2.1 ho hq (by simp; omega)
    have P3 : Hid (∀ wq v, Below W.heap.size W wq → Own wq W.heap.size v ([2] ++ putB st.toNat ++ putB se.toNat ++ putB wy.toNat) → Calls Tryz.prog 47 #[v, .string id] wq fun e w' => ∃ v', e = .returned v' ∧ Own w' W.heap.size v' ([2] ++ putB st.toNat ++ putB se.toNat ++ putB wy.toNat ++ (putB id.size ++ strL id)) ∧ Below W.heap.size W w') := fun wq v hq ho => x_text id hkk.2.2.2.1 ho hq (by simp; omega)
    have P4 : Hid (∀ wq v, Below W.heap.size W wq → Own wq W.heap.size v ([2] ++ putB st.toNat ++ putB se.toNat ++ putB wy.toNat ++ (putB id.size ++ strL id)) → Calls Tryz.prog 47 #[v, .string t] wq fun e w' => ∃ v', e = .returned v' ∧ Own w' W.heap.size v' (load 2 (repIs id st se wy t)) ∧ Below W.heap.size W w') := fun wq v hq ho => by
      refine (x_text t hkk.2.2.2.2 ho hq (by simp; omega)).mono ?_
      rintro e w' ⟨v', rfl, k1, k2⟩
      refine ⟨v', rfl, ?_, k2⟩
      rw [← repYs_flat]
      have e : ([2] ++ putB st.toNat ++ putB se.toNat ++ putB wy.toNat ++ (putB id.size ++ strL id) ++ (putB t.size ++ strL t)) = (repYs id st se wy t).flatten := by simp [repYs]
      rw [← e]
      exact k1
    have P5 : Hid (∀ wq v, Below W.heap.size W wq → Own wq W.heap.size v (load 2 (repIs id st se wy t)) → Calls Tryz.prog 46 #[v] wq fun e w' => ∃ v', e = .returned (.tuple #[v', .int .i64 0]) ∧ Own w' W.heap.size v' (msg 2 (repIs id st se wy t)) ∧ Below W.heap.size W w') := fun wq v hq ho => x_frame ho hq hlen hby
    have HD : Hid (∀ wq, Below W.heap.size W wq → Below W.heap.size W wq.drew) := fun wq hq => blw_drewN 1 hq
    have HA : Hid (∀ wq o, Below W.heap.size W wq → Below W.heap.size W (wq.alloc o)) := fun wq o hq => hq.alloc hq.size _
    clear hm hlen hby hkk hq0 hl
    generalize msg 2 (repIs id st se wy t) = M at *
    generalize load 2 (repIs id st se wy t) = D at *
    go_enter Tryz.func29, Tryz.ntmps29
    go_wp2_with (go_at_call 45; (try rw [← hW]); refine HM.mono ?_; rintro e w2 ⟨rfl, hb⟩)
    clear HM hW
    have hb2 := HD.out w2 hb
    go_region_held2 (fun wq => wq.cell? ⟨w.heap.size, 0, none⟩ = some (.string id) ∧ wq.cell? ⟨w.heap.size, 1, none⟩ = some (.int .i64 st) ∧ wq.cell? ⟨w.heap.size, 2, none⟩ = some (.int .i64 se) ∧ wq.cell? ⟨w.heap.size, 3, none⟩ = some (.int .i64 wy) ∧ wq.cell? ⟨w.heap.size, 4, none⟩ = some (.string t)) (first | exact HC.out _ (by assumption) | exact HC.out _ (HD.out _ (HA.out _ _ hb))) (first | (go_at_call 26; refine (P2b.out w4' v4' b4' o4').mono ?_; rintro e w4 ⟨v4, rfl, o4, b4⟩) | (go_at_call 26; refine (P2.out w3 v3 b3 o3).mono ?_; rintro e w4' ⟨v4', rfl, o4', b4'⟩) | (go_at_call 26; refine (P1.out w2 hb).mono ?_; rintro e w3 ⟨v3, rfl, o3, b3⟩))
    go_wp2
    have hb4 := HD.out w4 b4
    have o4'' : Own w4.drew W.heap.size v4 ([2] ++ putB st.toNat ++ putB se.toNat ++ putB wy.toNat) := o4
    go_region_held2 (fun wq => wq.cell? ⟨w.heap.size, 0, none⟩ = some (.string id) ∧ wq.cell? ⟨w.heap.size, 1, none⟩ = some (.int .i64 st) ∧ wq.cell? ⟨w.heap.size, 2, none⟩ = some (.int .i64 se) ∧ wq.cell? ⟨w.heap.size, 3, none⟩ = some (.int .i64 wy) ∧ wq.cell? ⟨w.heap.size, 4, none⟩ = some (.string t)) (first | exact HC.out _ (by assumption) | exact HC.out _ (HA.out _ _ (by assumption))) (first | (go_at_call 47; refine (P4.out w5 v5 b5 o5).mono ?_; rintro e w6 ⟨v6, rfl, o6, b6⟩) | (go_at_call 47; refine (P3.out w4.drew v4 hb4 o4'').mono ?_; rintro e w5 ⟨v5, rfl, o5, b5⟩) | (go_at_call 46; refine (P5.out w6 v6 b6 o6).mono ?_; rintro e w7 ⟨v7, rfl, o7, b7⟩))
    go_wp2
    go_ret2
    exact ⟨_, rfl, o7.mono hb0.size, hb0.trans (b7.mono hb0.size)⟩
end Go.Proofs.YtdcclfnbpckioaaGreatDoor
