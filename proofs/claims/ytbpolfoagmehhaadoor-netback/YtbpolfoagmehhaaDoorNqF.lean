/-
  A request as a message: the document's Ask.
-/
import Derived.Test.YtbpolfoagmehhaaDoorNqE
namespace Go.Proofs.YtbpolfoagmehhaaDoor
open Go.RowKit
set_option linter.unusedVariables false

/-- The document's Put, Text and Frame upon a slice of the call's own. -/
theorem x_put {W w : World} {v : Value} {xs : List Int} (z : Int) (hz : z ≤ 9223372036854775807) (ho : Own w W.heap.size v xs) (hb : Below W.heap.size W w) (hx : xs.length ≤ 65536) :
    Calls Tryd.prog 21 #[v, .int .i64 z] w fun e w' => ∃ v', e = .returned v' ∧ Own w' W.heap.size v' (xs ++ putB z.toNat) ∧ Below W.heap.size W w' := by
  obtain ⟨ao, c, rfl, hf, h0, h1, h2, h3⟩ := ho.open
  have HP := xPut ao xs.length c (fn xs) z w (by omega) hf h0 hz
  rw [lst_fn] at HP
  refine HP.mono ?_
  rintro e w' ⟨v', rfl, k1, k2⟩
  exact ⟨v', rfl, k1.mono hb.size, hb.trans (k2.mono hb.size)⟩
theorem x_text {W w : World} {v : Value} {xs : List Int} (s : ByteArray) (hs : s.size ≤ 65536) (ho : Own w W.heap.size v xs) (hb : Below W.heap.size W w) (hx : xs.length ≤ 65536) :
    Calls Tryd.prog 23 #[v, .string s] w fun e w' => ∃ v', e = .returned v' ∧ Own w' W.heap.size v' (xs ++ (putB s.size ++ strL s)) ∧ Below W.heap.size W w' := by
  obtain ⟨ao, c, rfl, hf, h0, h1, h2, h3⟩ := ho.open
  have HP := xText2 ao xs.length c (fn xs) s w (by omega) hf h0
  rw [lst_fn, List.append_assoc] at HP
  refine HP.mono ?_
  rintro e w' ⟨v', rfl, k1, k2⟩
  exact ⟨v', rfl, k1.mono hb.size, hb.trans (k2.mono hb.size)⟩
theorem x_frame {W w : World} {v : Value} {xs : List Int} (ho : Own w W.heap.size v xs) (hb : Below W.heap.size W w) (hx : xs.length ≤ 65536) (hby : ∀ x ∈ xs, 0 ≤ x ∧ x ≤ 255) :
    Calls Tryd.prog 22 #[v] w fun e w' => ∃ v', e = .returned (.tuple #[v', .int .i64 0]) ∧ Own w' W.heap.size v' (frameB (fn xs) xs.length) ∧ Below W.heap.size W w' := by
  obtain ⟨ao, c, rfl, hf, h0, h1, h2, h3⟩ := ho.open
  refine (xFrame_ok ao _ c (fn xs) w hx (fn_by hby) hf h0).mono ?_
  rintro e w' ⟨v', rfl, k1, k2⟩
  exact ⟨v', rfl, k1.mono hb.size, hb.trans (k2.mono hb.size)⟩
theorem own_one (w : World) (B : Nat) (hB : B ≤ w.heap.size) (m : Int) : Own (w.alloc (.cells #[.int .u8 m] 5)) B (.slice (some ⟨w.heap.size, 0, none⟩) 1 1) [m] := by
  refine ⟨rfl, .inr ⟨w.heap.size, 1, #[.int .u8 m], rfl, hB, heap_new _ _ _ rfl, ?_⟩⟩
  exact ⟨by simp, by unfold maxLen; omega, rfl, rfl⟩
set_option maxHeartbeats 2000000 in
theorem x_ask (id : ByteArray) (k se : Int) (t : ByteArray) (w : World) :
    Calls Tryd.prog 7 #[.agg #[.string id, .int .i64 k, .int .i64 se, .string t]] w fun e w' => ∃ v', e = .returned (.tuple #[v', .int .i64 (askE id k se t)]) ∧ Own w' w.heap.size v' (askB id k se t) ∧ Below w.heap.size w w' := by
  obtain ⟨W, hW⟩ : ∃ W, W = w.alloc (.cells #[.string id, .int .i64 k, .int .i64 se, .string t] 23) := ⟨_, rfl⟩
  have hb0 : Below w.heap.size w W := by rw [hW]; exact (Below.refl _ w).alloc (Nat.le_refl _) _
  have hsz : w.heap.size < W.heap.size := by rw [hW]; simp
  have hq0 : W.heap[w.heap.size]? = some (.cells #[.string id, .int .i64 k, .int .i64 se, .string t] 23 (0, 0)) := by rw [hW]; exact heap_new _ _ _ rfl
  have HM := x_may id k se t W
  cases hm : mayB id k se t with
  | false =>
    rw [hm] at HM
    rw [show askE id k se t = 1 by simp [askE, hm], show askB id k se t = [] by simp [askB, hm]]
    clear hm hq0
    go_enter Tryd.func7, Tryd.ntmps7
    go_wp2_with (go_at_call 20; (try rw [← hW]); refine HM.mono ?_; rintro e w2 ⟨rfl, hb⟩)
    go_ret2
    exact ⟨_, rfl, own_nil _ _, hb0.trans (hb.mono hb0.size)⟩
  | true =>
    rw [hm] at HM
    rw [show askE id k se t = 0 by simp [askE, hm], show askB id k se t = msg 1 (askIs id k se t) by simp [askB, hm]]
    have hlen := ask_len hm
    have hby := ask_by hm
    have hkk : k ≤ 9223372036854775807 ∧ se ≤ 9223372036854775807 ∧ id.size ≤ 65536 ∧ t.size ≤ 65536 := by simp [mayB, isIdB] at hm; omega
    have HC : Hid (∀ wq, Below W.heap.size W wq → wq.cell? ⟨w.heap.size, 0, none⟩ = some (.string id) ∧ wq.cell? ⟨w.heap.size, 1, none⟩ = some (.int .i64 k) ∧ wq.cell? ⟨w.heap.size, 2, none⟩ = some (.int .i64 se) ∧ wq.cell? ⟨w.heap.size, 3, none⟩ = some (.string t)) := fun wq hq => by
      have e : wq.heap[w.heap.size]? = _ := (hq.block _ hsz).trans hq0
      exact ⟨cell_of e 0, cell_of e 1, cell_of e 2, cell_of e 3⟩
    have hl := hlen
    simp only [load, askIs, bytesAll, It.bytes, List.flatMap_cons, List.flatMap_nil, List.append_nil, List.length_cons, List.length_append] at hl
    have P1 : Hid (∀ wq, Below W.heap.size W wq → Calls Tryd.prog 21 #[.slice (some ⟨wq.heap.size, 0, none⟩) 1 1, .int .i64 k] (wq.alloc (.cells #[.int .u8 1] 5)).drew fun e w' => ∃ v', e = .returned v' ∧ Own w' W.heap.size v' ([1] ++ putB k.toNat) ∧ Below W.heap.size W w') := fun wq hq => x_put (w := (wq.alloc (.cells #[.int .u8 1] 5)).drew) k hkk.1 (own_one wq _ hq.size 1) (blw_drewN 1 (hq.alloc hq.size _)) (by simp)
    have P2 : Hid (∀ wq v, Below W.heap.size W wq → Own wq W.heap.size v ([1] ++ putB k.toNat) → Calls Tryd.prog 21 #[v, .int .i64 se] wq fun e w' => ∃ v', e = .returned v' ∧ Own w' W.heap.size v' ([1] ++ putB k.toNat ++ putB se.toNat) ∧ Below W.heap.size W w') := fun wq v hq ho => x_put se hkk.2.1 ho hq (by simp; omega)
    have P3 : Hid (∀ wq v, Below W.heap.size W wq → Own wq W.heap.size v ([1] ++ putB k.toNat ++ putB se.toNat) → Calls Tryd.prog 23 #[v, .string id] wq fun e w' => ∃ v', e = .returned v' ∧ Own w' W.heap.size v' ([1] ++ putB k.toNat ++ putB se.toNat ++ (putB id.size ++ strL id)) ∧ Below W.heap.size W w') := fun wq v hq ho => x_text id hkk.2.2.1 ho hq (by simp; omega)
    have P4 : Hid (∀ wq v, Below W.heap.size W wq → Own wq W.heap.size v ([1] ++ putB k.toNat ++ putB se.toNat ++ (putB id.size ++ strL id)) → Calls Tryd.prog 23 #[v, .string t] wq fun e w' => ∃ v', e = .returned v' ∧ Own w' W.heap.size v' (load 1 (askIs id k se t)) ∧ Below W.heap.size W w') := fun wq v hq ho => by
      refine (x_text t hkk.2.2.2 ho hq (by simp; omega)).mono ?_
      rintro e w' ⟨v', rfl, k1, k2⟩
      refine ⟨v', rfl, ?_, k2⟩
      rw [← askYs_flat]
      have e : ([1] ++ putB k.toNat ++ putB se.toNat ++ (putB id.size ++ strL id) ++ (putB t.size ++ strL t)) = (askYs id k se t).flatten := by simp [askYs]
      rw [← e]
      exact k1
    have P5 : Hid (∀ wq v, Below W.heap.size W wq → Own wq W.heap.size v (load 1 (askIs id k se t)) → Calls Tryd.prog 22 #[v] wq fun e w' => ∃ v', e = .returned (.tuple #[v', .int .i64 0]) ∧ Own w' W.heap.size v' (msg 1 (askIs id k se t)) ∧ Below W.heap.size W w') := fun wq v hq ho => x_frame ho hq hlen hby
    have HD : Hid (∀ wq, Below W.heap.size W wq → Below W.heap.size W wq.drew) := fun wq hq => blw_drewN 1 hq
    have HA : Hid (∀ wq o, Below W.heap.size W wq → Below W.heap.size W (wq.alloc o)) := fun wq o hq => hq.alloc hq.size _
    clear hm hlen hby hkk hq0 hl
    generalize msg 1 (askIs id k se t) = M at *
    generalize load 1 (askIs id k se t) = D at *
    go_enter Tryd.func7, Tryd.ntmps7
    go_wp2_with (go_at_call 20; (try rw [← hW]); refine HM.mono ?_; rintro e w2 ⟨rfl, hb⟩)
    clear HM hW
    have hb2 := HD.out w2 hb
    go_region_held2 (fun wq => wq.cell? ⟨w.heap.size, 0, none⟩ = some (.string id) ∧ wq.cell? ⟨w.heap.size, 1, none⟩ = some (.int .i64 k) ∧ wq.cell? ⟨w.heap.size, 2, none⟩ = some (.int .i64 se) ∧ wq.cell? ⟨w.heap.size, 3, none⟩ = some (.string t)) (first | exact HC.out _ (by assumption) | exact HC.out _ (HD.out _ (HA.out _ _ hb))) (first | (go_at_call 21; refine (P2.out w3 v3 b3 o3).mono ?_; rintro e w4 ⟨v4, rfl, o4, b4⟩) | (go_at_call 21; refine (P1.out w2 hb).mono ?_; rintro e w3 ⟨v3, rfl, o3, b3⟩))
    go_wp2
    have hb4 := HD.out w4 b4
    have o4' : Own w4.drew W.heap.size v4 ([1] ++ putB k.toNat ++ putB se.toNat) := o4
    go_region_held2 (fun wq => wq.cell? ⟨w.heap.size, 0, none⟩ = some (.string id) ∧ wq.cell? ⟨w.heap.size, 1, none⟩ = some (.int .i64 k) ∧ wq.cell? ⟨w.heap.size, 2, none⟩ = some (.int .i64 se) ∧ wq.cell? ⟨w.heap.size, 3, none⟩ = some (.string t)) (first | exact HC.out _ (by assumption) | exact HC.out _ (HA.out _ _ (by assumption))) (first | (go_at_call 23; refine (P4.out w5 v5 b5 o5).mono ?_; rintro e w6 ⟨v6, rfl, o6, b6⟩) | (go_at_call 23; refine (P3.out w4.drew v4 hb4 o4').mono ?_; rintro e w5 ⟨v5, rfl, o5, b5⟩) | (go_at_call 22; refine (P5.out w6 v6 b6 o6).mono ?_; rintro e w7 ⟨v7, rfl, o7, b7⟩))
    go_wp2
    go_ret2
    exact ⟨_, rfl, o7.mono hb0.size, hb0.trans (b7.mono hb0.size)⟩
end Go.Proofs.YtbpolfoagmehhaaDoor
