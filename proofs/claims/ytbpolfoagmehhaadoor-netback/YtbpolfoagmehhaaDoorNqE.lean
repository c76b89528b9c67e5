/-
  A request as a message: the program's Ask.
-/
import Derived.Test.YtbpolfoagmehhaaDoorNqD
namespace Go.Proofs.YtbpolfoagmehhaaDoor
open Go.RowKit
set_option linter.unusedVariables false

set_option maxHeartbeats 1000000 in
theorem n_message {w : World} {L H q : Nat} {ss : List Sp} {vs : List (Value × Value)} {j g : Nat} (h : Jn w L H q (cJ j) ss vs j g) (hH : H ≤ w.heap.size) (hq : q < w.heap.size) (yss : List (List Int)) (hlen : yss.length = ss.length) (hsm : ss.length ≤ 10) (hys : ∀ (i : Nat) (s : Sp) (ys : List Int), ss[i]? = some s → yss[i]? = some ys → Has w q s ys) (htot : yss.flatten.length ≤ 65536) (hby : ∀ x ∈ yss.flatten, 0 ≤ x ∧ x ≤ 255) (ht : Tab w) :
    Calls Tryd.prog 19 #[cJ j] w fun e w' => ∃ v', e = .returned (.tuple #[v', .int .i64 0]) ∧ Own w' w.heap.size v' (frameB (fn yss.flatten) yss.flatten.length) ∧ Below w.heap.size w w' := by
  have HJ : Hid (∀ o, Calls Tryd.prog 44 #[.slice none 0 0, .pointer (some ⟨j, 0, none⟩)] (w.alloc o) fun e w' => ∃ v', e = .returned v' ∧ Own w' w.heap.size v' yss.flatten ∧ Below w.heap.size w w') := fun o => by
    have hb : Below w.heap.size w (w.alloc o) := (Below.refl _ w).alloc (Nat.le_refl _) o
    have hj : Jn (w.alloc o) L H q (cJ j) ss vs j g := h.told (Nat.le_refl _) (Nat.le_refl _) (fun k _ hk => hb.block k (by omega))
    refine (w_join hj (by have := hb.size; omega) (by have := hb.size; omega) yss hlen hsm (fun i s ys h1 h2 => (hys i s ys h1 h2).kept (hb.block q hq)) htot).mono ?_
    rintro e w' ⟨v', rfl, k1, k2⟩
    exact ⟨v', rfl, k1.mono hb.size, hb.trans (k2.mono hb.size)⟩
  have HF : Hid (∀ w1 v1, Own w1 w.heap.size v1 yss.flatten → Below w.heap.size w w1 → Calls Tryd.prog 37 #[v1] w1 fun e w' => ∃ v', e = .returned (.tuple #[v', .int .i64 0]) ∧ Own w' w.heap.size v' (frameB (fn yss.flatten) yss.flatten.length) ∧ Below w.heap.size w w') := fun w1 v1 k1 k2 => by
    obtain ⟨ao, c, rfl, hf, h0, h1, h2, h3⟩ := k1.open
    refine (wFrame_ok ao _ c (fn yss.flatten) w1 htot (fn_by hby) hf h0 (ht.below k2 (Nat.le_refl _))).mono ?_
    rintro e w2 ⟨v2, rfl, k3, k4⟩
    exact ⟨v2, rfl, k3.mono k2.size, k2.trans (k4.mono k2.size)⟩
  clear h hys hby htot hsm hlen ht
  generalize frameB (fn yss.flatten) yss.flatten.length = F at *
  generalize yss.flatten = Y at *
  go_enter Tryd.func19, Tryd.ntmps19
  go_wp2_with (first | (go_at_call 44; refine (HJ.out _).mono ?_; rintro e w1 ⟨v1, rfl, k1, k2⟩) | (go_at_call 37; refine (HF.out w1 v1 k1 k2).mono ?_; rintro e w2 ⟨v2, rfl, k3, k4⟩))
  go_ret2
  exact ⟨v2, rfl, k3, k4⟩

def askIs (id : ByteArray) (k se : Int) (t : ByteArray) : List It := [.num k.toNat, .num se.toNat, .txt id, .txt t]
def askYs (id : ByteArray) (k se : Int) (t : ByteArray) : List (List Int) := [[1], putB k.toNat, putB se.toNat, putB id.size ++ strL id, putB t.size ++ strL t]
theorem askYs_flat (id : ByteArray) (k se : Int) (t : ByteArray) : (askYs id k se t).flatten = load 1 (askIs id k se t) := by
  simp [askYs, load, askIs, bytesAll, It.bytes]
def askK : List (Option Nat) := [none, none, some 8, some 1200]
theorem askK_le : ∀ k ∈ askK, ∀ m, k = some m → m ≤ 65536 := by
  intro k hk m e
  subst e
  simp [askK] at hk
  omega
theorem mayB_fits {id : ByteArray} {k se : Int} {t : ByteArray} (h : mayB id k se t = true) : Fits askK (askIs id k se t) := by
  simp [mayB, isIdB] at h
  refine ⟨?_, ?_, ?_, ?_, trivial⟩
  · show k.toNat ≤ _; omega
  · show se.toNat ≤ _; omega
  · show id.size ≤ 8; omega
  · show t.size ≤ 1200; omega
theorem ask_len {id : ByteArray} {k se : Int} {t : ByteArray} (h : mayB id k se t = true) : (load 1 (askIs id k se t)).length ≤ 65536 := by
  have := Fits.len askK _ (mayB_fits h) askK_le
  simp [askK] at this
  simp [load]
  omega
theorem ask_by {id : ByteArray} {k se : Int} {t : ByteArray} (h : mayB id k se t = true) : ∀ x ∈ load 1 (askIs id k se t), 0 ≤ x ∧ x ≤ 255 := load_by (by omega) askK_le (mayB_fits h)
def askB (id : ByteArray) (k se : Int) (t : ByteArray) : List Int := if mayB id k se t then msg 1 (askIs id k se t) else []
def askE (id : ByteArray) (k se : Int) (t : ByteArray) : Int := if mayB id k se t then 0 else 1
set_option maxHeartbeats 2000000 in
theorem n_ask (id : ByteArray) (k se : Int) (t : ByteArray) (w : World) (ht : Tab w) :
    Calls Tryd.prog 6 #[.agg #[.string id, .int .i64 k, .int .i64 se, .string t]] w fun e w' => ∃ v', e = .returned (.tuple #[v', .int .i64 (askE id k se t)]) ∧ Own w' w.heap.size v' (askB id k se t) ∧ Below w.heap.size w w' := by
  obtain ⟨W, hW⟩ : ∃ W, W = w.alloc (.cells #[.string id, .int .i64 k, .int .i64 se, .string t] 23) := ⟨_, rfl⟩
  have hb0 : Below w.heap.size w W := by rw [hW]; exact (Below.refl _ w).alloc (Nat.le_refl _) _
  have hsz : w.heap.size < W.heap.size := by rw [hW]; simp
  have hq0 : W.heap[w.heap.size]? = some (.cells #[.string id, .int .i64 k, .int .i64 se, .string t] 23 (0, 0)) := by rw [hW]; exact heap_new _ _ _ rfl
  have HM := n_may id k se t W
  cases hm : mayB id k se t with
  | false =>
    rw [hm] at HM
    rw [show askE id k se t = 1 by simp [askE, hm], show askB id k se t = [] by simp [askB, hm]]
    clear hm hq0
    go_enter Tryd.func6, Tryd.ntmps6
    go_wp2_with (go_at_call 17; (try rw [← hW]); refine HM.mono ?_; rintro e w2 ⟨rfl, hb⟩)
    go_ret2
    exact ⟨_, rfl, own_nil _ _, hb0.trans (hb.mono hb0.size)⟩
  | true =>
    rw [hm] at HM
    rw [show askE id k se t = 0 by simp [askE, hm], show askB id k se t = msg 1 (askIs id k se t) by simp [askB, hm]]
    have hlen := ask_len hm
    have hby := ask_by hm
    have hkk : k ≤ 9223372036854775807 ∧ se ≤ 9223372036854775807 ∧ id.size ≤ 65536 ∧ t.size ≤ 65536 := by simp [mayB, isIdB] at hm; omega
    rw [← askYs_flat] at hlen hby
    have HN : Hid (∀ w2 w3 v vs j g, Below W.heap.size W w2 → Jn w3 w2.heap.size w3.heap.size w.heap.size v askS vs j g → Below w2.heap.size w2 w3 → Calls Tryd.prog 19 #[v] w3 fun e w' => ∃ v', e = .returned (.tuple #[v', .int .i64 0]) ∧ Own w' w.heap.size v' (msg 1 (askIs id k se t)) ∧ Below w.heap.size w w') := fun w2 w3 v vs j g hb2 hj hb3 => by
      have hv := hj.val
      subst hv
      have hb23 : Below W.heap.size W w3 := hb2.trans (hb3.mono hb2.size)
      have hq3 : w3.heap[w.heap.size]? = _ := (hb23.block _ hsz).trans hq0
      have hbw : Below w.heap.size w w3 := hb0.trans (hb23.mono hb0.size)
      have s3 := hb23.size
      refine (n_message hj (Nat.le_refl _) (by omega) (askYs id k se t) rfl (by decide) ?_ hlen hby (ht.below hbw (Nat.le_refl _))).mono ?_
      · intro i s ys h1 h2
        have hi : i < 5 := by
          rcases Nat.lt_or_ge i 5 with g | g
          · exact g
          · rw [List.getElem?_eq_none (by simp [askS]; omega)] at h1; cases h1
        have hi5 : i = 0 ∨ i = 1 ∨ i = 2 ∨ i = 3 ∨ i = 4 := by omega
        rcases hi5 with rfl | rfl | rfl | rfl | rfl
        · simp [askS, askYs] at h1 h2; subst h1; subst h2; rfl
        · simp [askS, askYs] at h1 h2; subst h1; subst h2; exact ⟨k, cell_of hq3 1, hkk.1, rfl⟩
        · simp [askS, askYs] at h1 h2; subst h1; subst h2; exact ⟨se, cell_of hq3 2, hkk.2.1, rfl⟩
        · simp [askS, askYs] at h1 h2; subst h1; subst h2; exact ⟨id, cell_of hq3 0, hkk.2.2.1, rfl⟩
        · simp [askS, askYs] at h1 h2; subst h1; subst h2; exact ⟨t, cell_of hq3 3, hkk.2.2.2, rfl⟩
      · rintro e w' ⟨v', rfl, k1, k2⟩
        rw [askYs_flat] at k1
        exact ⟨v', rfl, k1.mono hbw.size, hbw.trans (k2.mono hbw.size)⟩
    clear hm hlen hby hkk hq0 hb0 ht
    go_enter Tryd.func6, Tryd.ntmps6
    go_wp2_with (first | (go_at_call 17; (try rw [← hW]); refine HM.mono ?_; rintro e w2 ⟨rfl, hb⟩) | (go_at_call 18; refine (c_asking _ w2).mono ?_; rintro e w3 ⟨v, vs, j, g, rfl, hj, hb3⟩) | (go_at_call 19; refine (HN.out w2 w3 v vs j g hb hj hb3).mono ?_; rintro e w4 ⟨v4, rfl, k1, k2⟩))
    go_ret2
    exact ⟨_, rfl, k1, k2⟩
end Go.Proofs.YtbpolfoagmehhaaDoor
