/-
  A request as a message: the program's Ask.
-/
import Derived.Test.YtdcclfnbpckioaaGreatDoorNqD
namespace Go.Proofs.YtdcclfnbpckioaaGreatDoor
open Go.RowKit
set_option linter.unusedVariables false

set_option maxHeartbeats 1000000 in
theorem n_message {w : World} {L H q : Nat} {ss : List Sp} {vs : List (Value × Value)} {j g : Nat} (h : Jn w L H q (cJ j) ss vs j g) (hH : H ≤ w.heap.size) (hq : q < w.heap.size) (yss : List (List Int)) (hlen : yss.length = ss.length) (hsm : ss.length ≤ 10) (hys : ∀ (i : Nat) (s : Sp) (ys : List Int), ss[i]? = some s → yss[i]? = some ys → Has w q s ys) (htot : yss.flatten.length ≤ 65536) (hby : ∀ x ∈ yss.flatten, 0 ≤ x ∧ x ≤ 255) (ht : Tab w) :
    Calls Tryz.prog 44 #[cJ j] w fun e w' => ∃ v', e = .returned (.tuple #[v', .int .i64 0]) ∧ Own w' w.heap.size v' (frameB (fn yss.flatten) yss.flatten.length) ∧ Below w.heap.size w w' := by
  have HJ : Hid (∀ o, Calls Tryz.prog 68 #[.slice none 0 0, .pointer (some ⟨j, 0, none⟩)] (w.alloc o) fun e w' => ∃ v', e = .returned v' ∧ Own w' w.heap.size v' yss.flatten ∧ Below w.heap.size w w') := fun o => by
    have hb : Below w.heap.size w (w.alloc o) := (Below.refl _ w).alloc (Nat.le_refl _) o
    have hj : Jn (w.alloc o) L H q (cJ j) ss vs j g := h.told (Nat.le_refl _) (Nat.le_refl _) (fun k _ hk => hb.block k (by omega))
    refine (w_join hj (by have := hb.size; omega) (by have := hb.size; omega) yss hlen hsm (fun i s ys h1 h2 => (hys i s ys h1 h2).kept (hb.block q hq)) htot).mono ?_
    rintro e w' ⟨v', rfl, k1, k2⟩
    exact ⟨v', rfl, k1.mono hb.size, hb.trans (k2.mono hb.size)⟩
  have HF : Hid (∀ w1 v1, Own w1 w.heap.size v1 yss.flatten → Below w.heap.size w w1 → Calls Tryz.prog 56 #[v1] w1 fun e w' => ∃ v', e = .returned (.tuple #[v', .int .i64 0]) ∧ Own w' w.heap.size v' (frameB (fn yss.flatten) yss.flatten.length) ∧ Below w.heap.size w w') := fun w1 v1 k1 k2 => by
    obtain ⟨ao, c, rfl, hf, h0, h1, h2, h3⟩ := k1.open
    refine (wFrame_ok ao _ c (fn yss.flatten) w1 htot (fn_by hby) hf h0 (ht.below k2 (Nat.le_refl _))).mono ?_
    rintro e w2 ⟨v2, rfl, k3, k4⟩
    exact ⟨v2, rfl, k3.mono k2.size, k2.trans (k4.mono k2.size)⟩
  clear h hys hby htot hsm hlen ht
  generalize frameB (fn yss.flatten) yss.flatten.length = F at *
  generalize yss.flatten = Y at *
  go_enter Tryz.func44, Tryz.ntmps44
  go_wp2_with (first | (go_at_call 68; refine (HJ.out _).mono ?_; rintro e w1 ⟨v1, rfl, k1, k2⟩) | (go_at_call 56; refine (HF.out w1 v1 k1 k2).mono ?_; rintro e w2 ⟨v2, rfl, k3, k4⟩))
  go_ret2
  exact ⟨v2, rfl, k3, k4⟩

def askIs (id : ByteArray) (k se : Int) (t : ByteArray) : List It := [.num k.toNat, .num se.toNat, .txt id, .txt t]
def askYs (id : ByteArray) (k se : Int) (t : ByteArray) : List (List Int) := [[1], putB k.toNat, putB se.toNat, putB id.size ++ strL id, putB t.size ++ strL t]
theorem askYs_flat (id : ByteArray) (k se : Int) (t : ByteArray) : (askYs id k se t).flatten = load 1 (askIs id k se t) := by
  simp [askYs, load, askIs, bytesAll, It.bytes]
def askK : List (Option Nat) := [none, none, some 8, some 1200]
theorem askK_le : ∀ k ∈ askK, ∀ m, k = some m → m ≤ 65536 := by
  intro k hk m e
  subst e
  simp [askK] at hk
  omega
theorem mayB_fits {id : ByteArray} {k se : Int} {t : ByteArray} (h : mayB id k se t = true) : Fits askK (askIs id k se t) := by
  simp [mayB, isIdB] at h
  refine ⟨?_, ?_, ?_, ?_, trivial⟩
  · show k.toNat ≤ _; omega
  · show se.toNat ≤ _; omega
  · show id.size ≤ 8; omega
  · show t.size ≤ 1200; omega
theorem ask_len {id : ByteArray} {k se : Int} {t : ByteArray} (h : mayB id k se t = true) : (load 1 (askIs id k se t)).length ≤ 65536 := by
  have := Fits.len askK _ (mayB_fits h) askK_le
  simp [askK] at this
  simp [load]
  omega
theorem ask_by {id : ByteArray} {k se : Int} {t : ByteArray} (h : mayB id k se t = true) : ∀ x ∈ load 1 (askIs id k se t), 0 ≤ x ∧ x ≤ 255 := load_by (by omega) askK_le (mayB_fits h)
def askB (id : ByteArray) (k se : Int) (t : ByteArray) : List Int := if mayB id k se t then msg 1 (askIs id k se t) else []
def askE (id : ByteArray) (k se : Int) (t : ByteArray) : Int := if mayB id k se t then 0 else 1
end Go.Proofs.YtdcclfnbpckioaaGreatDoor
