/-
  A reply as a message: the program's Reply. Made by tools/mkrep.py.
-/
import Derived.Test.YtdcclfnbpckioaaGreatDoorNqF
import Derived.Test.YtdcclfnbpckioaaGreatDoorNrD
namespace Go.Proofs.YtdcclfnbpckioaaGreatDoor
open Go.RowKit
set_option linter.unusedVariables false

def repIs (id : ByteArray) (st se wy : Int) (t : ByteArray) : List It := [.num st.toNat, .num se.toNat, .num wy.toNat, .txt id, .txt t]
def repYs (id : ByteArray) (st se wy : Int) (t : ByteArray) : List (List Int) := [[2], putB st.toNat, putB se.toNat, putB wy.toNat, putB id.size ++ strL id, putB t.size ++ strL t]
theorem repYs_flat (id : ByteArray) (st se wy : Int) (t : ByteArray) : (repYs id st se wy t).flatten = load 2 (repIs id st se wy t) := by
  simp [repYs, load, repIs, bytesAll, It.bytes]
def repK : List (Option Nat) := [none, none, none, some 8, some 1000]
theorem repK_le : ∀ k ∈ repK, ∀ m, k = some m → m ≤ 65536 := by
  intro k hk m e
  subst e
  simp [repK] at hk
  omega
theorem mayR_fits {id : ByteArray} {st se wy : Int} {t : ByteArray} (h : mayR id st se wy t = true) : Fits repK (repIs id st se wy t) := by
  simp [mayR, isIdB] at h
  refine ⟨?_, ?_, ?_, ?_, ?_, trivial⟩
  · show st.toNat ≤ _; omega
  · show se.toNat ≤ _; omega
  · show wy.toNat ≤ _; omega
  · show id.size ≤ 8; omega
  · show t.size ≤ 1000; omega
theorem rep_len {id : ByteArray} {st se wy : Int} {t : ByteArray} (h : mayR id st se wy t = true) : (load 2 (repIs id st se wy t)).length ≤ 65536 := by
  have := Fits.len repK _ (mayR_fits h) repK_le
  simp [repK] at this
  simp [load]
  omega
theorem rep_by {id : ByteArray} {st se wy : Int} {t : ByteArray} (h : mayR id st se wy t = true) : ∀ x ∈ load 2 (repIs id st se wy t), 0 ≤ x ∧ x ≤ 255 := load_by (by omega) repK_le (mayR_fits h)
def repB (id : ByteArray) (st se wy : Int) (t : ByteArray) : List Int := if mayR id st se wy t then msg 2 (repIs id st se wy t) else []
def repE (id : ByteArray) (st se wy : Int) (t : ByteArray) : Int := if mayR id st se wy t then 0 else 1
set_option maxHeartbeats 2000000 in
theorem n_rep (id : ByteArray) (st se wy : Int) (t : ByteArray) (w : World) (ht : Tab w) :
    Calls Tryz.prog 27 #[.agg #[.string id, .int .i64 st, .int .i64 se, .int .i64 wy, .string t]] w fun e w' => ∃ v', e = .returned (.tuple #[v', .int .i64 (repE id st se wy t)]) ∧ Own w' w.heap.size v' (repB id st se wy t) ∧ Below w.heap.size w w' := by
  obtain ⟨W, hW⟩ : ∃ W, W = w.alloc (.cells #[.string id, .int .i64 st, .int .i64 se, .int .i64 wy, .string t] 24) := ⟨_, rfl⟩
  have hb0 : Below w.heap.size w W := by rw [hW]; exact (Below.refl _ w).alloc (Nat.le_refl _) _
  have hsz : w.heap.size < W.heap.size := by rw [hW]; simp
  have hq0 : W.heap[w.heap.size]? = some (.cells #[.string id, .int .i64 st, .int .i64 se, .int .i64 wy, .string t] 24 (0, 0)) := by rw [hW]; exact heap_new _ _ _ rfl
  have HM := n_mayR id st se wy t W
  cases hm : mayR id st se wy t with
  | false =>
    rw [hm] at HM
    rw [show repE id st se wy t = 1 by simp [repE, hm], show repB id st se wy t = [] by simp [repB, hm]]
    clear hm hq0
    go_enter Tryz.func27, Tryz.ntmps27
    go_wp2_with (go_at_call 42; (try rw [← hW]); refine HM.mono ?_; rintro e w2 ⟨rfl, hb⟩)
    go_ret2
    exact ⟨_, rfl, own_nil _ _, hb0.trans (hb.mono hb0.size)⟩
  | true =>
    rw [hm] at HM
    rw [show repE id st se wy t = 0 by simp [repE, hm], show repB id st se wy t = msg 2 (repIs id st se wy t) by simp [repB, hm]]
    have hlen := rep_len hm
    have hby := rep_by hm
    have hkk : st ≤ 9223372036854775807 ∧ se ≤ 9223372036854775807 ∧ wy ≤ 9223372036854775807 ∧ id.size ≤ 65536 ∧ t.size ≤ 65536 := by simp [mayR, isIdB] at hm; omega
    rw [← repYs_flat] at hlen hby
    have HN : Hid (∀ w2 w3 v vs j g, Below W.heap.size W w2 → Jn w3 w2.heap.size w3.heap.size w.heap.size v repS vs j g → Below w2.heap.size w2 w3 → Calls Tryz.prog 44 #[v] w3 fun e w' => ∃ v', e = .returned (.tuple #[v', .int .i64 0]) ∧ Own w' w.heap.size v' (msg 2 (repIs id st se wy t)) ∧ Below w.heap.size w w') := fun w2 w3 v vs j g hb2 hj hb3 => by
      have hv := hj.val
      subst hv
      have hb23 : Below W.heap.size W w3 := hb2.trans (hb3.mono hb2.size)
      have hq3 : w3.heap[w.heap.size]? = _ := (hb23.block _ hsz).trans hq0
      have hbw : Below w.heap.size w w3 := hb0.trans (hb23.mono hb0.size)
      have s3 := hb23.size
      refine (n_message hj (Nat.le_refl _) (by omega) (repYs id st se wy t) rfl (by decide) ?_ hlen hby (ht.below hbw (Nat.le_refl _))).mono ?_
      · intro i s ys h1 h2
        have hi : i < 6 := by
          rcases Nat.lt_or_ge i 6 with g | g
          · exact g
          · rw [List.getElem?_eq_none (by simp [repS]; omega)] at h1; cases h1
        have hi5 : i = 0 ∨ i = 1 ∨ i = 2 ∨ i = 3 ∨ i = 4 ∨ i = 5 := by omega
        rcases hi5 with rfl | rfl | rfl | rfl | rfl | rfl
        · simp [repS, repYs] at h1 h2; subst h1; subst h2; rfl
        · simp [repS, repYs] at h1 h2; subst h1; subst h2; exact ⟨st, cell_of hq3 1, hkk.1, rfl⟩
        · simp [repS, repYs] at h1 h2; subst h1; subst h2; exact ⟨se, cell_of hq3 2, hkk.2.1, rfl⟩
        · simp [repS, repYs] at h1 h2; subst h1; subst h2; exact ⟨wy, cell_of hq3 3, hkk.2.2.1, rfl⟩
        · simp [repS, repYs] at h1 h2; subst h1; subst h2; exact ⟨id, cell_of hq3 0, hkk.2.2.2.1, rfl⟩
        · simp [repS, repYs] at h1 h2; subst h1; subst h2; exact ⟨t, cell_of hq3 4, hkk.2.2.2.2, rfl⟩
      · rintro e w' ⟨v', rfl, k1, k2⟩
        rw [repYs_flat] at k1
        exact ⟨v', rfl, k1.mono hbw.size, hbw.trans (k2.mono hbw.size)⟩
    clear hm hlen hby hkk hq0 hb0 ht
    go_enter Tryz.func27, Tryz.ntmps27
    go_wp2_with (first | (go_at_call 42; (try rw [← hW]); refine HM.mono ?_; rintro e w2 ⟨rfl, hb⟩) | (go_at_call 43; refine (c_replying _ w2).mono ?_; rintro e w3 ⟨v, vs, j, g, rfl, hj, hb3⟩) | (go_at_call 44; refine (HN.out w2 w3 v vs j g hb hj hb3).mono ?_; rintro e w4 ⟨v4, rfl, k1, k2⟩))
    go_ret2
    exact ⟨_, rfl, k1, k2⟩
end Go.Proofs.YtdcclfnbpckioaaGreatDoor
