/-
  Numbers in so many bytes (little.Put, little.Get), noughts (sector.Blank, the document's noughts): their contracts. Conditions: Put's number is none below 0; Get has at most eight bytes.
-/
import Derived.Test.YtcifjpgimekcjaaGreatDoorSum
import Derived.Laws.Rows
import Derived.Deep.QuietTactic
import Derived.Deep.RegionWith
import Derived.BigQuiet
namespace Go.Proofs.YtcifjpgimekcjaaGreatDoor
open Go.RowKit
set_option linter.unusedVariables false

/-- F with f's m bytes from off on. -/
def ov (F : Nat → Int) (off m : Nat) (f : Nat → Int) : Nat → Int := fun i => if off ≤ i ∧ i < off + m then f (i - off) else F i
theorem lst_ext {f g : Nat → Int} {n : Nat} (h : ∀ i, i < n → f i = g i) : lst f n = lst g n := by
  apply List.ext_getElem?
  intro i
  by_cases hi : i < n
  · rw [lst_get f n i hi, lst_get g n i hi, h i hi]
  · rw [List.getElem?_eq_none (by rw [lst_length]; omega), List.getElem?_eq_none (by rw [lst_length]; omega)]
theorem lst_inj {f g : Nat → Int} {n : Nat} (h : lst f n = lst g n) (i : Nat) (hi : i < n) : f i = g i := by
  have := congrArg (fun l : List Int => l[i]?) h
  simpa only [lst_get f n i hi, lst_get g n i hi, Option.some.injEq] using this
theorem lst_ov (F : Nat → Int) (N off m : Nat) (f : Nat → Int) (h : off + m ≤ N) : splice (lst F N) off (lst f m) = lst (ov F off m f) N := by
  apply List.ext_getElem?
  intro i
  unfold splice
  simp only [List.getElem?_append, List.length_take, lst_length, List.getElem?_take, List.getElem?_drop]
  have e1 : min off N = off := by omega
  rw [e1]
  by_cases i1 : i < N
  · rw [lst_get (ov F off m f) N i i1]
    by_cases i2 : i < off
    · rw [if_pos i2, if_pos i2, lst_get F N i i1]
      show _ = some (if off ≤ i ∧ i < off + m then f (i - off) else F i)
      rw [if_neg (by omega)]
    · rw [if_neg i2]
      show _ = some (if off ≤ i ∧ i < off + m then f (i - off) else F i)
      by_cases i3 : i - off < m
      · rw [if_pos i3, lst_get _ _ _ i3, if_pos (by omega)]
      · rw [if_neg i3, show off + m + (i - off - m) = i by omega, lst_get F N i i1, if_neg (by omega)]
  · rw [if_neg (by omega), if_neg (by omega), List.getElem?_eq_none (by rw [lst_length]; omega), List.getElem?_eq_none (by rw [lst_length]; omega)]

theorem Own.set {w : World} {B g n cap : Nat} {F : Nat → Int} (h : Own w B (.slice (some ⟨g, 0, none⟩) n cap) (lst F n)) (j : Nat) (hj : j < n) (x : Int) :
    Own (w.setCell ⟨g, j, none⟩ (.int .u8 x)) B (.slice (some ⟨g, 0, none⟩) n cap) (lst (fun i => if i = j then x else F i) n) := by
  unfold Own at h ⊢
  rw [lst_length] at h ⊢
  refine ⟨by simp [lst_length], .inr ?_⟩
  rcases h.2 with ⟨h1, _⟩ | ⟨g', cap', cur, h1, h2, h3, h4, h5, h6, h7⟩
  · cases h1
  · cases h1
    refine ⟨g, cap, _, rfl, h2, heap_setCell_same w g j cur 5 _ h3, h4, h5, by simpa using h6, ?_⟩
    apply List.ext_getElem?
    intro i
    have h8 := congrArg (fun l : List Value => l[i]?) h7
    simp only [Nat.mul_one, List.getElem?_take, List.getElem?_map] at h8 ⊢
    by_cases hi : i < n
    · rw [if_pos hi] at h8 ⊢
      rw [lst_get _ n i hi] at h8 ⊢
      by_cases e : i = j
      · subst e
        have hc : i < cur.size := by rw [h6]; omega
        simp [hc]
      · simp [Ne.symm e, e] at h8 ⊢
        exact h8
    · rw [if_neg hi, List.getElem?_eq_none (by rw [lst_length]; omega)]
      rfl
theorem Own.cellF {w : World} {B g n cap : Nat} {F : Nat → Int} (h : Own w B (.slice (some ⟨g, 0, none⟩) n cap) (lst F n)) (j : Nat) (hj : j < n) : w.cell? ⟨g, j, none⟩ = some (.int .u8 (F j)) := by
  unfold Own at h
  rw [lst_length] at h
  rw [h.cellAt j (by omega), List.getElem?_map, lst_get F n j hj]; rfl
theorem Own.freeF {w : World} {B g n cap : Nat} {F : Nat → Int} (h : Own w B (.slice (some ⟨g, 0, none⟩) n cap) (lst F n)) (j : Nat) : w.frozen? ⟨g, j, none⟩ = false := by
  unfold Own at h
  rw [lst_length] at h
  exact h.frozenAt j
theorem Own.ext {w : World} {B : Nat} {v : Value} {n : Nat} {F G : Nat → Int} (h : Own w B v (lst F n)) (e : ∀ i, i < n → F i = G i) : Own w B v (lst G n) := lst_ext e ▸ h

/-- A number's byte at place k. -/
def leAt (s k : Nat) : Int := ((s / 256 ^ k % 256 : Nat) : Int)
theorem leAt_by (s k : Nat) : 0 ≤ leAt s k ∧ leAt s k ≤ 255 := by unfold leAt; omega

set_option maxHeartbeats 1000000 in
theorem put (g off m c N cap B s : Nat) (F : Nat → Int) (w : World) (hB : B ≤ g) (hs : s ≤ 9223372036854775807) (hN : off + m ≤ N) (hm : m ≤ 140737488355328) (ho : Own w B (.slice (some ⟨g, 0, none⟩) N cap) (lst F N)) :
    Calls Tryz.prog 156 #[.slice (some ⟨g, off, none⟩) m c, .int .i64 (s : Int)] w fun e w' => e = .returned (.tuple #[]) ∧ Own w' B (.slice (some ⟨g, 0, none⟩) N cap) (lst (ov F off m (leAt s)) N) ∧ Below B w w' := by
  go_enter Tryz.func156, Tryz.ntmps156
  go_wp2
  go_loopw [1, 7] (fun x i wr => ∃ k : Nat, k ≤ m ∧ i = .int .i64 (k : Int) ∧ x = .int .i64 ((s / 256 ^ k : Nat) : Int) ∧ Own wr B (.slice (some ⟨g, 0, none⟩) N cap) (lst (ov F off k (leAt s)) N) ∧ Below B w wr) (fun _ i _ => m - (intOf i).toNat)
  case atStart => exact ⟨0, Nat.zero_le _, rfl, by simp, ho.ext (fun i _ => by unfold ov; rw [if_neg (by omega)]), Below.refl _ _⟩
  case round =>
    obtain ⟨k, hk, rfl, rfl, ho1, hb⟩ := hrel
    by_cases hlt : k < m
    · have hlt' : (k : Int) < (m : Int) := by omega
      have hcell := ho1.cellF (off + k) (by omega)
      have hfz := ho1.freeF (off + k)
      have HO : Hid (∀ x, x = leAt s k → Own (wr.setCell ⟨g, off + k, none⟩ (.int .u8 x)) B (.slice (some ⟨g, 0, none⟩) N cap) (lst (ov F off (k + 1) (leAt s)) N)) := fun x hx => by
        refine (ho1.set (off + k) (by omega) x).ext fun i hi => ?_
        show (if i = off + k then x else ov F off k (leAt s) i) = ov F off (k + 1) (leAt s) i
        unfold ov
        by_cases e : i = off + k
        · rw [if_pos e, if_pos (by omega), hx, e, show off + k - off = k by omega]
        · rw [if_neg e]
          by_cases e2 : off ≤ i ∧ i < off + k
          · rw [if_pos e2, if_pos (by omega)]
          · rw [if_neg e2, if_neg (by omega)]
      have HB : Hid (∀ x : Int, Below B w (wr.setCell ⟨g, off + k, none⟩ (.int .u8 x))) := fun x => hb.setCell (p := ⟨g, off + k, none⟩) hB _
      have hdiv : Hid (s / 256 ^ (k + 1) = s / 256 ^ k / 256) := (by rw [Nat.pow_succ, Nat.div_div_eq_div_mul] : s / 256 ^ (k + 1) = s / 256 ^ k / 256)
      have hat : Hid (((s / 256 ^ k : Nat) : Int) % 256 = leAt s k) := (by unfold leAt; omega : ((s / 256 ^ k : Nat) : Int) % 256 = leAt s k)
      have htl : s / 256 ^ k ≤ s := Nat.div_le_self _ _
      clear ho1 hb
      generalize s / 256 ^ k = t at *
      go_wp2
      go_roundw
      case rel => exact ⟨k + 1, by omega, by go_num, by rw [hdiv.out]; go_num, HO.out _ hat.out, HB.out _⟩
      case measure => simp [intOf]; omega
    · obtain rfl : k = m := by omega
      go_wp2
      go_end0
      exact ⟨rfl, ho1, hb⟩
end Go.Proofs.YtcifjpgimekcjaaGreatDoor
