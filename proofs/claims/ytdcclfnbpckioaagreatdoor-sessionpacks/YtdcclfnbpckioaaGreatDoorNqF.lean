/-
  A request as a message: the document's Ask.
-/
import Derived.Test.YtdcclfnbpckioaaGreatDoorNqE
namespace Go.Proofs.YtdcclfnbpckioaaGreatDoor
open Go.RowKit
set_option linter.unusedVariables false

/-- The document's Put, Text and Frame upon a slice of the call's own. -/
theorem x_put {W w : World} {v : Value} {xs : List Int} (z : Int) (hz : z ≤ 9223372036854775807) (ho : Own w W.heap.size v xs) (hb : Below W.heap.size W w) (hx : xs.length ≤ 65536) :
    Calls Tryz.prog 26 #[v, .int .i64 z] w fun e w' => ∃ v', e = .returned v' ∧ Own w' W.heap.size v' (xs ++ putB z.toNat) ∧ Below W.heap.size W w' := by
  obtain ⟨ao, c, rfl, hf, h0, h1, h2, h3⟩ := ho.open
  have HP := xPut ao xs.length c (fn xs) z w (by omega) hf h0 hz
  rw [lst_fn] at HP
  refine HP.mono ?_
  rintro e w' ⟨v', rfl, k1, k2⟩
  exact ⟨v', rfl, k1.mono hb.size, hb.trans (k2.mono hb.size)⟩
theorem x_text {W w : World} {v : Value} {xs : List Int} (s : ByteArray) (hs : s.size ≤ 65536) (ho : Own w W.heap.size v xs) (hb : Below W.heap.size W w) (hx : xs.length ≤ 65536) :
    Calls Tryz.prog 47 #[v, .string s] w fun e w' => ∃ v', e = .returned v' ∧ Own w' W.heap.size v' (xs ++ (putB s.size ++ strL s)) ∧ Below W.heap.size W w' := by
  obtain ⟨ao, c, rfl, hf, h0, h1, h2, h3⟩ := ho.open
  have HP := xText2 ao xs.length c (fn xs) s w (by omega) hf h0
  rw [lst_fn, List.append_assoc] at HP
  refine HP.mono ?_
  rintro e w' ⟨v', rfl, k1, k2⟩
  exact ⟨v', rfl, k1.mono hb.size, hb.trans (k2.mono hb.size)⟩
theorem x_frame {W w : World} {v : Value} {xs : List Int} (ho : Own w W.heap.size v xs) (hb : Below W.heap.size W w) (hx : xs.length ≤ 65536) (hby : ∀ x ∈ xs, 0 ≤ x ∧ x ≤ 255) :
    Calls Tryz.prog 46 #[v] w fun e w' => ∃ v', e = .returned (.tuple #[v', .int .i64 0]) ∧ Own w' W.heap.size v' (frameB (fn xs) xs.length) ∧ Below W.heap.size W w' := by
  obtain ⟨ao, c, rfl, hf, h0, h1, h2, h3⟩ := ho.open
  refine (xFrame_ok ao _ c (fn xs) w hx (fn_by hby) hf h0).mono ?_
  rintro e w' ⟨v', rfl, k1, k2⟩
  exact ⟨v', rfl, k1.mono hb.size, hb.trans (k2.mono hb.size)⟩
theorem own_one (w : World) (B : Nat) (hB : B ≤ w.heap.size) (m : Int) : Own (w.alloc (.cells #[.int .u8 m] 5)) B (.slice (some ⟨w.heap.size, 0, none⟩) 1 1) [m] := by
  refine ⟨rfl, .inr ⟨w.heap.size, 1, #[.int .u8 m], rfl, hB, heap_new _ _ _ rfl, ?_⟩⟩
  exact ⟨by simp, by unfold maxLen; omega, rfl, rfl⟩
end Go.Proofs.YtdcclfnbpckioaaGreatDoor
