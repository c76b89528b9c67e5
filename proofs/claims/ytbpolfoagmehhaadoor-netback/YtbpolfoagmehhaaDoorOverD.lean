/-
  Contract of wire.Over: a reader at the beginning of a copy of the bytes. Condition: at most 2^47 bytes.
-/
import Derived.Test.YtbpolfoagmehhaaDoorRdW
namespace Go.Proofs.YtbpolfoagmehhaaDoor
open Go.RowKit
set_option linter.unusedVariables false

set_option maxHeartbeats 400000 in
theorem over (a0 : Option Addr) (n c : Nat) (f : Nat → Int) (w : World) (hbig : n ≤ 140737488355328) (hby : ∀ i, 0 ≤ f i ∧ f i ≤ 255) (hf : From w a0 n f) :
    Calls Tryd.prog 41 #[.slice a0 n c] w fun e w' => ∃ R ao cap, e = .returned (.pointer (some ⟨R, 0, none⟩)) ∧ RdInv w' R ao cap f n 0 ∧ w.heap.size ≤ R ∧ Below w.heap.size w w' := by
  go_enter Tryd.func41, Tryd.ntmps41
  go_wp2_with fail
  refine (clone a0 n c f w hbig hf).mono ?_
  rintro e w1 ⟨v1, rfl, ho, hb⟩
  obtain ⟨ao, cap, rfl, hf1, h0, h1, h2, h3⟩ := Own.openF ho
  go_wp2
  go_ret
  refine ⟨w1.heap.size, ao, cap, rfl, ⟨?_, ?_, ?_, ?_, Nat.zero_le _, h1, h2, hbig, hby, ?_⟩, hb.size, hb.alloc hb.size _⟩
  · rw [World.cell?_alloc_at _ _ _ _ rfl]; rfl
  · rw [World.cell?_alloc_at _ _ _ _ rfl]; rfl
  · rw [World.cell?_alloc_at _ _ _ _ rfl]; rfl
  · rw [World.frozen?_alloc_at _ _ _ _ rfl]
  · rcases hf1 with ⟨k1, k2⟩ | ⟨x, k1, k2⟩
    · exact .inl ⟨k1, k2, h0 k1⟩
    · obtain ⟨g, rfl, g1, g2⟩ := h3 x k1
      refine .inr ⟨g, k1, fun i hi => ?_⟩
      have := k2 i hi
      rw [Addr.add_lit, Nat.zero_add] at this
      rw [World.cell?_alloc_past _ _ _ g2]
      exact this
end Go.Proofs.YtbpolfoagmehhaaDoor
