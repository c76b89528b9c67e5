/-
  Contract of Spoil over bytes of one's own.
-/
import Derived.Test.YtnoaobnjecapjaaRkRead
import Derived.Test.YtnoaobnjecapjaaSpoil
namespace Go.Proofs.Ytnoaobnjecapjaa
open Go.RowKit
set_option linter.unusedVariables false

set_option maxRecDepth 100000 in
set_option maxHeartbeats 1000000 in
theorem spoilF (v : Value) (B n : Nat) (f : Nat → Int) (w : World) (h : Own w B v (lst f n)) (hn : n ≤ 140737488355328) :
    Calls Try.prog 20 #[v] w fun e w' => e = .returned (.tuple #[]) ∧ Part (fun q => v.ownBlock = some q) w w' := by
  by_cases h0 : n = 0
  · subst h0
    obtain ⟨a, c, rfl, _⟩ := own_any h
    clear h
    go_enter Try.func20, Try.ntmps20
    go_wp2
    go_loopw [5] (fun i wr => i = .int .i64 0 ∧ wr = w) (fun i _ => 0)
    case atStart => exact ⟨rfl, rfl⟩
    case round =>
      obtain ⟨rfl, rfl⟩ := hrel
      go_wp2
      go_end0
      exact ⟨rfl, Part.refl _ _⟩
  · obtain ⟨g, c, rfl, ho, _, _, _, _⟩ := own_some h (by omega)
    have H0 : Hid (Spoilt g n w w) := ⟨Only.refl _ _, fun j hj => ⟨_, Own.cellF ho j hj⟩, fun j hj => by
      obtain ⟨cur, hc⟩ := row_block ho rfl
      exact cells_free hc j⟩
    clear h ho
    go_enter Try.func20, Try.ntmps20
    go_wp2
    go_loopw [5] (fun i wr => ∃ k : Nat, k ≤ n ∧ i = .int .i64 (k : Int) ∧ Spoilt g n w wr) (fun i _ => n - (intOf i).toNat)
    case atStart => exact ⟨0, Nat.zero_le _, rfl, H0.out⟩
    case round =>
      obtain ⟨k, hk, rfl, hsp⟩ := hrel
      by_cases hlt : k < n
      · have hlt' : (k : Int) < (n : Int) := by omega
        have hk0 : (0 : Int) ≤ (k : Int) := by omega
        obtain ⟨x, hx⟩ := hsp.cells k hlt
        have hfz := hsp.free k hlt
        have HN : Hid (∀ z : Int, Spoilt g n w (wr.setCell ⟨g, k, none⟩ (.int .u8 z))) := fun z => hsp.set k hlt z
        clear hsp
        go_wp2
        go_roundw
        case rel => exact ⟨k + 1, by omega, by go_num, HN.out _⟩
        case measure => simp [intOf]; omega
      · obtain rfl : k = n := by omega
        have HP : Hid (Part (fun q => (Value.slice (some ⟨g, 0, none⟩) k c).ownBlock = some q) w wr) := hsp.only.part.mono (fun i _ e => by rw [e]; rfl)
        clear hsp
        go_wp2
        go_end0
        exact ⟨rfl, HP.out⟩
end Go.Proofs.Ytnoaobnjecapjaa
