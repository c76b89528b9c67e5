/-
  Contracts of slices.Clone over numbers, and of a disk's Copy over Dk.
-/
import Derived.Test.YtjpjpfmhmcdibaaKeepsLaw
namespace Go.Proofs.Ytjpjpfmhmcdibaa
open Go.RowKit
set_option linter.unusedVariables false

set_option maxRecDepth 100000 in
set_option maxHeartbeats 400000 in
theorem cloneI (v : Value) (n : Nat) (f : Nat → Int) (w : World) (hbig : n ≤ 1000000) (hf : OwnI w 0 v (lst f n)) :
    Calls Try.prog 21 #[v] w fun e w' => ∃ v', e = .returned v' ∧ OwnI w' w.heap.size v' (lst f n) ∧ Below w.heap.size w w' := by
  have hq : ∀ (w : World) (a : Option Addr) (n c n' c' : Nat), (binOp .eql 27 (.slice a n c) (.slice none n' c')).run Try.prog w = .ok (.bool a.isNone) w := fun w a n c n' c' => Lib.run_eql_slice_nil w _ _ a n c n' c' Try.underlying27
  by_cases hv : v = .slice none 0 0
  · subst hv
    have hn0 : n = 0 := by
      rcases hf.2 with ⟨_, h0⟩ | ⟨_, _, _, h0, _⟩
      · rw [lst_length] at h0; exact h0
      · cases h0
    subst hn0
    have H0 : Hid (OwnI w w.heap.size (.slice none 0 0) (lst f 0)) := World.ownsRow_nil _ _ _ _
    clear hf
    go_enter Try.func21, Try.ntmps21
    go_wp2
    go_ret
    exact ⟨_, rfl, H0.out, Below.refl _ _⟩
  · obtain ⟨x, c, rfl⟩ : ∃ x c, v = .slice (some x) n c := by
      have h9 := hf.2
      rw [lst_length] at h9
      rcases h9 with ⟨h0, _⟩ | ⟨g, cap, cur, rfl, _⟩
      · exact absurd h0 hv
      · exact ⟨_, _, rfl⟩
    have hm : OwnI (w.alloc (.cells #[] 3)) w.heap.size (.slice (some ⟨w.heap.size, 0, none⟩) 0 0) [] := World.ownsRow_made w #[] 0 (Nat.le_refl _) (Nat.zero_le _) rfl
    have HF : Hid (OwnI (w.alloc (.cells #[] 3)) 0 (.slice (some x) n c) (lst f n)) := World.ownsRow.alloc hf _
    clear hf hv
    go_enter Try.func21, Try.ntmps21
    go_wp2_with (at_builtin; refine wpList_appI rfl _ _ rfl w.heap.size _ [] rfl hm (.slice (some x) n c) f n rfl HF.out ?q2 ?q3 ?_)
    case q2 => simp; omega
    case q3 => simp
    intro v' w' ho hb
    go_wp2
    go_ret
    exact ⟨v', rfl, ho, ((Below.refl _ w).alloc (Nat.le_refl _) _).trans hb⟩
end Go.Proofs.Ytjpjpfmhmcdibaa
