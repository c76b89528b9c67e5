/-
  Contract of a log's Reset. Conditions: the log lies apart from its disk; nothing pends there; the library's table of sums is as it starts.
-/
import Derived.Test.YtnaobkpncfbnaaaGreatDoorLogV
namespace Go.Proofs.YtnaobkpncfbnaaaGreatDoor
open Go.RowKit
set_option linter.unusedVariables false

set_option maxHeartbeats 400000 in
theorem lMissing (L T : Nat) (w : World) (h0 : w.cell? ⟨L, 0, none⟩ = some (.pointer (some ⟨T, 0, none⟩))) : Calls Tryz.prog 36 #[.pointer (some ⟨L, 0, none⟩)] w fun e w' => e = .returned (.bool false) ∧ w' = w := by
  go_enter Tryz.func36, Tryz.ntmps36
  go_wp2
  go_ret
  exact ⟨rfl, rfl⟩

/-- What Reset leaves. -/
def ResetTo (w w' : World) (L T D n from_ sectors last : Nat) (F : Nat → Prop) (e : Nat → Int) : Prop := ∃ q v', LogW w' L T D from_ sectors (last + 1) last last 0 v' ∧ Own w' q v' [] ∧ Sd w' D (fun k => F k ∨ (w.heap.size ≤ k ∧ k < q)) n 0 (svs e from_ 0 (last + 1) (fun _ => 0) (fun _ _ => 0) 1) ∧ Part (fun k => F k ∨ k = T) w w' ∧ w.heap.size ≤ q

theorem ResetTo.end_ {w w6 w' : World} {L T D n from_ sectors last : Nat} {F : Nat → Prop} {e : Nat → Int} {v' : Value} (hL : w6.heap[L]? = some (.cells #[.pointer (some ⟨T, 0, none⟩)] 78 (0, 0))) (hLT : L ≠ T)
    (hT : w'.heap[T]? = some (.cells #[.pointer (some ⟨D, 0, none⟩), .int .i64 (from_ : Int), .int .i64 (sectors : Int), .int .i64 ((last + 1 : Nat) : Int), .int .i64 (last : Int), .int .i64 (last : Int), .int .i64 ((0 : Nat) : Int), v'] 76 (0, 0))) (ho : Own w' w6.heap.size v' []) (hS : Sd w6 D (fun k => F k ∨ (w.heap.size ≤ k ∧ k < w6.heap.size)) n 0 (svs e from_ 0 (last + 1) (fun _ => 0) (fun _ _ => 0) 1)) (hTF : ¬ F T) (hTl : T < w.heap.size) (hPw : Part F w w6) (hP : Part (fun k => k = T) w6 w') : ResetTo w w' L T D n from_ sectors last F e := by
  have hs := hPw.size
  refine ⟨w6.heap.size, v', ⟨?_, hT⟩, ho, hS.part hP (fun k hk e => ?_), ?_, hs⟩
  · rw [hP.block L (Array.getElem?_eq_some_iff.1 hL).1 hLT]; exact hL
  · subst e
    rcases hk with hk | hk
    · exact hTF hk
    · omega
  · exact (hPw.mono (fun _ _ h => .inl h)).trans hP (fun i hi h => .inr h)

end Go.Proofs.YtnaobkpncfbnaaaGreatDoor
