/-
  Contract of the document's Of: a small number's text.
-/
import Derived.Test.YtnekefchbienoaaDoorNSml
import Derived.Lib.AppendStr
import Derived.Lib.ItoaLen
namespace Go.Proofs.YtnekefchbienoaaDoor
open Go.RowKit
set_option linter.unusedVariables false

/-- 1 of an empty text. -/
def empt : Value → Nat
  | .string s => if s.size = 0 then 1 else 0
  | _ => 0
/-- The text under way: m is left, S is there. -/
def Way (n m : Nat) (S : List UInt8) : Prop := (S = [] ∧ m = n) ∨ (S ≠ [] ∧ ((m = 0 ∧ S = Lib.decDigits n) ∨ (m ≠ 0 ∧ Lib.decDigits m ++ S = Lib.decDigits n)))
theorem Way.step {n m : Nat} {S : List UInt8} (h : Way n m S) (hg : m ≠ 0 ∨ S = []) : Way n (m / 10) (UInt8.ofNat (48 + m % 10) :: S) := by
  have key : ∀ (k : Nat) (T : List UInt8), Lib.decDigits k ++ T = Lib.decDigits n → Way n (k / 10) (UInt8.ofNat (48 + k % 10) :: T) := fun k T e => by
    refine .inr ⟨by simp, ?_⟩
    by_cases hk : k < 10
    · refine .inl ⟨by omega, ?_⟩
      rw [Lib.decDigits_one hk] at e
      rw [show k % 10 = k by omega, ← e]; rfl
    · refine .inr ⟨by omega, ?_⟩
      rw [Lib.decDigits, dif_neg hk, List.append_assoc] at e
      exact e
  rcases h with ⟨rfl, rfl⟩ | ⟨h1, ⟨rfl, rfl⟩ | ⟨h2, h3⟩⟩
  · exact key m [] (by simp)
  · rcases hg with hg | hg
    · exact absurd rfl hg
    · exact absurd hg h1
  · exact key m S h3

set_option maxRecDepth 100000 in
set_option maxHeartbeats 1000000 in
theorem rOfN_pos (n : Nat) (hn : n ≤ 9223372036854775807) (w : World) :
    Calls Tryd.prog 25 #[.int .i64 (n : Int)] w fun e w' => e = .returned (.string (txt n)) ∧ Below w.heap.size w w' := by
  have h1 : ((n : Int) == -9223372036854775808) = false := by rw [beq_eq_false_iff_ne]; omega
  have h2 : ¬ (n : Int) < 0 := by omega
  go_enter Tryd.func25, Tryd.ntmps25
  go_wp2
  go_loopw [0, 3] (fun x t wr => ∃ (m : Nat) (S : ByteArray), x = .int .i64 (m : Int) ∧ t = .string S ∧ m ≤ n ∧ Hid (Way n m S.data.toList) ∧ Below w.heap.size w wr) (fun x t _ => 2 * (intOf x).toNat + empt t)
  case atStart => exact ⟨n, ⟨#[]⟩, rfl, rfl, Nat.le_refl _, .inl ⟨rfl, rfl⟩, Below.refl _ _⟩
  case round =>
    obtain ⟨m, S, rfl, rfl, hm, hW, hB⟩ := hrel
    have hstr : strOfNums [48 + (m : Int) % 10] = ⟨#[UInt8.ofNat (48 + m % 10)]⟩ := by
      unfold strOfNums
      rw [List.map_cons, List.map_nil, show ((48 + (m : Int) % 10).toNat) = 48 + m % 10 by omega]
    have hconv : (convert 82 9 (.slice (some ⟨wr.heap.size, 0, none⟩) 1 1)).run Tryd.prog (wr.alloc (.cells #[.int .u8 (48 + (m : Int) % 10)] 5)) = .ok (.string ⟨#[UInt8.ofNat (48 + m % 10)]⟩) (wr.alloc (.cells #[.int .u8 (48 + (m : Int) % 10)] 5)) := by
      rw [run_convert_bytes_arg _ 82 5 Tryd.underlying82 Tryd.underlying5 wr.heap.size 0 1 1 [48 + (m : Int) % 10] rfl (fun i hi => by
        obtain rfl : i = 0 := by omega
        rw [World.cell?_alloc_at _ _ _ _ rfl]; rfl) 9 Tryd.underlying9, hstr]
    have HW : (m ≠ 0 ∨ S.data.toList = []) → Hid (Way n (m / 10) (⟨#[UInt8.ofNat (48 + m % 10)]⟩ ++ S : ByteArray).data.toList) := fun hg => by
      have := hW.out.step hg
      show Way _ _ _
      simpa using this
    have hS : S.size ≤ 20 := by
      rw [← bytes_len]
      have hl : (Lib.decDigits n).length ≤ 20 := by rw [Lib.decDigits_length]; exact Lib.nDigits_le20 n (by omega)
      rcases hW.out with ⟨e, _⟩ | ⟨_, ⟨_, e⟩ | ⟨_, e⟩⟩
      · rw [e]; simp
      · rw [e]; exact hl
      · rw [← e, List.length_append] at hl; omega
    have hS2 : ¬ 9223372036854775807 < 1 + S.size := by omega
    obtain ⟨C, hC⟩ : ∃ C : ByteArray, ⟨#[UInt8.ofNat (48 + m % 10)]⟩ = C := ⟨_, rfl⟩
    have hCs : C.size = 1 := by rw [← hC]; rfl
    rw [hC] at hconv HW
    clear hC
    have hBa := hB.alloc hB.size (.cells #[.int .u8 (48 + (m : Int) % 10)] 5)
    by_cases hm0 : 0 < m
    · have g1 : (0 : Int) < (m : Int) := by omega
      have HW2 := HW (.inl (by omega))
      clear HW
      go_wp2
      go_roundw
      case rel => exact ⟨m / 10, _, by go_num, rfl, by omega, HW2, hBa⟩
      case measure => simp [intOf, empt, hCs]; omega
    · obtain rfl : m = 0 := by omega
      rw [show (48 + ((0 : Nat) : Int) % 10 : Int) = 48 by rfl] at hconv hBa
      by_cases hSe : S.data.toList = []
      · have g2 : S.toList.isEmpty = true := by rw [Lib.toList_data, hSe]; rfl
        have HW2 := HW (.inr hSe)
        have hS0 : Hid (S.size = 0) := by rw [← bytes_len, hSe]; rfl
        clear HW hSe hm0
        go_wp2
        go_roundw
        case rel => exact ⟨0, _, rfl, rfl, by omega, HW2, hBa⟩
        case measure => simp [intOf, empt, hS0.out, hCs]
      · have g2 : S.toList.isEmpty = false := by rw [Lib.toList_data, List.isEmpty_eq_false_iff]; exact hSe
        have HE : Hid (S = txt n) := by
          show _ = _
          rcases hW.out with ⟨e, _⟩ | ⟨_, ⟨_, e⟩ | ⟨e, _⟩⟩
          · exact absurd e hSe
          · apply ByteArray.ext
            apply Array.toList_inj.1
            rw [e, txt_data]
            simp [Lib.itoa]
          · exact absurd rfl e
        clear HW hSe hm0
        go_wp2
        go_ret
        exact ⟨by rw [HE.out]; rfl, hB⟩
end Go.Proofs.YtnekefchbienoaaDoor
