/-
  Contracts of wire's Reader: Uint, Byte, Text, Left, End, on a reader that has read p of n bytes.
-/
import Derived.Test.YtdcclfnbpckioaaGreatDoorRd
namespace Go.Proofs.YtdcclfnbpckioaaGreatDoor
open Go.RowKit
set_option linter.unusedVariables false

theorem ret2i {a b a' b' : Int} (h1 : a = a') (h2 : b = b') : Ending.returned (.tuple #[.int .i64 a, .int .i64 b]) = .returned (.tuple #[.int .i64 a', .int .i64 b']) := by rw [h1, h2]

theorem moved_set {w : World} {R : Nat} {ao : Option Addr} {cap : Nat} {f : Nat → Int} {n p : Nat} (h : RdInv w R ao cap f n p) (s : Int) (h0 : 0 ≤ s) (h1 : s ≤ ((n - p : Nat) : Int)) :
    RdInv (w.setCell ⟨R, 1, none⟩ (.int .i64 ((p : Int) + s))) R ao cap f n (p + s.toNat) := by
  have hp := h.hp
  obtain ⟨e0, e1, e2, e3⟩ := set_keeps w R (.int .i64 ((p : Int) + s)) _ h.at_ h.free
  exact h.moved ((Only.refl R w).setCell rfl _) (by omega) e0 (by rw [e1]; congr 2; omega) e2 e3

theorem RdInv.drewN {w : World} {R : Nat} {ao : Option Addr} {cap : Nat} {f : Nat → Int} {n p : Nat} (h : RdInv w R ao cap f n p) (q : Nat) : RdInv (w.drewN q) R ao cap f n p := h.kept rfl (fun _ _ _ => rfl)

/-- What a text's reading comes to: its bytes, the error, where the reader then stands. -/
def txt (f : Nat → Int) (n p : Nat) (most : Int) : ByteArray × Int × Nat :=
  if (Wm.num (sh f p) (n - p)).2.2 ≠ 0 then (ByteArray.empty, (Wm.num (sh f p) (n - p)).2.2, p)
  else if max most 0 < (Wm.num (sh f p) (n - p)).1 then (ByteArray.empty, 12, p)
  else if ((n - p : Nat) : Int) - (Wm.num (sh f p) (n - p)).2.1 < (Wm.num (sh f p) (n - p)).1 then (ByteArray.empty, 10, p)
  else (strF (sh f (p + (Wm.num (sh f p) (n - p)).2.1.toNat)) (Wm.num (sh f p) (n - p)).1.toNat, 0, p + (Wm.num (sh f p) (n - p)).2.1.toNat + (Wm.num (sh f p) (n - p)).1.toNat)


theorem conv_at (b off m c : Nat) (f : Nat → Int) (w : World) (hc : ∀ i, i < m → w.cell? ⟨b, off + i, none⟩ = some (.int .u8 (f i))) :
    (convert 22 9 (.slice (some ⟨b, off, none⟩) m c)).run Tryz.prog w = .ok (.string (strF f m)) w :=
  run_convert_bytes_arg w 22 5 Tryz.underlying22 Tryz.underlying5 b off m c (lst f m) (lst_length f m) (fun i hi => by rw [hc i hi, lst_getD f m i hi]) 9 Tryz.underlying9


end Go.Proofs.YtdcclfnbpckioaaGreatDoor
