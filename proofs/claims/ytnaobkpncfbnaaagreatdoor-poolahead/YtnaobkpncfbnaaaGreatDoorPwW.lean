/-
  What is handed in to a law of a pool: a list of calls, each with bytes.
-/
import Derived.Test.YtnaobkpncfbnaaaGreatDoorPwA
namespace Go.Proofs.YtnaobkpncfbnaaaGreatDoor
open Go.RowKit
set_option linter.unusedVariables false

theorem umod (z : Int) (m : Nat) (hm : 0 < m) (hm2 : m ≤ 10) : ∃ t : Nat, t < m ∧ (IntKind.u64.wrap z).tmod (m : Int) = (t : Int) ∧ wrap64 (t : Int) = (t : Int) ∧ wrap64 (1 + (t : Int)) = ((t + 1 : Nat) : Int) := by
  have h0 : 0 ≤ IntKind.u64.wrap z := by
    simp only [IntKind.wrap]
    first | omega | exact Int.emod_nonneg _ (by decide)
  obtain ⟨n, hn⟩ := Int.eq_ofNat_of_zero_le h0
  refine ⟨n % m, Nat.mod_lt _ hm, ?_, ?_, ?_⟩
  · rw [hn]; exact (Int.ofNat_tmod n m).symm
  · have := Nat.mod_lt n hm
    unfold wrap64; omega
  · have := Nat.mod_lt n hm
    unfold wrap64; omega
theorem From.short {w : World} {ao : Option Addr} {n m : Nat} {f : Nat → Int} (h : From w ao n f) (hm : m ≤ n) : From w ao m f := by
  rcases h with ⟨h1, h2⟩ | ⟨x, h1, h2⟩
  · exact .inl ⟨h1, by omega⟩
  · exact .inr ⟨x, h1, fun i hi => h2 i (by omega)⟩
/-- What is handed in of the list: of each entry four cells, the last one bytes. -/
structure DoW (w : World) (b off : Nat) (op z l : Int) (a : Option Addr) (n c : Nat) (f : Nat → Int) : Prop where
  op_ : w.cell? ⟨b, off, none⟩ = some (.int .i64 op)
  n_ : w.cell? ⟨b, off + 1, none⟩ = some (.int .i64 z)
  l_ : w.cell? ⟨b, off + 2, none⟩ = some (.int .i64 l)
  ld : w.cell? ⟨b, off + 3, none⟩ = some (.slice a n c)
  from_ : From w a n f
  by_ : ∀ j, 0 ≤ f j ∧ f j ≤ 255
  lc : n ≤ c
  cm : c ≤ 9223372036854775807
  none_ : a = none → c = 0
def DosW (w : World) (a0 : Option Addr) (N : Nat) : Prop := ∀ r, r < N → ∃ b off, a0 = some ⟨b, off, none⟩ ∧ ∃ op z l a n c f, DoW w b (off + r * 4) op z l a n c f
theorem DoW.below {w w' : World} {B b off : Nat} {op z l : Int} {a : Option Addr} {n c : Nat} {f : Nat → Int} (h : DoW w b off op z l a n c f) (hb : Below B w w') (hB : w.heap.size ≤ B) : DoW w' b off op z l a n c f := by
  have key : ∀ p v, w.cell? p = some v → w'.cell? p = some v := fun p v hp => by
    rw [hb.cell (p := p) (Nat.lt_of_lt_of_le (World.block_lt_of_cell? w _ hp) hB)]; exact hp
  exact ⟨key _ _ h.op_, key _ _ h.n_, key _ _ h.l_, key _ _ h.ld, h.from_.below hb hB, h.by_, h.lc, h.cm, h.none_⟩
end Go.Proofs.YtnaobkpncfbnaaaGreatDoor
