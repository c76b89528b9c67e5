/-
  Numerals that are put together of parts with noughts ahead. No program, no condition.
  Words for memory that the wire layer's contracts are said in: which bytes a slice leads to (Lay), worlds that part in one block alone (Only). No program, no condition.
-/
import Derived.Test.YtpjgdpfpgpaenaaDoorGaa
import Derived.WalkKit
import Derived.Deep.QuietTactic
import Derived.Laws.BytesArg
namespace Go.Proofs.YtpjgdpfpgpaenaaDoor
open Go

/-- The last k digits of r, with noughts ahead. -/
def padk : Nat → Nat → List UInt8
  | 0, _ => []
  | k + 1, r => padk k (r / 10) ++ [Lib.dg r 0]
theorem padk_length (k : Nat) : ∀ r, (padk k r).length = k := by
  induction k with
  | zero => intro r; rfl
  | succ k ih => intro r; simp [padk, ih]
theorem dg0 (r : Nat) : Lib.dg r 0 = UInt8.ofNat (48 + r % 10) := by simp [Lib.dg]
theorem dec_pad : ∀ (k q r : Nat), q ≠ 0 → r < 10 ^ k → Lib.decDigits (q * 10 ^ k + r) = Lib.decDigits q ++ padk k r := by
  intro k
  induction k with
  | zero => intro q r _ h; simp at h; subst h; simp [padk]
  | succ k ih =>
    intro q r hq h
    have hp := pow_pos' 10 k (by decide)
    rw [Nat.pow_succ] at h
    have e1 : q * 10 ^ (k + 1) = q * 10 ^ k * 10 := by rw [Nat.pow_succ, Nat.mul_assoc]
    have h1 : 1 ≤ q * 10 ^ k := Nat.mul_pos (Nat.pos_of_ne_zero hq) hp
    rw [e1, Lib.decDigits, dif_neg (by omega), show (q * 10 ^ k * 10 + r) / 10 = q * 10 ^ k + r / 10 by omega, show (q * 10 ^ k * 10 + r) % 10 = r % 10 by omega, ih q (r / 10) hq (by omega), padk, dg0, List.append_assoc]
theorem pad_noughts : ∀ (k r : Nat), r < 10 ^ k → 0 < k → List.replicate (k - Lib.nDigits r) 48 ++ Lib.decDigits r = padk k r ∧ Lib.nDigits r ≤ k := by
  intro k
  induction k with
  | zero => intro r _ h; omega
  | succ k ih =>
    intro r h _
    rw [padk, dg0]
    by_cases hr : r < 10
    · rw [Lib.nDigits_small hr, Lib.decDigits_one hr, show r / 10 = 0 by omega, show r % 10 = r by omega, show k + 1 - 1 = k by omega]
      refine ⟨?_, by omega⟩
      congr 1
      clear ih h
      induction k with
      | zero => rfl
      | succ k ih =>
        rw [padk, List.replicate_succ', ih (by omega), dg0]
        rfl
    · have hk : 0 < k := by
        by_cases hk : k = 0
        · subst hk; simp at h; omega
        · omega
      obtain ⟨i1, i2⟩ := ih (r / 10) (by rw [Nat.pow_succ] at h; omega) hk
      rw [Lib.nDigits_big hr, Lib.decDigits, dif_neg hr, ← i1, show k + 1 - (Lib.nDigits (r / 10) + 1) = k - Lib.nDigits (r / 10) by omega, List.append_assoc]
      exact ⟨rfl, by omega⟩
/-- How a number's text goes on by a limb. -/
theorem dec_limb {n i : Nat} (h : n / 1000000000 ^ (i + 1) ≠ 0) :
    Lib.decDigits (n / 1000000000 ^ i) = Lib.decDigits (n / 1000000000 ^ (i + 1)) ++ (List.replicate (9 - Lib.nDigits (lb n i)) 48 ++ Lib.decDigits (lb n i)) := by
  have hl := lb_lt n i
  have e := dec_pad 9 (n / 1000000000 ^ (i + 1)) (lb n i) h (by simpa using hl)
  rw [(pad_noughts 9 (lb n i) (by simpa using hl) (by decide)).1, ← e]
  congr 1
  unfold lb
  rw [div_pow_succ]
  omega
theorem limb_digits (n i : Nat) : Lib.nDigits (lb n i) ≤ 9 := (pad_noughts 9 (lb n i) (by simpa using lb_lt n i) (by decide)).2
end Go.Proofs.YtpjgdpfpgpaenaaDoor

namespace Go.Proofs.YtpjgdpfpgpaenaaDoor
open Go.RowKit

/-- The slice's n bytes are f's (of none nothing is asked). -/
def Lay (w : World) (ao : Option Addr) (n : Nat) (f : Nat → Int) : Prop :=
  n = 0 ∨ ∃ b off, ao = some ⟨b, off, none⟩ ∧ ∀ i, i < n → w.cell? ⟨b, off + i, none⟩ = some (.int .u8 (f i))

def sh (f : Nat → Int) (p : Nat) : Nat → Int := fun i => f (p + i)
theorem sh_by {f : Nat → Int} (h : ∀ i, 0 ≤ f i ∧ f i ≤ 255) (p : Nat) : ∀ i, 0 ≤ sh f p i ∧ sh f p i ≤ 255 := fun i => h (p + i)

/-- The worlds part in block R alone; nothing is made or let go. -/
structure Only (R : Nat) (w w' : World) : Prop where
  os : w'.os = w.os
  tape : w'.tape = w.tape
  output : w'.output = w.output
  size : w'.heap.size = w.heap.size
  block : ∀ k, k ≠ R → w'.heap[k]? = w.heap[k]?

theorem Only.refl (R : Nat) (w : World) : Only R w w := ⟨rfl, rfl, rfl, rfl, fun _ _ => rfl⟩
theorem Only.trans {R : Nat} {a b c : World} (h : Only R a b) (k : Only R b c) : Only R a c :=
  ⟨k.os.trans h.os, k.tape.trans h.tape, k.output.trans h.output, k.size.trans h.size, fun i hi => (k.block i hi).trans (h.block i hi)⟩
theorem Only.setCell {R : Nat} {a w : World} (h : Only R a w) {p : Addr} (hp : p.block = R) (u : Value) : Only R a (w.setCell p u) :=
  h.trans ⟨rfl, rfl, rfl, by simp [World.setCell], fun k hk => Below.heap_setCell _ _ _ _ (by omega)⟩
theorem Only.drewN {R : Nat} {a w : World} (h : Only R a w) (q : Nat) : Only R a (w.drewN q) := h.trans ⟨rfl, rfl, rfl, rfl, fun _ _ => rfl⟩
theorem Only.below {R B : Nat} {w w' : World} (h : Only R w w') (hB : B ≤ R) : Below B w w' :=
  ⟨h.os, h.tape, h.output, Nat.le_of_eq h.size.symm, fun k hk => h.block k (by omega)⟩
theorem Only.cell {R : Nat} {w w' : World} (h : Only R w w') {p : Addr} (hp : p.block ≠ R) : w'.cell? p = w.cell? p := World.cell?_of_block (w := w) (h.block p.block hp)
theorem Only.frozen {R : Nat} {w w' : World} (h : Only R w w') {p : Addr} (hp : p.block ≠ R) : w'.frozen? p = w.frozen? p := World.frozen?_of_block (w := w) (h.block p.block hp)

theorem blw_drewN {B : Nat} {a w : World} (n : Nat) (h : Below B a w) : Below B a (w.drewN n) := h.trans ⟨rfl, rfl, rfl, Nat.le_refl _, fun _ _ => rfl⟩

theorem own_form {w : World} {base : Nat} {e : TypeId} {v : Value} {n : Nat} {xs : List Value} (h : w.ownsRow base e 1 v n xs) (hne : v ≠ .slice none 0 0) :
    ∃ g cap, v = .slice (some ⟨g, 0, none⟩) n cap ∧ base ≤ g ∧ g < w.heap.size ∧ n ≤ cap ∧ cap ≤ maxLen := by
  rcases h.2 with ⟨h1, _⟩ | ⟨g, cap, cur, h1, h2, h3, h4, h5, _⟩
  · exact absurd h1 hne
  · exact ⟨g, cap, h1, h2, (Array.getElem?_eq_some_iff.1 h3).1, h4, h5⟩

/-- The first m numbers of f, as a list. -/
def lst (f : Nat → Int) (m : Nat) : List Int := (List.range m).map f
theorem lst_length (f : Nat → Int) (m : Nat) : (lst f m).length = m := by simp [lst]
theorem lst_getD (f : Nat → Int) (m i : Nat) (h : i < m) : (lst f m).getD i 0 = f i := by simp [lst, List.getD, h]
theorem lst_get (f : Nat → Int) (m i : Nat) (h : i < m) : (lst f m)[i]? = some (f i) := by simp [lst, h]

/-- The text of the first m numbers of f. -/
def strF (f : Nat → Int) (m : Nat) : ByteArray := strOfNums (lst f m)

end Go.Proofs.YtpjgdpfpgpaenaaDoor
