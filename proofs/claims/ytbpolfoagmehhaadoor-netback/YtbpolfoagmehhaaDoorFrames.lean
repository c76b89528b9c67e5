/-
  The law WireFrames: the walk. Conditions: each slice has at most 2^47 bytes; the table is laid.
-/
import Derived.Test.YtbpolfoagmehhaaDoorTornMath
import Derived.Test.YtbpolfoagmehhaaDoorUnfY
namespace Go.Proofs.YtbpolfoagmehhaaDoor
open Go.RowKit
set_option linter.unusedVariables false

theorem xUnframe (ao : Option Addr) (n c : Nat) (f : Nat → Int) (w : World) (hbig : n ≤ 140737488355328) (hby : ∀ i, 0 ≤ f i ∧ f i ≤ 255) (hf : From w ao n f) (hnc : n ≤ c) (hc : c ≤ 9223372036854775807) :
    Calls Tryd.prog 25 #[.slice ao n c] w fun e' w' => ∃ v1 v2, e' = .returned (.tuple #[v1, v2, .int .i64 (unf f n).1]) ∧ Own w' w.heap.size v1 (unf f n).2.1 ∧ Own w' w.heap.size v2 (unf f n).2.2 ∧ Below w.heap.size w w' := by
  have HN := Wm.num_bd f n
  have HP := Wm.num_pos f n
  have hl := hf.lay
  unfold unf
  obtain ⟨N, hN⟩ : ∃ N, N = Wm.num f n := ⟨_, rfl⟩
  rw [← hN] at HN HP ⊢
  obtain ⟨a, s, e⟩ := N
  obtain ⟨b1, b2, b3, b4, b5⟩ := HN
  by_cases he : e = 0
  · have hs0 := HP he
    subst he
    obtain ⟨m, hm⟩ := Int.eq_ofNat_of_zero_le b1
    obtain ⟨k, hk⟩ := Int.eq_ofNat_of_zero_le b3
    simp only at hm hk b1 b2 b3 b4 hs0
    subst hm hk
    rw [if_neg (by simp)]
    by_cases hmx : (65536 : Int) < (m : Int)
    · rw [if_pos hmx]
      exact (xUnf_long ao n c f w hbig hby hl m k hN.symm hmx).mono fun e' w' ⟨h1, h2⟩ => ⟨_, _, h1, own_nil _ _, own_nil _ _, by rw [h2]; exact Below.refl _ _⟩
    · rw [if_neg hmx]
      simp only [Int.toNat_natCast]
      obtain ⟨b, off, rfl, hcell⟩ := hl.resolve_left (by omega)
      by_cases hsh : n - k < m + 4
      · rw [if_pos hsh]
        exact (xUnf_short (some ⟨b, off, none⟩) n c m k f w hbig hby hl hN.symm (by omega) (by omega) (by omega)).mono fun e' w' ⟨h1, h2⟩ => ⟨_, _, h1, own_nil _ _, own_nil _ _, by rw [h2]; exact Below.refl _ _⟩
      · rw [if_neg hsh]
        by_cases hr : rd (sh f (k + m)) 4 = Crc.sum (lstN (sh f k) m)
        · rw [if_neg (by simpa using hr)]
          refine (xUnf_full b off n c m k f w hbig hby hcell hnc hc hN.symm (by omega) (by omega) (by omega) false (by simp [hr])).mono ?_
          rintro e' w' ⟨h1, ⟨h2, _⟩ | ⟨_, v1, v2, h2, h3, h4⟩⟩
          · cases h2
          · exact ⟨v1, v2, h2, h3, h4, h1⟩
        · rw [if_pos hr]
          refine (xUnf_full b off n c m k f w hbig hby hcell hnc hc hN.symm (by omega) (by omega) (by omega) true (by simp [hr])).mono ?_
          rintro e' w' ⟨h1, ⟨_, h2⟩ | ⟨h2, _⟩⟩
          · exact ⟨_, _, h2, own_nil _ _, own_nil _ _, h1⟩
          · cases h2
  · rw [if_pos he]
    exact (xUnf_err ao n c f w hbig hby hl a s e hN.symm (by simpa using he)).mono fun e' w' ⟨h1, h2⟩ => ⟨_, _, h1, own_nil _ _, own_nil _ _, by rw [h2]; exact Below.refl _ _⟩

/-- A frame's bytes, or the error. -/
def frm (f : Nat → Int) (n : Nat) : Int × List Int := if 65536 < n then (12, []) else (0, frameB f n)
theorem wFrm (a0 : Option Addr) (n c : Nat) (f : Nat → Int) (w : World) (hby : ∀ i, 0 ≤ f i ∧ f i ≤ 255) (hf : From w a0 n f) (hc0 : a0 = none → c = 0) (ht : Tab w) :
    Calls Tryd.prog 37 #[.slice a0 n c] w fun e w' => ∃ v', e = .returned (.tuple #[v', .int .i64 (frm f n).1]) ∧ Own w' w.heap.size v' (frm f n).2 ∧ Below w.heap.size w w' := by
  unfold frm
  by_cases h : 65536 < n
  · rw [if_pos h]
    exact (wFrame_long a0 n c w h).mono fun e w' ⟨h1, h2⟩ => ⟨_, h1, own_nil _ _, by rw [h2]; exact Below.refl _ _⟩
  · rw [if_neg h]
    exact wFrame_ok a0 n c f w (by omega) hby hf hc0 ht
theorem xFrm (a0 : Option Addr) (n c : Nat) (f : Nat → Int) (w : World) (hby : ∀ i, 0 ≤ f i ∧ f i ≤ 255) (hf : From w a0 n f) (hc0 : a0 = none → c = 0) :
    Calls Tryd.prog 22 #[.slice a0 n c] w fun e w' => ∃ v', e = .returned (.tuple #[v', .int .i64 (frm f n).1]) ∧ Own w' w.heap.size v' (frm f n).2 ∧ Below w.heap.size w w' := by
  unfold frm
  by_cases h : 65536 < n
  · rw [if_pos h]
    exact (xFrame_long a0 n c w h).mono fun e w' ⟨h1, h2⟩ => ⟨_, h1, own_nil _ _, by rw [h2]; exact Below.refl _ _⟩
  · rw [if_neg h]
    exact xFrame_ok a0 n c f w (by omega) hby hf hc0

/-- Two slices of the call's own that have the same bytes. -/
theorem equal_own {w : World} {B1 B2 : Nat} {v1 v2 : Value} {xs : List Int} (h1 : Own w B1 v1 xs) (h2 : Own w B2 v2 xs) : Calls Tryd.prog 10 #[v1, v2] w fun e w' => e = .returned (.bool true) ∧ w' = w := by
  obtain ⟨a1, c1, rfl, f1, _⟩ := h1.open
  obtain ⟨a2, c2, rfl, f2, _⟩ := h2.open
  exact equal_yes a1 a2 xs.length c1 xs.length c2 (fn xs) (fn xs) w f1 f2 rfl

end Go.Proofs.YtbpolfoagmehhaaDoor
