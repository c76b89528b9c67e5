/-
  A message and its parts: what is read of bytes is the parts of just that message. Plain facts.
-/
import Derived.Test.YtdcclfnbpckioaaGreatDoorNqM
namespace Go.Proofs.YtdcclfnbpckioaaGreatDoor
open Go.RowKit
set_option linter.unusedVariables false

theorem unf_at {f g : Nat → Int} {n m : Nat} (hm : m ≤ 65536) (hg : ∀ i, 0 ≤ g i ∧ g i ≤ 255) (h : lst f n = frameB g m) : unf f n = (0, lst g m, []) := by
  have hl := congrArg List.length h
  rw [lst_length, frameB_len] at hl
  have hs := Crc.sum_lt (lstN g m) (lstN_by hg m)
  have hi : ∀ i, i < n → f i = fn (frameB g m) i := fun i hi => by
    rw [← lst_getD f n i hi, h]; rfl
  have e : Wm.num f n = ((m : Int), (((putB m).length : Nat) : Int), 0) := num_at f n m (lst g m ++ fourB (Crc.sum (lstN g m))) (by omega) (by rw [h, frameB, List.append_assoc])
  unfold unf
  rw [e]
  rw [if_neg (by simp), if_neg (by simp only; omega), if_neg (by simp only [Int.toNat_natCast]; omega)]
  simp only [Int.toNat_natCast]
  have h1 : rd (sh f ((putB m).length + m)) 4 = Crc.sum (lstN g m) := rd_four _ hs _ (fun i hi' => by
    rw [sh, hi _ (by omega)]
    exact frame_sum g m i hi')
  have h2 : lstN (sh f (putB m).length) m = lstN g m := lstN_congr (fun i hi' => by
    rw [sh, hi _ (by omega)]
    exact frame_load g m i hi')
  have h3 : lst (sh f (putB m).length) m = lst g m := lst_congr (fun i hi' => by
    rw [sh, hi _ (by omega)]
    exact frame_load g m i hi')
  rw [h1, h2, if_neg (by simp), h3, show n - (putB m).length - (m + 4) = 0 by omega]
  rfl

/-- The load of a message: its mark, and its parts. -/
def load (mk : Int) (is : List It) : List Int := mk :: bytesAll is
def msg (mk : Int) (is : List It) : List Int := frameB (fn (load mk is)) (load mk is).length
theorem It.by_ (i : It) (k : Option Nat) (h : i.fits k) (hk : ∀ m, k = some m → m ≤ 65536) : (∀ x ∈ i.bytes, 0 ≤ x ∧ x ≤ 255) := by
  cases i with
  | num n =>
    cases k with
    | none => exact putB_by 8 n (by have : n ≤ 9223372036854775807 := h; omega)
    | some m => exact False.elim h
  | txt s =>
    cases k with
    | none => exact False.elim h
    | some m =>
      have := hk m rfl
      have h2 : s.size ≤ m := h
      intro x hx
      rw [It.bytes, List.mem_append] at hx
      rcases hx with hx | hx
      · exact putB_by 8 s.size (by omega) x hx
      · exact strL_by s x hx
theorem Fits.by_ : ∀ (ks : List (Option Nat)) (is : List It), Fits ks is → (∀ k ∈ ks, ∀ m, k = some m → m ≤ 65536) → ∀ x ∈ bytesAll is, 0 ≤ x ∧ x ≤ 255
  | [], [], _, _ => fun x hx => by simp [bytesAll] at hx
  | [], i :: is, hf, _ => False.elim hf
  | k :: ks, [], hf, _ => False.elim hf
  | k :: ks, i :: is, hf, hk => fun x hx => by
    have hb : bytesAll (i :: is) = i.bytes ++ bytesAll is := by simp [bytesAll]
    rw [hb, List.mem_append] at hx
    rcases hx with hx | hx
    · exact It.by_ i k hf.1 (hk k (by simp)) x hx
    · exact Fits.by_ ks is hf.2 (fun k hk' => hk k (by simp [hk'])) x hx
/-- The parts of a message of this mark and form, if the bytes are one. -/
def prs (mk : Int) (ks : List (Option Nat)) (f : Nat → Int) (n : Nat) : Option (List It) :=
  if (unf f n).1 = 0 ∧ (unf f n).2.2 = [] ∧ (unf f n).2.1 ≠ [] ∧ fn (unf f n).2.1 0 = mk then
    (rdAll (fn (unf f n).2.1) (unf f n).2.1.length ks 1).bind fun x => if x.2 = (unf f n).2.1.length then some x.1 else none
  else none
section
variable {mk : Int} {ks : List (Option Nat)} {f : Nat → Int} {n : Nat} {is : List It}
theorem prs_sound (hf : ∀ i, 0 ≤ f i ∧ f i ≤ 255) (hk : ∀ k ∈ ks, ∀ m, k = some m → m ≤ 65536) (h : prs mk ks f n = some is) : Fits ks is ∧ lst f n = msg mk is ∧ (load mk is).length ≤ 65536 ∧ unf f n = (0, load mk is, []) := by
  unfold prs at h
  split at h
  · rename_i g
    obtain ⟨g1, g2, g3, g4⟩ := g
    rw [Option.bind_eq_some_iff] at h
    obtain ⟨⟨js, p⟩, h1, h2⟩ := h
    simp only at h2
    split at h2
    · rename_i hp
      cases h2
      obtain ⟨u1, u2, u3⟩ := unf_sound hf g1 g2
      have hpos : 1 ≤ (unf f n).2.1.length := by
        rcases hL : (unf f n).2.1 with _ | ⟨y, ys⟩
        · exact absurd hL g3
        · simp
      obtain ⟨s1, s2, s3, s4⟩ := rdAll_sound (fn_by u3) ks 1 is p hk hpos h1
      have hL : (unf f n).2.1 = load mk is := by
        rw [← lst_fn (unf f n).2.1, show (unf f n).2.1.length = 1 + (p - 1) by omega, lst_add, s3, show lst (fn (unf f n).2.1) 1 = [fn (unf f n).2.1 0] from rfl, g4]
        rfl
      refine ⟨s4, ?_, by rw [← hL]; exact u2, ?_⟩
      · rw [u1, hL, msg]
      · rw [← hL, ← g1, ← g2]
    · cases h2
  · cases h
theorem load_by (hmk : 0 ≤ mk ∧ mk ≤ 255) (hk : ∀ k ∈ ks, ∀ m, k = some m → m ≤ 65536) (hfit : Fits ks is) : ∀ x ∈ load mk is, 0 ≤ x ∧ x ≤ 255 := fun x hx => by
  rw [load, List.mem_cons] at hx
  rcases hx with rfl | hx
  · exact hmk
  · exact Fits.by_ ks is hfit hk x hx
theorem prs_unf (hmk : 0 ≤ mk ∧ mk ≤ 255) (hk : ∀ k ∈ ks, ∀ m, k = some m → m ≤ 65536) (hfit : Fits ks is) (hlen : (load mk is).length ≤ 65536) (h : lst f n = msg mk is) : unf f n = (0, load mk is, []) := by
  rw [unf_at hlen (fn_by (load_by hmk hk hfit)) h, lst_fn]
theorem load_rd (hk : ∀ k ∈ ks, ∀ m, k = some m → m ≤ 65536) (hfit : Fits ks is) : rdAll (fn (load mk is)) (load mk is).length ks 1 = some (is, (load mk is).length) := by
  refine rdAll_back _ _ ks is 1 hk (by simp [load]) hfit ?_
  have : sh (fn (load mk is)) 1 = fn (bytesAll is) := sh_right [mk] (bytesAll is)
  rw [this, show (load mk is).length - 1 = (bytesAll is).length by simp [load], lst_fn]
theorem prs_back (hmk : 0 ≤ mk ∧ mk ≤ 255) (hk : ∀ k ∈ ks, ∀ m, k = some m → m ≤ 65536) (hfit : Fits ks is) (hlen : (load mk is).length ≤ 65536) (h : lst f n = msg mk is) : prs mk ks f n = some is := by
  unfold prs
  rw [prs_unf hmk hk hfit hlen h]
  simp only
  rw [if_pos ⟨trivial, trivial, by simp [load], rfl⟩, load_rd hk hfit]
  simp
end
theorem It.len (i : It) (k : Option Nat) (h : i.fits k) (hk : ∀ m, k = some m → m ≤ 65536) : i.bytes.length ≤ 9 + k.getD 0 := by
  cases i with
  | num n =>
    cases k with
    | none => exact putB_le n h
    | some m => exact False.elim h
  | txt s =>
    cases k with
    | none => exact False.elim h
    | some m =>
      have := hk m rfl
      have h2 : s.size ≤ m := h
      have h3 := putB_le s.size (by omega)
      rw [It.bytes, List.length_append, strL_length]
      simp
      omega
theorem Fits.len : ∀ (ks : List (Option Nat)) (is : List It), Fits ks is → (∀ k ∈ ks, ∀ m, k = some m → m ≤ 65536) → (bytesAll is).length ≤ (ks.map (fun k => 9 + k.getD 0)).sum
  | [], [], _, _ => by simp [bytesAll]
  | [], i :: is, hf, _ => False.elim hf
  | k :: ks, [], hf, _ => False.elim hf
  | k :: ks, i :: is, hf, hk => by
    have hb : bytesAll (i :: is) = i.bytes ++ bytesAll is := by simp [bytesAll]
    have h1 := It.len i k hf.1 (hk k (by simp))
    have h2 := Fits.len ks is hf.2 (fun k hk' => hk k (by simp [hk']))
    rw [hb, List.length_append, List.map_cons, List.sum_cons]
    omega
end Go.Proofs.YtdcclfnbpckioaaGreatDoor
