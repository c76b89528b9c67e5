/-
  A message's parts: how they are written, how they are read, and that what is read has one form. Plain facts.
-/
import Derived.Test.YtdcclfnbpckioaaGreatDoorOverD
import Derived.Test.YtdcclfnbpckioaaGreatDoorFrames
import Derived.Test.YtdcclfnbpckioaaGreatDoorRdX
namespace Go.Proofs.YtdcclfnbpckioaaGreatDoor
open Go.RowKit
set_option linter.unusedVariables false

theorem sh_sh (f : Nat → Int) (p q : Nat) : sh (sh f p) q = sh f (p + q) := by funext i; simp [sh, Nat.add_assoc]
theorem sh_zero (f : Nat → Int) : sh f 0 = f := by funext i; simp [sh]
theorem sh_right (A B : List Int) : sh (fn (A ++ B)) A.length = fn B := by funext i; exact fn_right A B i
theorem lst_congr {g g' : Nat → Int} {n : Nat} (h : ∀ i, i < n → g i = g' i) : lst g n = lst g' n := by
  apply List.map_congr_left
  intro i hi
  exact h i (List.mem_range.1 hi)
theorem lst_add (f : Nat → Int) (m k : Nat) : lst f (m + k) = lst f m ++ lst (sh f m) k := by
  simp [lst, List.range_add, sh, Function.comp_def]
theorem strF_strL (s : ByteArray) : strOfNums (strL s) = s := by
  unfold strOfNums strL
  cases s with
  | mk data =>
    have c : ((fun n : Int => UInt8.ofNat n.toNat) ∘ fun b : UInt8 => (b.toNat : Int)) = id := by funext b; simp
    simp [c]
theorem strF_of (s : ByteArray) (B : List Int) : strF (fn (strL s ++ B)) s.size = s := by
  have e : lst (fn (strL s ++ B)) s.size = strL s := by
    rw [← strL_length s, lst_congr (g' := fn (strL s)) (fun i hi => by rw [fn_left _ _ i hi]; rfl)]
    exact lst_fn _
  unfold strF
  rw [e]
  exact strF_strL s
theorem strL_by (s : ByteArray) : ∀ x ∈ strL s, 0 ≤ x ∧ x ≤ 255 := fun x hx => by
  simp only [strL, List.mem_map] at hx
  obtain ⟨b, _, rfl⟩ := hx
  have := b.toNat_lt
  omega
theorem strL_strF {g : Nat → Int} (hg : ∀ i, 0 ≤ g i ∧ g i ≤ 255) (m : Nat) : strL (strF g m) = lst g m := by
  have e : strF (fn (strL (strF g m))) (strL (strF g m)).length = strF g m := by
    unfold strF
    rw [lst_fn]
    exact strF_strL _
  have h := strF_inj (fun i => fn_by (strL_by _) i) hg e
  rw [lst_fn] at h
  exact h
theorem strL_inj {s t : ByteArray} (h : strL s = strL t) : s = t := by rw [← strF_strL s, h, strF_strL]

theorem accum_shift (f : Nat → Int) (k : Nat) : Wm.accum f (k + 1) = f 0 % 128 + 128 * Wm.accum (sh f 1) k := by
  induction k with
  | zero => simp [Wm.accum]
  | succ k ih =>
    have e : Wm.accum f (k + 1 + 1) = Wm.accum f (k + 1) + (f (k + 1) % 128) * 2 ^ (7 * (k + 1)) := rfl
    have e2 : Wm.accum (sh f 1) (k + 1) = Wm.accum (sh f 1) k + (f (k + 1) % 128) * 2 ^ (7 * k) := by simp [Wm.accum, sh, Nat.add_comm]
    have e3 : (f (k + 1) % 128) * 2 ^ (7 * (k + 1)) = 128 * ((f (k + 1) % 128) * 2 ^ (7 * k)) := by
      rw [Wm.pow7, ← Int.mul_assoc, Int.mul_comm]
    rw [e, ih, e2, e3, Int.mul_add]
    omega
theorem accum_pos (f : Nat → Int) (k : Nat) (h0 : 0 < f k) (h1 : f k < 128) : 0 < Wm.accum f (k + 1) := by
  have hp := Wm.pow7_pos k
  have hb := (Wm.accum_bd f k).1
  have e : f k % 128 = f k := Int.emod_eq_of_lt (by omega) h1
  have h : 0 < f k * 2 ^ (7 * k) := Int.mul_pos h0 hp
  rw [Wm.accum, e]
  omega
theorem one_form (m : Nat) : ∀ g : Nat → Int, (∀ i, 0 ≤ g i ∧ g i ≤ 255) → (∀ j, j < m → 128 ≤ g j) → g m < 128 → (0 < m → g m ≠ 0) → putB (Wm.accum g (m + 1)).toNat = lst g (m + 1) := by
  induction m with
  | zero =>
    intro g hg _ h1 _
    have := hg 0
    have e : Wm.accum g (0 + 1) = g 0 := by simp [Wm.accum]; omega
    rw [e, putB_small _ (by omega)]
    simp [lst]
    omega
  | succ m ih =>
    intro g hg hj h1 h2
    have hA := ih (sh g 1) (fun i => hg (1 + i)) (fun j hj' => by have := hj (1 + j) (by omega); exact this) (by rw [sh, Nat.add_comm]; exact h1) (fun _ => by rw [sh, Nat.add_comm]; exact h2 (by omega))
    have hp : 0 < Wm.accum (sh g 1) (m + 1) := accum_pos _ _ (by have := hg (1 + m); have := h2 (by omega); rw [Nat.add_comm] at this; rw [sh]; omega) (by rw [sh, Nat.add_comm]; exact h1)
    have h0 := hg 0
    have h8 := hj 0 (by omega)
    rw [accum_shift]
    generalize Wm.accum (sh g 1) (m + 1) = A at hA hp
    have e1 : (g 0 % 128 + 128 * A).toNat % 128 + 128 = (g 0).toNat := by omega
    have e2 : (g 0 % 128 + 128 * A).toNat / 128 = A.toNat := by omega
    rw [putB_more _ (by omega), e1, e2, hA, show m + 1 + 1 = 1 + (m + 1) by omega, lst_add g 1 (m + 1), show lst g 1 = [g 0] from rfl, Int.toNat_of_nonneg h0.1]
    rfl
theorem numAt_sound (f : Nat → Int) (n : Nat) : ∀ (r k : Nat) (a s : Int), Wm.numAt f n r k = (a, s, 0) → (∀ j, j < k → 128 ≤ f j) → ∃ m : Nat, s = (m : Int) + 1 ∧ m < n ∧ a = Wm.accum f (m + 1) ∧ (∀ j, j < m → 128 ≤ f j) ∧ f m < 128 ∧ (0 < m → f m ≠ 0) := by
  intro r
  induction r with
  | zero => intro k a s h; simp [Wm.numAt] at h
  | succ r ih =>
    intro k a s h hj
    rw [Wm.numAt] at h
    split at h
    · simp at h
    · split at h
      · rename_i h8
        refine ih (k + 1) a s h (fun j hj' => ?_)
        rcases Nat.lt_or_ge j k with g | g
        · exact hj j g
        · rw [show j = k by omega]; exact h8
      · split at h
        · simp at h
        · rename_i h1 h2 h3
          simp only [Prod.mk.injEq] at h
          exact ⟨k, h.2.1.symm, by omega, h.1.symm, hj, by omega, fun h0 h5 => h3 ⟨h5, h0⟩⟩
theorem num_sound {f : Nat → Int} (hf : ∀ i, 0 ≤ f i ∧ f i ≤ 255) {n : Nat} (h : (Wm.num f n).2.2 = 0) : putB (Wm.num f n).1.toNat = lst f (Wm.num f n).2.1.toNat ∧ (Wm.num f n).2.1.toNat ≤ n := by
  obtain ⟨m, h1, h2, h3, h4, h5, h6⟩ := numAt_sound f n 9 0 (Wm.num f n).1 (Wm.num f n).2.1 (by rw [← h]; rfl) (fun j hj => by omega)
  rw [h1, h3, show ((m : Int) + 1).toNat = m + 1 by omega]
  exact ⟨one_form m f hf h4 h5 h6, by omega⟩
theorem num_head (n : Nat) (B : List Int) (L : Nat) (hn : n ≤ 9223372036854775807) (hL : (putB n).length ≤ L) : Wm.num (fn (putB n ++ B)) L = ((n : Int), (((putB n).length : Nat) : Int), 0) := by
  rw [num_put (fn (putB n ++ B)) L n hn (fun i hi => fn_left _ _ i hi), if_pos hL]
theorem num_at (g : Nat → Int) (L n : Nat) (B : List Int) (hn : n ≤ 9223372036854775807) (h : lst g L = putB n ++ B) : Wm.num g L = ((n : Int), (((putB n).length : Nat) : Int), 0) := by
  have hl : L = (putB n).length + B.length := by have := congrArg List.length h; rwa [lst_length, List.length_append] at this
  rw [num_put g L n hn (fun i hi => by rw [← lst_getD g L i (by omega), h]; exact fn_left _ _ i hi), if_pos (by omega)]

/-- A part of a message: a number, or a text. -/
inductive It where
  | num (n : Nat)
  | txt (s : ByteArray)
def It.bytes : It → List Int
  | .num n => putB n
  | .txt s => putB s.size ++ strL s
/-- A number, or a text of at most so many bytes. -/
def It.fits : Option Nat → It → Prop
  | none, .num n => n ≤ 9223372036854775807
  | some m, .txt s => s.size ≤ m
  | _, _ => False
def step (f : Nat → Int) (n p : Nat) : Option Nat → Option (It × Nat)
  | none => if (Wm.num (sh f p) (n - p)).2.2 = 0 then some (.num (Wm.num (sh f p) (n - p)).1.toNat, p + (Wm.num (sh f p) (n - p)).2.1.toNat) else none
  | some m => if (txt f n p m).2.1 = 0 then some (.txt (txt f n p m).1, (txt f n p m).2.2) else none
theorem step_sound {f : Nat → Int} (hf : ∀ i, 0 ≤ f i ∧ f i ≤ 255) {n p : Nat} (hp : p ≤ n) {k : Option Nat} {i : It} {p' : Nat} (hk : ∀ m, k = some m → m ≤ 65536) (h : step f n p k = some (i, p')) : p ≤ p' ∧ p' ≤ n ∧ lst (sh f p) (p' - p) = i.bytes ∧ i.fits k := by
  cases k with
  | none =>
    simp only [step] at h
    split at h
    · rename_i h0
      obtain ⟨rfl, rfl⟩ := by simpa using h
      obtain ⟨h1, h2⟩ := num_sound (f := sh f p) (sh_by hf p) h0
      obtain ⟨b1, b2, b3, b4, b5⟩ := Wm.num_bd (sh f p) (n - p)
      refine ⟨by omega, by omega, ?_, ?_⟩
      · rw [Nat.add_sub_cancel_left, It.bytes, h1]
      · show _ ≤ _
        omega
    · cases h
  | some m =>
    have hm := hk m rfl
    simp only [step] at h
    split at h
    · rename_i h0
      obtain ⟨rfl, rfl⟩ := by simpa using h
      unfold txt at h0 ⊢
      obtain ⟨b1, b2, b3, b4, b5⟩ := Wm.num_bd (sh f p) (n - p)
      split at h0
      · rename_i g; exact absurd h0 g
      · rename_i g0
        rw [if_neg g0]
        split at h0
        · cases h0
        · rename_i g1
          rw [if_neg g1]
          split at h0
          · cases h0
          · rename_i g2
            rw [if_neg g2]
            obtain ⟨h1, h2⟩ := num_sound (f := sh f p) (sh_by hf p) (by simpa using g0)
            generalize Wm.num (sh f p) (n - p) = N at *
            obtain ⟨a, k, e⟩ := N
            simp only at *
            refine ⟨by omega, by omega, ?_, ?_⟩
            · have hs : (strF (sh f (p + k.toNat)) a.toNat).size = a.toNat := by
                rw [← strL_length, strL_strF (sh_by hf _), lst_length]
              rw [It.bytes, hs, h1, strL_strF (sh_by hf _), show p + k.toNat + a.toNat - p = k.toNat + a.toNat by omega, lst_add, sh_sh]
            · show (strF (sh f (p + k.toNat)) a.toNat).size ≤ m
              rw [← strL_length, strL_strF (sh_by hf _), lst_length]
              omega
    · cases h
theorem step_back (f : Nat → Int) (n p : Nat) (hp : p ≤ n) (k : Option Nat) (i : It) (R : List Int) (hk : ∀ m, k = some m → m ≤ 65536) (hfit : i.fits k) (h : lst (sh f p) (n - p) = i.bytes ++ R) : step f n p k = some (i, p + i.bytes.length) := by
  cases k with
  | none =>
    cases i with
    | txt s => exact False.elim hfit
    | num a =>
      have e := num_at (sh f p) (n - p) a R hfit h
      simp only [step, e, if_true]
      simp [It.bytes]
  | some m =>
    cases i with
    | num a => exact False.elim hfit
    | txt s =>
      have hm := hk m rfl
      have hs : s.size ≤ m := hfit
      rw [It.bytes, List.append_assoc] at h
      have e := num_at (sh f p) (n - p) s.size (strL s ++ R) (by omega) h
      have hl := congrArg List.length h
      rw [lst_length, List.length_append, List.length_append, strL_length] at hl
      have e2 : strF (sh f (p + (putB s.size).length)) s.size = s := by
        have g : lst (sh f (p + (putB s.size).length)) s.size = strL s := by
          rw [show n - p = (putB s.size).length + (s.size + R.length) by omega, lst_add, sh_sh, lst_add, sh_sh] at h
          have h2 := (List.append_inj h (by rw [lst_length])).2
          exact (List.append_inj h2 (by rw [lst_length, strL_length])).1
        unfold strF
        rw [g]
        exact strF_strL s
      have et : txt f n p m = (s, 0, p + (putB s.size).length + s.size) := by
        unfold txt
        rw [e, if_neg (by simp), if_neg (by simp only; omega), if_neg (by simp only; omega)]
        simp only [Int.toNat_natCast]
        rw [e2]
      simp only [step, et, if_true]
      rw [It.bytes, List.length_append, strL_length, Nat.add_assoc]

/-- All parts, one behind the other. -/
def rdAll (f : Nat → Int) (n : Nat) : List (Option Nat) → Nat → Option (List It × Nat)
  | [], p => some ([], p)
  | k :: ks, p => (step f n p k).bind fun x => (rdAll f n ks x.2).map fun y => (x.1 :: y.1, y.2)
def Fits : List (Option Nat) → List It → Prop
  | [], [] => True
  | k :: ks, i :: is => i.fits k ∧ Fits ks is
  | _, _ => False
def bytesAll (is : List It) : List Int := is.flatMap It.bytes
theorem rdAll_sound {f : Nat → Int} (hf : ∀ i, 0 ≤ f i ∧ f i ≤ 255) {n : Nat} : ∀ (ks : List (Option Nat)) (p : Nat) (is : List It) (p' : Nat), (∀ k ∈ ks, ∀ m, k = some m → m ≤ 65536) → p ≤ n → rdAll f n ks p = some (is, p') → p ≤ p' ∧ p' ≤ n ∧ lst (sh f p) (p' - p) = bytesAll is ∧ Fits ks is
  | [], p, is, p', _, hp, h => by
    obtain ⟨rfl, rfl⟩ := by simpa [rdAll] using h
    exact ⟨Nat.le_refl _, hp, by simp [lst, bytesAll], trivial⟩
  | k :: ks, p, is, p', hk, hp, h => by
    rw [rdAll, Option.bind_eq_some_iff] at h
    obtain ⟨⟨i, q⟩, h1, h2⟩ := h
    rw [Option.map_eq_some_iff] at h2
    obtain ⟨⟨js, q'⟩, h3, h4⟩ := h2
    obtain ⟨rfl, rfl⟩ := by simpa using h4
    obtain ⟨a1, a2, a3, a4⟩ := step_sound hf hp (hk k (by simp)) h1
    obtain ⟨b1, b2, b3, b4⟩ := rdAll_sound hf ks q js q' (fun k hk' => hk k (by simp [hk'])) a2 h3
    refine ⟨by omega, b2, ?_, a4, b4⟩
    rw [show q' - p = (q - p) + (q' - q) by omega, lst_add, a3, sh_sh, show p + (q - p) = q by omega, b3]
    simp [bytesAll]
theorem rdAll_back (f : Nat → Int) (n : Nat) : ∀ (ks : List (Option Nat)) (is : List It) (p : Nat), (∀ k ∈ ks, ∀ m, k = some m → m ≤ 65536) → p ≤ n → Fits ks is → lst (sh f p) (n - p) = bytesAll is → rdAll f n ks p = some (is, n)
  | [], [], p, _, hp, _, h => by
    have := congrArg List.length h
    rw [lst_length] at this
    simp [bytesAll] at this
    rw [rdAll, show p = n by omega]
  | [], i :: is, p, _, _, hf, _ => False.elim hf
  | k :: ks, [], p, _, _, hf, _ => False.elim hf
  | k :: ks, i :: is, p, hk, hp, hf, h => by
    have hb : bytesAll (i :: is) = i.bytes ++ bytesAll is := by simp [bytesAll]
    rw [hb] at h
    have hl := congrArg List.length h
    rw [lst_length, List.length_append] at hl
    have e := step_back f n p hp k i (bytesAll is) (hk k (by simp)) hf.1 h
    have h2 : lst (sh f (p + i.bytes.length)) (n - (p + i.bytes.length)) = bytesAll is := by
      rw [show n - p = i.bytes.length + (n - (p + i.bytes.length)) by omega, lst_add, sh_sh] at h
      exact (List.append_inj h (by rw [lst_length])).2
    rw [rdAll, e, Option.bind_some, rdAll_back f n ks is _ (fun k hk' => hk k (by simp [hk'])) (by omega) hf.2 h2]
    rfl

theorem fn_lst_by {f : Nat → Int} (hf : ∀ i, 0 ≤ f i ∧ f i ≤ 255) (n : Nat) : ∀ i, 0 ≤ fn (lst f n) i ∧ fn (lst f n) i ≤ 255 := fn_by (fun x hx => by
  simp only [lst, List.mem_map] at hx
  obtain ⟨i, _, rfl⟩ := hx
  exact hf i)
/-- What a frame's reading tells has one form. -/
theorem unf_sound {f : Nat → Int} (hf : ∀ i, 0 ≤ f i ∧ f i ≤ 255) {n : Nat} (h : (unf f n).1 = 0) (hr : (unf f n).2.2 = []) : lst f n = frameB (fn (unf f n).2.1) (unf f n).2.1.length ∧ (unf f n).2.1.length ≤ 65536 ∧ ∀ x ∈ (unf f n).2.1, 0 ≤ x ∧ x ≤ 255 := by
  unfold unf at h hr ⊢
  obtain ⟨b1, b2, b3, b4, b5⟩ := Wm.num_bd f n
  split at h
  · rename_i g; exact absurd h g
  · rename_i g0
    rw [if_neg g0] at hr ⊢
    obtain ⟨h1, h2⟩ := num_sound hf (by simpa using g0)
    generalize Wm.num f n = N at *
    obtain ⟨a, k, e⟩ := N
    simp only at *
    split at h
    · cases h
    · rename_i g1
      rw [if_neg g1] at hr ⊢
      split at h
      · cases h
      · rename_i g2
        rw [if_neg g2] at hr ⊢
        split at h
        · cases h
        · rename_i g3
          rw [if_neg g3] at hr ⊢
          simp only at hr ⊢
          have hl := congrArg List.length hr
          rw [lst_length] at hl
          simp at hl
          have g4 : rd (sh f (k.toNat + a.toNat)) 4 = Crc.sum (lstN (sh f k.toNat) a.toNat) := by simpa using g3
          refine ⟨?_, by rw [lst_length]; omega, fun x hx => ?_⟩
          · rw [lst_length, frameB, h1, show n = k.toNat + (a.toNat + 4) by omega, lst_add, lst_add, sh_sh, lst_congr (g := fn (lst (sh f k.toNat) a.toNat)) (g' := sh f k.toNat) (fun i hi => fn_lst _ _ i hi),
              lstN_congr (g := fn (lst (sh f k.toNat) a.toNat)) (g' := sh f k.toNat) (fun i hi => fn_lst _ _ i hi), List.append_assoc, ← g4]
            have g5 : fourB (rd (sh f (k.toNat + a.toNat)) 4) = lst (sh f (k.toNat + a.toNat)) 4 := by
              have q := fun i hi => four_of_rd (sh_by hf (k.toNat + a.toNat)) _ rfl i hi
              simp only [fourB, q 0 (by omega), q 1 (by omega), q 2 (by omega), q 3 (by omega)]
              rfl
            rw [g5]
          · simp only [lst, List.mem_map] at hx
            obtain ⟨i, _, rfl⟩ := hx
            exact hf _
end Go.Proofs.YtdcclfnbpckioaaGreatDoor
