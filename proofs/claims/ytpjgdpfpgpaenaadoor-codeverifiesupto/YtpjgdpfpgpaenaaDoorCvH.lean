/-
  Code's bytes; the program's Encode.
-/
import Derived.Test.YtpjgdpfpgpaenaaDoorCvG
namespace Go.Proofs.YtpjgdpfpgpaenaaDoor
open Go.RowKit
set_option linter.unusedVariables false
set_option linter.unusedSimpArgs false

def ba (l : List UInt8) : ByteArray := ⟨l.toArray⟩
def encI (I : Nat → Nat → Int) : Nat → List Int
  | 0 => []
  | k + 1 => encI I k ++ nmB [I k 0, I k 1, I k 2]
def encS (f : Nat → ByteArray) : Nat → List Int
  | 0 => []
  | k + 1 => encS f k ++ txB (f k)
/-- A constant as it is written. -/
def prD (D : List Dt) (j : Nat) : ByteArray := match D[j]? with
  | some d => ba d.out
  | none => ⟨#[]⟩
theorem prD_at {D : List Dt} {j : Nat} (h : j < D.length) : prD D j = ba D[j].out := by unfold prD; rw [List.getElem?_eq_getElem h]
def enc1 (c : Cd) : List Int := nmB [(c.ni : Int)]
def enc2 (c : Cd) : List Int := enc1 c ++ encI c.I c.ni ++ nmB [(c.D.length : Int)]
def enc3 (c : Cd) : List Int := enc2 c ++ encS (prD c.D) c.D.length ++ nmB [(c.ns : Int)]
/-- Code's bytes. -/
def Cd.enc (c : Cd) : List Int := enc3 c ++ encS c.S c.ns
theorem nmB1_len (n : Nat) (h : n ≤ 9223372036854775807) : (nmB [(n : Int)]).length ≤ 9 := by
  have := nmB_len (l := [(n : Int)]) (fun z hz => by simp at hz; omega)
  simpa using this
theorem nmB3_len {a b c : Int} (ha : a ≤ 9223372036854775807) (hb : b ≤ 9223372036854775807) (hc : c ≤ 9223372036854775807) : (nmB [a, b, c]).length ≤ 27 := by
  have := nmB_len (l := [a, b, c]) (fun z hz => by simp at hz; omega)
  simpa using this
theorem encI_len {I : Nat → Nat → Int} {n : Nat} (h : ∀ j, j < n → I j 0 ≤ 9223372036854775807 ∧ I j 1 ≤ 9223372036854775807 ∧ I j 2 ≤ 9223372036854775807) : ∀ k, k ≤ n → (encI I k).length ≤ 27 * k
  | 0, _ => Nat.zero_le _
  | k + 1, hk => by
    have h1 := encI_len h k (by omega)
    obtain ⟨a, b, c⟩ := h k (by omega)
    have h2 := nmB3_len a b c
    show (encI I k ++ nmB [I k 0, I k 1, I k 2]).length ≤ _
    rw [List.length_append]
    omega
theorem txB_len (s : ByteArray) (h : s.size ≤ 9223372036854775807) : (txB s).length ≤ s.size + 9 := by
  unfold txB
  have := putB_le s.size h
  rw [List.length_append, strI_length]
  omega
theorem encS_len {f : Nat → ByteArray} {n M : Nat} (hM : M ≤ 1099511627776) (h : ∀ j, j < n → (f j).size ≤ M) : ∀ k, k ≤ n → (encS f k).length ≤ k * (M + 9)
  | 0, _ => Nat.zero_le _
  | k + 1, hk => by
    have h1 := encS_len hM h k (by omega)
    have h3 := h k (by omega)
    have h2 := txB_len (f k) (by omega)
    show (encS f k ++ txB (f k)).length ≤ _
    rw [List.length_append, Nat.succ_mul]
    omega
theorem op_le {ni nd ns : Nat} {o a b : Int} (h : opP ni nd ns o a b) (h1 : ni ≤ 20000) (h2 : nd ≤ 1048576) (h3 : ns ≤ 1048576) : (0 ≤ o ∧ 0 ≤ a ∧ 0 ≤ b) ∧ o ≤ 9223372036854775807 ∧ a ≤ 9223372036854775807 ∧ b ≤ 9223372036854775807 := by
  unfold opP at h
  omega
theorem mem_wt {l : List Dt} {Wt : Nat} (h2 : wtL l ≤ Wt) {j : Nat} (hj : j < l.length) : l[j].wt ≤ Wt := by have := wtL_next hj; omega
theorem prD_le {D : List Dt} (h : wtL D ≤ 1048576) (j : Nat) : (prD D j).size ≤ 8388608 := by
  unfold prD
  cases e : D[j]? with
  | none => exact Nat.zero_le _
  | some d =>
    obtain ⟨hj, rfl⟩ := List.getElem?_eq_some_iff.1 e
    show D[j].out.length ≤ _
    have h1 := out_le D[j]
    have h2 := mem_wt h hj
    omega
/-- How long the parts of good code's bytes are. -/
theorem enc_lens {c : Cd} (hf : c.fit) (h : c.ok) : (enc1 c).length ≤ 9 ∧ (∀ j, j ≤ c.ni → (enc1 c ++ encI c.I j).length ≤ 1000000) ∧ (∀ j, j ≤ c.D.length → (enc2 c ++ encS (prD c.D) j).length ≤ 8800000000000) ∧ ∀ j, j ≤ c.ns → (enc3 c ++ encS c.S j).length ≤ 9920000000000 := by
  obtain ⟨f1, f2, f3, f4, f5⟩ := hf
  have k1 := nmB1_len c.ni (by have := h.2.1; omega)
  have k2 := nmB1_len c.D.length (by omega)
  have k3 := nmB1_len c.ns (by omega)
  have hI := encI_len (n := c.ni) (I := c.I) fun j hj => (op_le (h.2.2.2.1 j hj) h.2.1 f3 f4).2
  have hD := encS_len (f := prD c.D) (n := c.D.length) (M := 8388608) (by decide) fun j _ => prD_le f2 j
  have hS := encS_len (f := c.S) (n := c.ns) (M := 1048576) (by decide) f5
  have hI2 := hI c.ni (Nat.le_refl _)
  have hD2 := hD c.D.length (Nat.le_refl _)
  have hn := h.2.1
  refine ⟨k1, fun j hj => ?_, fun j hj => ?_, fun j hj => ?_⟩
  · have := hI j hj
    unfold enc1
    rw [List.length_append]
    omega
  · have := hD j hj
    unfold enc2 enc1
    simp only [List.length_append]
    omega
  · have := hS j hj
    unfold enc3 enc2 enc1
    simp only [List.length_append]
    omega
end Go.Proofs.YtpjgdpfpgpaenaaDoor
