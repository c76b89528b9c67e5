/-
  Code's Hash, both sides.
-/
import Derived.Test.YtpjgdpfpgpaenaaDoorCvJ
namespace Go.Proofs.YtpjgdpfpgpaenaaDoor
open Go.RowKit
set_option linter.unusedVariables false
set_option linter.unusedSimpArgs false

theorem putB_in (n : Nat) (h : n ≤ 9223372036854775807) : ∀ x ∈ putB n, 0 ≤ x ∧ x ≤ 255 := putB_by 9 n (by have h9 : (128 : Nat) ^ (9 + 1) = 1180591620717411303424 := (by decide); omega)
theorem nmB_in {l : List Int} (h : ∀ z ∈ l, z ≤ 9223372036854775807) : ∀ x ∈ nmB l, 0 ≤ x ∧ x ≤ 255 := by
  induction l with
  | nil => intro x hx; cases hx
  | cons y r ih =>
    intro x hx
    rcases List.mem_append.1 (show x ∈ putB y.toNat ++ nmB r from hx) with hx | hx
    · exact putB_in _ (by have := h y (by simp); omega) x hx
    · exact ih (fun z hz => h z (by simp [hz])) x hx
theorem txB_in (s : ByteArray) (h : s.size ≤ 9223372036854775807) : ∀ x ∈ txB s, 0 ≤ x ∧ x ≤ 255 := by
  intro x hx
  rcases List.mem_append.1 (show x ∈ putB s.size ++ strI s from hx) with hx | hx
  · exact putB_in _ h x hx
  · obtain ⟨b, _, rfl⟩ := List.mem_map.1 hx
    have := b.toNat_lt
    omega
theorem encI_in {I : Nat → Nat → Int} {n : Nat} (h : ∀ j, j < n → I j 0 ≤ 9223372036854775807 ∧ I j 1 ≤ 9223372036854775807 ∧ I j 2 ≤ 9223372036854775807) : ∀ k, k ≤ n → ∀ x ∈ encI I k, 0 ≤ x ∧ x ≤ 255
  | 0, _ => fun x hx => by cases hx
  | k + 1, hk => fun x hx => by
    rcases List.mem_append.1 (show x ∈ encI I k ++ nmB [I k 0, I k 1, I k 2] from hx) with hx | hx
    · exact encI_in h k (by omega) x hx
    · obtain ⟨a, b, c⟩ := h k (by omega)
      exact nmB_in (fun z hz => by simp at hz; omega) x hx
theorem encS_in {f : Nat → ByteArray} {n : Nat} (h : ∀ j, j < n → (f j).size ≤ 1099511627776) : ∀ k, k ≤ n → ∀ x ∈ encS f k, 0 ≤ x ∧ x ≤ 255
  | 0, _ => fun x hx => by cases hx
  | k + 1, hk => fun x hx => by
    rcases List.mem_append.1 (show x ∈ encS f k ++ txB (f k) from hx) with hx | hx
    · exact encS_in h k (by omega) x hx
    · exact txB_in _ (by have := h k (by omega); omega) x hx
theorem enc_in {c : Cd} (hf : c.fit) (h : c.ok) : ∀ x ∈ c.enc, 0 ≤ x ∧ x ≤ 255 := by
  obtain ⟨f1, f2, f3, f4, f5⟩ := hf
  intro x hx
  have hn := h.2.1
  rcases List.mem_append.1 (show x ∈ enc3 c ++ encS c.S c.ns from hx) with hx | hx
  · rcases List.mem_append.1 (show x ∈ enc2 c ++ encS (prD c.D) c.D.length ++ nmB [(c.ns : Int)] from hx) with hx | hx
    · rcases List.mem_append.1 hx with hx | hx
      · rcases List.mem_append.1 (show x ∈ enc1 c ++ encI c.I c.ni ++ nmB [(c.D.length : Int)] from hx) with hx | hx
        · rcases List.mem_append.1 hx with hx | hx
          · exact nmB_in (fun z hz => by simp at hz; omega) x (show x ∈ nmB [(c.ni : Int)] from hx)
          · exact encI_in (fun j hj => (op_le (h.2.2.2.1 j hj) h.2.1 f3 f4).2) _ (Nat.le_refl _) x hx
        · exact nmB_in (fun z hz => by simp at hz; omega) x hx
      · exact encS_in (fun j _ => by have := prD_le f2 j; omega) _ (Nat.le_refl _) x hx
    · exact nmB_in (fun z hz => by simp at hz; omega) x hx
  · exact encS_in (fun j hj => by have := f5 j hj; omega) _ (Nat.le_refl _) x hx
theorem Tab.below {w w' : World} (h : Tab w) (hb : Below w.heap.size w w') : Tab w' := fun i hi => (hb.cell (World.block_lt_of_cell? w _ (h i hi))).trans (h i hi)
/-- What Hash answers. -/
def Hsh (e : Ending) (c : Cd) : Prop := (¬ c.ok ∧ e = .returned (.int .u32 0)) ∨ (c.ok ∧ e = .returned (.int .u32 ((Crc.sum (lstN (fn c.enc) c.enc.length) : Nat) : Int)))
set_option maxRecDepth 100000 in
set_option maxHeartbeats 4000000 in
theorem c_hash {c : Cd} {v : Value} {w : World} (h : CAt w c v) (hf : c.fit) (ht : Bare w) (hT : Tab w) : Calls Tryd.prog 9 #[v] w fun e w' => Hsh e c ∧ Hid (Below w.heap.size w w') := by
  obtain ⟨ai, ci, ad, cd, an, cn, X, rfl, h1, h2, h3, h4, h5, h6, h7⟩ := id h
  have k0 : Hid (Below w.heap.size w (w.alloc (.cells #[.slice ai c.ni ci, .slice ad c.D.length cd, .slice an c.ns cn] 26))) := hid (blw_al (Below.refl _ _) _)
  have H0 := hid (c_encode (h.below k0.out) hf (ht.below k0.out))
  have HTab := hid (fun V (hV : Hid (Below w.heap.size w V)) => hT.below hV.out)
  have Hf := hid hf
  clear h h1 h2 h3 h4 h5 h6 h7 hf ht hT
  go_enter Tryd.func9, Tryd.ntmps9
  go_wp2_with fail
  refine H0.out.mono ?_
  clear H0
  rintro e w1 ⟨hE, hb⟩
  have k1 : Hid (Below w.heap.size w w1) := hid (k0.out.trans (hb.out.mono k0.out.size))
  rcases hE.out with ⟨hok, rfl⟩ | ⟨hok, a, k, rfl, hF⟩
  · have Hok := hid hok
    clear hok hE hb
    go_wp2
    go_ret
    exact ⟨.inl ⟨Hok.out, rfl⟩, k1⟩
  · have hlen : c.enc.length ≤ 9920000000000 := (enc_lens Hf.out hok).2.2.2 c.ns (Nat.le_refl _)
    have HS := hid (wSum a c.enc.length k (fn c.enc) (by omega) (fun i => fn_by (enc_in Hf.out hok) i) hF.lay (HTab.out w1 k1))
    have Hok := hid hok
    clear hok hE hb hF hlen
    go_wp2_with fail
    refine HS.out.mono ?_
    clear HS
    rintro e w2 ⟨rfl, rfl⟩
    go_wp2
    go_ret
    exact ⟨.inr ⟨Hok.out, rfl⟩, k1⟩
set_option maxRecDepth 100000 in
set_option maxHeartbeats 4000000 in
theorem x_hash {c : Cd} {v : Value} {w : World} (h : CAt w c v) (hf : c.fit) : Calls Tryd.prog 10 #[v] w fun e w' => Hsh e c ∧ Hid (Below w.heap.size w w') := by
  obtain ⟨ai, ci, ad, cd, an, cn, X, rfl, h1, h2, h3, h4, h5, h6, h7⟩ := id h
  have k0 : Hid (Below w.heap.size w (w.alloc (.cells #[.slice ai c.ni ci, .slice ad c.D.length cd, .slice an c.ns cn] 26))) := hid (blw_al (Below.refl _ _) _)
  have H0 := hid (x_encode (h.below k0.out) hf)
  have Hf := hid hf
  clear h h1 h2 h3 h4 h5 h6 h7 hf
  go_enter Tryd.func10, Tryd.ntmps10
  go_wp2_with fail
  refine H0.out.mono ?_
  clear H0
  rintro e w1 ⟨hE, hb⟩
  have k1 : Hid (Below w.heap.size w w1) := hid (k0.out.trans (hb.out.mono k0.out.size))
  rcases hE.out with ⟨hok, rfl⟩ | ⟨hok, a, k, rfl, hF⟩
  · have Hok := hid hok
    clear hok hE hb
    go_wp2
    go_ret
    exact ⟨.inl ⟨Hok.out, rfl⟩, k1⟩
  · have hlen : c.enc.length ≤ 9920000000000 := (enc_lens Hf.out hok).2.2.2 c.ns (Nat.le_refl _)
    have HS := hid (xSum a c.enc.length k (fn c.enc) (by omega) (fun i => fn_by (enc_in Hf.out hok) i) hF.lay)
    have Hok := hid hok
    clear hok hE hb hF hlen
    go_wp2_with fail
    refine HS.out.mono ?_
    clear HS
    rintro e w2 ⟨rfl, rfl⟩
    go_wp2
    go_ret
    exact ⟨.inr ⟨Hok.out, rfl⟩, k1⟩
end Go.Proofs.YtpjgdpfpgpaenaaDoor
