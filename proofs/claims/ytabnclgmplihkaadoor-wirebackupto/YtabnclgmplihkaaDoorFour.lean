/-
  Contracts of wire.putSum, wire.readSum and the document's own four: a sum as four bytes, the lowest first.
-/
import Derived.Test.YtabnclgmplihkaaDoorPutsLaw
namespace Go.Proofs.YtabnclgmplihkaaDoor
open Go.RowKit
set_option linter.unusedVariables false

def fourAt (s k : Nat) : Int := ((s / 256 ^ k % 256 : Nat) : Int)
def fourB (s : Nat) : List Int := [fourAt s 0, fourAt s 1, fourAt s 2, fourAt s 3]
theorem fourB_drop (s k : Nat) (h : k < 4) : (fourB s).drop k = fourAt s k :: (fourB s).drop (k + 1) := by
  have hk : k = 0 ∨ k = 1 ∨ k = 2 ∨ k = 3 := by omega
  rcases hk with h | h | h | h <;> subst h <;> rfl

set_option maxHeartbeats 1000000 in
theorem putSum (v : Value) (s B : Nat) (xs : List Int) (w : World) (hB : B ≤ w.heap.size) (hs : s < 2 ^ 32) (hx : xs.length ≤ 140737488351232) (hown : Own w B v xs) :
    Calls Tryd.prog 25 #[v, .int .u32 (s : Int)] w fun e w' => ∃ v', e = .returned v' ∧ Own w' B v' (xs ++ fourB s) ∧ Below B w w' := by
  obtain ⟨i0, hi, hz0, hz1, hz2⟩ := info_parts info5
  go_enter Tryd.func25, Tryd.ntmps25
  go_wp2
  go_loopw [0, 1, 5] (fun b m i wr => ∃ (k : Nat) (ys : List Int), k ≤ 4 ∧ i = .int .i64 (k : Int) ∧ m = .int .u32 ((s / 256 ^ k : Nat) : Int) ∧ Hid (ys ++ (fourB s).drop k = xs ++ fourB s) ∧ Own wr B b ys ∧ Below B w wr) (fun _ _ i _ => 4 - (intOf i).toNat)
  case atStart => exact ⟨0, xs, by omega, rfl, by simp, rfl, hown, Below.refl _ _⟩
  case round =>
    obtain ⟨k, ys, hk, rfl, rfl, hys, ho, hbel⟩ := hrel
    have hlen2 : ys.length ≤ xs.length + 4 := by
      have := congrArg List.length hys.out
      simp only [List.length_append, List.length_drop] at this
      have e : (fourB s).length = 4 := rfl
      omega
    have hss := hbel.size
    by_cases hlt : k < 4
    · have HE : Hid ((ys ++ [fourAt s k]) ++ (fourB s).drop (k + 1) = xs ++ fourB s) := by
        have := hys.out
        rw [fourB_drop s k hlt] at this
        rw [List.append_assoc]
        exact this
      have hdiv : Hid (s / 256 ^ (k + 1) = s / 256 ^ k / 256) := (by rw [Nat.pow_succ, Nat.div_div_eq_div_mul] : s / 256 ^ (k + 1) = s / 256 ^ k / 256)
      have hat : Hid (fourAt s k = ((s / 256 ^ k : Nat) : Int) % 256) := (by unfold fourAt; omega : fourAt s k = ((s / 256 ^ k : Nat) : Int) % 256)
      have htl : s / 256 ^ k ≤ s := Nat.div_le_self _ _
      clear hys
      generalize s / 256 ^ k = t at *
      go_wp2_with (at_builtin; refine wpList_append_own _ rfl _ _ 22 rfl B 5 i0 (.int .u8 0) 1 1 Tryd.underlying22 hi hz0 hz1 hz2 rfl (by decide) _ ys.length (ys.map (Value.int .u8)) rfl (ho.alloc _) ⟨wr.heap.size, 0, none⟩ 1 1 [.int .u8 ((t : Int) % 256)] rfl rfl (cell_one_new _ _ _) ?qc3 ?qc4 ?qc5 ?qc6 ?_)
      case qc3 => first | rfl | (intro u hu; simp at hu; subst hu; rfl)
      case qc4 => unfold maxLen; omega
      case qc5 => omega
      case qc6 => first | omega | (simp; omega)
      intro v' w1 hown' hgrow _
      have hb2 := (hbel.alloc (by omega) (.cells #[.int .u8 ((t : Int) % 256)] 5)).grown hgrow (by simp; omega) (fun q hq => (World.ownsRow.lt ho q hq).1)
      have ho2 := Own.one hown'
      clear hown' hgrow ho hbel
      rw [← hat.out] at ho2
      go_wp2
      go_roundw
      case rel => exact ⟨k + 1, _, by omega, by go_num, by rw [hdiv.out]; go_num, HE, ho2, hb2⟩
      case measure => simp [intOf]; omega
    · obtain rfl : k = 4 := by omega
      have HE : Hid (ys = xs ++ fourB s) := by
        have := hys.out
        rw [show (fourB s).drop 4 = [] from rfl, List.append_nil] at this
        exact this
      clear hys
      go_wp2
      go_ret
      exact ⟨_, rfl, HE.out ▸ ho, hbel⟩

set_option maxHeartbeats 400000 in
theorem four (s : Nat) (hs : s < 2 ^ 32) (w : World) :
    Calls Tryd.prog 26 #[.int .u32 (s : Int)] w fun e w' => e = .returned (.slice (some ⟨w.heap.size, 0, none⟩) 4 4) ∧ w' = w.alloc (.cells #[.int .u8 (fourAt s 0), .int .u8 (fourAt s 1), .int .u8 (fourAt s 2), .int .u8 (fourAt s 3)] 5) := by
  have e0 : fourAt s 0 = (s : Int) % 256 := by simp [fourAt]
  have e1 : fourAt s 1 = (s : Int) / 256 % 256 := by simp [fourAt]
  have e2 : fourAt s 2 = (s : Int) / 65536 % 256 := by simp [fourAt]
  have e3 : fourAt s 3 = (s : Int) / 16777216 := by unfold fourAt; simp; omega
  rw [e0, e1, e2, e3]
  clear e0 e1 e2 e3
  go_enter Tryd.func26, Tryd.ntmps26
  go_wp2
  go_ret
  exact ⟨rfl, rfl⟩

/-- The number of k bytes, the lowest first. -/
def rd (f : Nat → Int) : Nat → Nat
  | 0 => 0
  | k + 1 => rd f k + (f k).toNat * 256 ^ k
theorem rd_lt {f : Nat → Int} (h : ∀ i, 0 ≤ f i ∧ f i ≤ 255) : ∀ k, rd f k < 256 ^ k
  | 0 => by simp [rd]
  | k + 1 => by
    have ih := rd_lt h k
    have hk := h k
    have h1 : (f k).toNat ≤ 255 := by omega
    have h2 : (f k).toNat * 256 ^ k ≤ 255 * 256 ^ k := Nat.mul_le_mul_right _ h1
    rw [rd, Nat.pow_succ]
    omega
theorem rd_step {f : Nat → Int} (h : ∀ i, 0 ≤ f i ∧ f i ≤ 255) (k : Nat) (hk : k < 4) : bits .or .u32 (rd f k : Nat) ((f k * 2 ^ (8 * k)) % 4294967296) = ((rd f (k + 1) : Nat) : Int) := by
  have ih := rd_lt h k
  have hb := h k
  obtain ⟨y, hy⟩ := Int.eq_ofNat_of_zero_le hb.1
  have hy2 : y ≤ 255 := by omega
  have e : (f k * 2 ^ (8 * k)) % 4294967296 = ((y * 256 ^ k : Nat) : Int) := by
    rw [hy]
    have hk4 : k = 0 ∨ k = 1 ∨ k = 2 ∨ k = 3 := by omega
    rcases hk4 with h | h | h | h <;> subst h <;> simp <;> omega
  have l2 : y * 256 ^ k < 2 ^ 32 := by
    have hk4 : k = 0 ∨ k = 1 ∨ k = 2 ∨ k = 3 := by omega
    rcases hk4 with h | h | h | h <;> subst h <;> simp <;> omega
  have l1 : rd f k < 2 ^ 32 := by
    have hk4 : k = 0 ∨ k = 1 ∨ k = 2 ∨ k = 3 := by omega
    rcases hk4 with h | h | h | h <;> subst h <;> simp at ih ⊢ <;> omega
  rw [e, u32_or_nat _ _ (by omega) (by omega), rd, hy, Int.toNat_natCast, Nat.or_comm]
  have e8 : (256 : Nat) ^ k = 2 ^ (8 * k) := by rw [Nat.pow_mul]
  rw [e8] at ih ⊢
  rw [nat_join (8 * k) (y * 2 ^ (8 * k)) (rd f k) (Nat.mul_mod_left _ _) ih, Nat.add_comm]

set_option maxHeartbeats 1000000 in
theorem readSum_at (b off c : Nat) (f : Nat → Int) (w : World) (hby : ∀ i, 0 ≤ f i ∧ f i ≤ 255) (hc : Hid (∀ i, i < 4 → w.cell? ⟨b, off + i, none⟩ = some (.int .u8 (f i)))) :
    Calls Tryd.prog 28 #[.slice (some ⟨b, off, none⟩) 4 c] w fun e w' => e = .returned (.int .u32 ((rd f 4 : Nat) : Int)) ∧ w' = w := by
  go_enter Tryd.func28, Tryd.ntmps28
  go_wp2
  go_loop [3, 8] (fun s i => ∃ k : Nat, k ≤ 4 ∧ i = .int .i64 k ∧ s = .int .u32 ((rd f k : Nat) : Int)) (fun _ i => 4 - (intOf i).toNat)
  case atStart => exact ⟨0, by omega, rfl, rfl⟩
  case round =>
    obtain ⟨k, hk, rfl, rfl⟩ := hrel
    have hb1 := (hby k).1
    have hb2 := (hby k).2
    by_cases hlt : k < 4
    · have hcell := hc.out k hlt
      have HS : Hid _ := rd_step hby k hlt
      clear hby
      generalize rd f k = s at *
      go_wp2
      go_round
      case rel => exact ⟨k + 1, by omega, by go_num, by rw [← HS.out]⟩
      case measure => simp [intOf]; omega
    · obtain rfl : k = 4 := by omega
      clear hby
      go_wp2
      go_ret
      exact ⟨rfl, rfl⟩
end Go.Proofs.YtabnclgmplihkaaDoor
