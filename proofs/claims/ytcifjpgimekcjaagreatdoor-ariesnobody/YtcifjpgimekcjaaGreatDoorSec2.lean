/-
  Contracts of little.Get, sector.Blank and the document's noughts, sector.Number, sector.Load, sector.Sealed. Conditions: a sector has 128 bytes; the table is laid.
-/
import Derived.Test.YtcifjpgimekcjaaGreatDoorSec
namespace Go.Proofs.YtcifjpgimekcjaaGreatDoor
open Go.RowKit
set_option linter.unusedVariables false

/-- The number of k bytes, the lowest first. -/
def rd (f : Nat → Int) : Nat → Nat
  | 0 => 0
  | k + 1 => rd f k + (f k).toNat * 256 ^ k
theorem rd_lt {f : Nat → Int} (h : ∀ i, 0 ≤ f i ∧ f i ≤ 255) : ∀ k, rd f k < 256 ^ k
  | 0 => by simp [rd]
  | k + 1 => by
    have ih := rd_lt h k
    have hk := h k
    have h1 : (f k).toNat ≤ 255 := by omega
    have h2 : (f k).toNat * 256 ^ k ≤ 255 * 256 ^ k := Nat.mul_le_mul_right _ h1
    rw [rd, Nat.pow_succ]
    omega
theorem wrap64_mod (a : Int) : (wrap64 a) % 18446744073709551616 = a % 18446744073709551616 := by unfold wrap64; omega
theorem or_i64 (a b : Nat) (ha : a < 2 ^ 64) (hb : b < 2 ^ 64) : bits .or .i64 (wrap64 (a : Int)) (wrap64 (b : Int)) = wrap64 ((a ||| b : Nat) : Int) := by
  show IntKind.i64.wrap ((BitVec.ofInt 64 (wrap64 (a : Int)) ||| BitVec.ofInt 64 (wrap64 (b : Int))).toNat : Int) = _
  have e : ∀ x : Nat, x < 2 ^ 64 → (BitVec.ofInt 64 (wrap64 (x : Int))).toNat = x := fun x hx => by
    rw [BitVec.toNat_ofInt]
    have := wrap64_mod (x : Int)
    have e2 : ((2 ^ 64 : Nat) : Int) = 18446744073709551616 := by decide
    rw [e2, this]
    omega
  rw [BitVec.toNat_or, e a ha, e b hb]
  generalize a ||| b = c
  simp only [IntKind.wrap, IntKind.bits, IntKind.signed, wrap64]
  simp
  omega
theorem get_step {f : Nat → Int} (h : ∀ i, 0 ≤ f i ∧ f i ≤ 255) (k : Nat) (hk : k < 8) : bits .or .i64 (wrap64 (rd f k : Nat)) (wrap64 (f k * 2 ^ (8 * k))) = wrap64 ((rd f (k + 1) : Nat) : Int) := by
  have ih := rd_lt h k
  have hb := h k
  obtain ⟨y, hy⟩ := Int.eq_ofNat_of_zero_le hb.1
  have hy2 : y ≤ 255 := by omega
  have e8 : (256 : Nat) ^ k = 2 ^ (8 * k) := by rw [Nat.pow_mul]
  have hp : (2 : Nat) ^ (8 * k) ≤ 2 ^ 56 := Nat.pow_le_pow_right (by decide) (by omega)
  have l1 : rd f k < 2 ^ 64 := by rw [e8] at ih; omega
  have l2 : y * 2 ^ (8 * k) < 2 ^ 64 := by
    have : y * 2 ^ (8 * k) ≤ 255 * 2 ^ 56 := Nat.mul_le_mul hy2 hp
    omega
  have e : f k * 2 ^ (8 * k) = ((y * 2 ^ (8 * k) : Nat) : Int) := by rw [hy]; simp
  rw [e, or_i64 _ _ l1 l2, rd, hy, Int.toNat_natCast, Nat.or_comm, e8]
  rw [e8] at ih
  rw [nat_join (8 * k) (y * 2 ^ (8 * k)) (rd f k) (Nat.mul_mod_left _ _) ih, Nat.add_comm]

set_option maxHeartbeats 1000000 in
theorem get_at (b off n c : Nat) (f : Nat → Int) (w : World) (hn : n ≤ 8) (hby : ∀ i, 0 ≤ f i ∧ f i ≤ 255) (hc : Hid (∀ i, i < n → w.cell? ⟨b, off + i, none⟩ = some (.int .u8 (f i)))) :
    Calls Tryz.prog 168 #[.slice (some ⟨b, off, none⟩) n c] w fun e w' => e = .returned (.int .i64 (wrap64 ((rd f n : Nat) : Int))) ∧ w' = w := by
  go_enter Tryz.func168, Tryz.ntmps168
  go_wp2
  go_loop [3, 8] (fun s i => ∃ k : Nat, k ≤ n ∧ i = .int .i64 k ∧ s = .int .i64 (wrap64 ((rd f k : Nat) : Int))) (fun _ i => n - (intOf i).toNat)
  case atStart => exact ⟨0, by omega, rfl, by simp [rd, wrap64]⟩
  case round =>
    obtain ⟨k, hk, rfl, rfl⟩ := hrel
    have hb1 := (hby k).1
    have hb2 := (hby k).2
    by_cases hlt : k < n
    · have hlt' : (k : Int) < (n : Int) := by omega
      have hcell := hc.out k hlt
      have HS : Hid _ := get_step hby k (by omega)
      clear hby
      generalize wrap64 ((rd f k : Nat) : Int) = s at *
      go_wp2
      go_round
      case rel => exact ⟨k + 1, by omega, by go_num, by rw [← HS.out]⟩
      case measure => simp [intOf]; omega
    · obtain rfl : k = n := by omega
      clear hby
      generalize hs : wrap64 ((rd f k : Nat) : Int) = s at *
      have HS : Hid (wrap64 ((rd f k : Nat) : Int) = s) := hs
      clear hs
      go_wp2
      go_ret
      exact ⟨by rw [HS.out]; rfl, rfl⟩

/-- Noughts alone. -/
def Nil (f : Nat → Int) (n : Nat) : Prop := ∀ i, i < n → f i = 0
instance (f : Nat → Int) (n : Nat) : Decidable (Nil f n) := by unfold Nil; exact inferInstance
theorem nil_not {f : Nat → Int} {n k : Nat} (hk : k < n) (h : f k ≠ 0) : decide (Nil f n) = false := by
  simp only [decide_eq_false_iff_not]
  intro hn
  exact h (hn k hk)

set_option maxHeartbeats 1000000 in
theorem blank_at (b off n c : Nat) (f : Nat → Int) (w : World) (hn : n ≤ 140737488355328) (hc : Hid (∀ i, i < n → w.cell? ⟨b, off + i, none⟩ = some (.int .u8 (f i)))) :
    Calls Tryz.prog 122 #[.slice (some ⟨b, off, none⟩) n c] w fun e w' => e = .returned (.bool (decide (Nil f n))) ∧ w' = w := by
  obtain ⟨R, hR⟩ : ∃ R, decide (Nil f n) = R := ⟨_, rfl⟩
  rw [hR]
  have HR : Hid (decide (Nil f n) = R) := hR
  clear hR
  go_enter Tryz.func122, Tryz.ntmps122
  go_wp2
  go_loop [7] (fun i => ∃ k : Nat, k ≤ n ∧ i = .int .i64 k ∧ Hid (∀ j, j < k → f j = 0)) (fun i => n - (intOf i).toNat)
  case atStart => exact ⟨0, by omega, rfl, fun j hj => absurd hj (by omega)⟩
  case round =>
    obtain ⟨k, hk, rfl, hz⟩ := hrel
    by_cases hlt : k < n
    · have hlt' : (k : Int) < (n : Int) := by omega
      have hcell := hc.out k hlt
      by_cases h0 : f k = 0
      · have HZ : Hid (∀ j, j < k + 1 → f j = 0) := fun j hj => by
          by_cases e : j = k
          · rw [e]; exact h0
          · exact hz.out j (by omega)
        rw [h0] at hcell
        clear h0 hz
        go_wp2
        go_round
        case rel => exact ⟨k + 1, by omega, by go_num, HZ⟩
        case measure => simp [intOf]; omega
      · have HN : Hid (R = false) := HR.out.symm.trans (nil_not hlt h0)
        have h0' : (f k == 0) = false := by simpa using h0
        clear hz
        generalize f k = x at *
        go_wp2
        go_ret
        exact ⟨congrArg (fun b => Ending.returned (.bool b)) HN.out.symm, rfl⟩
    · obtain rfl : k = n := by omega
      have HN : Hid (R = true) := HR.out.symm.trans (decide_eq_true hz.out)
      clear hz
      go_wp2
      go_ret
      exact ⟨congrArg (fun b => Ending.returned (.bool b)) HN.out.symm, rfl⟩
/-- A sector's number. -/
def numS (f : Nat → Int) : Int := wrap64 ((rd (sh f 4) 8 : Nat) : Int)
set_option maxHeartbeats 400000 in
theorem number_at (b off c : Nat) (f : Nat → Int) (w : World) (hcap : 128 ≤ c) (hby : ∀ i, 0 ≤ f i ∧ f i ≤ 255) (hc : Hid (∀ i, i < 128 → w.cell? ⟨b, off + i, none⟩ = some (.int .u8 (f i)))) :
    Calls Tryz.prog 138 #[.slice (some ⟨b, off, none⟩) 128 c] w fun e w' => e = .returned (.int .i64 (numS f)) ∧ w' = w := by
  have h1 : (12 : Int) ≤ (c : Int) := by omega
  have h2 : (4 : Int) < (c : Int) := by omega
  go_enter Tryz.func138, Tryz.ntmps138
  go_wp2_with fail
  refine (get_at b (off + 4) 8 _ (sh f 4) w (by omega) (sh_by hby 4) ?_).mono ?_
  · intro i hi
    rw [Nat.add_assoc]
    exact hc.out (4 + i) (by omega)
  rintro e w1 ⟨rfl, rfl⟩
  go_wp2
  go_ret
  exact ⟨rfl, rfl⟩
set_option maxHeartbeats 400000 in
theorem load_at (b off c : Nat) (f : Nat → Int) (w : World) (hcap : 128 ≤ c) (hc : Hid (∀ i, i < 128 → w.cell? ⟨b, off + i, none⟩ = some (.int .u8 (f i)))) :
    Calls Tryz.prog 139 #[.slice (some ⟨b, off, none⟩) 128 c] w fun e w' => ∃ v', e = .returned v' ∧ Own w' w.heap.size v' (lst (sh f 12) 112) ∧ Below w.heap.size w w' := by
  have h1 : (124 : Int) ≤ (c : Int) := by omega
  have h2 : (12 : Int) < (c : Int) := by omega
  go_enter Tryz.func139, Tryz.ntmps139
  go_wp2_with fail
  refine (clone (some ⟨b, off + 12, none⟩) 112 _ (sh f 12) w (by omega) (.inr ⟨_, rfl, fun i hi => ?_⟩)).mono ?_
  · rw [Addr.add_lit, Nat.add_assoc]
    exact hc.out (12 + i) (by omega)
  rintro e w1 ⟨v, rfl, h3, h4⟩
  go_wp2
  go_ret
  exact ⟨v, rfl, h3, h4⟩

/-- A sector's sum, as it stands and as it is. -/
def sumS (f : Nat → Int) : Nat := Crc.sum (lstN f 124)
set_option maxRecDepth 100000 in
set_option maxHeartbeats 1000000 in
theorem sealed_at (b off c : Nat) (f : Nat → Int) (w : World) (hcap : 128 ≤ c) (hby : ∀ i, 0 ≤ f i ∧ f i ≤ 255) (hc : Hid (∀ i, i < 128 → w.cell? ⟨b, off + i, none⟩ = some (.int .u8 (f i)))) (ht : Hid (∀ q, Tab (w.drewN q))) :
    Calls Tryz.prog 153 #[.slice (some ⟨b, off, none⟩) 128 c] w fun e w' => e = .returned (.bool (decide (rd (sh f 124) 4 = sumS f))) ∧ ∃ q, w' = w.drewN q := by
  have h1 : (124 : Int) ≤ (c : Int) := by omega
  have h2 : (124 : Int) < (c : Int) := by omega
  have hr := rd_lt (sh_by hby 124) 4
  have hr4 : (256 : Nat) ^ 4 = 4294967296 := by decide
  rw [hr4] at hr
  have hw : wrap64 ((rd (sh f 124) 4 : Nat) : Int) = ((rd (sh f 124) 4 : Nat) : Int) := Wm.w64 _ (by omega)
  have hsl : sumS f < 2 ^ 32 := Crc.sum_lt _ (lstN_by hby 124)
  have hG : Hid (∀ q, ∀ i, i < 4 → (w.drewN q).cell? ⟨b, off + 124 + i, none⟩ = some (.int .u8 (sh f 124 i))) := fun q i hi => by
    rw [Nat.add_assoc]
    exact hc.out (124 + i) (by omega)
  have hL : Hid (∀ q, Lay (w.drewN q) (some ⟨b, off, none⟩) 124 f) := fun q => .inr ⟨b, off, rfl, fun i hi => hc.out i (by omega)⟩
  have HB : Hid (∀ i, 0 ≤ f i ∧ f i ≤ 255) := hby
  have HE : Hid (Crc.sum (lstN f 124) = sumS f) := rfl
  clear hby hc hr
  have hsl' : sumS f < 4294967296 := hsl
  have HW : Hid (wrap64 ((rd (sh f 124) 4 : Nat) : Int) = ((rd (sh f 124) 4 : Nat) : Int)) := hw
  clear hw hsl
  go_enter Tryz.func153, Tryz.ntmps153
  go_wp2_with fail
  go_quiet (first
    | (go_at_call 168; exact Calls.quiet_of_same (get_at b (off + 124) 4 _ (sh f 124) _ (by omega) (sh_by HB.out 124) (hG.out _)))
    | (go_at_call 157; exact Calls.quiet_of_same (wSum (some ⟨b, off, none⟩) 124 _ f (by omega) HB.out (hL.out _) (ht.out _))))
  go_wp2
  go_ret
  refine ⟨?_, _, rfl⟩
  rw [HW.out, HE.out, Wm.w64 ((sumS f : Nat) : Int) (by omega)]
  have e : (((rd (sh f 124) 4 : Nat) : Int) == ((sumS f : Nat) : Int)) = decide (rd (sh f 124) 4 = sumS f) := by
    by_cases h : rd (sh f 124) 4 = sumS f
    · simp [h]
    · have h' : ¬ ((rd (sh f 124) 4 : Nat) : Int) = ((sumS f : Nat) : Int) := by omega
      simp [h, h']
  rw [e]
  rfl
end Go.Proofs.YtcifjpgimekcjaaGreatDoor
