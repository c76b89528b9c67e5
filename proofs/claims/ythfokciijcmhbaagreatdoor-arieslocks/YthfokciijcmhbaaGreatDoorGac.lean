/-
  Contracts of little.Get, sector.Blank and the document's noughts, sector.Number, sector.Load, sector.Sealed. Conditions: a sector has 128 bytes; the table is laid.
  Contract of sector.Seal: the sector of a head, a number and a load. Conditions: the number is none below 0, the load has at most 112 bytes; the table is laid.
  A log's sectors by their bytes: which of them are right, what a log has in all. No program, no condition.
-/
import Derived.Test.YthfokciijcmhbaaGreatDoorGab
namespace Go.Proofs.YthfokciijcmhbaaGreatDoor
open Go.RowKit
set_option linter.unusedVariables false

/-- The number of k bytes, the lowest first. -/
def rd (f : Nat → Int) : Nat → Nat
  | 0 => 0
  | k + 1 => rd f k + (f k).toNat * 256 ^ k
theorem rd_lt {f : Nat → Int} (h : ∀ i, 0 ≤ f i ∧ f i ≤ 255) : ∀ k, rd f k < 256 ^ k
  | 0 => by simp [rd]
  | k + 1 => by
    have ih := rd_lt h k
    have hk := h k
    have h1 : (f k).toNat ≤ 255 := by omega
    have h2 : (f k).toNat * 256 ^ k ≤ 255 * 256 ^ k := Nat.mul_le_mul_right _ h1
    rw [rd, Nat.pow_succ]
    omega
theorem wrap64_mod (a : Int) : (wrap64 a) % 18446744073709551616 = a % 18446744073709551616 := by unfold wrap64; omega
theorem or_i64 (a b : Nat) (ha : a < 2 ^ 64) (hb : b < 2 ^ 64) : bits .or .i64 (wrap64 (a : Int)) (wrap64 (b : Int)) = wrap64 ((a ||| b : Nat) : Int) := by
  show IntKind.i64.wrap ((BitVec.ofInt 64 (wrap64 (a : Int)) ||| BitVec.ofInt 64 (wrap64 (b : Int))).toNat : Int) = _
  have e : ∀ x : Nat, x < 2 ^ 64 → (BitVec.ofInt 64 (wrap64 (x : Int))).toNat = x := fun x hx => by
    rw [BitVec.toNat_ofInt]
    have := wrap64_mod (x : Int)
    have e2 : ((2 ^ 64 : Nat) : Int) = 18446744073709551616 := by decide
    rw [e2, this]
    omega
  rw [BitVec.toNat_or, e a ha, e b hb]
  generalize a ||| b = c
  simp only [IntKind.wrap, IntKind.bits, IntKind.signed, wrap64]
  simp
  omega
theorem get_step {f : Nat → Int} (h : ∀ i, 0 ≤ f i ∧ f i ≤ 255) (k : Nat) (hk : k < 8) : bits .or .i64 (wrap64 (rd f k : Nat)) (wrap64 (f k * 2 ^ (8 * k))) = wrap64 ((rd f (k + 1) : Nat) : Int) := by
  have ih := rd_lt h k
  have hb := h k
  obtain ⟨y, hy⟩ := Int.eq_ofNat_of_zero_le hb.1
  have hy2 : y ≤ 255 := by omega
  have e8 : (256 : Nat) ^ k = 2 ^ (8 * k) := by rw [Nat.pow_mul]
  have hp : (2 : Nat) ^ (8 * k) ≤ 2 ^ 56 := Nat.pow_le_pow_right (by decide) (by omega)
  have l1 : rd f k < 2 ^ 64 := by rw [e8] at ih; omega
  have l2 : y * 2 ^ (8 * k) < 2 ^ 64 := by
    have : y * 2 ^ (8 * k) ≤ 255 * 2 ^ 56 := Nat.mul_le_mul hy2 hp
    omega
  have e : f k * 2 ^ (8 * k) = ((y * 2 ^ (8 * k) : Nat) : Int) := by rw [hy]; simp
  rw [e, or_i64 _ _ l1 l2, rd, hy, Int.toNat_natCast, Nat.or_comm, e8]
  rw [e8] at ih
  rw [nat_join (8 * k) (y * 2 ^ (8 * k)) (rd f k) (Nat.mul_mod_left _ _) ih, Nat.add_comm]

set_option maxHeartbeats 1000000 in
theorem get_at (b off n c : Nat) (f : Nat → Int) (w : World) (hn : n ≤ 8) (hby : ∀ i, 0 ≤ f i ∧ f i ≤ 255) (hc : Hid (∀ i, i < n → w.cell? ⟨b, off + i, none⟩ = some (.int .u8 (f i)))) :
    Calls Tryz.prog 160 #[.slice (some ⟨b, off, none⟩) n c] w fun e w' => e = .returned (.int .i64 (wrap64 ((rd f n : Nat) : Int))) ∧ w' = w := by
  go_enter Tryz.func160, Tryz.ntmps160
  go_wp2
  go_loop [3, 8] (fun s i => ∃ k : Nat, k ≤ n ∧ i = .int .i64 k ∧ s = .int .i64 (wrap64 ((rd f k : Nat) : Int))) (fun _ i => n - (intOf i).toNat)
  case atStart => exact ⟨0, by omega, rfl, by simp [rd, wrap64]⟩
  case round =>
    obtain ⟨k, hk, rfl, rfl⟩ := hrel
    have hb1 := (hby k).1
    have hb2 := (hby k).2
    by_cases hlt : k < n
    · have hlt' : (k : Int) < (n : Int) := by omega
      have hcell := hc.out k hlt
      have HS : Hid _ := get_step hby k (by omega)
      clear hby
      generalize wrap64 ((rd f k : Nat) : Int) = s at *
      go_wp2
      go_round
      case rel => exact ⟨k + 1, by omega, by go_num, by rw [← HS.out]⟩
      case measure => simp [intOf]; omega
    · obtain rfl : k = n := by omega
      clear hby
      generalize hs : wrap64 ((rd f k : Nat) : Int) = s at *
      have HS : Hid (wrap64 ((rd f k : Nat) : Int) = s) := hs
      clear hs
      go_wp2
      go_ret
      exact ⟨by rw [HS.out]; rfl, rfl⟩

/-- Noughts alone. -/
def Nil (f : Nat → Int) (n : Nat) : Prop := ∀ i, i < n → f i = 0
instance (f : Nat → Int) (n : Nat) : Decidable (Nil f n) := by unfold Nil; exact inferInstance
theorem nil_not {f : Nat → Int} {n k : Nat} (hk : k < n) (h : f k ≠ 0) : decide (Nil f n) = false := by
  simp only [decide_eq_false_iff_not]
  intro hn
  exact h (hn k hk)

set_option maxHeartbeats 1000000 in
theorem blank_at (b off n c : Nat) (f : Nat → Int) (w : World) (hn : n ≤ 140737488355328) (hc : Hid (∀ i, i < n → w.cell? ⟨b, off + i, none⟩ = some (.int .u8 (f i)))) :
    Calls Tryz.prog 106 #[.slice (some ⟨b, off, none⟩) n c] w fun e w' => e = .returned (.bool (decide (Nil f n))) ∧ w' = w := by
  obtain ⟨R, hR⟩ : ∃ R, decide (Nil f n) = R := ⟨_, rfl⟩
  rw [hR]
  have HR : Hid (decide (Nil f n) = R) := hR
  clear hR
  go_enter Tryz.func106, Tryz.ntmps106
  go_wp2
  go_loop [7] (fun i => ∃ k : Nat, k ≤ n ∧ i = .int .i64 k ∧ Hid (∀ j, j < k → f j = 0)) (fun i => n - (intOf i).toNat)
  case atStart => exact ⟨0, by omega, rfl, fun j hj => absurd hj (by omega)⟩
  case round =>
    obtain ⟨k, hk, rfl, hz⟩ := hrel
    by_cases hlt : k < n
    · have hlt' : (k : Int) < (n : Int) := by omega
      have hcell := hc.out k hlt
      by_cases h0 : f k = 0
      · have HZ : Hid (∀ j, j < k + 1 → f j = 0) := fun j hj => by
          by_cases e : j = k
          · rw [e]; exact h0
          · exact hz.out j (by omega)
        rw [h0] at hcell
        clear h0 hz
        go_wp2
        go_round
        case rel => exact ⟨k + 1, by omega, by go_num, HZ⟩
        case measure => simp [intOf]; omega
      · have HN : Hid (R = false) := HR.out.symm.trans (nil_not hlt h0)
        have h0' : (f k == 0) = false := by simpa using h0
        clear hz
        generalize f k = x at *
        go_wp2
        go_ret
        exact ⟨congrArg (fun b => Ending.returned (.bool b)) HN.out.symm, rfl⟩
    · obtain rfl : k = n := by omega
      have HN : Hid (R = true) := HR.out.symm.trans (decide_eq_true hz.out)
      clear hz
      go_wp2
      go_ret
      exact ⟨congrArg (fun b => Ending.returned (.bool b)) HN.out.symm, rfl⟩
/-- A sector's number. -/
def numS (f : Nat → Int) : Int := wrap64 ((rd (sh f 4) 8 : Nat) : Int)
set_option maxHeartbeats 400000 in
theorem number_at (b off c : Nat) (f : Nat → Int) (w : World) (hcap : 128 ≤ c) (hby : ∀ i, 0 ≤ f i ∧ f i ≤ 255) (hc : Hid (∀ i, i < 128 → w.cell? ⟨b, off + i, none⟩ = some (.int .u8 (f i)))) :
    Calls Tryz.prog 134 #[.slice (some ⟨b, off, none⟩) 128 c] w fun e w' => e = .returned (.int .i64 (numS f)) ∧ w' = w := by
  have h1 : (12 : Int) ≤ (c : Int) := by omega
  have h2 : (4 : Int) < (c : Int) := by omega
  go_enter Tryz.func134, Tryz.ntmps134
  go_wp2_with fail
  refine (get_at b (off + 4) 8 _ (sh f 4) w (by omega) (sh_by hby 4) ?_).mono ?_
  · intro i hi
    rw [Nat.add_assoc]
    exact hc.out (4 + i) (by omega)
  rintro e w1 ⟨rfl, rfl⟩
  go_wp2
  go_ret
  exact ⟨rfl, rfl⟩
set_option maxHeartbeats 400000 in
theorem load_at (b off c : Nat) (f : Nat → Int) (w : World) (hcap : 128 ≤ c) (hc : Hid (∀ i, i < 128 → w.cell? ⟨b, off + i, none⟩ = some (.int .u8 (f i)))) :
    Calls Tryz.prog 135 #[.slice (some ⟨b, off, none⟩) 128 c] w fun e w' => ∃ v', e = .returned v' ∧ Own w' w.heap.size v' (lst (sh f 12) 112) ∧ Below w.heap.size w w' := by
  have h1 : (124 : Int) ≤ (c : Int) := by omega
  have h2 : (12 : Int) < (c : Int) := by omega
  go_enter Tryz.func135, Tryz.ntmps135
  go_wp2_with fail
  refine (clone (some ⟨b, off + 12, none⟩) 112 _ (sh f 12) w (by omega) (.inr ⟨_, rfl, fun i hi => ?_⟩)).mono ?_
  · rw [Addr.add_lit, Nat.add_assoc]
    exact hc.out (12 + i) (by omega)
  rintro e w1 ⟨v, rfl, h3, h4⟩
  go_wp2
  go_ret
  exact ⟨v, rfl, h3, h4⟩

/-- A sector's sum, as it stands and as it is. -/
def sumS (f : Nat → Int) : Nat := Crc.sum (lstN f 124)
set_option maxRecDepth 100000 in
set_option maxHeartbeats 1000000 in
theorem sealed_at (b off c : Nat) (f : Nat → Int) (w : World) (hcap : 128 ≤ c) (hby : ∀ i, 0 ≤ f i ∧ f i ≤ 255) (hc : Hid (∀ i, i < 128 → w.cell? ⟨b, off + i, none⟩ = some (.int .u8 (f i)))) (ht : Hid (∀ q, Tab (w.drewN q))) :
    Calls Tryz.prog 168 #[.slice (some ⟨b, off, none⟩) 128 c] w fun e w' => e = .returned (.bool (decide (rd (sh f 124) 4 = sumS f))) ∧ ∃ q, w' = w.drewN q := by
  have h1 : (124 : Int) ≤ (c : Int) := by omega
  have h2 : (124 : Int) < (c : Int) := by omega
  have hr := rd_lt (sh_by hby 124) 4
  have hr4 : (256 : Nat) ^ 4 = 4294967296 := by decide
  rw [hr4] at hr
  have hw : wrap64 ((rd (sh f 124) 4 : Nat) : Int) = ((rd (sh f 124) 4 : Nat) : Int) := Wm.w64 _ (by omega)
  have hsl : sumS f < 2 ^ 32 := Crc.sum_lt _ (lstN_by hby 124)
  have hG : Hid (∀ q, ∀ i, i < 4 → (w.drewN q).cell? ⟨b, off + 124 + i, none⟩ = some (.int .u8 (sh f 124 i))) := fun q i hi => by
    rw [Nat.add_assoc]
    exact hc.out (124 + i) (by omega)
  have hL : Hid (∀ q, Lay (w.drewN q) (some ⟨b, off, none⟩) 124 f) := fun q => .inr ⟨b, off, rfl, fun i hi => hc.out i (by omega)⟩
  have HB : Hid (∀ i, 0 ≤ f i ∧ f i ≤ 255) := hby
  have HE : Hid (Crc.sum (lstN f 124) = sumS f) := rfl
  clear hby hc hr
  have hsl' : sumS f < 4294967296 := hsl
  have HW : Hid (wrap64 ((rd (sh f 124) 4 : Nat) : Int) = ((rd (sh f 124) 4 : Nat) : Int)) := hw
  clear hw hsl
  go_enter Tryz.func168, Tryz.ntmps168
  go_wp2_with fail
  go_quiet (first
    | (go_at_call 160; exact Calls.quiet_of_same (get_at b (off + 124) 4 _ (sh f 124) _ (by omega) (sh_by HB.out 124) (hG.out _)))
    | (go_at_call 163; exact Calls.quiet_of_same (wSum (some ⟨b, off, none⟩) 124 _ f (by omega) HB.out (hL.out _) (ht.out _))))
  go_wp2
  go_ret
  refine ⟨?_, _, rfl⟩
  rw [HW.out, HE.out, Wm.w64 ((sumS f : Nat) : Int) (by omega)]
  have e : (((rd (sh f 124) 4 : Nat) : Int) == ((sumS f : Nat) : Int)) = decide (rd (sh f 124) 4 = sumS f) := by
    by_cases h : rd (sh f 124) 4 = sumS f
    · simp [h]
    · have h' : ¬ ((rd (sh f 124) 4 : Nat) : Int) = ((sumS f : Nat) : Int) := by omega
      simp [h, h']
  rw [e]
  rfl
end Go.Proofs.YthfokciijcmhbaaGreatDoor

namespace Go.Proofs.YthfokciijcmhbaaGreatDoor
open Go.RowKit
set_option linter.unusedVariables false

/-- A sector's first 124 bytes: head, number, load, noughts behind it. -/
def body (hd : Nat → Int) (s m : Nat) (f : Nat → Int) : Nat → Int := ov (ov (ov (fun _ => 0) 0 4 hd) 4 8 (leAt s)) 12 m f
def sec (hd : Nat → Int) (s m : Nat) (f : Nat → Int) : Nat → Int := ov (body hd s m f) 124 4 (leAt (sumS (body hd s m f)))
theorem ov_by {F f : Nat → Int} (h1 : ∀ i, 0 ≤ F i ∧ F i ≤ 255) (h2 : ∀ i, 0 ≤ f i ∧ f i ≤ 255) (off m : Nat) : ∀ i, 0 ≤ ov F off m f i ∧ ov F off m f i ≤ 255 := fun i => by
  unfold ov
  split
  · exact h2 _
  · exact h1 _
theorem body_by {hd f : Nat → Int} (h1 : ∀ i, 0 ≤ hd i ∧ hd i ≤ 255) (h2 : ∀ i, 0 ≤ f i ∧ f i ≤ 255) (s m : Nat) : ∀ i, 0 ≤ body hd s m f i ∧ body hd s m f i ≤ 255 :=
  ov_by (ov_by (ov_by (fun _ => by decide) h1 _ _) (leAt_by s) _ _) h2 _ _
theorem sec_by {hd f : Nat → Int} (h1 : ∀ i, 0 ≤ hd i ∧ hd i ≤ 255) (h2 : ∀ i, 0 ≤ f i ∧ f i ≤ 255) (s m : Nat) : ∀ i, 0 ≤ sec hd s m f i ∧ sec hd s m f i ≤ 255 :=
  ov_by (body_by h1 h2 s m) (leAt_by _) _ _

theorem Tab.below {w w' : World} {B : Nat} (h : Tab w) (hb : Below B w w') (hB : w.heap.size ≤ B) : Tab w' := fun i hi => by
  have := h i hi
  rw [hb.cell (p := ⟨0, i, none⟩) (Nat.lt_of_lt_of_le (World.block_lt_of_cell? w _ this) hB)]
  exact this
theorem Tab.lt {w : World} (h : Tab w) : 0 < w.heap.size := World.block_lt_of_cell? w ⟨0, 0, none⟩ (h 0 (by decide))
theorem Tab.drew {w : World} (h : Tab w) (q : Nat) : Tab (w.drewN q) := fun i hi => h i hi
theorem made_zero (n : Nat) : (madeCells (Value.int .u8 0).cells (n * 1)).toList = (lst (fun _ => 0) n).map (Value.int .u8) := by
  apply List.ext_getElem?
  intro i
  by_cases h : i < n
  · simp [lst, madeCells, h, Value.cells]
    rw [Nat.mod_one]
    rfl
  · simp [lst, madeCells, h]
section
variable {w : World} {ops : Array Oper} {rest : List Oper} {o : Oper} {a : Act} {Q : Exit → Act → World → Prop}
/-- 'make([]byte, n)'. -/
theorem wpList_mk (hgd : o.guard = none) (l c : Operand) (hop : o.op = Op.makeSlice 47 l c) (n : Nat) (L C : Int) (hl : a.eval l = .int .i64 L) (hc : a.eval c = .int .i64 C) (hL : L = (n : Int)) (hC : C = (n : Int)) (hn : n ≤ 140737488355328) (B : Nat) (hB : B ≤ w.heap.size)
    (h : ∀ w', Own w' B (.slice (some ⟨w.heap.size, 0, none⟩) n n) (lst (fun _ => 0) n) → Below B w w' → wpList Tryz.prog ops Q rest (a.put o.dst (.slice (some ⟨w.heap.size, 0, none⟩) n n)) w') : wpList Tryz.prog ops Q (o :: rest) a w := by
  obtain ⟨i0, hi, hz0, hz1, hz2⟩ := info_parts info5
  refine wpList_make_full w hgd l c 47 hop B 5 i0 (.int .u8 0) 1 Tryz.underlying47 hi hz0 hz1 .i64 .i64 L C n hl hc hL hC (by rw [hz2]; omega) (by unfold maxLen; omega) hB ?_
  intro w' h1 h2
  refine h w' ?_ ((Below.refl _ w).grown h2 hB (fun k hk => by cases hk))
  unfold Own
  rw [made_zero] at h1
  rw [lst_length]
  exact h1
end

set_option maxRecDepth 100000 in
set_option maxHeartbeats 2000000 in
theorem seal_ok (x0 x1 x2 x3 : Int) (a0 : Option Addr) (m c s : Nat) (f : Nat → Int) (w : World) (hm : m ≤ 112) (hs : s ≤ 9223372036854775807) (hf : From w a0 m f) (hby : ∀ i, 0 ≤ f i ∧ f i ≤ 255) (hx : ∀ x ∈ [x0, x1, x2, x3], 0 ≤ x ∧ x ≤ 255) (ht : Tab w) :
    Calls Tryz.prog 142 #[.agg #[.int .u8 x0, .int .u8 x1, .int .u8 x2, .int .u8 x3], .int .i64 (s : Int), .slice a0 m c] w fun e w' => ∃ v', e = .returned v' ∧ Own w' w.heap.size v' (lst (sec (fn [x0, x1, x2, x3]) s m f) 128) ∧ Below w.heap.size w w' := by
  obtain ⟨i0, hi, hz0, hz1, hz2⟩ := info_parts info5
  have HF : Hid (From w a0 m f) := hf
  have HT : Hid (Tab w) := ht
  clear hf ht
  go_enter Tryz.func142, Tryz.ntmps142
  go_wp2_with (at_make; refine wpList_mk rfl _ _ rfl 128 _ _ rfl rfl rfl rfl (by omega) (w.heap.size + 1) (by simp) ?_)
  intro w1 ho1 hb1
  have hsz : (w.alloc (.cells #[.int .u8 x0, .int .u8 x1, .int .u8 x2, .int .u8 x3] 218)).heap.size = w.heap.size + 1 := by simp
  have hbA : Below w.heap.size w w1 := ((Below.refl _ w).alloc (Nat.le_refl _) _).trans (hb1.mono (by omega))
  have hH : From w1 (some ⟨w.heap.size, 0, none⟩) 4 (fn [x0, x1, x2, x3]) := From.below (w := w.alloc (.cells #[.int .u8 x0, .int .u8 x1, .int .u8 x2, .int .u8 x3] 218)) (.inr ⟨_, rfl, fun i hi => by
    rw [Addr.add_lit, Nat.zero_add, World.cell?_alloc_at _ _ _ _ rfl]
    have hk : i = 0 ∨ i = 1 ∨ i = 2 ∨ i = 3 := by omega
    rcases hk with h | h | h | h <;> subst h <;> rfl⟩) hb1 (by omega)
  have hs1 := hb1.size
  rw [hsz] at hs1
  obtain ⟨g, hg⟩ : ∃ g, w.heap.size + 1 = g := ⟨_, rfl⟩
  rw [hg] at ho1 ⊢
  have HG : Hid (w.heap.size + 1 = g) := hg
  have hgw : w.heap.size ≤ g := by omega
  obtain ⟨h0, hh0⟩ : ∃ h0, h0 = w.heap.size := ⟨_, rfl⟩
  have HO1 : Hid (Own w1 g (.slice (some ⟨g, 0, none⟩) 128 128) (lst (fun _ => 0) 128)) := ho1
  have HH : Hid (From w1 (some ⟨w.heap.size, 0, none⟩) 4 (fn [x0, x1, x2, x3])) := hH
  have HL : Hid (128 = (lst (fun _ => 0) 128).length) := (lst_length _ _).symm
  clear ho1 hH hb1 hsz hg
  go_wp2_with (refine wpList_copyF rfl _ _ rfl g g 128 128 (lst (fun _ => 0) 128) HO1.out HL.out 0 128 _ _ rfl _ 4 _ (fn [x0, x1, x2, x3]) rfl HH.out (by rw [lst_length]; omega) (by omega) (fun _ => rfl) ?_)
  intro w2 ho2 hb2
  rw [lst_ov _ _ _ _ _ (by omega)] at ho2
  have hs2 := hb2.size
  have hbB : Below w.heap.size w w2 := hbA.trans (hb2.mono hgw)
  clear HO1 HH HL hb2 hbA
  go_wp2_with fail
  refine (put g 4 8 _ 128 128 g s _ w2 (Nat.le_refl _) hs (by omega) (by omega) ho2).mono ?_
  rintro e w3 ⟨rfl, ho3, hb3⟩
  have hs3 := hb3.size
  have hbC : Below w.heap.size w w3 := hbB.trans (hb3.mono hgw)
  have HF3 : Hid (From w3 a0 m f) := HF.out.below hbC (Nat.le_refl _)
  have HO3 : Hid (Own w3 g (.slice (some ⟨g, 0, none⟩) 128 128) (lst (ov (ov (fun _ => 0) 0 4 (fn [x0, x1, x2, x3])) 4 8 (leAt s)) 128)) := ho3
  have HL : Hid (128 = (lst (ov (ov (fun _ => 0) 0 4 (fn [x0, x1, x2, x3])) 4 8 (leAt s)) 128).length) := (lst_length _ _).symm
  clear ho2 ho3 hb3 hbB
  go_wp2_with (refine wpList_copyF rfl _ _ rfl g g 128 128 _ HO3.out HL.out 12 112 _ _ rfl a0 m c f rfl HF3.out (by rw [lst_length]; omega) (by omega) (fun _ => rfl) ?_)
  intro w4 ho4 hb4
  rw [lst_ov _ _ _ _ _ (by omega)] at ho4
  have hs4 := hb4.size
  have hbD : Below w.heap.size w w4 := hbC.trans (hb4.mono hgw)
  have hH : ∀ i, 0 ≤ fn [x0, x1, x2, x3] i ∧ fn [x0, x1, x2, x3] i ≤ 255 := fn_by hx
  have HBY : Hid (∀ i, 0 ≤ body (fn [x0, x1, x2, x3]) s m f i ∧ body (fn [x0, x1, x2, x3]) s m f i ≤ 255) := body_by hH hby s m
  have HO4 : Hid (Own w4 g (.slice (some ⟨g, 0, none⟩) 128 128) (lst (body (fn [x0, x1, x2, x3]) s m f) 128)) := ho4
  have HS : Hid (sumS (body (fn [x0, x1, x2, x3]) s m f) < 2 ^ 32) := Crc.sum_lt _ (lstN_by HBY.out 124)
  have HT4 : Hid (Tab w4) := HT.out.below hbD (Nat.le_refl _)
  have HRES : Hid (lst (ov (body (fn [x0, x1, x2, x3]) s m f) 124 4 (leAt (sumS (body (fn [x0, x1, x2, x3]) s m f)))) 128 = lst (sec (fn [x0, x1, x2, x3]) s m f) 128) := rfl
  have HSE : Hid (Crc.sum (lstN (body (fn [x0, x1, x2, x3]) s m f) 124) = sumS (body (fn [x0, x1, x2, x3]) s m f)) := rfl
  clear ho4 hb4 hbC HO3 HF3 HL hH hby hx HF HT
  generalize body (fn [x0, x1, x2, x3]) s m f = G at *
  generalize hZ : sumS G = Z at *
  have hZ' : Z < 4294967296 := HS.out
  have HW : Hid (IntKind.i64.wrap (Z : Int) = (Z : Int)) := (by simp only [IntKind.wrap, IntKind.bits, IntKind.signed]; simp; omega : IntKind.i64.wrap (Z : Int) = (Z : Int))
  have HSE : Hid (Crc.sum (lstN G 124) = Z) := HSE
  clear hZ HS
  have HQ : Hid (∀ wq : World, wq.heap = w4.heap → Lay wq (some ⟨g, 0, none⟩) 124 G ∧ Tab wq ∧ Own wq g (.slice (some ⟨g, 0, none⟩) 128 128) (lst G 128)) := fun wq hq => by
    have hc : ∀ p, wq.cell? p = w4.cell? p := fun p => World.cell?_of_block (w := w4) (by rw [hq])
    refine ⟨.inr ⟨g, 0, rfl, fun i hi => ?_⟩, fun i hi => ?_, ?_⟩
    · rw [Nat.zero_add, hc]; exact HO4.out.cellF i (by omega)
    · rw [hc]; exact HT4.out i hi
    · have h4 := HO4.out
      unfold Own World.ownsRow at h4 ⊢
      rw [hq]
      exact h4
  clear HO4 HT4
  go_wp2_with fail
  go_region_with (first
    | (go_at_call 163; refine (wSum (some ⟨g, 0, none⟩) 124 _ G (by omega) HBY.out (by exact (HQ.out _ rfl).1) (by exact (HQ.out _ rfl).2.1)).mono ?_; rintro e1 w5 ⟨rfl, rfl⟩; rw [HSE.out])
    | (go_at_call 162; rw [HW.out]; refine (put g 124 4 _ 128 128 g Z G _ (Nat.le_refl _) (by omega) (by omega) (by omega) (by exact (HQ.out _ rfl).2.2)).mono ?_; rintro e' w' ⟨rfl, ho5, hb5⟩))
  have hbE := (blw_drewN 1 hbD).trans (hb5.mono hgw)
  go_wp2
  go_ret
  refine ⟨_, rfl, ?_, hbE⟩
  rw [← HRES.out]
  exact ho5.mono hgw
end Go.Proofs.YthfokciijcmhbaaGreatDoor

namespace Go.Proofs.YthfokciijcmhbaaGreatDoor
open Go.RowKit
set_option linter.unusedVariables false

/-- The head of a log's sector. -/
def hdL (p u : Nat) : Nat → Int := fn [76, (u : Int), ((p % 256 : Nat) : Int), ((p / 256 % 256 : Nat) : Int)]
/-- The sector at a place of a log: its first record's number, so many bytes of f. -/
def lsec (p N u : Nat) (f : Nat → Int) : Nat → Int := sec (hdL p u) N u f
/-- A sector's bytes on a disk. -/
def secAt (dur : Nat → Int) (p : Nat) : Nat → Int := sh dur (p * 128)
structure Right (s : Nat → Int) (p N u : Nat) : Prop where
  hu : u ≤ 112
  h1 : 1 ≤ N
  h2 : N ≤ 4611686018427387904
  eq : ∀ i, i < 128 → s i = lsec p N u (sh s 12) i

theorem hdL_by {p u : Nat} (h : u ≤ 112) (i : Nat) : 0 ≤ hdL p u i ∧ hdL p u i ≤ 255 := by
  refine fn_by (fun x hx => ?_) i
  simp only [List.mem_cons, List.not_mem_nil, or_false] at hx
  rcases hx with rfl | rfl | rfl | rfl <;> omega
theorem sec_head (hd : Nat → Int) (N u : Nat) (f : Nat → Int) (i : Nat) (h : i < 4) : sec hd N u f i = hd i := by
  unfold sec body ov
  rw [if_neg (by omega), if_neg (by omega), if_neg (by omega), if_pos (by omega), Nat.sub_zero]
theorem sec_num (hd : Nat → Int) (N u : Nat) (f : Nat → Int) (i : Nat) (h : i < 8) : sec hd N u f (4 + i) = leAt N i := by
  unfold sec body ov
  rw [if_neg (by omega), if_neg (by omega), if_pos (by omega), show 4 + i - 4 = i by omega]
theorem sec_load (hd : Nat → Int) (N u : Nat) (f : Nat → Int) (i : Nat) (h : i < u) (hu : u ≤ 112) : sec hd N u f (12 + i) = f i := by
  unfold sec body ov
  rw [if_neg (by omega), if_pos (by omega), show 12 + i - 12 = i by omega]
theorem body_ext {hd : Nat → Int} {N u : Nat} {f g : Nat → Int} (h : ∀ i, i < u → f i = g i) : body hd N u f = body hd N u g := by
  funext i
  unfold body ov
  by_cases e : 12 ≤ i ∧ i < 12 + u
  · rw [if_pos e, if_pos e, h _ (by omega)]
  · rw [if_neg e, if_neg e]
theorem sec_ext {hd : Nat → Int} {N u : Nat} {f g : Nat → Int} (h : ∀ i, i < u → f i = g i) : sec hd N u f = sec hd N u g := by
  unfold sec
  rw [body_ext h]
theorem rd_le (N : Nat) {f : Nat → Int} : ∀ (k : Nat) (h : ∀ i, i < k → f i = leAt N i), rd f k = N % 256 ^ k
  | 0, _ => by simp [rd, Nat.mod_one]
  | k + 1, h => by
    rw [rd, rd_le N k (fun i hi => h i (by omega)), h k (by omega), Nat.mod_pow_succ]
    unfold leAt
    rw [Int.toNat_natCast, Nat.mul_comm]
theorem Right.used {s : Nat → Int} {p N u : Nat} (h : Right s p N u) : s 1 = (u : Int) := by
  rw [h.eq 1 (by decide)]
  unfold lsec
  rw [sec_head _ _ _ _ 1 (by decide)]
  rfl
theorem Right.num {s : Nat → Int} {p N u : Nat} (h : Right s p N u) : numS s = (N : Int) := by
  have h2 := h.h2
  unfold numS
  rw [rd_le N 8 (fun i hi => ?_)]
  · rw [Nat.mod_eq_of_lt (by have : (256 : Nat) ^ 8 = 18446744073709551616 := by decide
                             omega)]
    unfold wrap64
    omega
  · show s (4 + i) = _
    rw [h.eq _ (by omega)]
    exact sec_num _ _ _ _ i hi
theorem Right.uniq {s : Nat → Int} {p N u N' u' : Nat} (h : Right s p N u) (k : Right s p N' u') : N = N' ∧ u = u' := by
  have a := h.used
  have b := k.used
  have c := h.num
  have d := k.num
  rw [a] at b
  rw [c] at d
  omega
theorem Right.ext {s s' : Nat → Int} {p N u : Nat} (h : Right s p N u) (e : ∀ i, i < 128 → s i = s' i) : Right s' p N u := by
  refine ⟨h.hu, h.h1, h.h2, fun i hi => ?_⟩
  rw [← e i hi, h.eq i hi]
  unfold lsec
  rw [sec_ext (fun j hj => ?_)]
  have := h.hu
  exact e _ (by omega)
theorem lsec_right (p : Nat) {N u : Nat} {f : Nat → Int} (hu : u ≤ 112) (h1 : 1 ≤ N) (h2 : N ≤ 4611686018427387904) : Right (lsec p N u f) p N u := by
  refine ⟨hu, h1, h2, fun i hi => ?_⟩
  show sec _ _ _ _ _ = sec _ _ _ _ _
  rw [sec_ext (fun j hj => ?_)]
  exact (sec_load _ _ _ _ j hj hu).symm
theorem blank_wrong {s : Nat → Int} {p N u : Nat} (h : s 0 = 0) : ¬ Right s p N u := fun k => by
  have := k.eq 0 (by decide)
  rw [h] at this
  unfold lsec at this
  rw [sec_head _ _ _ _ 0 (by decide)] at this
  have e : hdL p u 0 = 76 := rfl
  rw [e] at this
  exact absurd this (by decide)
theorem secAt_by {dur : Nat → Int} (h : ∀ i, 0 ≤ dur i ∧ dur i ≤ 255) (p i : Nat) : 0 ≤ secAt dur p i ∧ secAt dur p i ≤ 255 := h _

/-- The bytes of a log, sector behind sector. -/
def lg (dur : Nat → Int) (j : Nat) : Int := dur (j / 112 * 128 + 12 + j % 112)
theorem lg_at (dur : Nat → Int) (p i : Nat) (h : i < 112) : lg dur (p * 112 + i) = sh (secAt dur p) 12 i := by
  unfold lg secAt sh
  rw [show (p * 112 + i) / 112 = p by omega, show (p * 112 + i) % 112 = i by omega]
  congr 1
  omega
/-- The first k sectors are a log's, all but the last full; so many bytes. -/
structure Taken (dur : Nat → Int) (first tot k : Nat) : Prop where
  none : k = 0 → first = 0 ∧ tot = 0
  full : ∀ p, p + 1 < k → Right (secAt dur p) p first 112
  last : ∀ q, k = q + 1 → q * 112 ≤ tot ∧ tot ≤ q * 112 + 112 ∧ Right (secAt dur q) q first (tot - q * 112)
/-- Where a log's sectors end. -/
def Ends (dur : Nat → Int) (n first tot k : Nat) : Prop := k = n ∨ (0 < k ∧ tot < k * 112) ∨ ∀ N u, Right (secAt dur k) k N u → 0 < k ∧ N ≠ first
/-- What a log of n sectors has. -/
def Has (dur : Nat → Int) (n first tot : Nat) : Prop := ∃ k, k ≤ n ∧ Taken dur first tot k ∧ Ends dur n first tot k
theorem Taken.nil (dur : Nat → Int) : Taken dur 0 0 0 := ⟨fun _ => ⟨rfl, rfl⟩, fun p h => by omega, fun q h => by omega⟩
theorem Taken.step {dur : Nat → Int} {first tot k N u : Nat} (h : Taken dur first tot k) (ht : tot = k * 112) (hr : Right (secAt dur k) k N u) (hf : k = 0 ∨ N = first) : Taken dur N (tot + u) (k + 1) := by
  have hu := hr.hu
  refine ⟨fun e => by omega, fun p hp => ?_, fun q hq => ?_⟩
  · by_cases e : p + 1 < k
    · rcases hf with h0 | rfl
      · omega
      · exact h.full p e
    · obtain rfl : k = p + 1 := by omega
      rcases hf with h0 | rfl
      · omega
      · have := (h.last p rfl).2.2
        rw [show tot - p * 112 = 112 by omega] at this
        exact this
  · obtain rfl : q = k := by omega
    refine ⟨by omega, by omega, ?_⟩
    rw [show tot + u - q * 112 = u by omega]
    exact hr
/-- Of every sector that was taken. -/
theorem Taken.at {dur : Nat → Int} {first tot k : Nat} (h : Taken dur first tot k) (p : Nat) (hp : p < k) : ∃ u, Right (secAt dur p) p first u ∧ (p + 1 < k → u = 112) ∧ (p + 1 = k → u = tot - p * 112) := by
  by_cases e : p + 1 < k
  · exact ⟨112, h.full p e, fun _ => rfl, fun e' => by omega⟩
  · obtain rfl : k = p + 1 := by omega
    exact ⟨_, (h.last p rfl).2.2, fun e' => by omega, fun _ => rfl⟩
theorem Has.uniq {dur : Nat → Int} {n f t f' t' : Nat} (h : Has dur n f t) (h' : Has dur n f' t') : f = f' ∧ t = t' := by
  obtain ⟨k, hk, hT, hE⟩ := h
  obtain ⟨k', hk', hT', hE'⟩ := h'
  have key : ∀ {f t f' t' k k' : Nat}, k' ≤ n → Taken dur f t k → Ends dur n f t k → Taken dur f' t' k' → ¬ k < k' := by
    intro f t f' t' k k' hk' hT hE hT' hlt
    obtain ⟨u', r', _, e2⟩ := hT'.at k hlt
    have hff : 0 < k → f = f' := fun h0 => by
      obtain ⟨a, ra, _⟩ := hT.at 0 h0
      obtain ⟨b, rb, _⟩ := hT'.at 0 (by omega)
      exact (ra.uniq rb).1
    rcases hE with rfl | ⟨h0, hlt2⟩ | hN
    · omega
    · obtain ⟨q, rfl⟩ : ∃ q, k = q + 1 := ⟨k - 1, by omega⟩
      have l1 := (hT.last q rfl)
      have l2 := hT'.full q (by omega)
      have := (l1.2.2.uniq l2).2
      omega
    · have := hN f' u' r'
      exact this.2 (hff this.1).symm
  have e : k = k' := by
    have a := key hk' hT hE hT'
    have b := key hk hT' hE' hT
    omega
  subst e
  rcases Nat.eq_zero_or_pos k with rfl | h0
  · have a := hT.none rfl
    have b := hT'.none rfl
    omega
  · obtain ⟨q, rfl⟩ : ∃ q, k = q + 1 := ⟨k - 1, by omega⟩
    obtain ⟨a1, a2, a3⟩ := hT.last q rfl
    obtain ⟨b1, b2, b3⟩ := hT'.last q rfl
    have := a3.uniq b3
    omega
theorem Has.le {dur : Nat → Int} {n f t : Nat} (h : Has dur n f t) : t ≤ n * 112 := by
  obtain ⟨k, hk, hT, _⟩ := h
  rcases Nat.eq_zero_or_pos k with rfl | h0
  · have := hT.none rfl; omega
  · obtain ⟨q, rfl⟩ : ∃ q, k = q + 1 := ⟨k - 1, by omega⟩
    have := hT.last q rfl
    omega
theorem Has.first {dur : Nat → Int} {n f t : Nat} (h : Has dur n f t) : f ≤ 4611686018427387904 ∧ (f = 0 → t = 0) := by
  obtain ⟨k, hk, hT, _⟩ := h
  rcases Nat.eq_zero_or_pos k with rfl | h0
  · have := hT.none rfl; omega
  · obtain ⟨u, hr, _⟩ := hT.at 0 h0
    exact ⟨hr.h2, fun e => by have := hr.h1; omega⟩
end Go.Proofs.YthfokciijcmhbaaGreatDoor
