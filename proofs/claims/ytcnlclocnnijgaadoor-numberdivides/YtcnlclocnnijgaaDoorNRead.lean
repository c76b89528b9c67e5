/-
  Contract of readSize: the size of decimal digits. Condition: they are a number's, at most 200.
-/
import Derived.Test.YtcnlclocnnijgaaDoorNSText2
import Derived.Test.YtcnlclocnnijgaaDoorNTimes
import Derived.Test.YtcnlclocnnijgaaDoorNMinus
namespace Go.Proofs.YtcnlclocnnijgaaDoor
open Go.RowKit
set_option linter.unusedVariables false

theorem pow9 (k : Nat) : (10 : Nat) ^ (9 * k) = 1000000000 ^ k := by rw [Nat.pow_mul]
/-- A limb is there when its digits have come. -/
theorem limb_end {u N e st q k : Nat} (hu : u < 10 ^ N) (he : e + 9 * k = N) (h : q + u / 10 ^ (N - st) * 10 ^ (e - st) = u / 10 ^ (N - e)) (hq : q < 10 ^ (e - st)) (hst : st = e - 9) : q = lb u k := by
  rw [show N - e = 9 * k by omega, pow9] at h
  unfold lb
  rw [← h]
  by_cases h9 : 9 ≤ e
  · rw [show e - st = 9 by omega] at hq ⊢
    have : (10 : Nat) ^ 9 = 1000000000 := by decide
    rw [this] at hq ⊢
    omega
  · have hz : u / 10 ^ (N - st) = 0 := by rw [show st = 0 by omega, Nat.sub_zero]; exact Nat.div_eq_of_lt hu
    rw [hz]
    have : (10 : Nat) ^ (e - st) ≤ 10 ^ 9 := Nat.pow_le_pow_right (by decide) (by omega)
    have e9 : (10 : Nat) ^ 9 = 1000000000 := by decide
    rw [e9] at this
    omega
theorem limb_step {u N i st q : Nat} (hi : i < N) (hs : st ≤ i) (h : q + u / 10 ^ (N - st) * 10 ^ (i - st) = u / 10 ^ (N - i)) (hq : q < 10 ^ (i - st)) :
    q * 10 + dd u (N - 1 - i) + u / 10 ^ (N - st) * 10 ^ (i + 1 - st) = u / 10 ^ (N - (i + 1)) ∧ q * 10 + dd u (N - 1 - i) < 10 ^ (i + 1 - st) := by
  have hd := dd_lt u (N - 1 - i)
  have hp : u / 10 ^ (N - 1 - i) = u / 10 ^ (N - 1 - i + 1) * 10 + dd u (N - 1 - i) := pre_step
  rw [show N - 1 - i + 1 = N - i by omega, ← h] at hp
  rw [show N - (i + 1) = N - 1 - i by omega, hp, show i + 1 - st = (i - st) + 1 by omega, Nat.pow_succ, ← Nat.mul_assoc]
  refine ⟨?_, by omega⟩
  rw [Nat.add_mul]
  omega

set_option maxRecDepth 100000 in
set_option maxHeartbeats 2000000 in
theorem readSize (E : ByteArray) (u N : Nat) (w : World) (h : Dgs E 0 u N) :
    Calls Tryd.prog 67 #[.string E] w fun e w' => ∃ v, e = .returned v ∧ OwS w' w.heap.size v u ∧ Below w.heap.size w w' := by
  obtain ⟨i0, hi, hz0, hz1, hz2⟩ := info_parts infoU
  have hsz : E.size = N := by have := h.size; omega
  have hN := h.le
  have HU : Hid (u < 10 ^ N) := by rw [h.num]; exact Lib.lt_pow_nDigits u
  have HD : Hid (∀ i (hi : i < E.size), (E[i].toNat : Int) = 48 + (dd u (N - 1 - i) : Int)) := fun i hi => by
    have := h.by_ i hi (Nat.zero_le _)
    rw [hsz] at this
    omega
  have hE0 : (E.size : Int) = (N : Int) := by omega
  clear h
  go_enter Tryd.func67, Tryd.ntmps67
  go_wp2
  go_loopw [3, 4] (fun x y wr => ∃ (k : Nat) (z : Int) (v : Value), x = v ∧ y = .int .i64 z ∧ z = (N : Int) - 9 * (k : Int) ∧ 9 * k < N + 9 ∧ OwN .u64 69 wr w.heap.size v k (fun i => (lb u i : Int)) ∧ Below w.heap.size w wr) (fun _ y _ => (intOf y).toNat)
  case atStart => exact ⟨0, _, _, rfl, rfl, by omega, by omega, OwN.nil _ _ _ _ _, Below.refl _ _⟩
  case round =>
    obtain ⟨k, z, v, hv, rfl, hz, hk, ho, hb⟩ := hrel
    obtain rfl : v = u3 := hv.symm
    clear hv
    obtain ⟨wo, hwo⟩ : ∃ wo, wo = wr := ⟨_, rfl⟩
    obtain rfl : wo = wr := hwo
    by_cases hpos : 0 < z
    · obtain ⟨e, rfl⟩ := Int.eq_ofNat_of_zero_le (show 0 ≤ z by omega)
      have he : e + 9 * k = N := by omega
      obtain ⟨st, hst⟩ : ∃ st, e - 9 = st := ⟨_, rfl⟩
      have hmax : max ((e : Int) - 9) 0 = (st : Int) := by omega
      have hw9 : wrap64 ((e : Int) - 9) = (e : Int) - 9 := by unfold wrap64; omega
      have hste : st ≤ e := by omega
      have HO : Hid (OwN .u64 69 wo w.heap.size v k (fun i => (lb u i : Int))) := ho
      have hsz2 := hb.size
      clear hz ho
      go_wp2
      go_loopw [5, 6] (fun a i wq => ∃ (j q : Nat), st ≤ j ∧ j ≤ e ∧ i = .int .i64 (j : Int) ∧ a = .int .u64 (q : Int) ∧ Hid (q + u / 10 ^ (N - st) * 10 ^ (j - st) = u / 10 ^ (N - j)) ∧ Hid (q < 10 ^ (j - st)) ∧ wq = wo) (fun _ i _ => e - (intOf i).toNat)
      case atStart => exact ⟨st, 0, Nat.le_refl _, hste, rfl, rfl, by show _ = _; simp, by show _ < _; simp, rfl⟩
      case round =>
        obtain ⟨j, q, hj1, hj2, rfl, rfl, hq, hq2, hwq⟩ := hrel
        obtain rfl : wo = wr := hwq.symm
        clear hwq
        by_cases hlt : j < e
        · have hlt' : (j : Int) < (e : Int) := by omega
          have hj0 : (0 : Int) ≤ (j : Int) := by omega
          have hjE : j < E.size := by omega
          have hjE' : (j : Int) < (N : Int) := by omega
          have hdg := HD.out j hjE
          have hdl := dd_lt u (N - 1 - j)
          obtain ⟨p1, p2⟩ := limb_step (show j < N by omega) hj1 hq.out hq2.out
          obtain ⟨d, hd⟩ : ∃ d, dd u (N - 1 - j) = d := ⟨_, rfl⟩
          rw [hd] at hdg hdl p1 p2
          have hqb : q < 1000000000 := by
            have := Nat.pow_le_pow_right (n := 10) (by decide) (show j - st ≤ 9 by omega)
            have e9 : (10 : Nat) ^ 9 = 1000000000 := by decide
            have := hq2.out
            omega
          have hx : IntKind.u8.wrap ((E[j].toNat : Int) - 48) = (d : Int) := by rw [IntKind.wrap_u8']; omega
          have hx2 : IntKind.u64.wrap (d : Int) = (d : Int) := by rw [IntKind.wrap_u64]; omega
          have P1 : Hid (q * 10 + d + u / 10 ^ (N - st) * 10 ^ (j + 1 - st) = u / 10 ^ (N - (j + 1))) := p1
          have P2 : Hid (q * 10 + d < 10 ^ (j + 1 - st)) := p2
          clear hdg hd hq hq2 p1 p2
          go_wp2
          go_roundw
          case rel => exact ⟨j + 1, q * 10 + d, by omega, by omega, by go_num, by go_num, P1, P2, by first | trivial | rfl⟩
          case measure => simp [intOf]; omega
        · obtain rfl : j = e := by omega
          have hlimb := limb_end HU.out he hq.out hq2.out hst.symm
          have hlb := lb_lt u k
          rw [← hlimb] at hlb
          have HQ : Hid (lb u k = q) := hlimb.symm
          clear hq hq2 hlimb
          have ho := HO.out
          go_wp2_with (at_builtin; refine wpList_append_own _ rfl _ _ 46 rfl w.heap.size 69 i0 (.int .u64 0) 1 8 Tryd.underlying46 hi hz0 hz1 hz2 rfl (by decide) _ k ((lst (fun i => (lb u i : Int)) k).map (Value.int .u64)) rfl (World.ownsRow.alloc ho _) ⟨wo.heap.size, 0, none⟩ 1 1 [.int .u64 (q : Int)] rfl rfl (cell_one_new _ _ _) ?qc3 ?qc4 ?qc5 ?qc6 ?_)
          case qc3 => first | rfl | (intro u hu; simp at hu; subst hu; rfl)
          case qc4 => unfold maxLen; omega
          case qc5 => omega
          case qc6 => first | omega | (simp; omega)
          intro v' w1 hown' hgrow _
          have ho2 : OwN .u64 69 w1 w.heap.size v' (k + 1) (fun i => (lb u i : Int)) := OwN.one hown' (by rw [HQ.out])
          have hb2 := (hb.alloc hsz2 (.cells #[.int .u64 (q : Int)] 69)).grown hgrow (by simp; omega) (fun r hr => (World.ownsRow.lt ho r hr).1)
          clear hown' hgrow ho HO hb
          go_wp2
          go_roundw
          case rel => exact ⟨k + 1, _, v', rfl, by first | rfl | go_num, by omega, by omega, ho2, hb2⟩
          case measure => simp [intOf]; omega
    · have hpos' : ¬ 0 < z := hpos
      have hu : u < 1000000000 ^ k := by
        rw [← pow9]
        exact Nat.lt_of_lt_of_le HU.out (Nat.pow_le_pow_right (by decide) (by omega))
      have A3 := trimmed v k u w.heap.size wo ho hu (by omega)
      clear ho hu hz
      go_wp2_with fail
      refine A3.mono ?_
      rintro e wx ⟨v', rfl, ho, hw⟩
      obtain rfl : wo = wx := hw.symm
      clear hw
      go_wp2
      go_ret
      exact ⟨v', rfl, ho, hb⟩
end Go.Proofs.YtcnlclocnnijgaaDoor
