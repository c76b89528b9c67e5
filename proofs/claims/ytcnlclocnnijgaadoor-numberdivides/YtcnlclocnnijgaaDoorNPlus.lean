/-
  Contract of a size's plus. Condition: fewer than a million limbs.
-/
import Derived.Test.YtcnlclocnnijgaaDoorNTrim
import Derived.Deep.OwnRows
namespace Go.Proofs.YtcnlclocnnijgaaDoor
open Go.RowKit
set_option linter.unusedVariables false

theorem infoU : (Tryd.prog.info? 69).map (fun i => (i.zero, i.size, i.bytes)) = some (some (.int .u64 0), 1, 8) := by kernel_rfl
theorem made_u (q : IntKind) (n : Nat) : (madeCells #[.int q 0] n).toList = (lst (fun _ => 0) n).map (Value.int q) := by
  apply List.ext_getElem?
  intro i
  by_cases hi : i < n
  · rw [List.getElem?_map, lst_get _ _ _ hi]
    simp [madeCells, hi]
    rw [Nat.mod_one]
    rfl
  · rw [List.getElem?_eq_none (by simp [madeCells]; omega), List.getElem?_eq_none (by rw [List.length_map, lst_length]; omega)]
/-- Memory that make has laid. -/
theorem own_makes (q : IntKind) (t : TypeId) (n : Nat) (hn : n ≤ 140737488355328) (w : World) : OwN q t (w.alloc (.cells (madeCells #[.int q 0] n) t)) w.heap.size (.slice (some ⟨w.heap.size, 0, none⟩) n n) n (fun _ => 0) := by
  have := World.ownsRow_lit (base := w.heap.size) (e := t) (size := 1) w (madeCells #[.int q 0] n) n (Nat.le_refl _) (by unfold maxLen; omega) (by rw [← Array.length_toList, made_u]; simp [lst_length])
  rw [made_u] at this
  exact this
theorem make_size (n : Nat) (h : n ≤ 1000000) (w : World) : (Instr.makeSlice 46 (.int .i64 (n : Int)) (.int .i64 (n : Int))).run Tryd.prog w = .ok (.slice (some ⟨w.heap.size, 0, none⟩) n n) (w.alloc (.cells (madeCells #[.int .u64 0] n) 69)) :=
  run_make_row' (P := Tryd.prog) 46 69 (.int .u64 0) 8 Tryd.underlying46 infoU rfl .i64 .i64 n (by omega) (by omega) w

set_option maxRecDepth 100000 in
set_option maxHeartbeats 1000000 in
theorem sPlus (vs vt : Value) (n m : Nat) (w : World) (hs : Sz w vs n) (ht : Sz w vt m) (hn : ln n ≤ 10000) (hm : ln m ≤ 10000) :
    Calls Tryd.prog 56 #[vs, vt] w fun e w' => ∃ v, e = .returned v ∧ OwS w' w.heap.size v (n + m) ∧ Below w.heap.size w w' := by
  have HS : Hid (∀ wq, Below w.heap.size w wq → ∀ i : Nat, i ≤ 9223372036854775807 → Calls Tryd.prog 76 #[vs, .int .i64 (i : Int)] wq fun e w' => e = .returned (.int .u64 (lb n i : Int)) ∧ w' = wq) := fun wq hq i hi => sLimb vs n i wq (hs.below hq (Nat.le_refl _)) hi
  have HT : Hid (∀ wq, Below w.heap.size w wq → ∀ i : Nat, i ≤ 9223372036854775807 → Calls Tryd.prog 76 #[vt, .int .i64 (i : Int)] wq fun e w' => e = .returned (.int .u64 (lb m i : Int)) ∧ w' = wq) := fun wq hq i hi => sLimb vt m i wq (ht.below hq (Nat.le_refl _)) hi
  obtain ⟨ao, c, rfl, h1, h2, h3, _⟩ := hs.open
  obtain ⟨bo, d, rfl, k1, k2, k3, _⟩ := ht.open
  obtain ⟨L, hL⟩ : ∃ L, max (ln n) (ln m) + 1 = L := ⟨_, rfl⟩
  have hL2 : ((max (ln n : Int) (ln m : Int)) + 1) = (L : Int) := by omega
  have hmk := make_size L (by omega)
  obtain ⟨MB, hMB⟩ : ∃ MB, madeCells #[.int .u64 0] L = MB := ⟨_, rfl⟩
  rw [hMB] at hmk
  have HM : Hid (OwN .u64 69 (w.alloc (.cells MB 69)) w.heap.size (.slice (some ⟨w.heap.size, 0, none⟩) L L) L (fun _ => 0)) := by rw [← hMB]; exact own_makes .u64 69 L (by omega) w
  have HV : Hid (n + m < 1000000000 ^ L) := by
    have a1 := lt_pow_ln n
    have a2 := lt_pow_ln m
    have a3 := Nat.pow_le_pow_right (n := 1000000000) (by decide) (Nat.le_max_left (ln n) (ln m))
    have a4 := Nat.pow_le_pow_right (n := 1000000000) (by decide) (Nat.le_max_right (ln n) (ln m))
    show n + m < _
    rw [← hL, Nat.pow_succ]
    omega
  clear hMB hs ht
  go_enter Tryd.func56, Tryd.ntmps56
  go_wp2
  go_loopw [6, 17] (fun x i wr => ∃ k c' : Nat, k ≤ L ∧ i = .int .i64 (k : Int) ∧ x = .int .u64 (c' : Int) ∧ c' ≤ 1 ∧ Hid (c' + n / 1000000000 ^ k + m / 1000000000 ^ k = (n + m) / 1000000000 ^ k) ∧ OwN .u64 69 wr w.heap.size (.slice (some ⟨w.heap.size, 0, none⟩) L L) L (fun j => if j < k then (lb (n + m) j : Int) else 0) ∧ Below w.heap.size w wr) (fun _ i _ => L - (intOf i).toNat)
  case atStart => exact ⟨0, 0, Nat.zero_le _, rfl, rfl, by omega, by show _ = _; simp, HM.out.ext (fun j _ => by simp), (Below.refl _ w).alloc (Nat.le_refl _) _⟩
  case round =>
    obtain ⟨k, c', hk, rfl, rfl, hc1, hq, ho, hb⟩ := hrel
    by_cases hlt : k < L
    · have hlt' : (k : Int) < (L : Int) := by omega
      have hk0 : (0 : Int) ≤ (k : Int) := by omega
      have hk9 : k ≤ 9223372036854775807 := by omega
      have hx := lb_lt n k
      have hy := lb_lt m k
      obtain ⟨p1, p2⟩ := plus_step hq.out
      obtain ⟨X, hX⟩ : ∃ X, lb n k = X := ⟨_, rfl⟩
      obtain ⟨Y, hY⟩ : ∃ Y, lb m k = Y := ⟨_, rfl⟩
      have A1 := HS.out wr hb k hk9
      have A2 := HT.out wr hb k hk9
      rw [hX] at A1 hx p1 p2
      rw [hY] at A2 hy p1 p2
      have hcell := ho.cellF k hlt
      rw [if_neg (by omega)] at hcell
      have hfree := ho.freeF k
      have HN : Hid (∀ wf : World, wf = wr.setCell ⟨w.heap.size, k, none⟩ (.int .u64 (((c' : Int) + ((X : Int) + (Y : Int))) % 1000000000)) → OwN .u64 69 wf w.heap.size (.slice (some ⟨w.heap.size, 0, none⟩) L L) L (fun j => if j < k + 1 then (lb (n + m) j : Int) else 0) ∧ Below w.heap.size w wf) := fun wf e => by
        subst e
        refine ⟨(ho.set k hlt _).ext fun j hj => ?_, hb.setCell (p := ⟨w.heap.size, k, none⟩) (Nat.le_refl _) _⟩
        by_cases e1 : j = k
        · subst e1
          rw [if_pos rfl, if_pos (by omega), ← p1]
          omega
        · rw [if_neg e1]
          by_cases e2 : j < k
          · rw [if_pos e2, if_pos (by omega)]
          · rw [if_neg e2, if_neg (by omega)]
      have HQ : Hid ((c' + (X + Y)) / 1000000000 + n / 1000000000 ^ (k + 1) + m / 1000000000 ^ (k + 1) = (n + m) / 1000000000 ^ (k + 1)) := p2
      have h2c : (c' + (X + Y)) / 1000000000 ≤ 1 := by omega
      have w1 : IntKind.u64.wrap ((X : Int) + (Y : Int)) = ((X + Y : Nat) : Int) := by rw [IntKind.wrap_u64]; omega
      have w2 : IntKind.u64.wrap ((c' : Int) + ((X + Y : Nat) : Int)) = ((c' + (X + Y) : Nat) : Int) := by rw [IntKind.wrap_u64]; omega
      clear ho hq p1 p2 hX hY
      go_wp2_with fail
      refine A1.mono ?_
      rintro e wx ⟨rfl, hw⟩
      obtain rfl : wr = wx := hw.symm
      clear hw
      go_wp2_with fail
      refine A2.mono ?_
      rintro e wx ⟨rfl, hw⟩
      obtain rfl : wr = wx := hw.symm
      clear hw
      go_wp2
      go_roundw
      case rel => exact ⟨k + 1, (c' + (X + Y)) / 1000000000, by omega, by go_num, by go_num, h2c, HQ, (HN.out _ rfl).1, (HN.out _ rfl).2⟩
      case measure => simp [intOf]; omega
    · obtain rfl : k = L := by omega
      have A3 := trimmed (.slice (some ⟨w.heap.size, 0, none⟩) k k) k (n + m) w.heap.size wr (ho.ext (fun j hj => by rw [if_pos hj])) HV.out (by omega)
      clear ho hq
      go_wp2_with fail
      refine A3.mono ?_
      rintro e wx ⟨v', rfl, ho, hw⟩
      obtain rfl : wr = wx := hw.symm
      clear hw
      go_wp2
      go_ret
      exact ⟨v', rfl, ho, hb⟩
end Go.Proofs.YtcnlclocnnijgaaDoor
