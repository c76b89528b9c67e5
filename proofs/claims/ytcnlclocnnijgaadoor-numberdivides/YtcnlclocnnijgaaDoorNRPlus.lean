/-
  Contracts of the document's plus and minus. Conditions: digits below ten, fewer than ten thousand of them; what is taken away is not greater.
-/
import Derived.Test.YtcnlclocnnijgaaDoorNCmp
namespace Go.Proofs.YtcnlclocnnijgaaDoor
open Go.RowKit
set_option linter.unusedVariables false

theorem plus_step10 {n m c i : Nat} (h : c + n / 10 ^ i + m / 10 ^ i = (n + m) / 10 ^ i) :
    (c + (dd n i + dd m i)) % 10 = dd (n + m) i ∧ (c + (dd n i + dd m i)) / 10 + n / 10 ^ (i + 1) + m / 10 ^ (i + 1) = (n + m) / 10 ^ (i + 1) := by
  unfold dd
  rw [div_pow_succ, div_pow_succ, div_pow_succ]
  omega
/-- One more number behind those of an own slice. -/
theorem OwN.more {w wr : World} {B k : Nat} {v : Value} {f : Nat → Int} (ho : OwN .i64 3 wr B v k f) (hb : Below B w wr) (hB : w.heap.size = B) :
    Hid (∀ (o : Obj) (v2 : Value) (w2 : World) (x : Int), w2.ownsRow B 3 1 v2 (k + 1) ((lst f k).map (Value.int .i64) ++ [.int .i64 x]) → (wr.alloc o).grownBy w2 v.ownBlock → f k = x → OwN .i64 3 w2 B v2 (k + 1) f ∧ Below B w w2) := fun o v2 w2 x h2 hg hx => by
  have h1 : B ≤ wr.heap.size := by have := hb.size; omega
  exact ⟨OwN.one h2 hx, (hb.alloc h1 o).grown hg (by simp; omega) (fun q hq => (World.ownsRow.lt ho q hq).1)⟩

set_option maxRecDepth 100000 in
set_option maxHeartbeats 1000000 in
theorem rPlus (va vb : Value) (n m a b : Nat) (w : World) (ha : Dig w va n a) (hb : Dig w vb m b) (hn : n ≤ 10000) (hm : m ≤ 10000) :
    Calls Tryd.prog 59 #[va, vb] w fun e w' => ∃ v, e = .returned v ∧ OwN .i64 3 w' w.heap.size v (max n m + 1) (fun i => (dd (a + b) i : Int)) ∧ Below w.heap.size w w' := by
  obtain ⟨i0, hi, hz0, hz1, hz2⟩ := info_parts info3
  have HS : Hid (∀ wq, Below w.heap.size w wq → ∀ i : Nat, i ≤ 9223372036854775807 → Calls Tryd.prog 68 #[va, .int .i64 (i : Int)] wq fun e w' => e = .returned (.int .i64 (dd a i : Int)) ∧ w' = wq) := fun wq hq i hi => rAt va n a i wq (ha.below hq (Nat.le_refl _)) hi
  have HT : Hid (∀ wq, Below w.heap.size w wq → ∀ i : Nat, i ≤ 9223372036854775807 → Calls Tryd.prog 68 #[vb, .int .i64 (i : Int)] wq fun e w' => e = .returned (.int .i64 (dd b i : Int)) ∧ w' = wq) := fun wq hq i hi => rAt vb m b i wq (hb.below hq (Nat.le_refl _)) hi
  obtain ⟨⟨ao, c, rfl, hc, hc2, _⟩, hu, hn2⟩ := ha
  obtain ⟨⟨bo, d, rfl, hd, hd2, _⟩, hv, hm2⟩ := hb
  obtain ⟨L, hL⟩ : ∃ L, max n m + 1 = L := ⟨_, rfl⟩
  have hL2 : ((max (n : Int) (m : Int)) + 1) = (L : Int) := by omega
  rw [hL]
  clear hu hv
  go_enter Tryd.func59, Tryd.ntmps59
  go_wp2
  go_loopw [5, 6, 14] (fun o x i wr => ∃ k c' : Nat, k ≤ L ∧ i = .int .i64 (k : Int) ∧ x = .int .i64 (c' : Int) ∧ c' ≤ 1 ∧ Hid (c' + a / 10 ^ k + b / 10 ^ k = (a + b) / 10 ^ k) ∧ Hid (OwN .i64 3 wr w.heap.size o k (fun j => (dd (a + b) j : Int))) ∧ Below w.heap.size w wr) (fun _ _ i _ => L - (intOf i).toNat)
  case atStart => exact ⟨0, 0, Nat.zero_le _, rfl, rfl, by omega, by show _ = _; simp, OwN.nil _ _ _ _ _, Below.refl _ w⟩
  case round =>
    obtain ⟨k, c', hk, rfl, rfl, hc1, hq, ho, hb⟩ := hrel
    by_cases hlt : k < L
    · have hlt' : (k : Int) < (L : Int) := by omega
      have hk0 : (0 : Int) ≤ (k : Int) := by omega
      have hk9 : k ≤ 9223372036854775807 := by omega
      have hx := dd_lt a k
      have hy := dd_lt b k
      obtain ⟨p1, p2⟩ := plus_step10 hq.out
      obtain ⟨X, hX⟩ : ∃ X, dd a k = X := ⟨_, rfl⟩
      obtain ⟨Y, hY⟩ : ∃ Y, dd b k = Y := ⟨_, rfl⟩
      have A1 := HS.out wr hb k hk9
      have A2 := HT.out wr hb k hk9
      rw [hX] at A1 hx p1 p2
      rw [hY] at A2 hy p1 p2
      have HQ : Hid ((c' + (X + Y)) / 10 + a / 10 ^ (k + 1) + b / 10 ^ (k + 1) = (a + b) / 10 ^ (k + 1)) := p2
      have HP : Hid ((dd (a + b) k : Int) = ((c' : Int) + ((X : Int) + (Y : Int))) % 10) := by show _ = _; omega
      have h2c : (c' + (X + Y)) / 10 ≤ 1 := by omega
      have lw : w.heap.size ≤ wr.heap.size := hb.size
      have HN := ho.out.more hb rfl
      have ho := ho.out
      clear hq p1 p2 hX hY
      go_wp2_with fail
      refine A1.mono ?_
      rintro e wx ⟨rfl, hw⟩
      obtain rfl : wr = wx := hw.symm
      clear hw
      go_wp2_with fail
      refine A2.mono ?_
      rintro e wx ⟨rfl, hw⟩
      obtain rfl : wr = wx := hw.symm
      clear hw
      go_wp2_with (at_builtin; refine wpList_append_own _ rfl _ _ 49 rfl w.heap.size 3 i0 (.int .i64 0) 1 8 Tryd.underlying49 hi hz0 hz1 hz2 rfl (by decide) _ k ((lst (fun i => (dd (a + b) i : Int)) k).map (Value.int .i64)) rfl (World.ownsRow.alloc ho _) ⟨wr.heap.size, 0, none⟩ 1 1 [.int .i64 (((c' : Int) + ((X : Int) + (Y : Int))) % 10)] rfl rfl (cell_one_new _ _ _) ?qc3 ?qc4 ?qc5 ?qc6 ?_)
      case qc3 => first | rfl | (intro u hu; simp at hu; subst hu; rfl)
      case qc4 => unfold maxLen; omega
      case qc5 => omega
      case qc6 => first | omega | (simp; omega)
      intro v' w1 hown' hgrow _
      obtain ⟨ho2, hb2⟩ := HN.out _ _ _ _ hown' hgrow HP.out
      clear hown' hgrow ho HN hb
      go_wp2
      go_roundw
      case rel => exact ⟨k + 1, (c' + (X + Y)) / 10, by omega, by go_num, by go_num, h2c, HQ, ho2, hb2⟩
      case measure => simp [intOf]; omega
    · obtain rfl : k = L := by omega
      go_wp2
      go_ret
      exact ⟨_, rfl, ho.out, hb⟩

theorem minus_low10 {n m c i : Nat} (h : n / 10 ^ i = m / 10 ^ i + c + (n - m) / 10 ^ i) (hc : c ≤ 1) (k : dd m i + c ≤ dd n i) :
    dd n i - dd m i - c = dd (n - m) i ∧ n / 10 ^ (i + 1) = m / 10 ^ (i + 1) + 0 + (n - m) / 10 ^ (i + 1) := by
  unfold dd at *
  rw [div_pow_succ, div_pow_succ, div_pow_succ]
  omega
theorem minus_high10 {n m c i : Nat} (h : n / 10 ^ i = m / 10 ^ i + c + (n - m) / 10 ^ i) (hc : c ≤ 1) (k : ¬ dd m i + c ≤ dd n i) :
    dd n i + 10 - dd m i - c = dd (n - m) i ∧ n / 10 ^ (i + 1) = m / 10 ^ (i + 1) + 1 + (n - m) / 10 ^ (i + 1) := by
  unfold dd at *
  rw [div_pow_succ, div_pow_succ, div_pow_succ]
  omega

set_option maxRecDepth 100000 in
set_option maxHeartbeats 1000000 in
theorem rMinus (va vb : Value) (n m a b : Nat) (w : World) (ha : Dig w va n a) (hb : Dig w vb m b) (hn : n ≤ 10000) (hm : m ≤ 10000) (hba : b ≤ a) :
    Calls Tryd.prog 60 #[va, vb] w fun e w' => ∃ v, e = .returned v ∧ OwN .i64 3 w' w.heap.size v (max n m) (fun i => (dd (a - b) i : Int)) ∧ Below w.heap.size w w' := by
  obtain ⟨i0, hi, hz0, hz1, hz2⟩ := info_parts info3
  have HS : Hid (∀ wq, Below w.heap.size w wq → ∀ i : Nat, i ≤ 9223372036854775807 → Calls Tryd.prog 68 #[va, .int .i64 (i : Int)] wq fun e w' => e = .returned (.int .i64 (dd a i : Int)) ∧ w' = wq) := fun wq hq i hi => rAt va n a i wq (ha.below hq (Nat.le_refl _)) hi
  have HT : Hid (∀ wq, Below w.heap.size w wq → ∀ i : Nat, i ≤ 9223372036854775807 → Calls Tryd.prog 68 #[vb, .int .i64 (i : Int)] wq fun e w' => e = .returned (.int .i64 (dd b i : Int)) ∧ w' = wq) := fun wq hq i hi => rAt vb m b i wq (hb.below hq (Nat.le_refl _)) hi
  obtain ⟨⟨ao, c, rfl, hc, hc2, _⟩, hu, hn2⟩ := ha
  obtain ⟨⟨bo, d, rfl, hd, hd2, _⟩, hv, hm2⟩ := hb
  obtain ⟨L, hL⟩ : ∃ L, max n m = L := ⟨_, rfl⟩
  have hL2 : (max (n : Int) (m : Int)) = (L : Int) := by omega
  rw [hL]
  have HBA : Hid (b ≤ a) := hba
  clear hu hv hba
  go_enter Tryd.func60, Tryd.ntmps60
  go_wp2
  go_loopw [5, 6, 14] (fun o x i wr => ∃ k c' : Nat, k ≤ L ∧ i = .int .i64 (k : Int) ∧ x = .int .i64 (c' : Int) ∧ c' ≤ 1 ∧ Hid (a / 10 ^ k = b / 10 ^ k + c' + (a - b) / 10 ^ k) ∧ Hid (OwN .i64 3 wr w.heap.size o k (fun j => (dd (a - b) j : Int))) ∧ Below w.heap.size w wr) (fun _ _ i _ => L - (intOf i).toNat)
  case atStart => exact ⟨0, 0, Nat.zero_le _, rfl, rfl, by omega, by have := HBA.out; show _ = _; simp; omega, OwN.nil _ _ _ _ _, Below.refl _ w⟩
  case round =>
    obtain ⟨k, c', hk, rfl, rfl, hc1, hq, ho, hb⟩ := hrel
    by_cases hlt : k < L
    · have hlt' : (k : Int) < (L : Int) := by omega
      have hk0 : (0 : Int) ≤ (k : Int) := by omega
      have hk9 : k ≤ 9223372036854775807 := by omega
      have hx := dd_lt a k
      have hy := dd_lt b k
      have lo := minus_low10 hq.out hc1
      have hg := minus_high10 hq.out hc1
      obtain ⟨X, hX⟩ : ∃ X, dd a k = X := ⟨_, rfl⟩
      obtain ⟨Y, hY⟩ : ∃ Y, dd b k = Y := ⟨_, rfl⟩
      have A1 := HS.out wr hb k hk9
      have A2 := HT.out wr hb k hk9
      rw [hX] at A1 hx lo hg
      rw [hY] at A2 hy lo hg
      have lw : w.heap.size ≤ wr.heap.size := hb.size
      have HN := ho.out.more hb rfl
      have ho := ho.out
      clear hq hX hY
      by_cases hle : Y + c' ≤ X
      · obtain ⟨p1, p2⟩ := lo hle
        have HQ : Hid (a / 10 ^ (k + 1) = b / 10 ^ (k + 1) + 0 + (a - b) / 10 ^ (k + 1)) := p2
        have HP : Hid ((dd (a - b) k : Int) = (X : Int) - (Y : Int) - (c' : Int)) := by show _ = _; omega
        have t1 : ¬ (X : Int) - (Y : Int) - (c' : Int) < 0 := by omega
        clear p1 p2 lo hg
        go_wp2_with fail
        refine A1.mono ?_
        rintro e wx ⟨rfl, hw⟩
        obtain rfl : wr = wx := hw.symm
        clear hw
        go_wp2_with fail
        refine A2.mono ?_
        rintro e wx ⟨rfl, hw⟩
        obtain rfl : wr = wx := hw.symm
        clear hw
        go_wp2_with (at_builtin; refine wpList_append_own _ rfl _ _ 49 rfl w.heap.size 3 i0 (.int .i64 0) 1 8 Tryd.underlying49 hi hz0 hz1 hz2 rfl (by decide) _ k ((lst (fun i => (dd (a - b) i : Int)) k).map (Value.int .i64)) rfl (World.ownsRow.alloc ho _) ⟨wr.heap.size, 0, none⟩ 1 1 [.int .i64 ((X : Int) - (Y : Int) - (c' : Int))] rfl rfl (cell_one_new _ _ _) ?qc3 ?qc4 ?qc5 ?qc6 ?_)
        case qc3 => first | rfl | (intro u hu; simp at hu; subst hu; rfl)
        case qc4 => unfold maxLen; omega
        case qc5 => omega
        case qc6 => first | omega | (simp; omega)
        intro v' w1 hown' hgrow _
        obtain ⟨ho2, hb2⟩ := HN.out _ _ _ _ hown' hgrow HP.out
        clear hown' hgrow ho HN hb
        go_wp2
        go_roundw
        case rel => exact ⟨k + 1, 0, by omega, by go_num, by first | rfl | go_num, by omega, HQ, ho2, hb2⟩
        case measure => simp [intOf]; omega
      · obtain ⟨p1, p2⟩ := hg hle
        have HQ : Hid (a / 10 ^ (k + 1) = b / 10 ^ (k + 1) + 1 + (a - b) / 10 ^ (k + 1)) := p2
        have HP : Hid ((dd (a - b) k : Int) = (X : Int) - (Y : Int) - (c' : Int) + 10) := by show _ = _; omega
        have t1 : (X : Int) - (Y : Int) - (c' : Int) < 0 := by omega
        clear p1 p2 lo hg
        go_wp2_with fail
        refine A1.mono ?_
        rintro e wx ⟨rfl, hw⟩
        obtain rfl : wr = wx := hw.symm
        clear hw
        go_wp2_with fail
        refine A2.mono ?_
        rintro e wx ⟨rfl, hw⟩
        obtain rfl : wr = wx := hw.symm
        clear hw
        go_wp2_with (at_builtin; refine wpList_append_own _ rfl _ _ 49 rfl w.heap.size 3 i0 (.int .i64 0) 1 8 Tryd.underlying49 hi hz0 hz1 hz2 rfl (by decide) _ k ((lst (fun i => (dd (a - b) i : Int)) k).map (Value.int .i64)) rfl (World.ownsRow.alloc ho _) ⟨wr.heap.size, 0, none⟩ 1 1 [.int .i64 ((X : Int) - (Y : Int) - (c' : Int) + 10)] rfl rfl (cell_one_new _ _ _) ?qc3 ?qc4 ?qc5 ?qc6 ?_)
        case qc3 => first | rfl | (intro u hu; simp at hu; subst hu; rfl)
        case qc4 => unfold maxLen; omega
        case qc5 => omega
        case qc6 => first | omega | (simp; omega)
        intro v' w1 hown' hgrow _
        obtain ⟨ho2, hb2⟩ := HN.out _ _ _ _ hown' hgrow HP.out
        clear hown' hgrow ho HN hb
        go_wp2
        go_roundw
        case rel => exact ⟨k + 1, 1, by omega, by go_num, by first | rfl | go_num, by omega, HQ, ho2, hb2⟩
        case measure => simp [intOf]; omega
    · obtain rfl : k = L := by omega
      go_wp2
      go_ret
      exact ⟨_, rfl, ho.out, hb⟩
end Go.Proofs.YtcnlclocnnijgaaDoor
