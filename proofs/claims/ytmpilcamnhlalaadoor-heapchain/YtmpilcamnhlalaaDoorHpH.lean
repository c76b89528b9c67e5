/-
  HeapChain: the law's walk, by what a round's pair and its other objects do.
-/
import Derived.Test.YtmpilcamnhlalaaDoorHpR
namespace Go.Proofs.YtmpilcamnhlalaaDoor
open Go.RowKit
set_option linter.unusedVariables false

def lenOf : Value → Nat
  | .slice _ n _ => n
  | _ => 0
theorem modW_ex (z : Int) (d : Nat) (hd : 0 < d) (hd2 : d ≤ 1000) : ∃ t : Nat, t < d ∧ IntKind.i64.wrap ((IntKind.u64.wrap z).tmod (d : Int)) = (t : Int) := by
  rw [IntKind.wrap_u64, Int.tmod_eq_emod_of_nonneg (Int.emod_nonneg _ (by decide))]
  have a := Int.emod_nonneg (z % 18446744073709551616) (show (d : Int) ≠ 0 by omega)
  have b := Int.emod_lt_of_pos (z % 18446744073709551616) (show (0 : Int) < (d : Int) by omega)
  obtain ⟨t, ht⟩ := Int.eq_ofNat_of_zero_le a
  rw [ht] at b ⊢
  exact ⟨t, by omega, by rw [IntKind.wrap_i64]; omega⟩
/-- A word leads to a list of so many pairs. -/
def Lst (x : HV) : Option Nat → Nat → Prop
  | o, 0 => o = none
  | o, m + 1 => ∃ j o', o = some j ∧ j < x.no + x.ny ∧ x.K j = 1 ∧ x.FL j = 2 ∧ x.FW j 0 = 2 * (m : Int) + 1 ∧ x.FW j 1 = kw o' ∧ Lst x o' m
theorem Lst.in_ {x : HV} : ∀ {m : Nat} {o : Option Nat}, Lst x o m → ∀ j, o = some j → j < x.no + x.ny
  | 0, o, h, j, e => by rw [show o = none from h] at e; cases e
  | m + 1, o, ⟨j', o', h1, h2, _⟩, j, e => by rw [h1] at e; cases e; exact h2
theorem Lst.add {x : HV} (kd fb m' : Nat) (f : Nat → Int) : ∀ {m : Nat} {o : Option Nat}, Lst x o m → Lst (x.add kd fb m' f) o m
  | 0, o, h => h
  | m + 1, o, ⟨j, o', h1, h2, h3, h4, h5, h6, h7⟩ => ⟨j, o', h1, by show j < x.no + (x.ny + 1); omega, by show upd x.K _ _ j = 1; rw [upd_old _ _ _ h2]; exact h3, by show upd x.FL _ _ j = 2; rw [upd_old _ _ _ h2]; exact h4, by show upd x.FW _ _ j 0 = _; rw [upd_old _ _ _ h2]; exact h5, by show upd x.FW _ _ j 1 = _; rw [upd_old _ _ _ h2]; exact h6, Lst.add kd fb m' f h7⟩
theorem Lst.root {x : HV} (r : Option Nat) : ∀ {m : Nat} {o : Option Nat}, Lst x o m → Lst { x with r := r } o m
  | 0, o, h => h
  | m + 1, o, ⟨j, o', h1, h2, h3, h4, h5, h6, h7⟩ => ⟨j, o', h1, h2, h3, h4, h5, h6, Lst.root r h7⟩
/-- .. in a heap's words. -/
def Ch (h m : Nat) (t : Int) (wr : World) : Prop := ∃ x P o, Hp wr h P x ∧ t = tw x.sft o ∧ Lst x o m ∧ m ≤ 200
theorem Ch.below {h m : Nat} {t : Int} {wr wq : World} (k : Ch h m t wr) (hb : Below wr.heap.size wr wq) : Ch h m t wq := by
  obtain ⟨x, P, o, k1, k2⟩ := k
  exact ⟨x, P, o, k1.below hb, k2⟩
theorem Ch.nil {h : Nat} {t : Int} {wr : World} (k : Ch h 0 t wr) : ∀ wq, Below wr.heap.size wr wq → Calls Tryd.prog 10 #[.pointer (some ⟨h, 0, none⟩), .int .i64 t] wq fun r w' => r = .returned (.int .i64 0) ∧ Dr wq w' := fun wq hq => by
  obtain ⟨x, P, o, k1, rfl, k2, _⟩ := k
  obtain rfl : o = none := k2
  exact h_kind_nil (k1.below hq)
theorem Ch.cons {h m : Nat} {t : Int} {wr : World} (k : Ch h (m + 1) t wr) : Hid (∀ wq, Below wr.heap.size wr wq → Calls Tryd.prog 10 #[.pointer (some ⟨h, 0, none⟩), .int .i64 t] wq fun r w' => r = .returned (.int .i64 1) ∧ Dr wq w') ∧ Hid (∀ wq, Below wr.heap.size wr wq → Calls Tryd.prog 11 #[.pointer (some ⟨h, 0, none⟩), .int .i64 t, .int .i64 0] wq fun r w' => r = .returned (.tuple #[.int .i64 (2 * (m : Int) + 1), .int .i64 0]) ∧ Dr wq w') ∧ ∃ t', Hid (∀ wq, Below wr.heap.size wr wq → Calls Tryd.prog 11 #[.pointer (some ⟨h, 0, none⟩), .int .i64 t, .int .i64 1] wq fun r w' => r = .returned (.tuple #[.int .i64 t', .int .i64 0]) ∧ Dr wq w') ∧ Hid (Ch h m t' wr) := by
  obtain ⟨x, P, o, k1, rfl, ⟨j, o', rfl, h2, h3, h4, h5, h6, h7⟩, hm⟩ := k
  refine ⟨fun wq hq => ?_, fun wq hq => ?_, tw x.sft o', fun wq hq => ?_, x, P, o', k1, rfl, h7, by omega⟩
  · have := h_kind (k1.below hq) j h2
    rw [h3] at this
    exact this
  · exact h_field (k1.below hq) j h2 0 (by omega) (by omega) _ (fun wq' hq' => by
      rw [h5]
      exact h_told_odd m (by omega))
  · exact h_field (k1.below hq) j h2 1 (by omega) (by omega) _ (fun wq' hq' => by
      rw [h6]
      obtain ⟨so, sy, sr, l1, _⟩ := ((k1.below hq).below hq'.below).lay
      have n1 := k1.n1
      have n2 := k1.n2
      have s1 := k1.s1
      exact h_told (sft := x.sft) l1 o' (fun i hi => by have := h7.in_ i hi; omega) (by omega))
theorem below_dr {B : Nat} {a b c : World} (h : Below B a b) (k : Dr b c) : Below B a c := h.trans k.below

set_option maxRecDepth 100000 in
set_option maxHeartbeats 4000000 in
theorem chain_walk (n J : Nat) (z1 z2 : Int) (e1 : IntKind.i64.wrap ((IntKind.u64.wrap z1).tmod 200) = (n : Int)) (e2 : IntKind.i64.wrap ((IntKind.u64.wrap z2).tmod 20) = (J : Int)) (hn : n < 200) (hJ : J < 20) (w : World) (S : Nat → Nat → World → Prop) (h : Nat)
    (H0 : Hid (Calls Tryd.prog 5 #[.int .i64 32, .int .i64 1000] w fun r w1 => r = .returned (.tuple #[.pointer (some ⟨h, 0, none⟩), .int .i64 0]) ∧ Hid (Calls Tryd.prog 6 #[.pointer (some ⟨h, 0, none⟩), .int .i64 0] w1 fun r w2 => r = .returned (.int .i64 0) ∧ Hid (S 0 0 w2))))
    (HB : Hid (∀ i q wr, S i q wr → Below w.heap.size w wr))
    (HP : Hid (∀ i wr, i < n → S i 0 wr → ∃ t, Hid (Calls Tryd.prog 8 #[.pointer (some ⟨h, 0, none⟩), .int .i64 0] wr fun r w1 => r = .returned (.int .i64 t) ∧ w1 = wr) ∧ Hid (Calls Tryd.prog 7 #[.pointer (some ⟨h, 0, none⟩), .int .i64 1, .slice (some ⟨wr.heap.size, 0, none⟩) 2 2] (wr.alloc (.cells #[.int .i64 (2 * (i : Int) + 1), .int .i64 t] 28)) fun r w2 => ∃ z, r = .returned (.tuple #[.int .i64 z, .int .i64 0]) ∧ Hid (Calls Tryd.prog 9 #[.pointer (some ⟨h, 0, none⟩), .int .i64 0, .int .i64 z] w2 fun r w3 => r = .returned (.int .i64 0) ∧ Hid (S (i + 1) J w3)))))
    (HJ : Hid (∀ i q wr, S i (q + 1) wr → ∃ t, Hid (Calls Tryd.prog 8 #[.pointer (some ⟨h, 0, none⟩), .int .i64 0] wr fun r w1 => r = .returned (.int .i64 t) ∧ w1 = wr) ∧ Hid (Calls Tryd.prog 7 #[.pointer (some ⟨h, 0, none⟩), .int .i64 2, .slice (some ⟨wr.heap.size, 0, none⟩) 1 1] (wr.alloc (.cells #[.int .i64 t] 28)) fun r w2 => ∃ z, r = .returned (.tuple #[.int .i64 z, .int .i64 0]) ∧ Hid (S i q w2))))
    (HC : Hid (∀ wr, S n 0 wr → ∃ t, Hid (Calls Tryd.prog 8 #[.pointer (some ⟨h, 0, none⟩), .int .i64 0] wr fun r w1 => r = .returned (.int .i64 t) ∧ w1 = wr) ∧ Hid (Ch h n t wr))) :
    Calls Tryd.prog 3 #[.int .i64 z1, .int .i64 z2] w fun r w' => r = .returned (.bool true) ∧ Below w.heap.size w w' := by
  obtain ⟨i0, hi0, hz0, hz1, hz2⟩ := info_parts infoWord
  have hn' : (n : Int) < 200 := by omega
  have hJ' : (J : Int) < 20 := by omega
  go_enter Tryd.func3, Tryd.ntmps3
  go_wp2_with fail
  refine H0.out.mono ?_
  rintro r w1 ⟨rfl, H1⟩
  clear H0 e1 e2
  go_wp2_with fail
  refine H1.out.mono ?_
  rintro r w2 ⟨rfl, HS⟩
  clear H1
  go_wp2
  go_loopw [38] (fun s38 wr => ∃ i : Nat, i ≤ n ∧ s38 = .int .i64 (i : Int) ∧ Hid (S i 0 wr)) (fun i _ => n - (intOf i).toNat)
  case atStart => exact ⟨0, Nat.zero_le _, rfl, HS⟩
  case round =>
    obtain ⟨i, hi, rfl, HSi⟩ := hrel
    by_cases hlt : i < n
    · have hlt' : (i : Int) < (n : Int) := by omega
      have hi0' : (0 : Int) ≤ (i : Int) := by omega
      have hi9 : (i : Int) ≤ 200 := by omega
      obtain ⟨t, HR, HM⟩ := HP.out i wr hlt HSi.out
      clear HSi HC HS
      go_wp2_with fail
      refine HR.out.mono ?_
      rintro r w3 ⟨rfl, hw⟩
      obtain rfl : wr = w3 := hw.symm
      clear hw HR
      go_wp2_with fail
      refine HM.out.mono ?_
      rintro r w3 ⟨z, rfl, HQ⟩
      clear HM
      go_wp2_with fail
      refine HQ.out.mono ?_
      rintro r w4 ⟨rfl, HS1⟩
      clear HQ
      go_wp2
      go_loopw [61] (fun s61 wq => ∃ q : Nat, q ≤ J ∧ s61 = .int .i64 (q : Int) ∧ Hid (S (i + 1) (J - q) wq)) (fun i _ => J - (intOf i).toNat)
      case atStart => exact ⟨0, Nat.zero_le _, rfl, HS1⟩
      case round =>
        obtain ⟨q, hq, rfl, HSq⟩ := hrel
        by_cases hqj : q < J
        · have hqj' : (q : Int) < (J : Int) := by omega
          have hq0 : (0 : Int) ≤ (q : Int) := by omega
          obtain ⟨t2, HR2, HM2⟩ := HJ.out (i + 1) (J - (q + 1)) _ (by rw [show J - (q + 1) + 1 = J - q by omega]; exact HSq.out)
          clear HSq HS1
          go_wp2_with fail
          refine HR2.out.mono ?_
          rintro r w5 ⟨rfl, hw⟩
          subst hw
          clear HR2
          go_wp2_with fail
          refine HM2.out.mono ?_
          rintro r w6 ⟨z3, rfl, HS6⟩
          clear HM2
          go_wp2
          go_roundw
          case rel => exact ⟨q + 1, by omega, by go_num, HS6⟩
          case measure => simp [intOf]; omega
        · obtain rfl : q = J := by omega
          have hge : ¬ (q : Int) < (q : Int) := by omega
          rw [Nat.sub_self] at HSq
          clear HS1
          go_wp2
          go_roundw
          case rel => exact ⟨i + 1, by omega, by go_num, HSq⟩
          case measure => simp [intOf]; omega
    · obtain rfl : i = n := by omega
      have hge : ¬ (i : Int) < (i : Int) := by omega
      obtain ⟨t, HR, HCh⟩ := HC.out wr HSi.out
      have HBw : Hid (Below w.heap.size w wr) := HB.out _ _ _ HSi.out
      clear HC HP HJ HS HSi HB
      go_wp2_with fail
      refine HR.out.mono ?_
      rintro r w3 ⟨rfl, hw⟩
      obtain rfl : wr = w3 := hw.symm
      clear hw HR
      go_wp2
      obtain ⟨W4, rfl⟩ : ∃ W, W = wr := ⟨_, rfl⟩
      go_loopw [12, 13] (fun s12 s13 wq => ∃ (m : Nat) (t' : Int), m ≤ i ∧ s13 = .int .i64 t' ∧ Hid (Ch h m t' W4) ∧ Hid (wq.ownsRow W4.heap.size 28 1 s12 (i - m) (lstW (fun q => 2 * ((i : Int) - 1 - (q : Int)) + 1) (i - m)) ∧ Below W4.heap.size W4 wq)) (fun g _ _ => i - lenOf g)
      case atStart =>
        refine ⟨i, t, Nat.le_refl _, rfl, HCh, ?_, Below.refl _ _⟩
        rw [Nat.sub_self]
        exact World.ownsRow_nil _ _ _ _
      case round =>
        obtain ⟨m, t', hm, rfl, HCm, HG⟩ := hrel
        obtain ⟨ag, cg, rfl⟩ := row_slice HG.out.1
        cases m with
        | zero =>
          have HK : Hid (Calls Tryd.prog 10 #[.pointer (some ⟨h, 0, none⟩), .int .i64 t'] wr fun r w' => r = .returned (.int .i64 0) ∧ Dr wr w') := HCm.out.nil wr HG.out.2
          rw [Nat.sub_zero] at HG ⊢
          have HRv : Hid (∀ w5, Dr wr w5 → Calls Tryd.prog 12 #[.slice ag i cg] w5 fun r w' => r = .returned (.tuple #[]) ∧ Hid ((∀ k, k < i → ∃ g, ag = some ⟨g, 0, none⟩ ∧ w'.cell? ⟨g, k, none⟩ = some (.int .i64 (2 * (k : Int) + 1))) ∧ Below w.heap.size w w')) := fun w5 q5 => by
            have h5 : w5.ownsRow W4.heap.size 28 1 (.slice ag i cg) i (lstW (fun q => 2 * ((i : Int) - 1 - (q : Int)) + 1) i) := by obtain ⟨q, rfl⟩ := q5; exact row_heap HG.out.1 rfl
            refine (h_rev W4.heap.size i cg ag _ w5 h5 (by omega)).mono ?_
            rintro r w6 ⟨rfl, HR⟩
            have hs4 := HBw.out.size
            refine ⟨rfl, fun k hk => ?_, ?_⟩
            · obtain ⟨g, rfl⟩ : ∃ g, ag = some ⟨g, 0, none⟩ := by
                rcases HR.out.1.2 with ⟨e0, h0⟩ | ⟨g', cap, cur, e0, _⟩
                · omega
                · cases e0; exact ⟨g', rfl⟩
              refine ⟨g, rfl, ?_⟩
              rw [row_cell HR.out.1 k hk]
              congr 2
              omega
            · have b5 : Below W4.heap.size W4 w5 := below_dr HG.out.2 q5
              have b6 : Below W4.heap.size W4 w6 := b5.trans (HR.out.2.below (fun q hq => (World.ownsRow.lt h5 q hq).1) b5.size)
              exact HBw.out.trans (b6.mono hs4)
          clear HCm HG HCh HBw
          go_wp2_with fail
          refine HK.out.mono ?_
          rintro r w5 ⟨rfl, q5⟩
          clear HK
          go_wp2_with fail
          refine (HRv.out _ q5).mono ?_
          rintro r w6 ⟨rfl, HE⟩
          clear HRv q5
          go_wp2
          go_loopw [101] (fun s101 wz => ∃ k : Nat, k ≤ i ∧ s101 = .int .i64 (k : Int) ∧ wz = w6) (fun k _ => i - (intOf k).toNat)
          case atStart => exact ⟨0, Nat.zero_le _, rfl, rfl⟩
          case round =>
            obtain ⟨k, hk, rfl, rfl⟩ := hrel
            by_cases hki : k < i
            · obtain ⟨g, rfl, ck⟩ := HE.out.1 k hki
              have hki' : (k : Int) < (i : Int) := by omega
              have hk0 : (0 : Int) ≤ (k : Int) := by omega
              have hk9 : (k : Int) ≤ 200 := by omega
              go_wp2
              go_roundw
              case rel => exact ⟨k + 1, by omega, by go_num, by first | trivial | rfl⟩
              case measure => simp [intOf]; omega
            · obtain rfl : k = i := by omega
              have hge2 : ¬ (k : Int) < (k : Int) := by omega
              go_wp2
              go_ret
              exact ⟨by simp, HE.out.2⟩
        | succ m =>
          obtain ⟨HK, HF0, t2, HF1, HC2⟩ := HCm.out.cons
          have HB0 : Hid (Below W4.heap.size W4 wr) := HG.out.2
          have HAp : Hid (∀ w6, Below W4.heap.size W4 w6 → w6.heap = wr.heap → ∀ l, (w6.alloc l).ownsRow W4.heap.size 28 1 (.slice ag (i - (m + 1)) cg) (i - (m + 1)) (lstW (fun q => 2 * ((i : Int) - 1 - (q : Int)) + 1) (i - (m + 1))) ∧ W4.heap.size ≤ (w6.alloc l).heap.size ∧ ∀ v2 w7, w7.ownsRow W4.heap.size 28 1 v2 (i - (m + 1) + 1) (lstW (fun q => 2 * ((i : Int) - 1 - (q : Int)) + 1) (i - (m + 1)) ++ [.int .i64 (2 * (m : Int) + 1)]) → (w6.alloc l).grownBy w7 (Value.slice ag (i - (m + 1)) cg).ownBlock → (∃ a2 c2, v2 = .slice a2 (i - m) c2) ∧ Below W4.heap.size W4 w7 ∧ w7.ownsRow W4.heap.size 28 1 v2 (i - m) (lstW (fun q => 2 * ((i : Int) - 1 - (q : Int)) + 1) (i - m))) := fun w6 b6 e6 l => by
            have o6 : w6.ownsRow W4.heap.size 28 1 (.slice ag (i - (m + 1)) cg) (i - (m + 1)) (lstW (fun q => 2 * ((i : Int) - 1 - (q : Int)) + 1) (i - (m + 1))) := row_heap HG.out.1 e6
            have s6 := b6.size
            refine ⟨World.ownsRow.alloc o6 l, by simp; omega, fun v2 w7 h7 g7 => ?_⟩
            have e7 : lstW (fun q => 2 * ((i : Int) - 1 - (q : Int)) + 1) (i - (m + 1)) ++ [.int .i64 (2 * (m : Int) + 1)] = lstW (fun q => 2 * ((i : Int) - 1 - (q : Int)) + 1) (i - m) := by
              rw [show i - m = i - (m + 1) + 1 by omega, ← lstW_snoc]
              congr 3
              omega
            rw [e7, show i - (m + 1) + 1 = i - m by omega] at h7
            obtain ⟨a2, c2, rfl⟩ := row_slice h7
            exact ⟨⟨a2, c2, rfl⟩, (b6.alloc s6 l).grown g7 (by simp; omega) (fun q hq => (World.ownsRow.lt o6 q hq).1), h7⟩
          have hlen : i - (m + 1) ≤ 200 := by omega
          clear HCm HG HCh HBw
          go_wp2_with fail
          refine (HK.out _ HB0.out).mono ?_
          rintro r w5 ⟨rfl, q5⟩
          have h5 : w5.heap = wr.heap := by obtain ⟨q, rfl⟩ := q5; rfl
          have HB5 : Hid (Below W4.heap.size W4 w5) := below_dr HB0.out q5
          have HH5 : Hid (w5.heap = wr.heap) := h5
          clear HK q5 h5
          go_wp2_with fail
          refine (HF0.out _ HB5.out).mono ?_
          rintro r w6 ⟨rfl, q6⟩
          have HB6 : Hid (Below W4.heap.size W4 w6) := below_dr HB5.out q6
          have HH6 : Hid (w6.heap = wr.heap) := by obtain ⟨q, rfl⟩ := q6; exact HH5.out
          clear HF0 q6 HB5 HH5
          go_wp2_with (at_builtin; refine wpList_append_own_at _ rfl _ _ 33 rfl W4.heap.size 28 i0 (.int .i64 0) 1 8 Tryd.underlying33 hi0 hz0 hz1 hz2 rfl (by decide) (.slice ag (i - (m + 1)) cg) (i - (m + 1)) (lstW (fun q => 2 * ((i : Int) - 1 - (q : Int)) + 1) (i - (m + 1))) rfl (HAp.out w6 HB6.out HH6.out _).1 ⟨w6.heap.size, 0, none⟩ 1 1 [.int .i64 (2 * (m : Int) + 1)] rfl rfl ?q1 ?q2 ?q3 ?q4 (HAp.out w6 HB6.out HH6.out _).2.1 ?_)
          case q1 =>
            intro j u hu
            cases j with
            | zero => simp at hu; subst hu; rw [Addr.add_lit]; exact (cells_at (heap_alloc_at _ _ _ rfl) 0)
            | succ j => simp at hu
          case q2 => intro u hu; simp at hu; subst hu; rfl
          case q3 => unfold maxLen; omega
          case q4 => omega
          intro v2 w7 ho2 hg2 _ hat
          obtain ⟨⟨a2, c2, rfl⟩, b7, o7⟩ := (HAp.out w6 HB6.out HH6.out _).2.2 v2 w7 ho2 hg2
          have HB7 : Hid (Below W4.heap.size W4 w7) := b7
          have HO7 : Hid (w7.ownsRow W4.heap.size 28 1 (.slice a2 (i - m) c2) (i - m) (lstW (fun q => 2 * ((i : Int) - 1 - (q : Int)) + 1) (i - m))) := o7
          clear HAp HB6 HH6 ho2 hg2 hat b7 o7
          go_wp2_with fail
          refine (HF1.out _ HB7.out).mono ?_
          rintro r w8 ⟨rfl, q8⟩
          have HB8 : Hid (Below W4.heap.size W4 w8) := below_dr HB7.out q8
          have HO8 : Hid (w8.ownsRow W4.heap.size 28 1 (.slice a2 (i - m) c2) (i - m) (lstW (fun q => 2 * ((i : Int) - 1 - (q : Int)) + 1) (i - m))) := by obtain ⟨q, rfl⟩ := q8; exact row_heap HO7.out rfl
          clear HF1 q8 HB7 HO7 HB0
          go_wp2
          go_roundw
          case rel => exact ⟨m, t2, by omega, rfl, HC2, HO8.out, HB8.out⟩
          case measure => simp [lenOf]; omega
end Go.Proofs.YtmpilcamnhlalaaDoor
