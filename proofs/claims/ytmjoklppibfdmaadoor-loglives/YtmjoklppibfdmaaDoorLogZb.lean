/-
  Contract of the document's own read of a log's sector. Conditions: 128 bytes, a place below 4097.
-/
import Derived.Test.YtmjoklppibfdmaaDoorLogZa
import Derived.Test.YtmjoklppibfdmaaDoorLogH
import Derived.Test.YtmjoklppibfdmaaDoorGh
import Derived.Deep.RegionHeld
namespace Go.Proofs.YtmjoklppibfdmaaDoor
open Go.RowKit
set_option linter.unusedVariables false

/-- The number of the highest k of eight bytes. -/
def hiN (s : Nat → Int) : Nat → Nat
  | 0 => 0
  | k + 1 => hiN s k * 256 + (s (4 + (7 - k))).toNat
theorem hiN_lt {s : Nat → Int} (h : ∀ i, 0 ≤ s i ∧ s i ≤ 255) : ∀ k, hiN s k < 256 ^ k
  | 0 => by simp [hiN]
  | k + 1 => by
    have := hiN_lt h k
    have h1 := h (4 + (7 - k))
    rw [hiN, Nat.pow_succ]
    omega
theorem hiN_rd {s : Nat → Int} (h : ∀ i, 0 ≤ s i ∧ s i ≤ 255) : hiN s 8 = rd (sh s 4) 8 := by
  simp only [hiN, rd, sh, Nat.reduceSub, Nat.reduceAdd]
  omega
theorem hi_step (V : Nat) (x : Int) (h : V ≤ 36028797018963968) (h0 : 0 ≤ x) (h1 : x ≤ 255) : wrap64 (wrap64 ((V : Int) * 256) + x) = wrap64 ((V * 256 + x.toNat : Nat) : Int) := by
  unfold wrap64
  omega
/-- What read answers. -/
def ZrAns (s : Nat → Int) (place g : Nat) (r : Ending) : Prop :=
  (∃ N u c', Right s place N u ∧ r = .returned (.tuple #[.slice (some ⟨g, 12, none⟩) u c', .int .i64 (N : Int), .bool true]) ∧ u ≤ c' ∧ c' ≤ 9223372036854775807) ∨
  ((∀ N u, ¬ Right s place N u) ∧ r = .returned (.tuple #[.slice none 0 0, .int .i64 0, .bool false]))

set_option maxRecDepth 100000 in
set_option maxHeartbeats 4000000 in
theorem zRead (g c place : Nat) (s : Nat → Int) (w : World) (hc : ∀ i, i < 128 → w.cell? ⟨g, i, none⟩ = some (.int .u8 (s i))) (hcap : 128 ≤ c) (hcm : c ≤ 9223372036854775807) (hby : ∀ i, 0 ≤ s i ∧ s i ≤ 255) (hp : place ≤ 4096) :
    Calls Tryd.prog 66 #[.slice (some ⟨g, 0, none⟩) 128 c, .int .i64 (place : Int)] w fun r w' => ZrAns s place g r ∧ Below w.heap.size w w' := by
  have hb1 := hby 1
  obtain ⟨u, hu⟩ : ∃ u : Nat, s 1 = (u : Int) := ⟨(s 1).toNat, by omega⟩
  have c1 : w.cell? ⟨g, 1, none⟩ = some (.int .u8 (u : Int)) := by rw [← hu]; exact hc 1 (by omega)
  have HC : Hid (∀ i, i < 128 → w.cell? ⟨g, i, none⟩ = some (.int .u8 (s i))) := hc
  have HBy : Hid (∀ i, 0 ≤ s i ∧ s i ≤ 255) := hby
  have HCm : Hid (c ≤ 9223372036854775807) := hcm
  have HNo : Hid (9223372036854775808 ≤ hiN s 8 → ∀ N u, ¬ Right s place N u) := fun h N u hr => by
    have h1 := hr.num
    have h2 := hr.h1
    have h3 := hr.h2
    have h4 := hiN_lt hby 8
    unfold numS at h1
    rw [← hiN_rd hby] at h1
    have e8 : (256 : Nat) ^ 8 = 18446744073709551616 := by decide
    unfold wrap64 at h1
    omega
  have hu9 : u ≤ 255 := by omega
  have hu0 : (0 : Int) ≤ (u : Int) := by omega
  have hu8 : (u : Int) ≤ 255 := by omega
  clear hc hby
  go_enter Tryd.func66, Tryd.ntmps66
  go_wp2
  go_loopw [8, 9] (fun s8 s9 wr => ∃ (i : Nat) (z : Int), i ≤ 8 ∧ s8 = .int .i64 z ∧ s9 = .int .i64 ((i : Int) - 1) ∧ wr = w ∧ Hid (z = wrap64 ((hiN s (8 - i) : Nat) : Int))) (fun _ i _ => (intOf i + 1).toNat)
  case atStart => exact ⟨8, 0, by omega, rfl, rfl, rfl, by show (0 : Int) = wrap64 ((hiN s (8 - 8) : Nat) : Int); simp [hiN, wrap64]⟩
  case round =>
    obtain ⟨i, z, hi, rfl, rfl, rfl, HZ⟩ := hrel
    rcases i with _ | j
    · have hzz : Hid (z = numS s) := by show z = numS s; rw [HZ.out]; unfold numS; rw [← hiN_rd HBy.out]
      have HB0 : Hid (Below wr.heap.size wr wr) := Below.refl _ _
      have HCv : Hid (∀ wq, Below wr.heap.size wr wq → ∀ cc, (convert 34 9 (.slice (some ⟨g, 0, none⟩) 128 cc)).run Tryd.prog wq = .ok (.string (strF s 128)) wq) := fun wq hq cc => conv_from cc (.inr ⟨_, rfl, fun i hi => by
        rw [Addr.add_lit, Nat.zero_add, hq.cell (p := ⟨g, i, none⟩) (World.block_lt_of_cell? wr _ (HC.out i hi))]
        exact HC.out i hi⟩)
      by_cases h1 : 112 < u
      · have h1' : (112 : Int) < (u : Int) := by omega
        have HR : Hid (∀ N v, ¬ Right s place N v) := fun N v hr => by
          have := hr.used
          have := hr.hu
          omega
        clear HZ
        go_wp2_with fail
        go_quiet (fail)
        go_wp2
        go_ret3
        exact ⟨.inr ⟨HR.out, rfl⟩, blw_drewN _ HB0.out⟩
      · have h1' : ¬ (112 : Int) < (u : Int) := by omega
        by_cases h2 : z < 1
        · have HR : Hid (∀ N v, ¬ Right s place N v) := fun N v hr => by
            have := hr.num
            have := hr.h1
            have := hzz.out
            omega
          have h1d : decide ((112 : Int) < (u : Int)) = false := decide_eq_false h1'
          have h2d : decide (z < 1) = true := decide_eq_true h2
          clear HZ hzz HC HBy HNo HCv
          go_wp2_with fail
          go_quiet (fail)
          go_wp2
          go_ret3
          exact ⟨.inr ⟨HR.out, rfl⟩, blw_drewN _ HB0.out⟩
        · by_cases h3 : 4611686018427387904 < z
          · have HR : Hid (∀ N v, ¬ Right s place N v) := fun N v hr => by
              have := hr.num
              have := hr.h2
              have := hzz.out
              omega
            have h3' : decide ((4611686018427387904 : Int) < z) = true := decide_eq_true h3
            have h1d : decide ((112 : Int) < (u : Int)) = false := decide_eq_false h1'
            have h2d : decide (z < 1) = false := decide_eq_false h2
            clear HZ h3 hzz HC HBy HNo HCv
            go_wp2_with fail
            go_quiet (fail)
            go_wp2
            go_ret3
            exact ⟨.inr ⟨HR.out, rfl⟩, blw_drewN _ HB0.out⟩
          · obtain ⟨N, hN⟩ : ∃ N : Nat, z = (N : Int) := ⟨z.toNat, by omega⟩
            subst hN
            have hN := hzz.out
            have h2' : ¬ (N : Int) < 1 := h2
            have h3' : decide ((4611686018427387904 : Int) < (N : Int)) = false := by simp; omega
            have HN1 : Hid (1 ≤ N ∧ N ≤ 4611686018427387904) := ⟨by omega, by omega⟩
            obtain ⟨bb, hbb⟩ : ∃ bb, decide (lst (lsec place N u (sh s 12)) 128 ≠ lst s 128) = bb := ⟨_, rfl⟩
            have HAns : Hid (if bb then (∀ N u, ¬ Right s place N u) else Right s place N u) := by
              cases bb with
              | true =>
                show ∀ N u, ¬ Right s place N u
                intro N' u' hr
                have e1 := hr.num
                have e2 := hr.used
                obtain rfl : N' = N := by omega
                obtain rfl : u' = u := by omega
                have := of_decide_eq_true hbb
                exact this (lstI_ext (fun i hi => (hr.eq i hi).symm))
              | false =>
                show Right s place N u
                have e := of_decide_eq_false hbb
                have e : lst (lsec place N u (sh s 12)) 128 = lst s 128 := Decidable.not_not.1 e
                exact ⟨by omega, by omega, by omega, fun i hi => (lst_inj e i hi).symm⟩
            obtain ⟨TA, hTA⟩ : ∃ TA, strF (lsec place N u (sh s 12)) 128 = TA := ⟨_, rfl⟩
            obtain ⟨TB, hTB⟩ : ∃ TB, strF s 128 = TB := ⟨_, rfl⟩
            have HBB : Hid ((!TA.toList == TB.toList) = bb) := by
              show (!TA.toList == TB.toList) = bb
              rw [← hTA, ← hTB, ← hbb]
              by_cases e : lst (lsec place N u (sh s 12)) 128 = lst s 128
              · rw [strF, strF, e]
                simp
              · have h3 : (strF (lsec place N u (sh s 12)) 128).toList ≠ (strF s 128).toList := fun h => e (strF_inj (sec_by (hdL_by (by omega)) (sh_by HBy.out 12) N u) HBy.out (by
                  have e : (strF (lsec place N u (sh s 12)) 128).data.toList = (strF s 128).data.toList := by
                    have p := Lib.strOfNums_toList (lst (lsec place N u (sh s 12)) 128)
                    have q := Lib.strOfNums_toList (lst s 128)
                    exact (p.symm.trans (h.trans q))
                  exact ByteArray.ext (Array.toList_inj.1 e)))
                simp [e, h3]
            have HTB : Hid (strF s 128 = TB) := hTB
            have HCS : Hid (∀ wq, Below wr.heap.size wr wq → ∀ cc, Calls Tryd.prog 75 #[.int .i64 (place : Int), .int .i64 (N : Int), .slice (some ⟨g, 12, none⟩) u cc] wq fun r w5 => ∃ g5 c5, r = .returned (.slice (some ⟨g5, 0, none⟩) 128 c5) ∧ (convert 34 9 (.slice (some ⟨g5, 0, none⟩) 128 c5)).run Tryd.prog w5 = .ok (.string TA) w5 ∧ Below wr.heap.size wr w5) := fun wq hq cc => by
              refine (zSector place N u cc (some ⟨g, 12, none⟩) (sh s 12) wq (by omega) (by omega) (by omega) (.inr ⟨_, rfl, fun i hi => ?_⟩) (fun h => by cases h) (sh_by HBy.out 12)).mono ?_
              · rw [Addr.add_lit, hq.cell (p := ⟨g, 12 + i, none⟩) (World.block_lt_of_cell? wr _ (HC.out (12 + i) (by omega)))]
                exact HC.out (12 + i) (by omega)
              · rintro r w5 ⟨g5, c5, rfl, ho5, _, b5⟩
                obtain ⟨a9, c9, e9, hf9, _⟩ := own_any ho5.out
                cases e9
                refine ⟨g5, c5, rfl, ?_, hq.trans (b5.mono hq.size)⟩
                rw [← hTA]
                exact conv_from c5 hf9
            have r1 : IntKind.i64.wrap (12 + (u : Int)) = ((12 + u : Nat) : Int) := by rw [IntKind.wrap_i64]; omega
            have r3 : (12 : Int) ≤ ((12 + u : Nat) : Int) := by omega
            have r4 : ((12 + u : Nat) : Int) ≤ (c : Int) := by omega
            have r5 : 12 < c := by omega
            have r6 : ¬ c = 12 := by omega
            have r7 : 12 + u - 12 = u := by omega
            have r9 : (0 : Int) ≤ ((12 + u : Nat) : Int) := by omega
            have HKq : Hid (∀ wq, Below wr.heap.size wr wq → ∀ cc, (convert 34 9 (.slice (some ⟨g, 0, none⟩) 128 cc)).run Tryd.prog wq = .ok (.string TB) wq) := fun wq hq cc => by rw [← HTB.out]; exact HCv.out wq hq cc
            have hcB : ∀ q cc, (convert 34 9 (.slice (some ⟨g, 0, none⟩) 128 cc)).run Tryd.prog (wr.drewN q) = .ok (.string TB) (wr.drewN q) := fun q cc => by rw [← HTB.out]; exact HCv.out _ (blw_drewN q (Below.refl _ _)) cc
            have hd0 : Hid (∀ q, Below wr.heap.size wr (wr.drewN q)) := fun q => blw_drewN q (Below.refl _ _)
            have h1d : decide ((112 : Int) < (u : Int)) = false := decide_eq_false h1'
            have h2d : decide ((N : Int) < 1) = false := decide_eq_false h2'
            clear HZ hTA hTB hbb h2 h3 hN hu hzz HC HBy HNo HCv hcm hp hb1
            have HKp : Hid (∀ wq, Below wr.heap.size wr wq → ∀ cc, (convert 34 9 (.slice (some ⟨g, 0, none⟩) 128 cc)).run Tryd.prog wq = .ok (.string TB) wq) := HKq
            have hbd : Below wr.heap.size wr wr.drew := hd0.out 1
            go_wp2_with fail
            go_region_held (fun wq => ∀ cc, (convert 34 9 (.slice (some ⟨g, 0, none⟩) 128 cc)).run Tryd.prog wq = .ok (.string TB) wq) (exact HKp.out _ (by assumption)) ((go_at_call 75; refine (HCS.out _ hbd _).mono ?_; rintro r w5 ⟨g5, c5, rfl, hcA, b5⟩))
            rw [HBB.out]
            clear HBB
            cases bb with
            | true =>
              have HR : Hid (∀ N u, ¬ Right s place N u) := HAns.out
              clear HAns
              go_wp2
              go_ret3
              exact ⟨.inr ⟨HR.out, rfl⟩, b5⟩
            | false =>
              have HR : Hid (Right s place N u) := HAns.out
              have HL : Hid (u ≤ c - 12 ∧ c - 12 ≤ 9223372036854775807) := ⟨by omega, by have := HCm.out; omega⟩
              clear HAns
              go_wp2
              go_ret3
              have r7' := r7
              exact ⟨.inl ⟨N, u, c - 12, HR.out, by first | rfl | (show Ending.returned (.tuple #[.slice (some ⟨g, 12, none⟩) (12 + u - 12) (c - 12), .int .i64 (N : Int), .bool true]) = _; rw [r7']), HL.out⟩, b5⟩
    · have hj1 : Hid ((((j + 1 : Nat) : Int) - 1) = (j : Int)) := (by omega : (((j + 1 : Nat) : Int) - 1) = (j : Int))
      rw [hj1.out]
      have hj0 : (0 : Int) ≤ (j : Int) := by omega
      have hj7 : (j : Int) ≤ 7 := by omega
      obtain ⟨V, hV⟩ : ∃ V, hiN s (8 - (j + 1)) = V := ⟨_, rfl⟩
      have hlt : V < 256 ^ (8 - (j + 1)) := by rw [← hV]; exact hiN_lt HBy.out _
      have hp7 : (256 : Nat) ^ (8 - (j + 1)) ≤ 256 ^ 7 := Nat.pow_le_pow_right (by decide) (by omega)
      have e7 : (256 : Nat) ^ 7 = 72057594037927936 := by decide
      have e6 : (256 : Nat) ^ 6 = 281474976710656 := by decide
      have hzV : z = (V : Int) := by rw [HZ.out, hV]; unfold wrap64; omega
      subst hzV
      have hcj : wr.cell? ⟨g, 4 + j, none⟩ = some (.int .u8 (s (4 + j))) := HC.out (4 + j) (by omega)
      have hbj := HBy.out (4 + j)
      have HS : Hid (hiN s (8 - j) = V * 256 + (s (4 + j)).toNat) := by
        show hiN s (8 - j) = _
        rw [show 8 - j = (8 - (j + 1)) + 1 by omega, hiN, hV, show 7 - (8 - (j + 1)) = j by omega]
      have hx4 : (4 : Int) + (j : Int) = ((4 + j : Nat) : Int) := by omega
      obtain ⟨x, hx⟩ : ∃ x, s (4 + j) = x := ⟨_, rfl⟩
      rw [hx] at hcj hbj HS
      obtain ⟨x0, x1⟩ := hbj
      by_cases hbig : 36028797018963968 < V
      · have hb' : (36028797018963968 : Int) < (V : Int) := by omega
        have HR : Hid (∀ N u, ¬ Right s place N u) := HNo.out (by
          have hj00 : j = 0 := by
            refine Decidable.byContradiction fun hne => ?_
            have : (256 : Nat) ^ (8 - (j + 1)) ≤ 256 ^ 6 := Nat.pow_le_pow_right (by decide) (by omega)
            omega
          subst hj00
          have := HS.out
          rw [show 8 - 0 = 8 from rfl] at this
          omega)
        clear hlt hp7 e7 e6 hV HS HZ
        go_wp2
        go_ret3
        exact ⟨.inr ⟨HR.out, rfl⟩, Below.refl _ _⟩
      · have hb' : ¬ (36028797018963968 : Int) < (V : Int) := by omega
        have HW : Hid (wrap64 (wrap64 ((V : Int) * 256) + x) = wrap64 ((hiN s (8 - j) : Nat) : Int)) := by
          show wrap64 _ = wrap64 _
          rw [HS.out]
          exact hi_step V x (by omega) x0 x1
        have hw4 : IntKind.i64.wrap (4 + (j : Int)) = 4 + (j : Int) := by rw [IntKind.wrap_i64]; omega
        have ht4 : ((4 : Int) + (j : Int)).toNat = 4 + j := by omega
        have hl4 : (4 : Int) + (j : Int) < 128 := by omega
        have hp4 : (0 : Int) ≤ 4 + (j : Int) := by omega
        clear hlt hp7 e7 e6 hV HS HZ hbig hx4
        go_wp2
        go_roundw
        case rel => exact ⟨j, _, by omega, rfl, by go_num, by trivial, HW.out⟩
        case measure => simp [intOf]
end Go.Proofs.YtmjoklppibfdmaaDoor
