/-
  Contract of the document's text of a number. Condition: at most ten thousand digits.
-/
import Derived.Test.YtcnlclocnnijgaaDoorNRSum
import Derived.Laws.IdiomStrings
namespace Go.Proofs.YtcnlclocnnijgaaDoor
open Go.RowKit
set_option linter.unusedVariables false

theorem info5 : (Tryd.prog.info? 5).map (fun i => (i.zero, i.size, i.bytes)) = some (some (.int .u8 0), 1, 1) := by kernel_rfl
/-- A number's text, byte for byte. -/
def tf (z : Int) (i : Nat) : Int := (((Lib.itoa z)[i]?.getD 0).toNat : Int)
theorem tf_minus {z : Int} (h : z < 0) : tf z 0 = 45 := by
  unfold tf Lib.itoa
  rw [if_pos h]; rfl
theorem tf_digit {z : Int} {p t K : Nat} (hp : p = if z < 0 then 1 else 0) (hK : Lib.nDigits z.natAbs = K) (ht : t < K) : tf z (p + t) = (48 + dd z.natAbs (K - 1 - t) : Nat) := by
  have e := dec_at z.natAbs t (by omega)
  rw [hK] at e
  unfold tf Lib.itoa
  by_cases h : z < 0
  · rw [if_pos h] at hp ⊢
    subst hp
    rw [show 1 + t = t + 1 by omega, List.getElem?_cons_succ, e]
    simp [dg_nat]
  · rw [if_neg h] at hp ⊢
    subst hp
    rw [show z.toNat = z.natAbs by omega, Nat.zero_add, e]
    simp [dg_nat]
theorem itoa_len {z : Int} {p K : Nat} (hp : p = if z < 0 then 1 else 0) (hK : Lib.nDigits z.natAbs = K) : (Lib.itoa z).length = p + K := by
  unfold Lib.itoa
  by_cases h : z < 0
  · rw [if_pos h] at hp ⊢
    rw [List.length_cons, Lib.decDigits_length]; omega
  · rw [if_neg h] at hp ⊢
    rw [show z.toNat = z.natAbs by omega, Lib.decDigits_length]; omega
theorem top_digit {u j : Nat} (h : u < 10 ^ (j + 1)) (h2 : j = 0 ∨ dd u j ≠ 0) : Lib.nDigits u = j + 1 := by
  rcases h2 with rfl | h2
  · exact Lib.nDigits_small (by simpa using h)
  · refine Lib.nDigits_unique j u ?_ h
    rcases Nat.lt_or_ge u (10 ^ j) with k | k
    · exact absurd (dd_out k (Nat.le_refl _)) h2
    · exact k
theorem top_nought {u j : Nat} (h : u < 10 ^ (j + 1 + 1)) (h2 : dd u (j + 1) = 0) : u < 10 ^ (j + 1) := by
  unfold dd at h2
  have h3 : u / 10 ^ (j + 1) < 10 := by
    rw [Nat.div_lt_iff_lt_mul (Nat.pow_pos (by decide))]
    rw [Nat.pow_succ] at h
    rw [Nat.mul_comm]; exact h
  have h4 : u / 10 ^ (j + 1) = 0 := by revert h2 h3; generalize u / 10 ^ (j + 1) = q; omega
  rcases Nat.div_eq_zero_iff.1 h4 with h5 | h5
  · have := Nat.pow_pos (n := j + 1) (show 0 < 10 by decide); omega
  · exact h5
/-- What a row of bytes reads as a text. -/
theorem conv_own {w : World} {B n : Nat} {v : Value} {z : Int} (ho : OwN .u8 5 w B v n (tf z)) (hn : (Lib.itoa z).length = n) (hpos : 0 < n) : ∃ a c, v = .slice (some a) n c ∧ (convert 41 9 v).run Tryd.prog w = .ok (.string (txt z)) w := by
  rcases ho.open with ⟨_, e⟩ | ⟨g, c, rfl, _⟩
  · omega
  · refine ⟨_, _, rfl, ?_⟩
    have := run_convert_bytes_back (P := Tryd.prog) w 41 9 5 ⟨g, 0, none⟩ c (Lib.itoa z) Tryd.underlying41 Tryd.underlying5 Tryd.underlying9 (fun j hj => by
      have h1 := ho.cellF j (by omega)
      have h2 : (⟨g, 0, none⟩ : Addr).add j = ⟨g, j, none⟩ := by unfold Addr.add; split <;> simp_all
      rw [h2, h1]
      unfold tf
      rw [List.getElem?_eq_getElem hj]; rfl)
    rw [hn] at this
    exact this

/-- One more byte behind those of an own slice. -/
theorem OwN.more8 {w wr : World} {B k : Nat} {v : Value} {f : Nat → Int} (ho : OwN .u8 5 wr B v k f) (hb : Below B w wr) (hB : w.heap.size = B) :
    Hid (∀ (o : Obj) (v2 : Value) (w2 : World) (x : Int), w2.ownsRow B 5 1 v2 (k + 1) ((lst f k).map (Value.int .u8) ++ [.int .u8 x]) → (wr.alloc o).grownBy w2 v.ownBlock → f k = x → OwN .u8 5 w2 B v2 (k + 1) f ∧ Below B w w2) := fun o v2 w2 x h2 hg hx => by
  have h1 : B ≤ wr.heap.size := by have := hb.size; omega
  exact ⟨OwN.one h2 hx, (hb.alloc h1 o).grown hg (by simp; omega) (fun q hq => (World.ownsRow.lt ho q hq).1)⟩

set_option maxRecDepth 100000 in
set_option maxHeartbeats 4000000 in
theorem rBText (v : Value) (b : Bool) (n u : Nat) (w : World) (h : Bg w v b n u) (hn : n ≤ 10000) :
    Calls Tryd.prog 36 #[v] w fun e w' => e = .returned (.tuple #[.string (resT (sg b u)), .int .i64 (resE (sg b u))]) ∧ Below w.heap.size w w' := by
  obtain ⟨i0, hi, hz0, hz1, hz2⟩ := info_parts info5
  obtain ⟨ao, c, rfl, ⟨hR, hu, _⟩, h1⟩ := h
  obtain ⟨_, _, e, hc, hc2, hr⟩ := hR
  cases e
  rcases hr with h0 | ⟨g, rfl, hg⟩
  · omega
  obtain ⟨z, hz⟩ : ∃ z, sg b u = z := ⟨_, rfl⟩
  have hza : z.natAbs = u := by rw [← hz]; unfold sg; cases b <;> simp
  obtain ⟨p, hp⟩ : ∃ p : Nat, p = if z < 0 then 1 else 0 := ⟨_, rfl⟩
  have hgl : g < w.heap.size := World.block_lt_of_cell? w _ (hg 0 (by omega))
  obtain ⟨W0, hW0⟩ : ∃ W0, w.alloc (.cells #[.slice (some ⟨g, 0, none⟩) n c, .bool b] 51) = W0 := ⟨_, rfl⟩
  have hsz : W0.heap.size = w.heap.size + 1 := by rw [← hW0]; simp
  have hB0 : Below w.heap.size w W0 := by rw [← hW0]; exact (Below.refl _ w).alloc (Nat.le_refl _) _
  have hX0 : W0.heap[w.heap.size]? = some (.cells #[.slice (some ⟨g, 0, none⟩) n c, .bool b] 51 (0, 0)) := by
    rw [← hW0]
    exact heap_alloc_at _ _ _ rfl
  have HF : Hid (∀ wq, Below W0.heap.size W0 wq → Below w.heap.size w wq) := fun wq hq => hB0.trans (hq.mono (by omega))
  have HS : Hid (∀ wq, Below W0.heap.size W0 wq → (wq.cell? ⟨w.heap.size, 0, none⟩ = some (.slice (some ⟨g, 0, none⟩) n c) ∧ wq.cell? ⟨w.heap.size, 1, none⟩ = some (.bool b)) ∧ ∀ i, i < n → wq.cell? ⟨g, i, none⟩ = some (.int .i64 (dd u i : Int))) := fun wq hq => by
    have e0 : wq.heap[w.heap.size]? = _ := (hq.block _ (by omega)).trans hX0
    refine ⟨⟨by rw [cells_at e0 0]; rfl, by rw [cells_at e0 1]; rfl⟩, fun i hi => ?_⟩
    rw [(HF.out wq hq).cell (p := ⟨g, i, none⟩) (by show g < w.heap.size; omega)]
    exact hg i hi
  rw [hz]
  have HU : Hid (u < 10 ^ n) := hu
  have HP : Hid (p = if z < 0 then 1 else 0) := hp
  clear hg hX0 hB0 hu hgl hp hsz
  obtain ⟨⟨g0, g1⟩, gi⟩ := HS.out W0 (Below.refl _ _)
  have HG : Hid (∀ i, i < n → W0.cell? ⟨g, i, none⟩ = some (.int .i64 (dd u i : Int))) := gi
  clear gi
  obtain ⟨N, rfl⟩ : ∃ N, n = N + 1 := ⟨n - 1, by omega⟩
  go_enter Tryd.func36, Tryd.ntmps36
  go_wp2
  go_loopw [4] (fun i wr => ∃ j : Nat, j ≤ N ∧ i = .int .i64 ((j : Int) + 1) ∧ Hid (u < 10 ^ (j + 1)) ∧ wr = W0) (fun i _ => (intOf i).toNat)
  case atStart => exact ⟨N, Nat.le_refl _, by first | rfl | simp, HU, rfl⟩
  case round =>
    obtain ⟨j, hj, rfl, hq, hw⟩ := hrel
    obtain rfl : W0 = wr := hw.symm
    clear hw
    by_cases hgo : j ≠ 0 ∧ dd u j = 0
    · obtain ⟨j', rfl⟩ : ∃ j', j = j' + 1 := ⟨j - 1, by omega⟩
      have HQ : Hid (u < 10 ^ (j' + 1)) := top_nought hq.out hgo.2
      have gc := HG.out (j' + 1) (by omega)
      rw [hgo.2] at gc
      have t1 : (1 : Int) < ((j' + 1 : Nat) : Int) + 1 := by omega
      have t2 : ((j' + 1 : Nat) : Int) < ((N + 1 : Nat) : Int) := by omega
      clear hq hgo
      go_wp2
      go_roundw
      case rel => exact ⟨j', by omega, by first | rfl | go_num, HQ, by first | trivial | rfl⟩
      case measure => first | (simp [intOf]; done) | (simp [intOf]; omega)
    · have HK : Hid (Lib.nDigits u = j + 1) := top_digit hq.out (by by_cases e : j = 0; exact .inl e; exact .inr (fun k => hgo ⟨e, k⟩))
      have HL : Hid ((Lib.itoa z).length = p + (j + 1)) := itoa_len HP.out (by rw [hza]; exact HK.out)
      by_cases h200 : j + 1 ≤ 200
      · have HT : Hid (resT z = txt z ∧ resE z = 0) := by
          constructor
          · unfold resT; rw [hza, HK.out, if_pos h200]
          · unfold resE; rw [hza, HK.out, if_pos h200]
        have l200 : ¬ (200 : Int) < (j : Int) + 1 := by omega
        have gj := HG.out j (by omega)
        have gz := HG.out 0 (by omega)
        have hdj := dd_lt u j
        have hd0 := dd_lt u 0
        cases b with
        | false =>
          by_cases hj0 : j = 0
          · have t1 : ¬ (1 : Int) < (j : Int) + 1 := by omega
            have t3 : (0 : Int) < ((N + 1 : Nat) : Int) := by omega
            have hzn : ¬ z < 0 := by rw [← hz]; unfold sg; simp; try omega
            have Hp0 : Hid (p = 0) := by show _ = _; rw [HP.out, if_neg hzn]
            have HO0 : Hid (OwN .u8 5 W0 W0.heap.size (.slice none 0 0) 0 (tf z)) := OwN.nil _ _ _ _ _
            clear hq hgo hj0 hzn
            try clear hu0
            go_wp2
            go_loopw [5, 6] (fun o i wr => ∃ (k : Nat) (y : Int), k ≤ j + 1 ∧ i = .int .i64 y ∧ y = (k : Int) - 1 ∧ Hid (OwN .u8 5 wr W0.heap.size o (p + (j + 1 - k)) (tf z)) ∧ Below W0.heap.size W0 wr) (fun _ i _ => (intOf i + 1).toNat)
            case atStart => exact ⟨j + 1, (j : Int), Nat.le_refl _, by first | rfl | go_num, by omega, by rw [Hp0.out, show 0 + (j + 1 - (j + 1)) = 0 by omega]; exact HO0, Below.refl _ _⟩
            case round =>
              obtain ⟨k, y, hk, rfl, hy, ho, hb⟩ := hrel
              cases k with
              | zero =>
                obtain rfl : y = -1 := by omega
                have hoo := ho.out
                obtain ⟨a5, c5, rfl, hcv⟩ := conv_own hoo HL.out (by omega)
                clear hoo ho hy
                generalize p + (j + 1 - 0) = L at *
                go_wp2
                go_ret2
                exact ⟨by rw [HT.out.1, HT.out.2]; rfl, HF.out _ hb⟩
              | succ i =>
                obtain rfl : y = (i : Int) := by omega
                obtain ⟨⟨q0, q1⟩, qi⟩ := HS.out wr hb
                have qc := qi i (by omega)
                have hdi := dd_lt u i
                have HD : Hid (tf z (p + (j + 1 - (i + 1))) = 48 + (dd u i : Int)) := by
                  have := tf_digit (K := j + 1) (t := j + 1 - (i + 1)) HP.out (by rw [hza]; exact HK.out) (by omega)
                  show _ = _
                  rw [this, hza, show j + 1 - 1 - (j + 1 - (i + 1)) = i by omega]
                  simp
                have HM := ho.out.more8 hb rfl
                have hx : IntKind.u8.wrap (48 + (dd u i : Int)) = 48 + (dd u i : Int) := by rw [IntKind.wrap_u8']; omega
                have y1 : (i : Int) < ((N + 1 : Nat) : Int) := by omega
                have y2 : (0 : Int) ≤ (i : Int) := by omega
                have lw : W0.heap.size ≤ wr.heap.size := hb.size
                have hoo := ho.out
                have pm : p + (j + 1 - (i + 1)) ≤ 300 := by have := Hp0.out; omega
                have HE : Hid (p + (j + 1 - i) = p + (j + 1 - (i + 1)) + 1) := (by omega : p + (j + 1 - i) = p + (j + 1 - (i + 1)) + 1)
                generalize p + (j + 1 - (i + 1)) = m at *
                clear qi hy
                go_wp2_with (at_builtin; refine wpList_append_own _ rfl _ _ 41 rfl W0.heap.size 5 i0 (.int .u8 0) 1 1 Tryd.underlying41 hi hz0 hz1 hz2 rfl (by decide) _ m ((lst (tf z) m).map (Value.int .u8)) rfl (World.ownsRow.alloc hoo _) ⟨wr.heap.size, 0, none⟩ 1 1 [.int .u8 (48 + (dd u i : Int))] rfl rfl (cell_one_new _ _ _) ?qc3 ?qc4 ?qc5 ?qc6 ?_)
                case qc3 => first | rfl | (intro u hu; simp at hu; subst hu; rfl)
                case qc4 => unfold maxLen; omega
                case qc5 => omega
                case qc6 => first | omega | (simp; omega)
                intro v' w1 hown' hgrow _
                obtain ⟨ho2, hb2⟩ := HM.out _ _ _ _ hown' hgrow HD.out
                clear hown' hgrow hoo ho HM hb
                go_wp2
                go_roundw
                case rel => exact ⟨i, (i : Int) - 1, by omega, by first | rfl | go_num, rfl, by rw [HE.out]; exact ho2, hb2⟩
                case measure => first | (simp [intOf]; done) | (simp [intOf]; omega)
          · have t1 : (1 : Int) < (j : Int) + 1 := by omega
            have t2 : ((dd u j : Int) == 0) = false := by rw [beq_eq_false_iff_ne]; intro e; exact hgo ⟨by omega, by omega⟩
            have t3 : (j : Int) < ((N + 1 : Nat) : Int) := by omega
            have hzn : ¬ z < 0 := by rw [← hz]; unfold sg; simp; try omega
            have Hp0 : Hid (p = 0) := by show _ = _; rw [HP.out, if_neg hzn]
            have HO0 : Hid (OwN .u8 5 W0 W0.heap.size (.slice none 0 0) 0 (tf z)) := OwN.nil _ _ _ _ _
            clear hq hgo hj0 hzn
            try clear hu0
            go_wp2
            go_loopw [5, 6] (fun o i wr => ∃ (k : Nat) (y : Int), k ≤ j + 1 ∧ i = .int .i64 y ∧ y = (k : Int) - 1 ∧ Hid (OwN .u8 5 wr W0.heap.size o (p + (j + 1 - k)) (tf z)) ∧ Below W0.heap.size W0 wr) (fun _ i _ => (intOf i + 1).toNat)
            case atStart => exact ⟨j + 1, (j : Int), Nat.le_refl _, by first | rfl | go_num, by omega, by rw [Hp0.out, show 0 + (j + 1 - (j + 1)) = 0 by omega]; exact HO0, Below.refl _ _⟩
            case round =>
              obtain ⟨k, y, hk, rfl, hy, ho, hb⟩ := hrel
              cases k with
              | zero =>
                obtain rfl : y = -1 := by omega
                have hoo := ho.out
                obtain ⟨a5, c5, rfl, hcv⟩ := conv_own hoo HL.out (by omega)
                clear hoo ho hy
                generalize p + (j + 1 - 0) = L at *
                go_wp2
                go_ret2
                exact ⟨by rw [HT.out.1, HT.out.2]; rfl, HF.out _ hb⟩
              | succ i =>
                obtain rfl : y = (i : Int) := by omega
                obtain ⟨⟨q0, q1⟩, qi⟩ := HS.out wr hb
                have qc := qi i (by omega)
                have hdi := dd_lt u i
                have HD : Hid (tf z (p + (j + 1 - (i + 1))) = 48 + (dd u i : Int)) := by
                  have := tf_digit (K := j + 1) (t := j + 1 - (i + 1)) HP.out (by rw [hza]; exact HK.out) (by omega)
                  show _ = _
                  rw [this, hza, show j + 1 - 1 - (j + 1 - (i + 1)) = i by omega]
                  simp
                have HM := ho.out.more8 hb rfl
                have hx : IntKind.u8.wrap (48 + (dd u i : Int)) = 48 + (dd u i : Int) := by rw [IntKind.wrap_u8']; omega
                have y1 : (i : Int) < ((N + 1 : Nat) : Int) := by omega
                have y2 : (0 : Int) ≤ (i : Int) := by omega
                have lw : W0.heap.size ≤ wr.heap.size := hb.size
                have hoo := ho.out
                have pm : p + (j + 1 - (i + 1)) ≤ 300 := by have := Hp0.out; omega
                have HE : Hid (p + (j + 1 - i) = p + (j + 1 - (i + 1)) + 1) := (by omega : p + (j + 1 - i) = p + (j + 1 - (i + 1)) + 1)
                generalize p + (j + 1 - (i + 1)) = m at *
                clear qi hy
                go_wp2_with (at_builtin; refine wpList_append_own _ rfl _ _ 41 rfl W0.heap.size 5 i0 (.int .u8 0) 1 1 Tryd.underlying41 hi hz0 hz1 hz2 rfl (by decide) _ m ((lst (tf z) m).map (Value.int .u8)) rfl (World.ownsRow.alloc hoo _) ⟨wr.heap.size, 0, none⟩ 1 1 [.int .u8 (48 + (dd u i : Int))] rfl rfl (cell_one_new _ _ _) ?qc3 ?qc4 ?qc5 ?qc6 ?_)
                case qc3 => first | rfl | (intro u hu; simp at hu; subst hu; rfl)
                case qc4 => unfold maxLen; omega
                case qc5 => omega
                case qc6 => first | omega | (simp; omega)
                intro v' w1 hown' hgrow _
                obtain ⟨ho2, hb2⟩ := HM.out _ _ _ _ hown' hgrow HD.out
                clear hown' hgrow hoo ho HM hb
                go_wp2
                go_roundw
                case rel => exact ⟨i, (i : Int) - 1, by omega, by first | rfl | go_num, rfl, by rw [HE.out]; exact ho2, hb2⟩
                case measure => first | (simp [intOf]; done) | (simp [intOf]; omega)
        | true =>
          by_cases hj0 : j = 0
          · by_cases hu0 : u = 0
            · have t1 : ¬ (1 : Int) < (j : Int) + 1 := by omega
              have t3 : (0 : Int) < ((N + 1 : Nat) : Int) := by omega
              have t4 : ¬ (0 : Int) < (dd u 0 : Int) := by rw [hu0]; simp [dd]
              have hzn : ¬ z < 0 := by rw [← hz]; unfold sg; simp; try omega
              have Hp0 : Hid (p = 0) := by show _ = _; rw [HP.out, if_neg hzn]
              have HO0 : Hid (OwN .u8 5 W0 W0.heap.size (.slice none 0 0) 0 (tf z)) := OwN.nil _ _ _ _ _
              clear hq hgo hj0 hzn
              try clear hu0
              go_wp2
              go_loopw [5, 6] (fun o i wr => ∃ (k : Nat) (y : Int), k ≤ j + 1 ∧ i = .int .i64 y ∧ y = (k : Int) - 1 ∧ Hid (OwN .u8 5 wr W0.heap.size o (p + (j + 1 - k)) (tf z)) ∧ Below W0.heap.size W0 wr) (fun _ i _ => (intOf i + 1).toNat)
              case atStart => exact ⟨j + 1, (j : Int), Nat.le_refl _, by first | rfl | go_num, by omega, by rw [Hp0.out, show 0 + (j + 1 - (j + 1)) = 0 by omega]; exact HO0, Below.refl _ _⟩
              case round =>
                obtain ⟨k, y, hk, rfl, hy, ho, hb⟩ := hrel
                cases k with
                | zero =>
                  obtain rfl : y = -1 := by omega
                  have hoo := ho.out
                  obtain ⟨a5, c5, rfl, hcv⟩ := conv_own hoo HL.out (by omega)
                  clear hoo ho hy
                  generalize p + (j + 1 - 0) = L at *
                  go_wp2
                  go_ret2
                  exact ⟨by rw [HT.out.1, HT.out.2]; rfl, HF.out _ hb⟩
                | succ i =>
                  obtain rfl : y = (i : Int) := by omega
                  obtain ⟨⟨q0, q1⟩, qi⟩ := HS.out wr hb
                  have qc := qi i (by omega)
                  have hdi := dd_lt u i
                  have HD : Hid (tf z (p + (j + 1 - (i + 1))) = 48 + (dd u i : Int)) := by
                    have := tf_digit (K := j + 1) (t := j + 1 - (i + 1)) HP.out (by rw [hza]; exact HK.out) (by omega)
                    show _ = _
                    rw [this, hza, show j + 1 - 1 - (j + 1 - (i + 1)) = i by omega]
                    simp
                  have HM := ho.out.more8 hb rfl
                  have hx : IntKind.u8.wrap (48 + (dd u i : Int)) = 48 + (dd u i : Int) := by rw [IntKind.wrap_u8']; omega
                  have y1 : (i : Int) < ((N + 1 : Nat) : Int) := by omega
                  have y2 : (0 : Int) ≤ (i : Int) := by omega
                  have lw : W0.heap.size ≤ wr.heap.size := hb.size
                  have hoo := ho.out
                  have pm : p + (j + 1 - (i + 1)) ≤ 300 := by have := Hp0.out; omega
                  have HE : Hid (p + (j + 1 - i) = p + (j + 1 - (i + 1)) + 1) := (by omega : p + (j + 1 - i) = p + (j + 1 - (i + 1)) + 1)
                  generalize p + (j + 1 - (i + 1)) = m at *
                  clear qi hy
                  go_wp2_with (at_builtin; refine wpList_append_own _ rfl _ _ 41 rfl W0.heap.size 5 i0 (.int .u8 0) 1 1 Tryd.underlying41 hi hz0 hz1 hz2 rfl (by decide) _ m ((lst (tf z) m).map (Value.int .u8)) rfl (World.ownsRow.alloc hoo _) ⟨wr.heap.size, 0, none⟩ 1 1 [.int .u8 (48 + (dd u i : Int))] rfl rfl (cell_one_new _ _ _) ?qc3 ?qc4 ?qc5 ?qc6 ?_)
                  case qc3 => first | rfl | (intro u hu; simp at hu; subst hu; rfl)
                  case qc4 => unfold maxLen; omega
                  case qc5 => omega
                  case qc6 => first | omega | (simp; omega)
                  intro v' w1 hown' hgrow _
                  obtain ⟨ho2, hb2⟩ := HM.out _ _ _ _ hown' hgrow HD.out
                  clear hown' hgrow hoo ho HM hb
                  go_wp2
                  go_roundw
                  case rel => exact ⟨i, (i : Int) - 1, by omega, by first | rfl | go_num, rfl, by rw [HE.out]; exact ho2, hb2⟩
                  case measure => first | (simp [intOf]; done) | (simp [intOf]; omega)
            · have t1 : ¬ (1 : Int) < (j : Int) + 1 := by omega
              have t3 : (0 : Int) < ((N + 1 : Nat) : Int) := by omega
              have hup : 0 < u := Nat.pos_of_ne_zero hu0
              have t4 : (0 : Int) < (dd u 0 : Int) := by
                have h9 : u < 10 ^ (j + 1) := hq.out
                rw [hj0] at h9
                unfold dd
                simp at h9 ⊢
                omega
              have hzn : z < 0 := by rw [← hz]; unfold sg; simp; try omega
              have Hp0 : Hid (p = 1) := by show _ = _; rw [HP.out, if_pos hzn]
              have HO0 : Hid (OwN .u8 5 W0 W0.heap.size (.slice none 0 0) 0 (tf z)) := OwN.nil _ _ _ _ _
              have HM0 := HO0.out.more8 (Below.refl _ W0) rfl
              have HZ : Hid (z < 0) := hzn
              clear hq hgo hj0 hzn
              try clear hu0
              go_wp2_with (at_builtin; refine wpList_append_own _ rfl _ _ 41 rfl W0.heap.size 5 i0 (.int .u8 0) 1 1 Tryd.underlying41 hi hz0 hz1 hz2 rfl (by decide) _ 0 ((lst (tf z) 0).map (Value.int .u8)) rfl (World.ownsRow.alloc HO0.out _) ⟨W0.heap.size, 0, none⟩ 1 1 [.int .u8 45] rfl rfl (cell_one_new _ _ _) ?qd3 ?qd4 ?qd5 ?qd6 ?_)
              try (case qd3 => first | rfl | (intro u hu; simp at hu; subst hu; rfl))
              try (case qd4 => unfold maxLen; omega)
              try (case qd5 => omega)
              try (case qd6 => first | omega | (simp; omega))
              intro v' w1 hown' hgrow _
              obtain ⟨ho2, hb2⟩ := HM0.out _ _ _ _ hown' hgrow (tf_minus HZ.out)
              clear hown' hgrow
              go_wp2
              go_loopw [5, 6] (fun o i wr => ∃ (k : Nat) (y : Int), k ≤ j + 1 ∧ i = .int .i64 y ∧ y = (k : Int) - 1 ∧ Hid (OwN .u8 5 wr W0.heap.size o (p + (j + 1 - k)) (tf z)) ∧ Below W0.heap.size W0 wr) (fun _ i _ => (intOf i + 1).toNat)
              case atStart => exact ⟨j + 1, (j : Int), Nat.le_refl _, by first | rfl | go_num, by omega, by rw [Hp0.out, show 1 + (j + 1 - (j + 1)) = 0 + 1 by omega]; exact ho2, hb2⟩
              case round =>
                obtain ⟨k, y, hk, rfl, hy, ho, hb⟩ := hrel
                cases k with
                | zero =>
                  obtain rfl : y = -1 := by omega
                  have hoo := ho.out
                  obtain ⟨a5, c5, rfl, hcv⟩ := conv_own hoo HL.out (by omega)
                  clear hoo ho hy
                  generalize p + (j + 1 - 0) = L at *
                  go_wp2
                  go_ret2
                  exact ⟨by rw [HT.out.1, HT.out.2]; rfl, HF.out _ hb⟩
                | succ i =>
                  obtain rfl : y = (i : Int) := by omega
                  obtain ⟨⟨q0, q1⟩, qi⟩ := HS.out wr hb
                  have qc := qi i (by omega)
                  have hdi := dd_lt u i
                  have HD : Hid (tf z (p + (j + 1 - (i + 1))) = 48 + (dd u i : Int)) := by
                    have := tf_digit (K := j + 1) (t := j + 1 - (i + 1)) HP.out (by rw [hza]; exact HK.out) (by omega)
                    show _ = _
                    rw [this, hza, show j + 1 - 1 - (j + 1 - (i + 1)) = i by omega]
                    simp
                  have HM := ho.out.more8 hb rfl
                  have hx : IntKind.u8.wrap (48 + (dd u i : Int)) = 48 + (dd u i : Int) := by rw [IntKind.wrap_u8']; omega
                  have y1 : (i : Int) < ((N + 1 : Nat) : Int) := by omega
                  have y2 : (0 : Int) ≤ (i : Int) := by omega
                  have lw : W0.heap.size ≤ wr.heap.size := hb.size
                  have hoo := ho.out
                  have pm : p + (j + 1 - (i + 1)) ≤ 300 := by have := Hp0.out; omega
                  have HE : Hid (p + (j + 1 - i) = p + (j + 1 - (i + 1)) + 1) := (by omega : p + (j + 1 - i) = p + (j + 1 - (i + 1)) + 1)
                  generalize p + (j + 1 - (i + 1)) = m at *
                  clear qi hy
                  go_wp2_with (at_builtin; refine wpList_append_own _ rfl _ _ 41 rfl W0.heap.size 5 i0 (.int .u8 0) 1 1 Tryd.underlying41 hi hz0 hz1 hz2 rfl (by decide) _ m ((lst (tf z) m).map (Value.int .u8)) rfl (World.ownsRow.alloc hoo _) ⟨wr.heap.size, 0, none⟩ 1 1 [.int .u8 (48 + (dd u i : Int))] rfl rfl (cell_one_new _ _ _) ?qc3 ?qc4 ?qc5 ?qc6 ?_)
                  case qc3 => first | rfl | (intro u hu; simp at hu; subst hu; rfl)
                  case qc4 => unfold maxLen; omega
                  case qc5 => omega
                  case qc6 => first | omega | (simp; omega)
                  intro v' w1 hown' hgrow _
                  obtain ⟨ho2, hb2⟩ := HM.out _ _ _ _ hown' hgrow HD.out
                  clear hown' hgrow hoo ho HM hb
                  go_wp2
                  go_roundw
                  case rel => exact ⟨i, (i : Int) - 1, by omega, by first | rfl | go_num, rfl, by rw [HE.out]; exact ho2, hb2⟩
                  case measure => first | (simp [intOf]; done) | (simp [intOf]; omega)
          · have t1 : (1 : Int) < (j : Int) + 1 := by omega
            have t2 : ((dd u j : Int) == 0) = false := by rw [beq_eq_false_iff_ne]; intro e; exact hgo ⟨by omega, by omega⟩
            have t3 : (j : Int) < ((N + 1 : Nat) : Int) := by omega
            have hup : 0 < u := by
              rcases Nat.eq_zero_or_pos u with e | e
              · exact absurd (by rw [e]; simp [dd]) (fun k => hgo ⟨by omega, k⟩)
              · exact e
            have hzn : z < 0 := by rw [← hz]; unfold sg; simp; try omega
            have Hp0 : Hid (p = 1) := by show _ = _; rw [HP.out, if_pos hzn]
            have HO0 : Hid (OwN .u8 5 W0 W0.heap.size (.slice none 0 0) 0 (tf z)) := OwN.nil _ _ _ _ _
            have HM0 := HO0.out.more8 (Below.refl _ W0) rfl
            have HZ : Hid (z < 0) := hzn
            clear hq hgo hj0 hzn
            try clear hu0
            go_wp2_with (at_builtin; refine wpList_append_own _ rfl _ _ 41 rfl W0.heap.size 5 i0 (.int .u8 0) 1 1 Tryd.underlying41 hi hz0 hz1 hz2 rfl (by decide) _ 0 ((lst (tf z) 0).map (Value.int .u8)) rfl (World.ownsRow.alloc HO0.out _) ⟨W0.heap.size, 0, none⟩ 1 1 [.int .u8 45] rfl rfl (cell_one_new _ _ _) ?qd3 ?qd4 ?qd5 ?qd6 ?_)
            try (case qd3 => first | rfl | (intro u hu; simp at hu; subst hu; rfl))
            try (case qd4 => unfold maxLen; omega)
            try (case qd5 => omega)
            try (case qd6 => first | omega | (simp; omega))
            intro v' w1 hown' hgrow _
            obtain ⟨ho2, hb2⟩ := HM0.out _ _ _ _ hown' hgrow (tf_minus HZ.out)
            clear hown' hgrow
            go_wp2
            go_loopw [5, 6] (fun o i wr => ∃ (k : Nat) (y : Int), k ≤ j + 1 ∧ i = .int .i64 y ∧ y = (k : Int) - 1 ∧ Hid (OwN .u8 5 wr W0.heap.size o (p + (j + 1 - k)) (tf z)) ∧ Below W0.heap.size W0 wr) (fun _ i _ => (intOf i + 1).toNat)
            case atStart => exact ⟨j + 1, (j : Int), Nat.le_refl _, by first | rfl | go_num, by omega, by rw [Hp0.out, show 1 + (j + 1 - (j + 1)) = 0 + 1 by omega]; exact ho2, hb2⟩
            case round =>
              obtain ⟨k, y, hk, rfl, hy, ho, hb⟩ := hrel
              cases k with
              | zero =>
                obtain rfl : y = -1 := by omega
                have hoo := ho.out
                obtain ⟨a5, c5, rfl, hcv⟩ := conv_own hoo HL.out (by omega)
                clear hoo ho hy
                generalize p + (j + 1 - 0) = L at *
                go_wp2
                go_ret2
                exact ⟨by rw [HT.out.1, HT.out.2]; rfl, HF.out _ hb⟩
              | succ i =>
                obtain rfl : y = (i : Int) := by omega
                obtain ⟨⟨q0, q1⟩, qi⟩ := HS.out wr hb
                have qc := qi i (by omega)
                have hdi := dd_lt u i
                have HD : Hid (tf z (p + (j + 1 - (i + 1))) = 48 + (dd u i : Int)) := by
                  have := tf_digit (K := j + 1) (t := j + 1 - (i + 1)) HP.out (by rw [hza]; exact HK.out) (by omega)
                  show _ = _
                  rw [this, hza, show j + 1 - 1 - (j + 1 - (i + 1)) = i by omega]
                  simp
                have HM := ho.out.more8 hb rfl
                have hx : IntKind.u8.wrap (48 + (dd u i : Int)) = 48 + (dd u i : Int) := by rw [IntKind.wrap_u8']; omega
                have y1 : (i : Int) < ((N + 1 : Nat) : Int) := by omega
                have y2 : (0 : Int) ≤ (i : Int) := by omega
                have lw : W0.heap.size ≤ wr.heap.size := hb.size
                have hoo := ho.out
                have pm : p + (j + 1 - (i + 1)) ≤ 300 := by have := Hp0.out; omega
                have HE : Hid (p + (j + 1 - i) = p + (j + 1 - (i + 1)) + 1) := (by omega : p + (j + 1 - i) = p + (j + 1 - (i + 1)) + 1)
                generalize p + (j + 1 - (i + 1)) = m at *
                clear qi hy
                go_wp2_with (at_builtin; refine wpList_append_own _ rfl _ _ 41 rfl W0.heap.size 5 i0 (.int .u8 0) 1 1 Tryd.underlying41 hi hz0 hz1 hz2 rfl (by decide) _ m ((lst (tf z) m).map (Value.int .u8)) rfl (World.ownsRow.alloc hoo _) ⟨wr.heap.size, 0, none⟩ 1 1 [.int .u8 (48 + (dd u i : Int))] rfl rfl (cell_one_new _ _ _) ?qc3 ?qc4 ?qc5 ?qc6 ?_)
                case qc3 => first | rfl | (intro u hu; simp at hu; subst hu; rfl)
                case qc4 => unfold maxLen; omega
                case qc5 => omega
                case qc6 => first | omega | (simp; omega)
                intro v' w1 hown' hgrow _
                obtain ⟨ho2, hb2⟩ := HM.out _ _ _ _ hown' hgrow HD.out
                clear hown' hgrow hoo ho HM hb
                go_wp2
                go_roundw
                case rel => exact ⟨i, (i : Int) - 1, by omega, by first | rfl | go_num, rfl, by rw [HE.out]; exact ho2, hb2⟩
                case measure => first | (simp [intOf]; done) | (simp [intOf]; omega)
      · have HT : Hid (resT z = ⟨#[]⟩ ∧ resE z = 91) := by
          constructor
          · unfold resT; rw [hza, HK.out, if_neg h200]
          · unfold resE; rw [hza, HK.out, if_neg h200]
        have l200 : (200 : Int) < (j : Int) + 1 := by omega
        have gj := HG.out j (by omega)
        have t1 : (1 : Int) < (j : Int) + 1 := by omega
        have t2 : ((dd u j : Int) == 0) = false := by rw [beq_eq_false_iff_ne]; intro e; exact hgo ⟨by omega, by omega⟩
        have t3 : (j : Int) < ((N + 1 : Nat) : Int) := by omega
        clear hq hgo
        go_wp2
        go_ret2
        exact ⟨by rw [HT.out.1, HT.out.2]; rfl, HF.out _ (Below.refl _ _)⟩
end Go.Proofs.YtcnlclocnnijgaaDoor
