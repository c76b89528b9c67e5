/-
  Contract of the document's own Encode, its last way: byte by byte it makes the same sector.
-/
import Derived.Test.YtnaobkpncfbnaaaGreatDoorEnc
namespace Go.Proofs.YtnaobkpncfbnaaaGreatDoor
open Go.RowKit
set_option linter.unusedVariables false

theorem lst_succ (G : Nat → Int) (n : Nat) : lst G (n + 1) = lst G n ++ [G n] := by simp [lst, List.range_succ]
theorem lst_cat (G f : Nat → Int) (k : Nat) : ∀ m, (∀ i, i < m → f i = G (k + i)) → lst G k ++ lst f m = lst G (k + m)
  | 0, _ => by simp [lst]
  | m + 1, h => by
    rw [lst_succ f m, ← List.append_assoc, lst_cat G f k m (fun i hi => h i (by omega)), h m (by omega), ← Nat.add_assoc, lst_succ G (k + m)]
theorem lst4 (G : Nat → Int) : lst G 4 = [G 0, G 1, G 2, G 3] := rfl

theorem pg_head (s : Nat) (f : Nat → Int) (i : Nat) (hi : i < 4) : pg s f i = hdP i := by
  unfold pg sec body ov
  rw [if_neg (by omega), if_neg (by omega), if_neg (by omega), if_pos (by omega), Nat.sub_zero]
theorem pg_num (s : Nat) (f : Nat → Int) (i : Nat) (hi : i < 8) : pg s f (4 + i) = leAt s i := by
  unfold pg sec body ov
  rw [if_neg (by omega), if_neg (by omega), if_pos (by omega), show 4 + i - 4 = i by omega]
theorem pg_load (s : Nat) (f : Nat → Int) (i : Nat) (hi : i < 112) : pg s f (12 + i) = f i := by
  unfold pg sec body ov
  rw [if_neg (by omega), if_pos (by omega), show 12 + i - 12 = i by omega]
theorem pg_sum (s : Nat) (f : Nat → Int) (i : Nat) (hi : i < 4) : pg s f (124 + i) = leAt (sumS (body hdP s 112 f)) i := by
  show ov _ 124 4 _ (124 + i) = _
  unfold ov
  rw [if_pos (by omega), show 124 + i - 124 = i by omega]
theorem pg_body (s : Nat) (f : Nat → Int) (i : Nat) (hi : i < 124) : pg s f i = body hdP s 112 f i := by
  show ov _ 124 4 _ i = _
  unfold ov
  rw [if_neg (by omega)]
theorem lstN_ext {f g : Nat → Int} {n : Nat} (h : ∀ i, i < n → f i = g i) : lstN f n = lstN g n := by
  unfold lstN
  apply List.map_congr_left
  intro i hi
  rw [h i (List.mem_range.1 hi)]
theorem pg_sumS (s : Nat) (f : Nat → Int) : sumS (pg s f) = sumS (body hdP s 112 f) := by
  unfold sumS
  rw [lstN_ext (pg_body s f)]
theorem pg_by (s : Nat) {f : Nat → Int} (h : ∀ i, 0 ≤ f i ∧ f i ≤ 255) : ∀ i, 0 ≤ pg s f i ∧ pg s f i ≤ 255 := sec_by hdP_by h s 112

set_option maxRecDepth 100000 in
set_option maxHeartbeats 600000 in
theorem xEnc_seal (b off c s : Nat) (f : Nat → Int) (w : World) (hc : Hid (∀ i, i < 112 → w.cell? ⟨b, off + i, none⟩ = some (.int .u8 (f i)))) (hby : ∀ i, 0 ≤ f i ∧ f i ≤ 255) (hs : s ≤ 4611686018427387904) (hs0 : 0 < s ∨ ¬ Nil f 112) :
    Calls Tryz.prog 58 #[.int .i64 (s : Int), .slice (some ⟨b, off, none⟩) 112 c] w fun e w' => ∃ v', e = .returned (.tuple #[v', .int .i64 0]) ∧ Own w' w.heap.size v' (lst (pg s f) 128) ∧ Below w.heap.size w w' := by
  obtain ⟨i0, hi, hz0, hz1, hz2⟩ := info_parts info5
  have h1 : ¬ (s : Int) < 0 := by omega
  have h2 : ¬ (4611686018427387904 : Int) < (s : Int) := by omega
  have HF : Hid (From w (some ⟨b, off, none⟩) 112 f) := .inr ⟨_, rfl, fun i hi => by rw [Addr.add_lit]; exact hc.out i hi⟩
  have HB : Hid (∀ i, 0 ≤ pg s f i ∧ pg s f i ≤ 255) := pg_by s hby
  have HG0 : Hid (lst (pg s f) 4 = [80, 0, 0, 0]) := (by rw [lst4, pg_head s f 0 (by omega), pg_head s f 1 (by omega), pg_head s f 2 (by omega), pg_head s f 3 (by omega)]; rfl : lst (pg s f) 4 = [80, 0, 0, 0])
  have HG1 : Hid (∀ i, i < 8 → pg s f (4 + i) = leAt s i) := pg_num s f
  have HG2 : Hid (∀ i, i < 112 → f i = pg s f (12 + i)) := fun i hi => (pg_load s f i hi).symm
  have HG3 : Hid (∀ i, i < 4 → leAt (sumS (pg s f)) i = pg s f (124 + i)) := fun i hi => by rw [pg_sumS]; exact (pg_sum s f i hi).symm
  have HO0 : Hid (Own (w.alloc (.cells #[.int .u8 80, .int .u8 0, .int .u8 0, .int .u8 0] 5)) w.heap.size (.slice (some ⟨w.heap.size, 0, none⟩) 4 4) (lst (pg s f) (4 + 0))) := by
    show Own _ _ _ (lst (pg s f) 4)
    rw [HG0.out]
    exact ⟨rfl, .inr ⟨w.heap.size, 4, #[.int .u8 80, .int .u8 0, .int .u8 0, .int .u8 0], rfl, Nat.le_refl _, by simp only [World.alloc, Array.getElem?_push_size], Nat.le_refl _, by decide, rfl, rfl⟩⟩
  have hb0 : Hid (Below w.heap.size w (w.alloc (.cells #[.int .u8 80, .int .u8 0, .int .u8 0, .int .u8 0] 5))) := (Below.refl _ w).alloc (Nat.le_refl _) _
  have HP : Hid (∃ G, pg s f = G) := ⟨_, rfl⟩
  clear hby HG0
  generalize hGG : pg s f = G at *
  have HGG : Hid (pg s f = G) := hGG
  clear hGG HP
  go_enter Tryz.func58, Tryz.ntmps58
  by_cases h0 : 0 < s
  · have h0' : ((s : Int) == 0) = false := by simp; omega
    go_wp2
    go_loopw [6, 28] (fun v i wr => ∃ k : Nat, k ≤ 8 ∧ i = .int .i64 (k : Int) ∧ Own wr w.heap.size v (lst G (4 + k)) ∧ Below w.heap.size w wr) (fun _ i _ => 8 - (intOf i).toNat)
    case atStart => exact ⟨0, by omega, rfl, HO0.out, hb0.out⟩
    case round =>
      obtain ⟨k, hk, rfl, ho, hbel⟩ := hrel
      have hss := hbel.size
      have hll : (lst G (4 + k)).length = 4 + k := lst_length _ _
      by_cases hlt : k < 8
      · have hlt' : (k : Int) < 8 := by omega
        have hx : Hid ((s : Int) / 2 ^ (8 * k) % 256 = G (4 + k)) := by
          rw [HG1.out k hlt]
          show _ = leAt s k
          unfold leAt
          have e8 : (256 : Nat) ^ k = 2 ^ (8 * k) := by rw [Nat.pow_mul]
          rw [e8]
          simp
        have ho' := ho
        unfold Own at ho'
        rw [hll] at ho'
        have hnn : 0 ≤ (s : Int) / 2 ^ (8 * k) := Int.ediv_nonneg (by omega) (Int.pow_nonneg (by decide))
        have hnn2 : (s : Int) / 2 ^ (8 * k) ≤ (s : Int) := Int.ediv_le_self _ (by omega)
        clear ho hll
        go_wp2_with (at_builtin; refine wpList_append_own _ rfl _ _ 36 rfl w.heap.size 5 i0 (.int .u8 0) 1 1 Tryz.underlying36 hi hz0 hz1 hz2 rfl (by decide) _ (4 + k) ((lst G (4 + k)).map (Value.int .u8)) rfl (ho'.alloc _) ⟨wr.heap.size, 0, none⟩ 1 1 [.int .u8 ((s : Int) / 2 ^ (8 * k) % 256)] rfl rfl (cell_one_new _ _ _) ?qc3 ?qc4 ?qc5 ?qc6 ?_)
        case qc3 => first | rfl | (intro u hu; simp at hu; subst hu; rfl)
        case qc4 => unfold maxLen; omega
        case qc5 => omega
        case qc6 => first | omega | (simp; omega)
        intro v' w1 hown' hgrow _
        have hb2 := (hbel.alloc (by omega) (.cells #[.int .u8 ((s : Int) / 2 ^ (8 * k) % 256)] 5)).grown hgrow (by simp; omega) (fun q hq => (World.ownsRow.lt ho' q hq).1)
        have ho2 : Own w1 w.heap.size v' (lst G (4 + (k + 1))) := by
          rw [← Nat.add_assoc, lst_succ, ← hx.out]
          refine Own.one ?_
          rw [lst_length]
          exact hown'
        clear hown' hgrow ho' hbel
        go_wp2
        go_roundw
        case rel => exact ⟨k + 1, by omega, by go_num, ho2, hb2⟩
        case measure => simp [intOf]; omega
      · obtain rfl : k = 8 := by omega
        have HF2 : Hid (From wr (some ⟨b, off, none⟩) 112 f) := HF.out.below hbel (Nat.le_refl _)
        have hcat : Hid (lst G (4 + 8) ++ lst f 112 = lst G 124) := lst_cat G f 12 112 HG2.out
        have HL : Hid ((lst G (4 + 8)).length + 112 ≤ 140737488355328) := by
          show _ ≤ _
          rw [lst_length]
          decide
        clear hll
        go_wp2_with (at_builtin; refine wpList_app rfl _ _ rfl w.heap.size _ (lst G (4 + 8)) rfl ho (some ⟨b, off, none⟩) 112 c f rfl HF2.out (fun h => by cases h) HL.out hss ?_)
        intro v2 w2 ho2 hb2
        rw [hcat.out] at ho2
        have hbB := hbel.trans hb2
        have hs2 := hbB.size
        obtain ⟨aX, cX, rfl, hfX, hcX, hcX1, hcX2, hgX⟩ := ho2.openF
        have HO2 : Hid (Own w2 w.heap.size (.slice aX 124 cX) (lst G 124)) := ho2
        have HfX : Hid (From w2 aX 124 G) := hfX
        clear ho hbel hb2 HL HF2 ho2 hfX hcat
        go_wp2_with fail
        refine (xSum aX 124 cX G (by omega) HB.out HfX.out.lay).mono ?_
        rintro e w3 ⟨rfl, hw3⟩
        obtain rfl : w2 = w3 := hw3.symm
        clear hw3
        have hZ0 : Hid (Crc.sum (lstN G 124) = sumS G) := rfl
        have hZl : sumS G < 4294967296 := Crc.sum_lt _ (lstN_by HB.out 124)
        rw [hZ0.out]
        have hcat3 : Hid (lst G 124 ++ lst (leAt (sumS G)) 4 = lst G 128) := lst_cat G _ 124 4 HG3.out
        have q0 : Hid (leAt (sumS G) 0 = ((sumS G : Nat) : Int) % 256) := (by simp [leAt] : leAt (sumS G) 0 = ((sumS G : Nat) : Int) % 256)
        have q1 : Hid (leAt (sumS G) 1 = ((sumS G : Nat) : Int) / 256 % 256) := (by simp [leAt] : leAt (sumS G) 1 = ((sumS G : Nat) : Int) / 256 % 256)
        have q2 : Hid (leAt (sumS G) 2 = ((sumS G : Nat) : Int) / 65536 % 256) := (by simp [leAt] : leAt (sumS G) 2 = ((sumS G : Nat) : Int) / 65536 % 256)
        have q3 : Hid (leAt (sumS G) 3 = ((sumS G : Nat) : Int) / 16777216) := (by unfold leAt; simp; omega : leAt (sumS G) 3 = ((sumS G : Nat) : Int) / 16777216)
        generalize sumS G = Z at *
        have HFF : Hid (From (w2.alloc (.cells #[.int .u8 ((Z : Int) % 256), .int .u8 ((Z : Int) / 256 % 256), .int .u8 ((Z : Int) / 65536 % 256), .int .u8 ((Z : Int) / 16777216)] 5)) (some ⟨w2.heap.size, 0, none⟩) 4 (leAt Z)) := by
          refine .inr ⟨_, rfl, fun i hi => ?_⟩
          rw [Addr.add_lit, Nat.zero_add, World.cell?_alloc_at _ _ _ _ rfl]
          have hk : i = 0 ∨ i = 1 ∨ i = 2 ∨ i = 3 := by omega
          rcases hk with h | h | h | h <;> subst h
          · rw [q0.out]; rfl
          · rw [q1.out]; rfl
          · rw [q2.out]; rfl
          · rw [q3.out]; rfl
        have hO4 : Own (w2.alloc (.cells #[.int .u8 ((Z : Int) % 256), .int .u8 ((Z : Int) / 256 % 256), .int .u8 ((Z : Int) / 65536 % 256), .int .u8 ((Z : Int) / 16777216)] 5)) w.heap.size (.slice aX 124 cX) (lst G 124) := World.ownsRow.alloc HO2.out _
        have hbC := hbB.alloc hs2 (.cells #[.int .u8 ((Z : Int) % 256), .int .u8 ((Z : Int) / 256 % 256), .int .u8 ((Z : Int) / 65536 % 256), .int .u8 ((Z : Int) / 16777216)] 5)
        have HS : Hid (w.heap.size ≤ (w2.alloc (.cells #[.int .u8 ((Z : Int) % 256), .int .u8 ((Z : Int) / 256 % 256), .int .u8 ((Z : Int) / 65536 % 256), .int .u8 ((Z : Int) / 16777216)] 5)).heap.size) := hbC.size
        have HL2 : Hid ((lst G 124).length + 4 ≤ 140737488355328) := by
          show _ ≤ _
          rw [lst_length]
          decide
        clear q0 q1 q2 q3 HO2 HfX
        go_wp2_with (at_builtin; refine wpList_app rfl _ _ rfl w.heap.size _ (lst G 124) rfl hO4 (some ⟨w2.heap.size, 0, none⟩) 4 4 (leAt Z) rfl HFF.out (fun h => by cases h) HL2.out HS.out ?_)
        intro v5 w5 ho5 hb5
        rw [hcat3.out] at ho5
        go_wp2
        go_ret2
        refine ⟨v5, rfl, ?_, hbC.trans hb5⟩
        exact ho5
  · have hN : Hid (decide (Nil f 112) = false) := decide_eq_false (hs0.resolve_left h0)
    have h0' : ((s : Int) == 0) = true := by simp; omega
    clear h0 hs0
    go_wp2_with fail
    refine (noughts_at b off 112 c f w (by omega) hc).mono ?_
    rintro e w1 ⟨rfl, hw⟩
    obtain rfl : w = w1 := hw.symm
    rw [hN.out]
    clear hw
    go_wp2
    go_loopw [6, 28] (fun v i wr => ∃ k : Nat, k ≤ 8 ∧ i = .int .i64 (k : Int) ∧ Own wr w.heap.size v (lst G (4 + k)) ∧ Below w.heap.size w wr) (fun _ i _ => 8 - (intOf i).toNat)
    case atStart => exact ⟨0, by omega, rfl, HO0.out, hb0.out⟩
    case round =>
      obtain ⟨k, hk, rfl, ho, hbel⟩ := hrel
      have hss := hbel.size
      have hll : (lst G (4 + k)).length = 4 + k := lst_length _ _
      by_cases hlt : k < 8
      · have hlt' : (k : Int) < 8 := by omega
        have hx : Hid ((s : Int) / 2 ^ (8 * k) % 256 = G (4 + k)) := by
          rw [HG1.out k hlt]
          show _ = leAt s k
          unfold leAt
          have e8 : (256 : Nat) ^ k = 2 ^ (8 * k) := by rw [Nat.pow_mul]
          rw [e8]
          simp
        have ho' := ho
        unfold Own at ho'
        rw [hll] at ho'
        have hnn : 0 ≤ (s : Int) / 2 ^ (8 * k) := Int.ediv_nonneg (by omega) (Int.pow_nonneg (by decide))
        have hnn2 : (s : Int) / 2 ^ (8 * k) ≤ (s : Int) := Int.ediv_le_self _ (by omega)
        clear ho hll
        go_wp2_with (at_builtin; refine wpList_append_own _ rfl _ _ 36 rfl w.heap.size 5 i0 (.int .u8 0) 1 1 Tryz.underlying36 hi hz0 hz1 hz2 rfl (by decide) _ (4 + k) ((lst G (4 + k)).map (Value.int .u8)) rfl (ho'.alloc _) ⟨wr.heap.size, 0, none⟩ 1 1 [.int .u8 ((s : Int) / 2 ^ (8 * k) % 256)] rfl rfl (cell_one_new _ _ _) ?qc3 ?qc4 ?qc5 ?qc6 ?_)
        case qc3 => first | rfl | (intro u hu; simp at hu; subst hu; rfl)
        case qc4 => unfold maxLen; omega
        case qc5 => omega
        case qc6 => first | omega | (simp; omega)
        intro v' w1 hown' hgrow _
        have hb2 := (hbel.alloc (by omega) (.cells #[.int .u8 ((s : Int) / 2 ^ (8 * k) % 256)] 5)).grown hgrow (by simp; omega) (fun q hq => (World.ownsRow.lt ho' q hq).1)
        have ho2 : Own w1 w.heap.size v' (lst G (4 + (k + 1))) := by
          rw [← Nat.add_assoc, lst_succ, ← hx.out]
          refine Own.one ?_
          rw [lst_length]
          exact hown'
        clear hown' hgrow ho' hbel
        go_wp2
        go_roundw
        case rel => exact ⟨k + 1, by omega, by go_num, ho2, hb2⟩
        case measure => simp [intOf]; omega
      · obtain rfl : k = 8 := by omega
        have HF2 : Hid (From wr (some ⟨b, off, none⟩) 112 f) := HF.out.below hbel (Nat.le_refl _)
        have hcat : Hid (lst G (4 + 8) ++ lst f 112 = lst G 124) := lst_cat G f 12 112 HG2.out
        have HL : Hid ((lst G (4 + 8)).length + 112 ≤ 140737488355328) := by
          show _ ≤ _
          rw [lst_length]
          decide
        clear hll
        go_wp2_with (at_builtin; refine wpList_app rfl _ _ rfl w.heap.size _ (lst G (4 + 8)) rfl ho (some ⟨b, off, none⟩) 112 c f rfl HF2.out (fun h => by cases h) HL.out hss ?_)
        intro v2 w2 ho2 hb2
        rw [hcat.out] at ho2
        have hbB := hbel.trans hb2
        have hs2 := hbB.size
        obtain ⟨aX, cX, rfl, hfX, hcX, hcX1, hcX2, hgX⟩ := ho2.openF
        have HO2 : Hid (Own w2 w.heap.size (.slice aX 124 cX) (lst G 124)) := ho2
        have HfX : Hid (From w2 aX 124 G) := hfX
        clear ho hbel hb2 HL HF2 ho2 hfX hcat
        go_wp2_with fail
        refine (xSum aX 124 cX G (by omega) HB.out HfX.out.lay).mono ?_
        rintro e w3 ⟨rfl, hw3⟩
        obtain rfl : w2 = w3 := hw3.symm
        clear hw3
        have hZ0 : Hid (Crc.sum (lstN G 124) = sumS G) := rfl
        have hZl : sumS G < 4294967296 := Crc.sum_lt _ (lstN_by HB.out 124)
        rw [hZ0.out]
        have hcat3 : Hid (lst G 124 ++ lst (leAt (sumS G)) 4 = lst G 128) := lst_cat G _ 124 4 HG3.out
        have q0 : Hid (leAt (sumS G) 0 = ((sumS G : Nat) : Int) % 256) := (by simp [leAt] : leAt (sumS G) 0 = ((sumS G : Nat) : Int) % 256)
        have q1 : Hid (leAt (sumS G) 1 = ((sumS G : Nat) : Int) / 256 % 256) := (by simp [leAt] : leAt (sumS G) 1 = ((sumS G : Nat) : Int) / 256 % 256)
        have q2 : Hid (leAt (sumS G) 2 = ((sumS G : Nat) : Int) / 65536 % 256) := (by simp [leAt] : leAt (sumS G) 2 = ((sumS G : Nat) : Int) / 65536 % 256)
        have q3 : Hid (leAt (sumS G) 3 = ((sumS G : Nat) : Int) / 16777216) := (by unfold leAt; simp; omega : leAt (sumS G) 3 = ((sumS G : Nat) : Int) / 16777216)
        generalize sumS G = Z at *
        have HFF : Hid (From (w2.alloc (.cells #[.int .u8 ((Z : Int) % 256), .int .u8 ((Z : Int) / 256 % 256), .int .u8 ((Z : Int) / 65536 % 256), .int .u8 ((Z : Int) / 16777216)] 5)) (some ⟨w2.heap.size, 0, none⟩) 4 (leAt Z)) := by
          refine .inr ⟨_, rfl, fun i hi => ?_⟩
          rw [Addr.add_lit, Nat.zero_add, World.cell?_alloc_at _ _ _ _ rfl]
          have hk : i = 0 ∨ i = 1 ∨ i = 2 ∨ i = 3 := by omega
          rcases hk with h | h | h | h <;> subst h
          · rw [q0.out]; rfl
          · rw [q1.out]; rfl
          · rw [q2.out]; rfl
          · rw [q3.out]; rfl
        have hO4 : Own (w2.alloc (.cells #[.int .u8 ((Z : Int) % 256), .int .u8 ((Z : Int) / 256 % 256), .int .u8 ((Z : Int) / 65536 % 256), .int .u8 ((Z : Int) / 16777216)] 5)) w.heap.size (.slice aX 124 cX) (lst G 124) := World.ownsRow.alloc HO2.out _
        have hbC := hbB.alloc hs2 (.cells #[.int .u8 ((Z : Int) % 256), .int .u8 ((Z : Int) / 256 % 256), .int .u8 ((Z : Int) / 65536 % 256), .int .u8 ((Z : Int) / 16777216)] 5)
        have HS : Hid (w.heap.size ≤ (w2.alloc (.cells #[.int .u8 ((Z : Int) % 256), .int .u8 ((Z : Int) / 256 % 256), .int .u8 ((Z : Int) / 65536 % 256), .int .u8 ((Z : Int) / 16777216)] 5)).heap.size) := hbC.size
        have HL2 : Hid ((lst G 124).length + 4 ≤ 140737488355328) := by
          show _ ≤ _
          rw [lst_length]
          decide
        clear q0 q1 q2 q3 HO2 HfX
        go_wp2_with (at_builtin; refine wpList_app rfl _ _ rfl w.heap.size _ (lst G 124) rfl hO4 (some ⟨w2.heap.size, 0, none⟩) 4 4 (leAt Z) rfl HFF.out (fun h => by cases h) HL2.out HS.out ?_)
        intro v5 w5 ho5 hb5
        rw [hcat3.out] at ho5
        go_wp2
        go_ret2
        refine ⟨v5, rfl, ?_, hbC.trans hb5⟩
        exact ho5

theorem xEncode (a0 : Option Addr) (n c : Nat) (z : Int) (f : Nat → Int) (w : World) (hf : From w a0 n f) (hby : ∀ i, 0 ≤ f i ∧ f i ≤ 255) :
    Calls Tryz.prog 58 #[.int .i64 z, .slice a0 n c] w fun e w' => ∃ v', e = .returned (.tuple #[v', .int .i64 (encE z n)]) ∧ Own w' w.heap.size v' (encPL z n f) ∧ Below w.heap.size w w' := by
  unfold encE encPL
  by_cases h : EncOk z n
  · rw [if_pos h, if_pos h]
    obtain ⟨h1, h2, rfl⟩ := h
    obtain ⟨b, off, rfl, hc⟩ := hf.lay.resolve_left (by omega)
    obtain ⟨s, rfl⟩ := Int.eq_ofNat_of_zero_le h1
    unfold encF
    by_cases h3 : (s : Int) = 0 ∧ Nil f 112
    · rw [if_pos h3]
      obtain ⟨h4, h5⟩ := h3
      rw [h4]
      exact xEnc_zero b off c f w hc h5
    · rw [if_neg h3, Int.toNat_natCast]
      refine xEnc_seal b off c s f w hc hby (by omega) ?_
      by_cases h4 : 0 < s
      · exact .inl h4
      · exact .inr fun h5 => h3 ⟨by omega, h5⟩
  · rw [if_neg h, if_neg h]
    have key : Calls Tryz.prog 58 #[.int .i64 z, .slice a0 n c] w fun e w' => e = .returned (.tuple #[.slice none 0 0, .int .i64 1]) ∧ w' = w := by
      by_cases h1 : z < 0
      · exact xEnc_err1 a0 n c z w h1
      · by_cases h2 : 4611686018427387904 < z
        · exact xEnc_err2 a0 n c z w h2
        · exact xEnc_err3 a0 n c z w (by omega) (by omega) (fun h3 => h ⟨by omega, by omega, h3⟩)
    exact key.mono fun e w' ⟨h1, h2⟩ => ⟨_, h1, World.ownsRow_nil _ _ _ _, by rw [h2]; exact Below.refl _ _⟩
end Go.Proofs.YtnaobkpncfbnaaaGreatDoor
