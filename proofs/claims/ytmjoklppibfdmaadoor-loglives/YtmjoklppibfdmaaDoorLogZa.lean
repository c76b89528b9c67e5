/-
  Contracts of the document's own little and sector. Conditions: a load of at most 112 bytes, a place below 65536, a number that is not negative.
-/
import Derived.Test.YtmjoklppibfdmaaDoorZeros
import Derived.Test.YtmjoklppibfdmaaDoorLogR
namespace Go.Proofs.YtmjoklppibfdmaaDoor
open Go.RowKit
set_option linter.unusedVariables false

section
variable {w : World} {ops : Array Oper} {rest : List Oper} {o : Oper} {a : Act} {Q : Exit → Act → World → Prop}
theorem wpList_zeros (hgd : o.guard = none) (s x : Operand) (ho : o.op = .call { callee := .builtin .append, args := #[s, x], argTypes := #[34, 3] })
    (B : Nat) (v : Value) (xs : List Int) (hs : a.eval s = v) (hown : Own w B v xs) (m : Nat) (hx : a.eval x = .int .i64 (m : Int)) (hbig : xs.length + m ≤ 140737488355328) (hB : B ≤ w.heap.size)
    (h : ∀ v' w', Own w' B v' (xs ++ lst (fun _ => 0) m) → Below B w w' → wpList Tryd.prog ops Q rest (a.put o.dst v') w') : wpList Tryd.prog ops Q (o :: rest) a w := by
  refine wpList_plain hgd fun K hK => ?_
  obtain ⟨v', w', hr, h2, h3⟩ := run_zeros_own w B v xs hown m hbig hB o.type
  unfold Oper.wp execOp
  simp only [ho, resolve, invoke, builtin, Sem.run_bind, Sem.run_pure, Result.andThen_ok, List.map_toArray, List.map_cons, List.map_nil, hs, hx, hr]
  exact hK _ _ (h v' w' h2 h3)
end
theorem zlst_succ (G : Nat → Int) (n : Nat) : lst G (n + 1) = lst G n ++ [G n] := by simp [lst, List.range_succ]
theorem zlst_cat (G f : Nat → Int) (k : Nat) : ∀ m, (∀ i, i < m → f i = G (k + i)) → lst G k ++ lst f m = lst G (k + m)
  | 0, _ => by simp [lst]
  | m + 1, h => by
    rw [zlst_succ f m, ← List.append_assoc, zlst_cat G f k m (fun i hi => h i (by omega)), h m (by omega), ← Nat.add_assoc, zlst_succ G (k + m)]
theorem pow_step (n k : Nat) : n / 256 ^ (k + 1) = n / 256 ^ k / 256 := by rw [Nat.div_div_eq_div_mul, Nat.pow_succ]

set_option maxRecDepth 100000 in
set_option maxHeartbeats 1000000 in
theorem zLittle (n width : Nat) (w : World) (hn : n ≤ 9223372036854775807) (hwd : width ≤ 8) :
    Calls Tryd.prog 95 #[.int .i64 (n : Int), .int .i64 (width : Int)] w fun r w' => ∃ g c, r = .returned (.slice g width c) ∧ Hid (Own w' w.heap.size (.slice g width c) (lst (leAt n) width)) ∧ Below w.heap.size w w' := by
  obtain ⟨i0, hi, hz0, hz1, hz2⟩ := info_parts info5
  have HN0 : Hid (Own w w.heap.size (.slice none 0 0) (lst (leAt n) 0)) := World.ownsRow_nil _ _ _ _
  have h0 : Hid ((n : Int) = ((n / 256 ^ 0 : Nat) : Int)) := (by simp : (n : Int) = ((n / 256 ^ 0 : Nat) : Int))
  go_enter Tryd.func95, Tryd.ntmps95
  go_wp2
  go_loopw [0, 5, 7] (fun s0 s5 s7 wr => ∃ k m : Nat, k ≤ width ∧ Hid (m = n / 256 ^ k) ∧ s0 = .int .i64 (m : Int) ∧ s7 = .int .i64 (k : Int) ∧ Own wr w.heap.size s5 (lst (leAt n) k) ∧ Below w.heap.size w wr) (fun _ _ i _ => width - (intOf i).toNat)
  case atStart => exact ⟨0, n, Nat.zero_le _, by show n = n / 256 ^ 0; simp, rfl, rfl, HN0.out, Below.refl _ _⟩
  case round =>
    obtain ⟨k, m, hk, hm, rfl, rfl, ho, hbel⟩ := hrel
    have hss := hbel.size
    have hll : (lst (leAt n) k).length = k := lst_length _ _
    have hmn : m ≤ 9223372036854775807 := by rw [hm.out]; exact Nat.le_trans (Nat.div_le_self _ _) hn
    by_cases hlt : k < width
    · have hlt' : (k : Int) < (width : Int) := by omega
      have hx : Hid (leAt n k = (m : Int) % 256) := by
        show leAt n k = _
        unfold leAt
        rw [← hm.out]
        omega
      have hm1 : Hid (m / 256 = n / 256 ^ (k + 1)) := (by rw [pow_step, ← hm.out] : m / 256 = n / 256 ^ (k + 1))
      have ho' := ho
      unfold Own at ho'
      rw [hll] at ho'
      have hm0 : (0 : Int) ≤ (m : Int) := by omega
      have hm9 : (m : Int) ≤ 9223372036854775807 := by omega
      clear ho hll hm
      go_wp2_with (at_builtin; refine wpList_append_own _ rfl _ _ 34 rfl w.heap.size 5 i0 (.int .u8 0) 1 1 Tryd.underlying34 hi hz0 hz1 hz2 rfl (by decide) _ k ((lst (leAt n) k).map (Value.int .u8)) rfl (ho'.alloc _) ⟨wr.heap.size, 0, none⟩ 1 1 [.int .u8 ((m : Int) % 256)] rfl rfl (cell_one_new _ _ _) ?qc3 ?qc4 ?qc5 ?qc6 ?_)
      case qc3 => first | rfl | (intro u hu; simp at hu; subst hu; rfl)
      case qc4 => unfold maxLen; omega
      case qc5 => omega
      case qc6 => first | omega | (simp; omega)
      intro v' w1 hown' hgrow _
      have hb2 := (hbel.alloc (by omega) (.cells #[.int .u8 ((m : Int) % 256)] 5)).grown hgrow (by simp; omega) (fun q hq => (World.ownsRow.lt ho' q hq).1)
      have ho2 : Own w1 w.heap.size v' (lst (leAt n) (k + 1)) := by
        rw [zlst_succ, hx.out]
        refine Own.one ?_
        rw [lst_length]
        exact hown'
      clear hown' hgrow ho'
      go_wp2
      go_roundw
      case rel => exact ⟨k + 1, m / 256, by omega, hm1, by go_num, by go_num, ho2, hb2⟩
      case measure => simp [intOf]; omega
    · obtain rfl : k = width := by omega
      obtain ⟨g, c, rfl, _, _⟩ := own_any ho
      have HO : Hid (Own wr w.heap.size (.slice g k c) (lst (leAt n) k)) := ho
      clear ho
      go_wp2
      go_ret
      exact ⟨g, c, rfl, HO, hbel⟩

theorem lsec_cat (p N u : Nat) (f : Nat → Int) (hu : u ≤ 112) : (lst (lsec p N u f) 4 = [76, (u : Int), ((p % 256 : Nat) : Int), ((p / 256 % 256 : Nat) : Int)]) ∧ (∀ i, i < 8 → leAt N i = lsec p N u f (4 + i)) ∧ (∀ i, i < u → f i = lsec p N u f (12 + i)) ∧ (∀ i, i < 112 - u → (0 : Int) = lsec p N u f (12 + u + i)) ∧ (∀ i, i < 4 → leAt (sumS (lsec p N u f)) i = lsec p N u f (124 + i)) := by
  refine ⟨?_, fun i hi => (sec_num _ _ _ _ i hi).symm, fun i hi => (sec_load _ _ _ _ i hi hu).symm, fun i hi => ?_, fun i hi => ?_⟩
  · show [lsec p N u f 0, lsec p N u f 1, lsec p N u f 2, lsec p N u f 3] = _
    unfold lsec
    rw [sec_head _ _ _ _ 0 (by omega), sec_head _ _ _ _ 1 (by omega), sec_head _ _ _ _ 2 (by omega), sec_head _ _ _ _ 3 (by omega)]
    rfl
  · unfold lsec sec body ov
    rw [if_neg (by omega), if_neg (by omega), if_neg (by omega), if_neg (by omega)]
  · have hs : sumS (lsec p N u f) = sumS (body (hdL p u) N u f) := by
      unfold sumS
      congr 1
    rw [hs]
    unfold lsec sec
    show _ = ov _ 124 4 _ (124 + i)
    unfold ov
    rw [if_pos (by omega), show 124 + i - 124 = i by omega]

set_option maxRecDepth 100000 in
set_option maxHeartbeats 2000000 in
theorem zSector (p N u c : Nat) (a0 : Option Addr) (f : Nat → Int) (w : World) (hp : p ≤ 65535) (hN : N ≤ 9223372036854775807) (hu : u ≤ 112) (hf : From w a0 u f) (hc0 : a0 = none → c = 0) (hby : ∀ i, 0 ≤ f i ∧ f i ≤ 255) :
    Calls Tryd.prog 75 #[.int .i64 (p : Int), .int .i64 (N : Int), .slice a0 u c] w fun r w' => ∃ g c', r = .returned (.slice (some ⟨g, 0, none⟩) 128 c') ∧ Hid (Own w' w.heap.size (.slice (some ⟨g, 0, none⟩) 128 c') (lst (lsec p N u f) 128)) ∧ 128 ≤ c' ∧ Below w.heap.size w w' := by
  obtain ⟨G0, G1, G2, G3, G4⟩ := lsec_cat p N u f hu
  have HBy : Hid (∀ i, 0 ≤ lsec p N u f i ∧ lsec p N u f i ≤ 255) := sec_by (hdL_by hu) hby N u
  obtain ⟨G, hG⟩ : ∃ G, lsec p N u f = G := ⟨_, rfl⟩
  rw [hG] at G0 G1 G2 G3 G4 HBy ⊢
  have HG0 : Hid (lst G 4 = [76, (u : Int), ((p % 256 : Nat) : Int), ((p / 256 % 256 : Nat) : Int)]) := G0
  have HG1 : Hid (∀ i, i < 8 → leAt N i = G (4 + i)) := G1
  have HG2 : Hid (∀ i, i < u → f i = G (12 + i)) := G2
  have HG3 : Hid (∀ i, i < 112 - u → (0 : Int) = G (12 + u + i)) := G3
  have HG4 : Hid (∀ i, i < 4 → leAt (sumS G) i = G (124 + i)) := G4
  have HF : Hid (∀ wq, Below w.heap.size w wq → From wq a0 u f) := fun wq hq => hf.below hq (Nat.le_refl _)
  obtain ⟨o0, ho0⟩ : ∃ o0, Obj.cells #[.int .u8 76, .int .u8 (u : Int)] 5 = o0 := ⟨_, rfl⟩
  have HO0 : Hid (Own (w.alloc o0) w.heap.size (.slice (some ⟨w.heap.size, 0, none⟩) 2 2) [76, (u : Int)]) := by
    rw [← ho0]
    exact ⟨rfl, .inr ⟨w.heap.size, 2, #[.int .u8 76, .int .u8 (u : Int)], rfl, Nat.le_refl _, by simp only [World.alloc, Array.getElem?_push_size], Nat.le_refl _, by decide, rfl, rfl⟩⟩
  have b0 : Below w.heap.size w (w.alloc o0) := (Below.refl _ w).alloc (Nat.le_refl _) _
  have hs0 : (w.alloc o0).heap.size = w.heap.size + 1 := by simp
  have hu0 : (0 : Int) ≤ (u : Int) := by omega
  have hu1 : (u : Int) ≤ 112 := by omega
  have huw : IntKind.u8.wrap (u : Int) = (u : Int) := by rw [IntKind.wrap_u8]; omega
  have hum : (u : Int) % 256 = (u : Int) := by omega
  have CL1 := zLittle p 2 (w.alloc o0) (by omega) (by omega)
  clear G0 G1 G2 G3 G4 hG hf
  go_enter Tryd.func75, Tryd.ntmps75
  go_wp2_with fail
  try rw [ho0]
  refine CL1.mono ?_
  rintro r w1 ⟨g1, c1, rfl, HO1, b1⟩
  clear CL1
  have s1 := b1.size
  have b01 : Below w.heap.size w w1 := b0.trans (b1.mono (by omega))
  have HX1 : Hid (Own w1 w.heap.size (.slice (some ⟨w.heap.size, 0, none⟩) 2 2) [76, (u : Int)]) := HO0.out.below b1 (Nat.le_refl _)
  obtain ⟨a1, c1', ev, hf1, hn1⟩ := own_any HO1.out
  cases ev
  have HF1 : Hid (From w1 g1 2 (leAt p)) := hf1
  clear hf1
  go_wp2_with (at_builtin; refine wpList_app rfl _ _ rfl w.heap.size (.slice (some ⟨w.heap.size, 0, none⟩) 2 2) [76, (u : Int)] rfl HX1.out g1 2 c1 (leAt p) rfl HF1.out hn1 ?qa ?qb ?_)
  case qa => simp
  case qb => omega
  intro v2 w2 ho2 b2
  have HO2 : Hid (Own w2 w.heap.size v2 (lst G 4)) := by
    rw [HG0.out]
    have e : lst (leAt p) 2 = [((p % 256 : Nat) : Int), ((p / 256 % 256 : Nat) : Int)] := by
      show [leAt p 0, leAt p 1] = _
      unfold leAt
      simp
    rw [e] at ho2
    exact ho2
  have b02 : Below w.heap.size w w2 := b01.trans b2
  have s2 := b02.size
  clear ho2 b2 HX1 HF1 HO1 HO0 hn1
  have CL2 := zLittle N 8 w2 hN (by omega)
  go_wp2_with fail
  refine CL2.mono ?_
  rintro r w3 ⟨g3, c3, rfl, HO3, b3⟩
  clear CL2
  have s3 := b3.size
  have b03 : Below w.heap.size w w3 := b02.trans (b3.mono s2)
  have HX3 : Hid (Own w3 w.heap.size v2 (lst G 4)) := HO2.out.below b3 (Nat.le_refl _)
  obtain ⟨a3, c3', ev, hf3, hn3⟩ := own_any HO3.out
  cases ev
  have HF3 : Hid (From w3 g3 8 (leAt N)) := hf3
  clear hf3
  go_wp2_with (at_builtin; refine wpList_app rfl _ _ rfl w.heap.size v2 (lst G 4) rfl HX3.out g3 8 c3 (leAt N) rfl HF3.out hn3 ?qc ?qd ?_)
  case qc => rw [lst_length]; omega
  case qd => omega
  intro v4 w4 ho4 b4
  have HO4 : Hid (Own w4 w.heap.size v4 (lst G 12)) := by
    rw [zlst_cat G (leAt N) 4 8 HG1.out] at ho4
    exact ho4
  have b04 : Below w.heap.size w w4 := b03.trans b4
  have s4 := b04.size
  clear ho4 b4 HX3 HF3 HO3 hn3 HO2
  have HF4 : Hid (From w4 a0 u f) := HF.out w4 b04
  go_wp2_with (at_builtin; refine wpList_app rfl _ _ rfl w.heap.size v4 (lst G 12) rfl HO4.out a0 u c f rfl HF4.out hc0 ?qe ?qf ?_)
  case qe => rw [lst_length]; omega
  case qf => omega
  intro v5 w5 ho5 b5
  have HO5 : Hid (Own w5 w.heap.size v5 (lst G (12 + u))) := by
    rw [zlst_cat G f 12 u HG2.out] at ho5
    exact ho5
  have b05 : Below w.heap.size w w5 := b04.trans b5
  have s5 := b05.size
  clear ho5 b5 HF4 HO4
  obtain ⟨a5, c5, rfl, _, _⟩ := own_any HO5.out
  obtain ⟨m, hm⟩ : ∃ m, 112 - u = m := ⟨_, rfl⟩
  have hm1 : (124 : Int) - ((12 + u : Nat) : Int) = (m : Int) := by omega
  have hm2 : (124 : Int) - (12 + (u : Int)) = (m : Int) := by omega
  rw [hm] at HG3
  have hmu : m + u = 112 := by omega
  clear hm
  go_wp2_with (refine wpList_zeros rfl _ _ rfl w.heap.size (.slice a5 (12 + u) c5) (lst G (12 + u)) rfl HO5.out m ?qg ?qh ?qi ?_)
  case qg => first | rfl | (refine congrArg (Value.int .i64) ?_; omega)
  case qh => rw [lst_length]; omega
  case qi => exact s5
  intro v6 w6 ho6 b6
  have HO6 : Hid (Own w6 w.heap.size v6 (lst G 124)) := by
    rw [zlst_cat G (fun _ => 0) (12 + u) m HG3.out, show 12 + u + m = 124 by omega] at ho6
    exact ho6
  have b06 : Below w.heap.size w w6 := b05.trans b6
  have s6 := b06.size
  clear ho6 b6 HO5
  obtain ⟨a6, c6, rfl, hf6, hn6⟩ := own_any HO6.out
  have CS := xSum a6 124 c6 G (by omega) HBy.out hf6.lay
  have HSb : Hid (Crc.sum (lstN G 124) < 4294967296) := by
    refine Crc.sum_lt _ (fun x hx => ?_)
    unfold lstN at hx
    obtain ⟨i, _, rfl⟩ := List.mem_map.1 hx
    have := HBy.out i
    omega
  obtain ⟨sm, hsm⟩ : ∃ sm, Crc.sum (lstN G 124) = sm := ⟨_, rfl⟩
  rw [hsm] at CS HSb
  have hsb := HSb.out
  have HG4' : Hid (∀ i, i < 4 → leAt sm i = G (124 + i)) := fun i hi => by rw [← hsm]; exact HG4.out i hi
  clear hf6 HSb hsm
  go_wp2_with fail
  refine CS.mono ?_
  rintro r w9 ⟨rfl, hw⟩
  obtain rfl : w6 = w9 := hw.symm
  clear hw CS
  have CL7 := zLittle sm 4 w6 (by omega) (by omega)
  go_wp2_with fail
  refine CL7.mono ?_
  rintro r w7 ⟨g7, c7, rfl, HO7, b7⟩
  clear CL7
  have s7 := b7.size
  have b07 : Below w.heap.size w w7 := b06.trans (b7.mono s6)
  have HX7 : Hid (Own w7 w.heap.size (.slice a6 124 c6) (lst G 124)) := HO6.out.below b7 (Nat.le_refl _)
  obtain ⟨a7, c7', ev, hf7, hn7⟩ := own_any HO7.out
  cases ev
  have HF7 : Hid (From w7 g7 4 (leAt sm)) := hf7
  clear hf7
  go_wp2_with (at_builtin; refine wpList_app rfl _ _ rfl w.heap.size (.slice a6 124 c6) (lst G 124) rfl HX7.out g7 4 c7 (leAt sm) rfl HF7.out hn7 ?qj ?qk ?_)
  case qj => rw [lst_length]; omega
  case qk => omega
  intro v8 w8 ho8 b8
  have ho8' : Own w8 w.heap.size v8 (lst G 128) := by
    rw [zlst_cat G (leAt sm) 124 4 HG4'.out] at ho8
    exact ho8
  obtain ⟨g8, c8, rfl, _, _, hc8, _⟩ := Own.open128 (k := 127) ho8'
  have HO8 : Hid (Own w8 w.heap.size (.slice (some ⟨g8, 0, none⟩) 128 c8) (lst G 128)) := ho8'
  have b08 : Below w.heap.size w w8 := b07.trans b8
  clear ho8 ho8' b8 HX7 HF7
  go_wp2
  go_ret
  exact ⟨g8, c8, rfl, HO8, hc8, b08⟩
end Go.Proofs.YtmjoklppibfdmaaDoor
