/-
  Blanks and comments behind each datum of a text change nothing: the law's walk.
-/
import Derived.Test.YtfobiknbjijphaaDoorPdL
import Derived.Deep.RegionHeld2
namespace Go.Proofs.YtfobiknbjijphaaDoor
open Go.RowKit
set_option linter.unusedVariables false
set_option linter.unusedSimpArgs false

set_option maxRecDepth 100000 in
set_option maxHeartbeats 8000000 in
theorem law_blanks (s : ByteArray) (k0 : Int) (hk1 : -9223372036854775808 ≤ k0) (hk2 : k0 < 9223372036854775808) (w : World) (hs : s.size ≤ 1048576) : Calls Tryd.prog 6 #[.string s, .int .i64 k0] w fun e w' => e = .returned (.bool true) ∧ Hid (Below w.heap.size w w') := by
  have hs2 : s.size ≤ 1099511627776 := by omega
  have HR := hid (rd_read s w hs2 (s.size + 1) (Nat.lt_succ_self _))
  have HZ := hid (fun V => z_read s V hs2 (s.size + 1) (Nat.lt_succ_self _))
  obtain ⟨R, hR⟩ : ∃ R, alL (s.size + 1) [] s.data.toList = R := ⟨_, rfl⟩
  rw [hR] at HR
  simp only [hR] at HZ
  have HM : Hid (∀ l, R = .ok l [] → (∀ d ∈ l, d.may) ∧ sizL l ≤ 2097152 ∧ wtL l ≤ 8388608 ∧ l.length ≤ 1048576) := hid fun l hl => by
    obtain ⟨M, h1, h2, h3, h4, h5⟩ := alL_mays _ _ _ _ _ (hR.trans hl)
    rw [List.nil_append] at h1
    subst h1
    have e : s.data.toList.length = s.size := Array.length_toList
    rw [e] at h3 h4 h5
    exact ⟨h2, by omega, by omega, by omega⟩
  clear hR hs hs2
  go_enter Tryd.func6, Tryd.ntmps6
  go_wp2_with fail
  refine HR.out.mono ?_
  clear HR
  rintro e w1 (⟨l, a, c, rfl, HX⟩ | ⟨k, n, rfl, HX⟩)
  · go_wp2_with fail
    refine (HZ.out _).mono ?_
    clear HZ
    rintro e w2 (⟨l2, a2, c2, rfl, HY⟩ | ⟨k, n, rfl, HY⟩)
    · have hl : l = l2 := by
        have := HX.out.1.symm.trans HY.out.1
        injection this
      subst hl
      have H2 : Hid (Below w.heap.size w w2) := hid (HX.out.2.1.trans (HY.out.2.1.mono HX.out.2.1.size))
      have HI := hid (is_nil w2)
      have HA := hid (⟨(HX.out.2.2.as).under HY.out.2.1, HY.out.2.2.as⟩ : AS w2 l (.slice a l.length c) ∧ AS w2 l (.slice a2 l.length c2))
      have HB := hid (HM.out l HX.out.1)
      clear HX HY HM
      go_wp2_with fail
      refine HI.out.mono ?_
      clear HI
      rintro e w3 ⟨rfl, hb3⟩
      have HS := hid (same_rows (HA.out.1.under hb3.out) (HA.out.2.under hb3.out))
      have HA3 : Hid (AS w3 l (.slice a l.length c)) := hid (HA.out.1.under hb3.out)
      have H3 : Hid (Below w.heap.size w w3) := hid (H2.out.trans (hb3.out.mono H2.out.size))
      clear HA H2 hb3
      go_wp2_with fail
      refine HS.out.mono ?_
      clear HS
      rintro e w4 ⟨rfl, hb4⟩
      have H4 : Hid (Below w.heap.size w w4) := hid (H3.out.trans (hb4.out.mono H3.out.size))
      have HA4 : Hid (AS w4 l (.slice a l.length c)) := hid (HA3.out.under hb4.out)
      clear H3 hb4 HA3
      obtain ⟨n, hn⟩ : ∃ n, l.length = n := ⟨_, rfl⟩
      have Hn := hid hn
      rw [hn] at HA4 ⊢
      obtain ⟨a', c', X, hv, hc, hrow, hds⟩ := HA4.out
      injection hv with hv1 hv2 hv3
      subst hv1; subst hv3
      rw [hn] at hrow
      have Hds := hid hds
      have Hrow := hid hrow
      have hnb : (n : Int) ≤ 9223372036854775807 := by have := HB.out.2.2.2; omega
      have HHc := hid hc
      clear hv2 hc hrow hds hn HA4
      obtain ⟨κ, hκ, hκ5⟩ : ∃ κ : Nat, (IntKind.u64.wrap k0).tmod 5 = (κ : Int) ∧ κ < 5 := by
        have h0 : 0 ≤ IntKind.u64.wrap k0 := by simp only [IntKind.wrap_u64]; omega
        have h1 := Int.tmod_nonneg 5 h0
        have h2 := Int.tmod_lt_of_pos (IntKind.u64.wrap k0) (show (0 : Int) < 5 by decide)
        exact ⟨((IntKind.u64.wrap k0).tmod 5).toNat, by omega, by omega⟩
      have hκw : wrap64 (κ : Int) = (κ : Int) := by unfold wrap64; omega
      have hκ1 : (0 : Int) ≤ (κ : Int) := by omega
      have hκ2 : (κ : Int) < 5 := by omega
      obtain ⟨W5, hW5⟩ : ∃ W5, w4.alloc (.cells #[.string ⟨#[32]⟩, .string ⟨#[10]⟩, .string ⟨#[59, 120, 32, 40, 32, 10]⟩, .string ⟨#[9, 13, 32]⟩, .string ⟨#[32, 59, 32, 34, 10, 59, 10]⟩] 9) = W5 := ⟨_, rfl⟩
      obtain ⟨E, hE⟩ : ∃ E, w4.heap.size = E := ⟨_, rfl⟩
      have e5 : W5.heap[E]? = some (.cells #[.string ⟨#[32]⟩, .string ⟨#[10]⟩, .string ⟨#[59, 120, 32, 40, 32, 10]⟩, .string ⟨#[9, 13, 32]⟩, .string ⟨#[32, 59, 32, 34, 10, 59, 10]⟩] 9 (0, 0)) := by rw [← hW5]; exact heap_alloc_at _ _ _ hE.symm
      have hb5 : Below w4.heap.size w4 W5 := by rw [← hW5]; exact (Below.refl _ _).alloc (Nat.le_refl _) _
      have HT5 : Hid (∀ U, Below W5.heap.size W5 U → ∀ i, i < 5 → U.cell? ⟨E, i, none⟩ = some (.string (ba (bl5 i)))) := hid fun U hU i hi => by
        have e := (hU.block E (Array.getElem?_eq_some_iff.1 e5).1).trans e5
        rw [cells_at e]
        rcases i with _ | _ | _ | _ | _ | i
        · rfl
        · rfl
        · rfl
        · rfl
        · rfl
        · omega
      have c5 : (w4.alloc (.cells #[.string ⟨#[32]⟩, .string ⟨#[10]⟩, .string ⟨#[59, 120, 32, 40, 32, 10]⟩, .string ⟨#[9, 13, 32]⟩, .string ⟨#[32, 59, 32, 34, 10, 59, 10]⟩] 9)).cell? ⟨E, κ, none⟩ = some (.string (ba (bl5 κ))) := by rw [hW5]; exact HT5.out W5 (Below.refl _ _) κ hκ5
      have H5 : Hid (Below w.heap.size w W5) := hid (H4.out.trans (hb5.mono H4.out.size))
      have Hds5 : Hid (∀ (j : Nat) (h : j < l.length), DAt W5 l[j] (vx X j)) := hid fun j h => (Hds.out j h).under hb5
      have Hrow5 : Hid (RowAt W5 a n X) := hid (Hrow.out.below hb5)
      have HW5 := hid hW5
      clear e5 hb5 H4 Hds Hrow hW5
      go_wp2_with fail
      try rw [HW5.out]
      try rw [hE]
      clear c5
      go_loopw [11, 49] (fun t i wr => ∃ (j : Nat) (T : List UInt8), i = .int .i64 (j : Int) ∧ t = .string (ba (bl5 κ ++ T)) ∧ j ≤ n ∧ Hid (T = txL (fun i => bl5 ((κ + i) % 5)) 0 (l.take j)) ∧ Hid (Below W5.heap.size W5 wr)) (fun _ i _ => n - (intOf i).toNat)
      case atStart => exact ⟨0, [], rfl, by rw [List.append_nil], Nat.zero_le _, rfl, Below.refl _ _⟩
      case round =>
        obtain ⟨j, T, rfl, rfl, hj, hT, HW⟩ := hrel
        by_cases hlt : j < n
        · have l1 : (j : Int) < (n : Int) := by omega
          have l2 : (0 : Int) ≤ (j : Int) := by omega
          have hjl : j < l.length := by rw [Hn.out]; exact hlt
          obtain ⟨g, o, rfl, hX⟩ := Hrow5.out (by omega)
          obtain ⟨ax, nx, cx, bx, mx, dx, e0, e1, e2, e3⟩ := (Hds5.out j hjl).form
          have hvx : vx X j = .agg #[.int .i64 l[j].kd, .string l[j].tx, .slice ax nx cx, .slice bx mx dx] := by unfold vx; rw [e0, e1, e2, e3]
          have hdx := Hds5.out j hjl
          rw [hvx] at hdx
          have hbd := mem_bounds HB.out.2.1 HB.out.2.2.1 hjl
          have hmay := HB.out.1 _ (List.getElem_mem hjl)
          have hT2 := txL_next (fun i => bl5 ((κ + i) % 5)) hjl
          obtain ⟨x, hx⟩ : ∃ x, l[j] = x := ⟨_, rfl⟩
          rw [hx] at hdx e0 e1 hbd hmay hT2
          have hXw : ∀ i, i < 4 → wr.cell? ⟨g, o + j * 4 + i, none⟩ = some (X j i) := fun i hi => (HW.out.cell (World.block_lt_of_cell? W5 _ (hX j hlt i hi))).trans (hX j hlt i hi)
          have x0 : wr.cell? ⟨g, o + j * 4, none⟩ = some (X j 0) := hXw 0 (by decide)
          have x1 := hXw 1 (by decide)
          have x2 := hXw 2 (by decide)
          have x3 := hXw 3 (by decide)
          rw [e0] at x0
          rw [e1] at x1
          rw [e2] at x2
          rw [e3] at x3
          clear hXw hX e0 e1 e2 e3 hvx hx
          have HPr : Hid (∀ V, Below W5.heap.size W5 V → Calls Tryd.prog 11 #[.agg #[.int .i64 x.kd, .string x.tx, .slice ax nx cx, .slice bx mx dx]] V fun e w' => e = .returned (.string (ba x.out)) ∧ Hid (Below V.heap.size V w')) := hid fun V hV => by
            refine (dt_print (hdx.under hV) (by omega) (by omega)).mono ?_
            rintro e w' ⟨h1, h2⟩
            rcases h1 with ⟨_, h⟩ | ⟨h, _⟩
            · exact ⟨h, h2⟩
            · exact absurd hmay h
          obtain ⟨V, hV⟩ : ∃ V, wr.alloc (.cells #[.int .i64 x.kd, .string x.tx, .slice ax nx cx, .slice bx mx dx] 34) = V := ⟨_, rfl⟩
          obtain ⟨G, hG⟩ : ∃ G, wr.heap.size = G := ⟨_, rfl⟩
          have hbV : Below wr.heap.size wr V := by rw [← hV]; exact (Below.refl _ wr).alloc (Nat.le_refl _) _
          have dG : D4 V G (.int .i64 x.kd) (.string x.tx) (.slice ax nx cx) (.slice bx mx dx) := by rw [← hV]; exact heap_alloc_at _ _ _ hG.symm
          have H4V : Hid (∀ U, Below V.heap.size V U → Below W5.heap.size W5 U ∧ C4 U G (.int .i64 x.kd) (.string x.tx) (.slice ax nx cx) (.slice bx mx dx)) := hid fun U hU => ⟨HW.out.trans ((hbV.trans (hU.mono hbV.size)).mono HW.out.size), (dG.under hU).c4⟩
          obtain ⟨ρ, hρ, hρ5⟩ : ∃ ρ : Nat, (κ + j) % 5 = ρ ∧ ρ < 5 := ⟨_, rfl, by omega⟩
          have hjb := HB.out.2.2.2
          have hjn : j < 1048576 := by omega
          have u5 : (0 : Int) ≤ (ρ : Int) := by omega
          have u6 : (ρ : Int) < 5 := by omega
          have g1 : ¬ 9223372036854775807 < (ba x.out).size + (ba (bl5 ρ)).size := by
            rw [ba_size, ba_size]
            have h1 := out_le x
            have h2 := bl5_len ρ
            omega
          have g2 : ¬ 9223372036854775807 < (ba (bl5 κ ++ T)).size + ((ba x.out).size + (ba (bl5 ρ)).size) := by
            rw [ba_size, ba_size, ba_size, List.length_append]
            have h1 := out_le x
            have h2 := txL_len (fun i => bl5 ((κ + i) % 5)) 7 (fun _ => bl5_len _) 0 (l.take j)
            rw [← hT.out] at h2
            have h3 := wtL_take l j
            have h4 := HB.out.2.2
            have h5 := bl5_len κ
            have h6 := bl5_len ρ
            rw [List.length_take] at h2
            omega
          have Hρ := hid hρ
          have HT2 := hid hT2
          have HV := hid hV
          have HVW : Hid (Below W5.heap.size W5 V) := hid (H4V.out V (Below.refl _ _)).1
          have HC : Hid (∀ U, Hid (Below V.heap.size V U) → U.cell? ⟨G, 0, none⟩ = some (.int .i64 x.kd) ∧ U.cell? ⟨G, 1, none⟩ = some (.string x.tx) ∧ U.cell? ⟨G, 2, none⟩ = some (.slice ax nx cx) ∧ U.cell? ⟨G, 3, none⟩ = some (.slice bx mx dx) ∧ U.cell? ⟨E, ρ, none⟩ = some (.string (ba (bl5 ρ)))) := hid fun U hU => by
            obtain ⟨h1, h2⟩ := H4V.out U hU.out
            obtain ⟨b0, b1, b2, b3, -, -, -, -⟩ := h2
            exact ⟨b0, b1, b2, b3, HT5.out U h1 ρ hρ5⟩
          have HP : Hid (∀ U, Hid (Below V.heap.size V U) → Calls Tryd.prog 11 #[.agg #[.int .i64 x.kd, .string x.tx, .slice ax nx cx, .slice bx mx dx]] U fun e w' => e = .returned (.string (ba x.out)) ∧ Hid (Below W5.heap.size W5 w') ∧ Hid (Below V.heap.size V w')) := hid fun U hU => by
            have h1 := (H4V.out U hU.out).1
            refine (HPr.out U h1).mono ?_
            rintro e w' ⟨q1, q2⟩
            exact ⟨q1, hid (h1.trans (q2.out.mono h1.size)), hid (hU.out.trans (q2.out.mono hU.out.size))⟩
          have k0' : Hid (Below V.heap.size V V) := hid (Below.refl _ _)
          have HU := hid (bl_ix hκ5 hjn hρ)
          clear hbd hdx hmay hT2 hbV dG hV H4V HPr hjb hρ hρ5 hjn
          go_wp2_with fail
          rw [HV.out]
          obtain ⟨u1, u2, u3, u4⟩ := HU.out
          obtain ⟨b0, b1, b2, b3, b4⟩ := HC.out V k0'
          clear x0 x1 x2 x3
          refine wp_region_held_drew (S := (fun wq => wq.cell? ⟨G, 0, none⟩ = some (.int .i64 x.kd) ∧ wq.cell? ⟨G, 1, none⟩ = some (.string x.tx) ∧ wq.cell? ⟨G, 2, none⟩ = some (.slice ax nx cx) ∧ wq.cell? ⟨G, 3, none⟩ = some (.slice bx mx dx) ∧ wq.cell? ⟨E, ρ, none⟩ = some (.string (ba (bl5 ρ))))) (by kernel_rfl) (HC.out _ (bdrew k0')) (fun hHeld => ?_)
          refine wpAnyH_take (i := 0) (oi := ({ dst := some 54, op := Op.move (Operand.tmp 11), type := 9, pos := "law.go:73", after := #[], guard := none } : Oper)) (v := ?_) rfl (by kernel_rfl) (by kernel_rfl) (by kernel_rfl) (fun _ _ _ h => h) (Or.inl ⟨by rfl, ?_⟩) (by assumption) ?_
          rotate_left 1
          · (intro w hSw; (try dsimp only at hSw); go_simp) <;> (first | done | with_reducible rfl)
          (try simp only [Act.put, List.setIfInBounds_toArray, List.set_cons_zero, List.set_cons_succ])
          refine wpAnyH_take (i := 1) (oi := ({ dst := some 55, op := Op.load 34 (Operand.tmp 13), type := 34, pos := "law.go:73", after := #[], guard := none } : Oper)) (v := ?_) rfl (by kernel_rfl) (by kernel_rfl) (by kernel_rfl) (fun _ _ _ h => h) (Or.inl ⟨by rfl, ?_⟩) (by assumption) ?_
          rotate_left 1
          · (intro w hSw; (try dsimp only at hSw); go_simp) <;> (first | done | with_reducible rfl)
          (try simp only [Act.put, List.setIfInBounds_toArray, List.set_cons_zero, List.set_cons_succ])
          refine wpAnyH_take (i := 3) (oi := ({ dst := some 57, op := Op.move (Operand.tmp 10), type := 38, pos := "law.go:73", after := #[], guard := none } : Oper)) (v := ?_) rfl (by kernel_rfl) (by kernel_rfl) (by kernel_rfl) (fun _ _ _ h => h) (Or.inl ⟨by rfl, ?_⟩) (by assumption) ?_
          rotate_left 1
          · (intro w hSw; (try dsimp only at hSw); go_simp) <;> (first | done | with_reducible rfl)
          (try simp only [Act.put, List.setIfInBounds_toArray, List.set_cons_zero, List.set_cons_succ])
          refine wpAnyH_take (i := 4) (oi := ({ dst := some 58, op := Op.move (Operand.tmp 1), type := 3, pos := "law.go:73", after := #[], guard := none } : Oper)) (v := ?_) rfl (by kernel_rfl) (by kernel_rfl) (by kernel_rfl) (fun _ _ _ h => h) (Or.inl ⟨by rfl, ?_⟩) (by assumption) ?_
          rotate_left 1
          · (intro w hSw; (try dsimp only at hSw); go_simp) <;> (first | done | with_reducible rfl)
          (try simp only [Act.put, List.setIfInBounds_toArray, List.set_cons_zero, List.set_cons_succ])
          refine wpAnyH_take (i := 5) (oi := ({ dst := some 59, op := Op.convert 3 39 (Operand.tmp 58), type := 39, pos := "law.go:73", after := #[{ on := 4, ground := Ground.data }], guard := none } : Oper)) (v := ?_) rfl (by kernel_rfl) (by kernel_rfl) (by kernel_rfl) (fun _ _ _ h => h) (Or.inl ⟨by rfl, ?_⟩) (by assumption) ?_
          rotate_left 1
          · (intro w hSw; (try dsimp only at hSw); go_simp) <;> (first | done | with_reducible rfl)
          (try simp only [Act.put, List.setIfInBounds_toArray, List.set_cons_zero, List.set_cons_succ])
          refine wpAnyH_take (i := 6) (oi := ({ dst := some 60, op := Op.binOp BinOp.rem 39 (Operand.tmp 59) (Operand.const (Value.int IntKind.u64 5)) 39, type := 39, pos := "law.go:73", after := #[{ on := 5, ground := Ground.data }], guard := none } : Oper)) (v := ?_) rfl (by kernel_rfl) (by kernel_rfl) (by kernel_rfl) (fun _ _ _ h => h) (Or.inl ⟨by rfl, ?_⟩) (by assumption) ?_
          rotate_left 1
          · (intro w hSw; (try dsimp only at hSw); go_simp) <;> (first | done | with_reducible rfl)
          (try simp only [Act.put, List.setIfInBounds_toArray, List.set_cons_zero, List.set_cons_succ])
          refine wpAnyH_take (i := 7) (oi := ({ dst := some 61, op := Op.move (Operand.tmp 12), type := 3, pos := "law.go:73", after := #[], guard := none } : Oper)) (v := ?_) rfl (by kernel_rfl) (by kernel_rfl) (by kernel_rfl) (fun _ _ _ h => h) (Or.inl ⟨by rfl, ?_⟩) (by assumption) ?_
          rotate_left 1
          · (intro w hSw; (try dsimp only at hSw); go_simp) <;> (first | done | with_reducible rfl)
          (try simp only [Act.put, List.setIfInBounds_toArray, List.set_cons_zero, List.set_cons_succ])
          refine wpAnyH_take (i := 8) (oi := ({ dst := some 62, op := Op.convert 3 39 (Operand.tmp 61), type := 39, pos := "law.go:73", after := #[{ on := 7, ground := Ground.data }], guard := none } : Oper)) (v := ?_) rfl (by kernel_rfl) (by kernel_rfl) (by kernel_rfl) (fun _ _ _ h => h) (Or.inl ⟨by rfl, ?_⟩) (by assumption) ?_
          rotate_left 1
          · (intro w hSw; (try dsimp only at hSw); go_simp) <;> (first | done | with_reducible rfl)
          (try simp only [Act.put, List.setIfInBounds_toArray, List.set_cons_zero, List.set_cons_succ])
          refine wpAnyH_take (i := 9) (oi := ({ dst := some 63, op := Op.binOp BinOp.add 39 (Operand.tmp 60) (Operand.tmp 62) 39, type := 39, pos := "law.go:73", after := #[{ on := 6, ground := Ground.data }, { on := 8, ground := Ground.data }], guard := none } : Oper)) (v := ?_) rfl (by kernel_rfl) (by kernel_rfl) (by kernel_rfl) (fun _ _ _ h => h) (Or.inl ⟨by rfl, ?_⟩) (by assumption) ?_
          rotate_left 1
          · (intro w hSw; (try dsimp only at hSw); go_simp) <;> (first | done | with_reducible rfl)
          (try simp only [Act.put, List.setIfInBounds_toArray, List.set_cons_zero, List.set_cons_succ])
          refine wpAnyH_take (i := 10) (oi := ({ dst := some 64, op := Op.convert 39 3 (Operand.tmp 63), type := 3, pos := "law.go:73", after := #[{ on := 9, ground := Ground.data }], guard := none } : Oper)) (v := ?_) rfl (by kernel_rfl) (by kernel_rfl) (by kernel_rfl) (fun _ _ _ h => h) (Or.inl ⟨by rfl, ?_⟩) (by assumption) ?_
          rotate_left 1
          · (intro w hSw; (try dsimp only at hSw); go_simp) <;> (first | done | with_reducible rfl)
          (try simp only [Act.put, List.setIfInBounds_toArray, List.set_cons_zero, List.set_cons_succ])
          refine wpAnyH_take (i := 11) (oi := ({ dst := some 65, op := Op.binOp BinOp.rem 3 (Operand.tmp 64) (Operand.const (Value.int IntKind.i64 5)) 3, type := 3, pos := "law.go:73", after := #[{ on := 10, ground := Ground.data }], guard := none } : Oper)) (v := ?_) rfl (by kernel_rfl) (by kernel_rfl) (by kernel_rfl) (fun _ _ _ h => h) (Or.inl ⟨by rfl, ?_⟩) (by assumption) ?_
          rotate_left 1
          · (intro w hSw; (try dsimp only at hSw); go_simp) <;> (first | done | with_reducible rfl)
          (try simp only [Act.put, List.setIfInBounds_toArray, List.set_cons_zero, List.set_cons_succ])
          refine wpAnyH_take (i := 12) (oi := ({ dst := some 66, op := Op.indexAddr 38 (Operand.tmp 57) (Operand.tmp 65), type := 0, pos := "law.go:73", after := #[{ on := 3, ground := Ground.data }, { on := 11, ground := Ground.data }], guard := none } : Oper)) (v := ?_) rfl (by kernel_rfl) (by kernel_rfl) (by kernel_rfl) (fun _ _ _ h => h) (Or.inl ⟨by rfl, ?_⟩) (by assumption) ?_
          rotate_left 1
          · (intro w hSw; (try dsimp only at hSw); go_simp) <;> (first | done | with_reducible rfl)
          (try simp only [Act.put, List.setIfInBounds_toArray, List.set_cons_zero, List.set_cons_succ])
          refine wpAnyH_take (i := 13) (oi := ({ dst := some 67, op := Op.load 9 (Operand.tmp 66), type := 9, pos := "law.go:73", after := #[{ on := 12, ground := Ground.data }], guard := none } : Oper)) (v := ?_) rfl (by kernel_rfl) (by kernel_rfl) (by kernel_rfl) (fun _ _ _ h => h) (Or.inl ⟨by rfl, ?_⟩) (by assumption) ?_
          rotate_left 1
          · (intro w hSw; (try dsimp only at hSw); go_simp) <;> (first | done | with_reducible rfl)
          (try simp only [Act.put, List.setIfInBounds_toArray, List.set_cons_zero, List.set_cons_succ])
          refine wpAnyH_ready (rs := [2]) (by kernel_rfl) (by simp) ?_
          refine AllReadyH.cons (o := ({ dst := some 56, op := Op.call { callee := Callee.value (Operand.func 11), args := #[Operand.tmp 55], argTypes := #[34] }, type := 9, pos := "law.go:73", after := #[{ on := 1, ground := Ground.data }], guard := none } : Oper)) rfl (fun K hK => ?_) AllReadyH.nil
          go_simp
          go_wp2_with (go_at_call 11; refine (HP.out _ (bdrew k0')).mono ?_; rintro e w6 ⟨rfl, hb6, k6⟩)
          refine hK.out _ _ (HC.out _ k6) (fun hHeld2 => ?_)
          clear hK K
          (try simp only [Act.put, List.setIfInBounds_toArray, List.set_cons_zero, List.set_cons_succ])
          refine wpAnyH_take (i := 14) (oi := ({ dst := some 68, op := Op.binOp BinOp.add 9 (Operand.tmp 56) (Operand.tmp 67) 9, type := 9, pos := "law.go:73", after := #[{ on := 2, ground := Ground.data }, { on := 13, ground := Ground.data }], guard := none } : Oper)) (v := ?_) rfl (by kernel_rfl) (by kernel_rfl) (by kernel_rfl) (fun _ _ _ h => h) (Or.inl ⟨by rfl, ?_⟩) (by assumption) ?_
          rotate_left 1
          · (intro w hSw; (try dsimp only at hSw); go_simp) <;> (first | done | with_reducible rfl)
          (try simp only [Act.put, List.setIfInBounds_toArray, List.set_cons_zero, List.set_cons_succ])
          refine wpAnyH_take (i := 15) (oi := ({ dst := some 69, op := Op.binOp BinOp.add 9 (Operand.tmp 54) (Operand.tmp 68) 9, type := 9, pos := "law.go:73", after := #[{ on := 0, ground := Ground.data }, { on := 14, ground := Ground.data }], guard := none } : Oper)) (v := ?_) rfl (by kernel_rfl) (by kernel_rfl) (by kernel_rfl) (fun _ _ _ h => h) (Or.inl ⟨by rfl, ?_⟩) (by assumption) ?_
          rotate_left 1
          · (intro w hSw; (try dsimp only at hSw); go_simp) <;> (first | done | with_reducible rfl)
          (try simp only [Act.put, List.setIfInBounds_toArray, List.set_cons_zero, List.set_cons_succ])
          refine wpAnyH_take (i := 16) (oi := ({ dst := some 11, op := Op.assign (Operand.tmp 69), type := 9, pos := "law.go:73", after := #[{ on := 15, ground := Ground.data }, { on := 2, ground := Ground.chain }, { on := 0, ground := Ground.phase }, { on := 1, ground := Ground.phase }, { on := 2, ground := Ground.phase }, { on := 3, ground := Ground.phase }, { on := 4, ground := Ground.phase }, { on := 5, ground := Ground.phase }, { on := 6, ground := Ground.phase }, { on := 7, ground := Ground.phase }, { on := 8, ground := Ground.phase }, { on := 9, ground := Ground.phase }, { on := 10, ground := Ground.phase }, { on := 11, ground := Ground.phase }, { on := 12, ground := Ground.phase }, { on := 13, ground := Ground.phase }, { on := 14, ground := Ground.phase }, { on := 15, ground := Ground.phase }], guard := none } : Oper)) (v := ?_) rfl (by kernel_rfl) (by kernel_rfl) (by kernel_rfl) (fun _ _ _ h => h) (Or.inl ⟨by rfl, ?_⟩) (by assumption) ?_
          rotate_left 1
          · (intro w hSw; (try dsimp only at hSw); go_simp) <;> (first | done | with_reducible rfl)
          (try simp only [Act.put, List.setIfInBounds_toArray, List.set_cons_zero, List.set_cons_succ])
          refine wpAnyH_done (by kernel_rfl) ?_ _
          clear u1 u2 u3 u4
          go_wp2
          go_roundw
          case rel => exact ⟨j + 1, T ++ (x.out ++ bl5 ρ), by go_num, by rw [← List.append_assoc, ← ba_cat (bl5 κ ++ T), ← ba_cat x.out], by omega, hid (by rw [hT.out, ← Hρ.out]; exact HT2.out.symm), hb6⟩
          case measure => simp [intOf]; omega
        · obtain rfl : j = n := by omega
          have hTl : Hid (T = txL (fun i => bl5 ((κ + i) % 5)) 0 l) := hid (by
            have h := hT.out
            rw [← Hn.out, List.take_length] at h
            exact h)
          have hsz : (ba (bl5 κ ++ T)).size ≤ 1099511627776 := by
            rw [ba_size, List.length_append]
            have h1 := txL_len (fun i => bl5 ((κ + i) % 5)) 7 (fun _ => bl5_len _) 0 l
            rw [← hTl.out] at h1
            have h2 := HB.out.2.2
            have h3 := bl5_len κ
            omega
          have HR2 := hid (rd_read (ba (bl5 κ ++ T)) wr hsz ((bl5 κ ++ T).length + 1) (Nat.lt_succ_self _))
          have hal : alL ((bl5 κ ++ T).length + 1) [] (ba (bl5 κ ++ T)).data.toList = .ok l [] := by
            rw [ba_list, hTl.out]
            exact bl_back κ l HB.out.1 _ (Nat.lt_succ_self _)
          rw [hal] at HR2
          have HSP : Hid (∀ x ∈ l, SameP x) := hid fun x hx => same_prog (HB.out.1 x hx).1 (HB.out.1 x hx).2
          have HA4 : Hid (AS W5 l (.slice a j c)) := hid ⟨_, _, X, by rw [Hn.out], HHc.out, by rw [Hn.out]; exact Hrow5.out, Hds5.out⟩
          clear hsz hal hT hTl HB
          go_wp2_with fail
          refine HR2.out.mono ?_
          clear HR2
          rintro e w5 (⟨l2, b, d, rfl, HX⟩ | ⟨k, n, rfl, HX⟩)
          · have hl : l2 = l := by
              have := HX.out.1
              injection this with h1 _
              exact h1.symm
            subst hl
            have hw5 : Hid (Below W5.heap.size W5 w5) := hid (HW.out.trans (HX.out.2.1.mono HW.out.size))
            have HS := hid (eq_funcP (HA4.out.under hw5.out) HX.out.2.2.as HSP)
            have H5' : Hid (Below w.heap.size w w5) := hid (H5.out.trans (hw5.out.mono H5.out.size))
            clear HX HA4 hw5 HW H5 HSP
            go_wp2_with fail
            refine HS.out.mono ?_
            clear HS
            rintro e w6 ⟨rfl, hb6⟩
            have H6 : Hid (Below w.heap.size w w6) := hid (H5'.out.trans (hb6.out.mono H5'.out.size))
            clear H5' hb6
            go_wp2
            go_ret
            exact ⟨rfl, H6⟩
          · have := HX.out.1
            cases this
    · have := HX.out.1.symm.trans HY.out.1
      cases this
  · go_wp2_with fail
    refine (HZ.out _).mono ?_
    clear HZ
    rintro e w2 (⟨l2, a2, c2, rfl, HY⟩ | ⟨k2, n2, rfl, HY⟩)
    · have := HX.out.1.symm.trans HY.out.1
      cases this
    · have hkk : k = k2 ∧ n = n2 := by
        have := HX.out.1.symm.trans HY.out.1
        injection this with h1 h2
        exact ⟨h1, h2⟩
      obtain ⟨rfl, rfl⟩ := hkk
      have hx : ((s.size - k : Nat) : Int) = (s.size : Int) - (k : Int) := by have := HX.out.2.1; omega
      have H2 : Hid (Below w.heap.size w w2) := hid (HX.out.2.2.trans (HY.out.2.2.mono HX.out.2.2.size))
      have HI := hid (is_fault w2 ((s.size - k : Nat) : Int) (n : Int))
      rw [← hx]
      obtain ⟨N, hN⟩ : ∃ N : Int, ((s.size - k : Nat) : Int) = N := ⟨_, rfl⟩
      rw [hN] at HI ⊢
      have HA : Hid (∀ V, AS V [] (.slice none 0 0)) := hid fun V => ⟨none, 0, fun _ _ => .nilIface, rfl, ⟨Nat.le_refl _, by decide⟩, fun h => absurd h (by decide), fun j h => absurd h (Nat.not_lt_zero _)⟩
      clear HX HY hx hN HM
      go_wp2_with fail
      refine HI.out.mono ?_
      clear HI
      rintro e w3 ⟨rfl, hb3⟩
      have HS := hid (same_rows (HA.out w3) (HA.out w3))
      have H3 : Hid (Below w.heap.size w w3) := hid (H2.out.trans (hb3.out.mono H2.out.size))
      clear HA H2 hb3
      go_wp2_with fail
      refine HS.out.mono ?_
      clear HS
      rintro e w4 ⟨rfl, hb4⟩
      have H4 : Hid (Below w.heap.size w w4) := hid (H3.out.trans (hb4.out.mono H3.out.size))
      clear H3 hb4
      go_wp2
      go_ret
      exact ⟨rfl, H4⟩
end Go.Proofs.YtfobiknbjijphaaDoor
