/-
  The document's Encode.
-/
import Derived.Test.YtpjgdpfpgpaenaaDoorCvF
import Derived.Test.YtpjgdpfpgpaenaaDoorCvI
namespace Go.Proofs.YtpjgdpfpgpaenaaDoor
open Go.RowKit
set_option linter.unusedVariables false
set_option linter.unusedSimpArgs false

/-- A slice that tells just these bytes. -/
def Fr (w : World) (v : Value) (xs : List Int) : Prop := ∃ a c, v = .slice a xs.length c ∧ From w a xs.length (fn xs) ∧ (a = none → c = 0)
theorem Own.fr {w : World} {B : Nat} {v : Value} {xs : List Int} (h : Own w B v xs) : Fr w v xs := by
  obtain ⟨a, c, h1, h2, h3, -, -, -⟩ := h.open
  exact ⟨a, c, h1, h2, h3⟩
theorem fr_nil (w : World) : Fr w (.slice none 0 0) [] := ⟨none, 0, rfl, .inl ⟨rfl, rfl⟩, fun _ => rfl⟩
theorem x_put {w : World} {a : Option Addr} {m c : Nat} {xs : List Int} (h : Fr w (.slice a m c) xs) (z : Int) (hz : z ≤ 9223372036854775807) (hl : xs.length ≤ 70368744177664) : Calls Tryd.prog 14 #[.slice a m c, .int .i64 z] w fun e w' => ∃ a c, e = .returned (.slice a (xs ++ putB z.toNat).length c) ∧ Hid (Fr w' (.slice a (xs ++ putB z.toNat).length c) (xs ++ putB z.toNat)) ∧ Hid (Own w' w.heap.size (.slice a (xs ++ putB z.toNat).length c) (xs ++ putB z.toNat)) ∧ Hid (Below w.heap.size w w') := by
  obtain ⟨a', c', e, h1, h2⟩ := h
  injection e with e1 e2 e3
  subst e1; subst e2; subst e3
  refine (xPut a xs.length c (fn xs) z w hl h1 h2 hz).mono ?_
  rintro e w' ⟨v', rfl, ho, hb⟩
  rw [lst_fn] at ho
  obtain ⟨a2, c2, rfl, -⟩ := ho.open
  exact ⟨a2, c2, rfl, hid ho.fr, hid ho, hid hb⟩
theorem x_text {w : World} {a : Option Addr} {m c : Nat} {xs : List Int} (h : Fr w (.slice a m c) xs) (s : ByteArray) (hl : xs.length + s.size ≤ 70368744177664) : Calls Tryd.prog 15 #[.slice a m c, .string s] w fun e w' => ∃ a c, e = .returned (.slice a (xs ++ txB s).length c) ∧ Hid (Fr w' (.slice a (xs ++ txB s).length c) (xs ++ txB s)) ∧ Hid (Below w.heap.size w w') := by
  obtain ⟨a', c', e, h1, h2⟩ := h
  injection e with e1 e2 e3
  subst e1; subst e2; subst e3
  refine (xText2 a xs.length c (fn xs) s w hl h1 h2).mono ?_
  rintro e w' ⟨v', rfl, ho, hb⟩
  rw [lst_fn, List.append_assoc] at ho
  have ho' : Own w' w.heap.size v' (xs ++ txB s) := ho
  obtain ⟨a2, c2, rfl, -⟩ := ho'.open
  exact ⟨a2, c2, rfl, hid ho'.fr, hid hb⟩
theorem own_grown {w w' W0 : World} {L : Nat} {v : Value} {xs : List Int} (h : Own w L v xs) (hb : Below L W0 w) (hL : L ≤ w.heap.size) (hg : w.grownBy w' v.ownBlock) : Below L W0 w' := hb.grown hg hL (fun q hq => (World.ownsRow.lt h q hq).1)
set_option maxRecDepth 100000 in
set_option maxHeartbeats 8000000 in
theorem x_encode {c : Cd} {v : Value} {w : World} (h : CAt w c v) (hf : c.fit) : Calls Tryd.prog 5 #[v] w fun e w' => Hid (Enc e w' c) ∧ Hid (Below w.heap.size w w') := by
  have hC := h
  obtain ⟨ai, ci, ad, cd, an, cn, X, rfl, h1, h2, h3, h4, h5, h6, h7⟩ := h
  obtain ⟨ni, I, D, ns, S⟩ := c
  simp only at h1 h2 h3 h4 h5 h6 h7 hC ⊢
  obtain ⟨nd, hnd⟩ : ∃ nd, D.length = nd := ⟨_, rfl⟩
  rw [hnd] at h2 h5 hC ⊢
  obtain ⟨W0, hW⟩ : ∃ W0, w.alloc (.cells #[.slice ai ni ci, .slice ad nd cd, .slice an ns cn] 26) = W0 := ⟨_, rfl⟩
  obtain ⟨B, hB⟩ : ∃ B, w.heap.size = B := ⟨_, rfl⟩
  have hb0 : Below w.heap.size w W0 := by rw [← hW]; exact blw_al (Below.refl _ _) _
  have hs : W0.heap[B]? = some (.cells #[.slice ai ni ci, .slice ad nd cd, .slice an ns cn] 26 (0, 0)) := by rw [← hW]; exact heap_alloc_at _ _ _ hB.symm
  have HX : Hid (∀ V, Hid (Below W0.heap.size W0 V) → (V.cell? ⟨B, 0, none⟩ = some (.slice ai ni ci) ∧ V.cell? ⟨B, 1, none⟩ = some (.slice ad nd cd) ∧ V.cell? ⟨B, 2, none⟩ = some (.slice an ns cn)) ∧ Hid (Below w.heap.size w V)) := hid fun V hV => by
    have e := (hV.out.block B (Array.getElem?_eq_some_iff.1 hs).1).trans hs
    exact ⟨⟨by rw [cells_at e]; rfl, by rw [cells_at e]; rfl, by rw [cells_at e]; rfl⟩, hid (hb0.trans (hV.out.mono hb0.size))⟩
  have HVf : Hid (Calls Tryd.prog 7 #[.agg #[.slice ai ni ci, .slice ad nd cd, .slice an ns cn]] W0 fun e w' => Vfy e (Cd.ok ⟨ni, I, D, ns, S⟩) ∧ Hid (Below W0.heap.size W0 w')) := hid (x_verify (hC.below hb0) hf)
  have Hf := hid hf
  have HI := hid (h4.below hb0)
  have HD := hid (h5.below hb0)
  have HDs : Hid (∀ j (h : j < D.length), DAt W0 D[j] (vx X j)) := hid fun j hj => (h6 j hj).under hb0
  have HN := hid (h7.below hb0)
  have H1 := hid h1
  have H2 := hid h2
  have H3 := hid h3
  have Hnd := hid hnd
  have k0 : Hid (Below W0.heap.size W0 W0) := hid (Below.refl _ _)
  obtain ⟨⟨c0, c1, c2⟩, -⟩ := HX.out W0 k0
  clear hf hs hb0 h1 h2 h3 h4 h5 h6 h7 hnd hC
  go_enter Tryd.func5, Tryd.ntmps5
  go_wp2_with fail
  refine HVf.out.mono ?_
  clear HVf
  rintro e w1 ⟨hv, k1⟩
  obtain ⟨⟨d0, d1, d2⟩, K1⟩ := HX.out w1 k1
  rcases hv with ⟨hok, rfl⟩ | ⟨hok, rfl⟩
  · have Hok := hid hok
    have HLn := hid (enc_lens Hf.out hok)
    clear hok c0 c1 c2 hW
    obtain ⟨L, hL⟩ : ∃ L, W0.heap.size = L := ⟨_, rfl⟩
    rw [hL] at k1 k0
    have HL := hid hL
    have KX : Hid (∀ V, Hid (Below L W0 V) → ((V.cell? ⟨B, 0, none⟩ = some (.slice ai ni ci) ∧ V.cell? ⟨B, 1, none⟩ = some (.slice ad nd cd) ∧ V.cell? ⟨B, 2, none⟩ = some (.slice an ns cn)) ∧ Hid (Below W0.heap.size W0 V))) := hid fun V hV => by
      rw [← hL] at hV
      exact ⟨(HX.out V hV).1, hV⟩
    have hL1 : L ≤ w1.heap.size := by rw [← hL]; exact k1.out.size
    have hnib : (ni : Int) ≤ 20000 := by have := Hok.out.2.1; simp only at this; omega
    have hndb : (nd : Int) ≤ 1048576 := by have := Hf.out.2.2.1; have := Hnd.out; simp only at *; omega
    have hnsb : (ns : Int) ≤ 1048576 := by have := Hf.out.2.2.2.1; simp only at this; omega
    have HC : Hid (Calls Tryd.prog 14 #[.slice none 0 0, .int .i64 (ni : Int)] w1 fun e w' => ∃ a m c, e = .returned (.slice a m c) ∧ Hid (Own w' L (.slice a m c) (enc1 ⟨ni, I, D, ns, S⟩)) ∧ Hid (Below L W0 w')) := hid (by
      refine (x_put (fr_nil w1) (ni : Int) (by omega) (by decide)).mono ?_
      rintro e w' ⟨a, c, rfl, h1, h2, h3⟩
      refine ⟨a, _, c, rfl, ?_, hid (k1.out.trans (h3.out.mono hL1))⟩
      have e0 : enc1 ⟨ni, I, D, ns, S⟩ = [] ++ putB (ni : Int).toNat := by unfold enc1 nmB nmB; simp
      rw [e0]
      exact hid (h2.out.mono hL1))
    clear hL hL1
    go_wp2_with fail
    refine HC.out.mono ?_
    clear HC d0 d1 d2
    rintro e w2 ⟨a2, m2, c2, rfl, ho2, k2⟩
    obtain ⟨⟨d0, d1, d2⟩, -⟩ := KX.out w2 k2
    go_wp2_with fail
    clear d0 d1 d2
    go_loopw [5, 24] (fun b i wr => ∃ (j : Nat) (a : Option Addr) (m c : Nat), i = .int .i64 (j : Int) ∧ b = .slice a m c ∧ j ≤ ni ∧ Hid (Own wr L (.slice a m c) (enc1 ⟨ni, I, D, ns, S⟩ ++ encI I j)) ∧ Hid (Below L W0 wr)) (fun _ i _ => ni - (intOf i).toNat)
    case atStart => exact ⟨0, a2, m2, c2, rfl, rfl, Nat.zero_le _, by show Own _ _ _ (_ ++ []); rw [List.append_nil]; exact ho2.out, k2⟩
    case round =>
      obtain ⟨j, ar, mr, cr, rfl, rfl, hj, ho, mk⟩ := hrel
      by_cases hlt : j < ni
      · have q1 : (j : Int) < (ni : Int) := by omega
        have q2 : (0 : Int) ≤ (j : Int) := by omega
        obtain ⟨g, o, rfl, hX⟩ := HI.out (by omega)
        have kr := (KX.out wr mk).2
        have hXw : ∀ i, i < 3 → wr.cell? ⟨g, o + j * 3 + i, none⟩ = some (.int .i64 (I j i)) := fun i hi => (kr.out.cell (World.block_lt_of_cell? W0 _ (hX j hlt i hi))).trans (hX j hlt i hi)
        have r0 : wr.cell? ⟨g, o + j * 3, none⟩ = some (.int .i64 (I j 0)) := hXw 0 (by decide)
        have r1 := hXw 1 (by decide)
        have r2 := hXw 2 (by decide)
        have hop : I j 0 ≤ 9223372036854775807 ∧ I j 1 ≤ 9223372036854775807 ∧ I j 2 ≤ 9223372036854775807 := (op_le (Hok.out.2.2.2.1 j hlt) Hok.out.2.1 Hf.out.2.2.1 Hf.out.2.2.2.1).2
        have hlen : (enc1 ⟨ni, I, D, ns, S⟩ ++ encI I j).length ≤ 1000000 := HLn.out.2.1 j hj
        have HE : Hid (enc1 ⟨ni, I, D, ns, S⟩ ++ encI I (j + 1) = (enc1 ⟨ni, I, D, ns, S⟩ ++ encI I j) ++ nmB [I j 0, I j 1, I j 2]) := hid (by rw [List.append_assoc]; rfl)
        obtain ⟨x0, hx0⟩ : ∃ x, I j 0 = x := ⟨_, rfl⟩
        obtain ⟨x1, hx1⟩ : ∃ x, I j 1 = x := ⟨_, rfl⟩
        obtain ⟨x2, hx2⟩ : ∃ x, I j 2 = x := ⟨_, rfl⟩
        rw [hx0] at r0
        rw [hx1] at r1
        rw [hx2] at r2
        rw [hx0, hx1, hx2] at HE hop
        obtain ⟨ys, hys⟩ : ∃ ys, enc1 ⟨ni, I, D, ns, S⟩ ++ encI I j = ys := ⟨_, rfl⟩
        rw [hys] at ho HE hlen
        have hp0 := putB_le x0.toNat (by omega)
        have hp1 := putB_le x1.toNat (by omega)
        have hp2 := putB_le x2.toNat (by omega)
        obtain ⟨V, hV⟩ : ∃ V, wr.alloc (.cells #[.int .i64 x0, .int .i64 x1, .int .i64 x2] 40) = V := ⟨_, rfl⟩
        obtain ⟨G, hG⟩ : ∃ G, wr.heap.size = G := ⟨_, rfl⟩
        have hbV : Below wr.heap.size wr V := by rw [← hV]; exact blw_al (Below.refl _ _) _
        have hsV : V.heap[G]? = some (.cells #[.int .i64 x0, .int .i64 x1, .int .i64 x2] 40 (0, 0)) := by rw [← hV]; exact heap_alloc_at _ _ _ hG.symm
        have hgU : ∀ U : World, U.heap[G]? = some (.cells #[.int .i64 x0, .int .i64 x1, .int .i64 x2] 40 (0, 0)) → U.cell? ⟨G, 0, none⟩ = some (.int .i64 x0) ∧ U.cell? ⟨G, 1, none⟩ = some (.int .i64 x1) ∧ U.cell? ⟨G, 2, none⟩ = some (.int .i64 x2) := fun U e => ⟨by rw [cells_at e]; rfl, by rw [cells_at e]; rfl, by rw [cells_at e]; rfl⟩
        have hgV : ∀ U, Below V.heap.size V U → U.heap[G]? = some (.cells #[.int .i64 x0, .int .i64 x1, .int .i64 x2] 40 (0, 0)) := fun U hU => (hU.block G (Array.getElem?_eq_some_iff.1 hsV).1).trans hsV
        have HG : Hid (∀ U, Hid (Below V.heap.size V U) → U.cell? ⟨G, 0, none⟩ = some (.int .i64 x0) ∧ U.cell? ⟨G, 1, none⟩ = some (.int .i64 x1) ∧ U.cell? ⟨G, 2, none⟩ = some (.int .i64 x2)) := hid fun U hU => hgU U (hgV U hU.out)
        have kV : Hid (Below V.heap.size V V) := hid (Below.refl _ _)
        have hLw : L ≤ wr.heap.size := by rw [← HL.out]; exact kr.out.size
        have HOw : Hid (∀ U, Hid (Below V.heap.size V U) → Own U L (.slice ar mr cr) ys) := hid fun U hU => ho.out.below (hbV.trans (hU.out.mono hbV.size)) (Nat.le_refl _)
        have HLs : Hid (∀ U, Hid (Below V.heap.size V U) → L ≤ U.heap.size) := hid fun U hU => Nat.le_trans hLw (Nat.le_trans hbV.size hU.out.size)
        obtain ⟨pz, hpz⟩ : ∃ pz, nmB [x0, x1, x2] = pz := ⟨_, rfl⟩
        rw [hpz] at HE
        have hpz2 : ([] ++ putB x0.toNat ++ putB x1.toNat) ++ putB x2.toNat = pz := by rw [← hpz]; simp [nmB]
        have HN : Hid (pz ≠ []) := hid (by rw [← hpz]; simp [nmB, putB_ne])
        have HLe : Hid (ys.length + pz.length ≤ 140737488355328) := hid (by rw [← hpz2]; simp only [List.length_append, List.length_nil]; omega)
        have HAp : Hid (∀ U v' w', Hid (Below V.heap.size V U) → Own w' L v' (ys ++ pz) → U.grownBy w' (Value.slice ar mr cr).ownBlock → (w'.cell? ⟨G, 0, none⟩ = some (.int .i64 x0) ∧ w'.cell? ⟨G, 1, none⟩ = some (.int .i64 x1) ∧ w'.cell? ⟨G, 2, none⟩ = some (.int .i64 x2)) ∧ Hid (Below L W0 w')) := hid fun U v' w' hU h1 h2 => by
          have e := hgV U hU.out
          refine ⟨hgU w' ((h2.block G (Array.getElem?_eq_some_iff.1 e).1 (own_ne (HOw.out U hU) e (by decide)).symm).trans e), hid ?_⟩
          have hb2 := hbV.trans (hU.out.mono hbV.size)
          exact (mk.out.trans (hb2.mono hLw)).grown h2 (HLs.out U hU) (fun q hq => (World.ownsRow.lt (HOw.out U hU) q hq).1)
        have HP1 : Hid (∀ U, Hid (Below V.heap.size V U) → Calls Tryd.prog 14 #[.slice none 0 0, .int .i64 x0] U fun e w' => ∃ a m c, e = .returned (.slice a m c) ∧ Hid (Fr w' (.slice a m c) ([] ++ putB x0.toNat)) ∧ Hid (Below V.heap.size V w')) := hid fun U hU => by
          refine (x_put (fr_nil U) x0 hop.1 (by simp)).mono ?_
          rintro e w' ⟨a, c, rfl, h1, -, h3⟩
          exact ⟨a, _, c, rfl, h1, hid (hU.out.trans (h3.out.mono hU.out.size))⟩
        have HP2 : Hid (∀ U a m c, Hid (Below V.heap.size V U) → Hid (Fr U (.slice a m c) ([] ++ putB x0.toNat)) → Calls Tryd.prog 14 #[.slice a m c, .int .i64 x1] U fun e w' => ∃ a m c, e = .returned (.slice a m c) ∧ Hid (Fr w' (.slice a m c) ([] ++ putB x0.toNat ++ putB x1.toNat)) ∧ Hid (Below V.heap.size V w')) := hid fun U a m c hU hF => by
          refine (x_put hF.out x1 hop.2.1 (by simp only [List.length_append, List.length_nil]; omega)).mono ?_
          rintro e w' ⟨a, c, rfl, h1, -, h3⟩
          exact ⟨a, _, c, rfl, h1, hid (hU.out.trans (h3.out.mono hU.out.size))⟩
        have HP3 : Hid (∀ U a m c, Hid (Below V.heap.size V U) → Hid (Fr U (.slice a m c) ([] ++ putB x0.toNat ++ putB x1.toNat)) → Calls Tryd.prog 14 #[.slice a m c, .int .i64 x2] U fun e w' => ∃ a c, e = .returned (.slice a pz.length c) ∧ Hid (From w' a pz.length (fn pz)) ∧ Hid (Below V.heap.size V w')) := hid fun U a m c hU hF => by
          refine (x_put hF.out x2 hop.2.2 (by simp only [List.length_append, List.length_nil]; omega)).mono ?_
          rintro e w' ⟨a, c, rfl, h1, -, h3⟩
          rw [hpz2] at h1 ⊢
          obtain ⟨a', c', e1, e2, _⟩ := h1.out
          injection e1 with e1 _ _
          subst e1
          exact ⟨_, c, rfl, hid e2, hid (hU.out.trans (h3.out.mono hU.out.size))⟩
        clear hbV hsV hgU hgV hLw hop hlen hx0 hx1 hx2 hys hXw hX kr ho hp0 hp1 hp2 hpz hpz2 mk
        go_wp2_with fail
        refine wp_region_held_drew (S := (fun wq => wq.cell? ⟨G, 0, none⟩ = some (.int .i64 x0) ∧ wq.cell? ⟨G, 1, none⟩ = some (.int .i64 x1) ∧ wq.cell? ⟨G, 2, none⟩ = some (.int .i64 x2))) (by kernel_rfl) (HG.out _ (bdw kV)) (fun hHeld => ?_)
        refine wpAnyH_take (i := 0) (oi := ({ dst := some 28, op := Op.move (Operand.tmp 5), type := 27, pos := "ref.go:274", after := #[], guard := none } : Oper)) (v := ?_) rfl (by kernel_rfl) (by kernel_rfl) (by kernel_rfl) (fun _ _ _ h => h) (Or.inl ⟨by rfl, ?_⟩) (by assumption) ?_
        rotate_left 1
        · (intro w hSw; (try dsimp only at hSw); go_simp) <;> (first | done | with_reducible rfl)
        (try simp only [Act.put, List.setIfInBounds_toArray, List.set_cons_zero, List.set_cons_succ])
        refine wpAnyH_take (i := 1) (oi := ({ dst := some 29, op := Op.fieldAddr 40 (Operand.tmp 7) 0, type := 0, pos := "ref.go:274", after := #[], guard := none } : Oper)) (v := ?_) rfl (by kernel_rfl) (by kernel_rfl) (by kernel_rfl) (fun _ _ _ h => h) (Or.inl ⟨by rfl, ?_⟩) (by assumption) ?_
        rotate_left 1
        · (intro w hSw; (try dsimp only at hSw); go_simp) <;> (first | done | with_reducible rfl)
        (try simp only [Act.put, List.setIfInBounds_toArray, List.set_cons_zero, List.set_cons_succ])
        refine wpAnyH_take (i := 2) (oi := ({ dst := some 30, op := Op.load 3 (Operand.tmp 29), type := 3, pos := "ref.go:274", after := #[{ on := 1, ground := Ground.data }], guard := none } : Oper)) (v := ?_) rfl (by kernel_rfl) (by kernel_rfl) (by kernel_rfl) (fun _ _ _ h => h) (Or.inl ⟨by rfl, ?_⟩) (by assumption) ?_
        rotate_left 1
        · (intro w hSw; (try dsimp only at hSw); go_simp) <;> (first | done | with_reducible rfl)
        (try simp only [Act.put, List.setIfInBounds_toArray, List.set_cons_zero, List.set_cons_succ])
        refine wpAnyH_take (i := 4) (oi := ({ dst := some 32, op := Op.fieldAddr 40 (Operand.tmp 7) 1, type := 0, pos := "ref.go:274", after := #[], guard := none } : Oper)) (v := ?_) rfl (by kernel_rfl) (by kernel_rfl) (by kernel_rfl) (fun _ _ _ h => h) (Or.inl ⟨by rfl, ?_⟩) (by assumption) ?_
        rotate_left 1
        · (intro w hSw; (try dsimp only at hSw); go_simp) <;> (first | done | with_reducible rfl)
        (try simp only [Act.put, List.setIfInBounds_toArray, List.set_cons_zero, List.set_cons_succ])
        refine wpAnyH_take (i := 5) (oi := ({ dst := some 33, op := Op.load 3 (Operand.tmp 32), type := 3, pos := "ref.go:274", after := #[{ on := 4, ground := Ground.data }], guard := none } : Oper)) (v := ?_) rfl (by kernel_rfl) (by kernel_rfl) (by kernel_rfl) (fun _ _ _ h => h) (Or.inl ⟨by rfl, ?_⟩) (by assumption) ?_
        rotate_left 1
        · (intro w hSw; (try dsimp only at hSw); go_simp) <;> (first | done | with_reducible rfl)
        (try simp only [Act.put, List.setIfInBounds_toArray, List.set_cons_zero, List.set_cons_succ])
        refine wpAnyH_take (i := 7) (oi := ({ dst := some 35, op := Op.fieldAddr 40 (Operand.tmp 7) 2, type := 0, pos := "ref.go:274", after := #[], guard := none } : Oper)) (v := ?_) rfl (by kernel_rfl) (by kernel_rfl) (by kernel_rfl) (fun _ _ _ h => h) (Or.inl ⟨by rfl, ?_⟩) (by assumption) ?_
        rotate_left 1
        · (intro w hSw; (try dsimp only at hSw); go_simp) <;> (first | done | with_reducible rfl)
        (try simp only [Act.put, List.setIfInBounds_toArray, List.set_cons_zero, List.set_cons_succ])
        refine wpAnyH_take (i := 8) (oi := ({ dst := some 36, op := Op.load 3 (Operand.tmp 35), type := 3, pos := "ref.go:274", after := #[{ on := 7, ground := Ground.data }], guard := none } : Oper)) (v := ?_) rfl (by kernel_rfl) (by kernel_rfl) (by kernel_rfl) (fun _ _ _ h => h) (Or.inl ⟨by rfl, ?_⟩) (by assumption) ?_
        rotate_left 1
        · (intro w hSw; (try dsimp only at hSw); go_simp) <;> (first | done | with_reducible rfl)
        (try simp only [Act.put, List.setIfInBounds_toArray, List.set_cons_zero, List.set_cons_succ])
        refine wpAnyH_ready (rs := [3]) (by kernel_rfl) (by simp) ?_
        refine AllReadyH.cons (o := ({ dst := some 31, op := Op.call { callee := Callee.value (Operand.func 14), args := #[Operand.const (Value.slice none 0 0), Operand.tmp 30], argTypes := #[27, 3] }, type := 27, pos := "ref.go:274", after := #[{ on := 2, ground := Ground.data }], guard := none } : Oper)) rfl (fun K hK => ?_) AllReadyH.nil
        go_simp
        go_wp2_with (go_at_call 14; with_reducible refine (HP1.out _ (bdw kV)).mono ?_; rintro e w3 ⟨b1, n1, d1, rfl, HF1, kb1⟩)
        refine hK.out _ _ (HG.out _ kb1) (fun hHeld => ?_)
        clear hK K
        (try simp only [Act.put, List.setIfInBounds_toArray, List.set_cons_zero, List.set_cons_succ])
        refine wpAnyH_ready (rs := [6]) (by kernel_rfl) (by simp) ?_
        refine AllReadyH.cons (o := ({ dst := some 34, op := Op.call { callee := Callee.value (Operand.func 14), args := #[Operand.tmp 31, Operand.tmp 33], argTypes := #[27, 3] }, type := 27, pos := "ref.go:274", after := #[{ on := 3, ground := Ground.data }, { on := 5, ground := Ground.data }, { on := 3, ground := Ground.chain }], guard := none } : Oper)) rfl (fun K hK => ?_) AllReadyH.nil
        go_simp
        go_wp2_with (go_at_call 14; with_reducible refine (HP2.out _ _ _ _ kb1 HF1).mono ?_; rintro e w4 ⟨b2, n2, d2, rfl, HF2, kb2⟩)
        refine hK.out _ _ (HG.out _ kb2) (fun hHeld => ?_)
        clear hK K
        (try simp only [Act.put, List.setIfInBounds_toArray, List.set_cons_zero, List.set_cons_succ])
        refine wpAnyH_ready (rs := [9]) (by kernel_rfl) (by simp) ?_
        refine AllReadyH.cons (o := ({ dst := some 37, op := Op.call { callee := Callee.value (Operand.func 14), args := #[Operand.tmp 34, Operand.tmp 36], argTypes := #[27, 3] }, type := 27, pos := "ref.go:274", after := #[{ on := 6, ground := Ground.data }, { on := 8, ground := Ground.data }, { on := 6, ground := Ground.chain }], guard := none } : Oper)) rfl (fun K hK => ?_) AllReadyH.nil
        go_simp
        go_wp2_with (go_at_call 14; with_reducible refine (HP3.out _ _ _ _ kb2 HF2).mono ?_; rintro e w5 ⟨b3, d3, rfl, HF3, kb3⟩)
        refine hK.out _ _ (HG.out _ kb3) (fun hHeld => ?_)
        clear hK K
        (try simp only [Act.put, List.setIfInBounds_toArray, List.set_cons_zero, List.set_cons_succ])
        refine wpAnyH_ready (rs := [10]) (by kernel_rfl) (by simp) ?_
        refine AllReadyH.cons (o := ({ dst := some 38, op := Op.call { callee := Callee.builtin Builtin.append, args := #[Operand.tmp 28, Operand.tmp 37], argTypes := #[27, 27] }, type := 27, pos := "ref.go:274", after := #[{ on := 0, ground := Ground.data }, { on := 9, ground := Ground.data }, { on := 9, ground := Ground.chain }], guard := none } : Oper)) rfl (fun K hK => ?_) AllReadyH.nil
        refine step_appG rfl _ _ rfl L (.slice ar mr cr) ys (by go_simp) (HOw.out _ kb3) b3 pz HN.out d3 (by go_simp) HF3.out HLe.out (HLs.out _ kb3) ?_
        intro v6 w6 ho6 hg6
        obtain ⟨HS6, HK6⟩ := HAp.out _ _ _ kb3 ho6 hg6
        obtain ⟨a6, c6, hv6, -⟩ := ho6.open
        have HO6 := hid ho6
        subst hv6
        rw [List.length_append] at HO6
        clear ho6 hg6
        refine hK.out _ _ (HS6) (fun hHeld => ?_)
        clear hK K
        (try simp only [Act.put, List.setIfInBounds_toArray, List.set_cons_zero, List.set_cons_succ])
        refine wpAnyH_take (i := 11) (oi := ({ dst := some 5, op := Op.assign (Operand.tmp 38), type := 27, pos := "ref.go:274", after := #[{ on := 10, ground := Ground.data }, { on := 10, ground := Ground.chain }, { on := 0, ground := Ground.phase }, { on := 1, ground := Ground.phase }, { on := 2, ground := Ground.phase }, { on := 3, ground := Ground.phase }, { on := 4, ground := Ground.phase }, { on := 5, ground := Ground.phase }, { on := 6, ground := Ground.phase }, { on := 7, ground := Ground.phase }, { on := 8, ground := Ground.phase }, { on := 9, ground := Ground.phase }, { on := 10, ground := Ground.phase }], guard := none } : Oper)) (v := ?_) rfl (by kernel_rfl) (by kernel_rfl) (by kernel_rfl) (fun _ _ _ h => h) (Or.inl ⟨by rfl, ?_⟩) (by assumption) ?_
        rotate_left 1
        · (intro w hSw; (try dsimp only at hSw); go_simp) <;> (first | done | with_reducible rfl)
        (try simp only [Act.put, List.setIfInBounds_toArray, List.set_cons_zero, List.set_cons_succ])
        refine wpAnyH_done (by kernel_rfl) ?_ _
        clear r0 r1 r2 hV hG
        go_wp2
        go_roundw
        case rel => exact ⟨j + 1, _, _, _, by go_num, rfl, by omega, hid (by rw [HE.out]; exact HO6.out), HK6⟩
        case measure => simp [intOf]; omega
      · obtain rfl : j = ni := by omega
        obtain ⟨⟨d0, d1, d2⟩, kr⟩ := KX.out wr mk
        have hLw : L ≤ wr.heap.size := by rw [← HL.out]; exact kr.out.size
        have hlen : (enc1 ⟨j, I, D, ns, S⟩ ++ encI I j).length ≤ 1000000 := HLn.out.2.1 j (Nat.le_refl _)
        obtain ⟨ys, hys⟩ : ∃ ys, enc1 ⟨j, I, D, ns, S⟩ ++ encI I j = ys := ⟨_, rfl⟩
        rw [hys] at ho hlen
        obtain ⟨pz, hpz⟩ : ∃ pz, [] ++ putB (nd : Int).toNat = pz := ⟨_, rfl⟩
        have HE2 : Hid (enc2 ⟨j, I, D, ns, S⟩ = ys ++ pz) := hid (by
          show enc1 ⟨j, I, D, ns, S⟩ ++ encI I j ++ nmB [(D.length : Int)] = _
          rw [Hnd.out, hys, ← hpz]
          simp [nmB])
        have hpl := putB_le (nd : Int).toNat (by omega)
        have HLe : Hid (ys.length + pz.length ≤ 140737488355328) := hid (by rw [← hpz, List.nil_append]; omega)
        have HC : Hid (Calls Tryd.prog 14 #[.slice none 0 0, .int .i64 (nd : Int)] wr fun e w' => ∃ a c, e = .returned (.slice a pz.length c) ∧ Hid (From w' a pz.length (fn pz) ∧ (a = none → c = 0)) ∧ Hid (Own w' L (.slice ar mr cr) ys) ∧ Hid (L ≤ w'.heap.size) ∧ Hid (Below L W0 w')) := hid (by
          refine (x_put (fr_nil wr) (nd : Int) (by omega) (by decide)).mono ?_
          rintro e w' ⟨a, c, rfl, h1, h2, h3⟩
          rw [hpz] at h1 ⊢
          obtain ⟨a', c', e1, e2, e3⟩ := h1.out
          injection e1 with e1 _ e4
          subst e1; subst e4
          exact ⟨_, c, rfl, hid ⟨e2, e3⟩, hid (ho.out.below h3.out (Nat.le_refl _)), hid (Nat.le_trans hLw h3.out.size), hid (mk.out.trans (h3.out.mono hLw))⟩)
        clear ho2 k2 ho mk HI hlen hys hpz hpl hLw kr
        go_wp2_with fail
        refine HC.out.mono ?_
        clear HC d0 d1 d2
        rintro e w3 ⟨b3, d3, rfl, HF3, HO3, HL3, k3⟩
        go_wp2_with (at_builtin; refine wpList_appG rfl _ _ rfl L _ ys rfl HO3.out b3 pz d3 rfl HF3.out.1 HF3.out.2 HLe.out HL3.out ?_)
        intro v4 w4 ho4 hg4
        obtain ⟨a4, c4, hv4, -⟩ := ho4.open
        have k4 : Hid (Below L W0 w4) := hid (own_grown HO3.out k3.out HL3.out hg4)
        subst hv4
        have HO4 : Hid (Own w4 L (.slice a4 (ys ++ pz).length c4) (enc2 ⟨j, I, D, ns, S⟩)) := hid (by rw [HE2.out]; exact ho4)
        clear ho4 hg4 HF3 HO3 HL3 k3 HLe
        obtain ⟨m4, hm4⟩ : ∃ m4, (ys ++ pz).length = m4 := ⟨_, rfl⟩
        rw [hm4] at HO4
        try rw [hm4]
        try rw [← List.length_append, hm4]
        obtain ⟨⟨d0, d1, d2⟩, -⟩ := KX.out w4 k4
        go_wp2_with fail
        clear d0 d1 d2
        go_loopw [5, 49] (fun b i wr => ∃ (p : Nat) (a : Option Addr) (m c : Nat), i = .int .i64 (p : Int) ∧ b = .slice a m c ∧ p ≤ nd ∧ Hid (Own wr L (.slice a m c) (enc2 ⟨j, I, D, ns, S⟩ ++ encS (prD D) p)) ∧ Hid (Below L W0 wr)) (fun _ i _ => nd - (intOf i).toNat)
        case atStart => exact ⟨0, a4, m4, c4, rfl, rfl, Nat.zero_le _, by show Own _ _ _ (_ ++ []); rw [List.append_nil]; exact HO4.out, k4⟩
        case round =>
          obtain ⟨p, ar, mr, cr, rfl, rfl, hp, ho, mk⟩ := hrel
          have kr := (KX.out wr mk).2
          have hLw : L ≤ wr.heap.size := by rw [← HL.out]; exact kr.out.size
          have hlen : (enc2 ⟨j, I, D, ns, S⟩ ++ encS (prD D) p).length ≤ 8800000000000 := HLn.out.2.2.1 p (by rw [Hnd.out]; exact hp)
          by_cases hlt2 : p < nd
          · have q1 : (p : Int) < (nd : Int) := by omega
            have q2 : (0 : Int) ≤ (p : Int) := by omega
            have hpl : p < D.length := by rw [Hnd.out]; exact hlt2
            obtain ⟨g2, o2, rfl, hX⟩ := HD.out (by omega)
            obtain ⟨ax, nx, cx, bx, mx, dx, f0, f1, f2, f3⟩ := (HDs.out p hpl).form
            have hvx : vx X p = .agg #[.int .i64 D[p].kd, .string D[p].tx, .slice ax nx cx, .slice bx mx dx] := by unfold vx; rw [f0, f1, f2, f3]
            have hdx := HDs.out p hpl
            rw [hvx] at hdx
            have hsz : D[p].siz ≤ 1048576 := Nat.le_trans (sizL_mem p hpl) Hf.out.1
            have hwt : D[p].wt ≤ 1048576 := mem_wt Hf.out.2.1 hpl
            have hmay : D[p].may := Hok.out.2.2.2.2.1 _ (List.getElem_mem hpl)
            have hpz : (prD D p).size ≤ 8388608 := prD_le Hf.out.2.1 p
            have HE : Hid (enc2 ⟨j, I, D, ns, S⟩ ++ encS (prD D) (p + 1) = (enc2 ⟨j, I, D, ns, S⟩ ++ encS (prD D) p) ++ txB (ba D[p].out)) := hid (by rw [List.append_assoc, ← prD_at hpl]; rfl)
            rw [prD_at hpl] at hpz
            obtain ⟨x, hx⟩ : ∃ x, D[p] = x := ⟨_, rfl⟩
            rw [hx] at hdx f0 f1 hsz hwt hmay hpz HE
            have hXw : ∀ i, i < 4 → wr.cell? ⟨g2, o2 + p * 4 + i, none⟩ = some (X p i) := fun i hi => (kr.out.cell (World.block_lt_of_cell? W0 _ (hX p hlt2 i hi))).trans (hX p hlt2 i hi)
            have x0 : wr.cell? ⟨g2, o2 + p * 4, none⟩ = some (X p 0) := hXw 0 (by decide)
            have x1 := hXw 1 (by decide)
            have x2 := hXw 2 (by decide)
            have x3 := hXw 3 (by decide)
            rw [f0] at x0
            rw [f1] at x1
            rw [f2] at x2
            rw [f3] at x3
            obtain ⟨ys, hys⟩ : ∃ ys, enc2 ⟨j, I, D, ns, S⟩ ++ encS (prD D) p = ys := ⟨_, rfl⟩
            rw [hys] at ho HE hlen
            obtain ⟨pz, hpzz⟩ : ∃ pz, [] ++ txB (ba x.out) = pz := ⟨_, rfl⟩
            have htl := txB_len (ba x.out) (by omega)
            have HLe : Hid (ys.length + pz.length ≤ 140737488355328) := hid (by rw [← hpzz, List.nil_append]; omega)
            obtain ⟨V, hV⟩ : ∃ V, wr.alloc (.cells #[.int .i64 x.kd, .string x.tx, .slice ax nx cx, .slice bx mx dx] 42) = V := ⟨_, rfl⟩
            obtain ⟨G, hG⟩ : ∃ G, wr.heap.size = G := ⟨_, rfl⟩
            have hbV : Below wr.heap.size wr V := by rw [← hV]; exact blw_al (Below.refl _ _) _
            have hsV : V.heap[G]? = some (.cells #[.int .i64 x.kd, .string x.tx, .slice ax nx cx, .slice bx mx dx] 42 (0, 0)) := by rw [← hV]; exact heap_alloc_at _ _ _ hG.symm
            have v0 := cells_at hsV 0
            have v1 := cells_at hsV 1
            have v2 := cells_at hsV 2
            have v3 := cells_at hsV 3
            simp only [List.getElem?_toArray, List.getElem?_cons_zero, List.getElem?_cons_succ] at v0 v1 v2 v3
            have HPr : Hid (Calls Tryd.prog 16 #[.agg #[.int .i64 x.kd, .string x.tx, .slice ax nx cx, .slice bx mx dx]] V fun e w' => e = .returned (.string (ba x.out)) ∧ Hid (Below wr.heap.size wr w')) := hid (by
              refine (z_print (hdx.under (kr.out.trans (hbV.mono kr.out.size))) hsz (by omega)).mono ?_
              rintro e w' ⟨h1, h2⟩
              rcases h1 with ⟨_, h⟩ | ⟨h, _⟩
              · exact ⟨h, hid (hbV.trans (h2.out.mono hbV.size))⟩
              · exact absurd hmay h)
            have HTx : Hid (∀ V', Hid (Below wr.heap.size wr V') → Calls Tryd.prog 15 #[.slice none 0 0, .string (ba x.out)] V' fun e w' => ∃ a c, e = .returned (.slice a pz.length c) ∧ Hid (From w' a pz.length (fn pz) ∧ (a = none → c = 0)) ∧ Hid (Own w' L (.slice ar mr cr) ys) ∧ Hid (L ≤ w'.heap.size) ∧ Hid (Below L W0 w')) := hid fun V' hm' => by
              refine (x_text (fr_nil V') (ba x.out) (by simp only [List.length_nil]; omega)).mono ?_
              rintro e w' ⟨a, c, rfl, h1, h3⟩
              rw [hpzz] at h1 ⊢
              obtain ⟨a', c', e1, e2, e3⟩ := h1.out
              injection e1 with e1 _ e4
              subst e1; subst e4
              have hb3 := hm'.out.trans (h3.out.mono hm'.out.size)
              exact ⟨_, c, rfl, hid ⟨e2, e3⟩, hid (ho.out.below hb3 (Nat.le_refl _)), hid (Nat.le_trans hLw hb3.size), hid (mk.out.trans (hb3.mono hLw))⟩
            rw [← hpzz, List.nil_append] at HLe
            have hpz3 : txB (ba x.out) = pz := by rw [← hpzz, List.nil_append]
            rw [hpz3] at HE HLe
            clear hbV hsV hLw hlen hx hys hXw hX kr ho hpz hmay hwt hsz hdx hvx f0 f1 f2 f3 mk hpl htl hpzz hpz3
            go_wp2_with fail
            refine HPr.out.mono ?_
            clear HPr
            rintro e w5 ⟨rfl, m5⟩
            clear v0 v1 v2 v3 x0 x1 x2 x3 hV hG
            have HT1 := hid (HTx.out w5 m5)
            clear HTx m5
            go_wp2_with fail
            refine HT1.out.mono ?_
            clear HT1
            rintro e w6 ⟨b6, d6, rfl, HF6, HO6, HL6, k6⟩
            go_wp2_with (at_builtin; refine wpList_appG rfl _ _ rfl L _ ys rfl HO6.out b6 pz d6 rfl HF6.out.1 HF6.out.2 HLe.out HL6.out ?_)
            intro v7 w7 ho7 hg7
            obtain ⟨a7, c7, hv7, -⟩ := ho7.open
            have k7 : Hid (Below L W0 w7) := hid (own_grown HO6.out k6.out HL6.out hg7)
            subst hv7
            have HO7 := hid ho7
            rw [List.length_append] at HO7
            clear ho7 hg7 HF6 HO6 HL6 k6 HLe
            try rw [List.length_append]
            go_wp2
            go_roundw
            case rel => first
              | exact ⟨p + 1, _, _, _, by go_num, rfl, by omega, hid (by rw [HE.out]; exact HO7.out), k7⟩
              | (refine ⟨_, _, _, _, _, _, _, _, _, _, _, ⟨p + 1, _, _, _, ?_, rfl, by omega, hid (by rw [HE.out]; exact HO7.out), k7⟩, rfl⟩
                 go_num)
            case measure => simp [intOf]; omega
          · obtain rfl : p = nd := by omega
            obtain ⟨⟨d0, d1, d2⟩, -⟩ := KX.out wr mk
            obtain ⟨ys, hys⟩ : ∃ ys, enc2 ⟨j, I, D, ns, S⟩ ++ encS (prD D) p = ys := ⟨_, rfl⟩
            rw [hys] at ho hlen
            obtain ⟨pz, hpz⟩ : ∃ pz, [] ++ putB (ns : Int).toNat = pz := ⟨_, rfl⟩
            have HE2 : Hid (enc3 ⟨j, I, D, ns, S⟩ = ys ++ pz) := hid (by
              show enc2 ⟨j, I, D, ns, S⟩ ++ encS (prD D) D.length ++ nmB [(ns : Int)] = _
              rw [Hnd.out, hys, ← hpz]
              simp [nmB])
            have hpl := putB_le (ns : Int).toNat (by omega)
            have HLe : Hid (ys.length + pz.length ≤ 140737488355328) := hid (by rw [← hpz, List.nil_append]; omega)
            have HC : Hid (Calls Tryd.prog 14 #[.slice none 0 0, .int .i64 (ns : Int)] wr fun e w' => ∃ a c, e = .returned (.slice a pz.length c) ∧ Hid (From w' a pz.length (fn pz) ∧ (a = none → c = 0)) ∧ Hid (Own w' L (.slice ar mr cr) ys) ∧ Hid (L ≤ w'.heap.size) ∧ Hid (Below L W0 w')) := hid (by
              refine (x_put (fr_nil wr) (ns : Int) (by omega) (by decide)).mono ?_
              rintro e w' ⟨a, c, rfl, h1, h2, h3⟩
              rw [hpz] at h1 ⊢
              obtain ⟨a', c', e1, e2, e3⟩ := h1.out
              injection e1 with e1 _ e4
              subst e1; subst e4
              exact ⟨_, c, rfl, hid ⟨e2, e3⟩, hid (ho.out.below h3.out (Nat.le_refl _)), hid (Nat.le_trans hLw h3.out.size), hid (mk.out.trans (h3.out.mono hLw))⟩)
            clear ho mk HD HDs hlen hys hpz hpl hLw kr HO4 k4
            go_wp2_with fail
            refine HC.out.mono ?_
            clear HC d0 d1 d2
            rintro e w5 ⟨b5, d5, rfl, HF5, HO5, HL5, k5⟩
            go_wp2_with (at_builtin; refine wpList_appG rfl _ _ rfl L _ ys rfl HO5.out b5 pz d5 rfl HF5.out.1 HF5.out.2 HLe.out HL5.out ?_)
            intro v6 w6 ho6 hg6
            obtain ⟨a6, c6, hv6, -⟩ := ho6.open
            have k6 : Hid (Below L W0 w6) := hid (own_grown HO5.out k5.out HL5.out hg6)
            subst hv6
            have HO6 : Hid (Own w6 L (.slice a6 (ys ++ pz).length c6) (enc3 ⟨j, I, D, ns, S⟩)) := hid (by rw [HE2.out]; exact ho6)
            clear ho6 hg6 HF5 HO5 HL5 k5 HLe
            obtain ⟨m6, hm6⟩ : ∃ m6, (ys ++ pz).length = m6 := ⟨_, rfl⟩
            rw [hm6] at HO6
            try rw [hm6]
            try rw [← List.length_append, hm6]
            obtain ⟨⟨d0, d1, d2⟩, -⟩ := KX.out w6 k6
            go_wp2_with fail
            clear d0 d1 d2
            go_loopw [5, 68] (fun b i wr => ∃ (q : Nat) (a : Option Addr) (m c : Nat), i = .int .i64 (q : Int) ∧ b = .slice a m c ∧ q ≤ ns ∧ Hid (Own wr L (.slice a m c) (enc3 ⟨j, I, D, ns, S⟩ ++ encS S q)) ∧ Hid (Below L W0 wr)) (fun _ i _ => ns - (intOf i).toNat)
            case atStart => exact ⟨0, a6, m6, c6, rfl, rfl, Nat.zero_le _, by show Own _ _ _ (_ ++ []); rw [List.append_nil]; exact HO6.out, k6⟩
            case round =>
              obtain ⟨q, ar, mr, cr, rfl, rfl, hq, ho, mk⟩ := hrel
              have kr := (KX.out wr mk).2
              have hLw : L ≤ wr.heap.size := by rw [← HL.out]; exact kr.out.size
              have hlen : (enc3 ⟨j, I, D, ns, S⟩ ++ encS S q).length ≤ 9920000000000 := HLn.out.2.2.2 q hq
              by_cases hlt3 : q < ns
              · have q1 : (q : Int) < (ns : Int) := by omega
                have q2 : (0 : Int) ≤ (q : Int) := by omega
                obtain ⟨g2, o2, rfl, hX⟩ := HN.out (by omega)
                have x0 : wr.cell? ⟨g2, o2 + q, none⟩ = some (.string (S q)) := (kr.out.cell (World.block_lt_of_cell? W0 _ (hX q hlt3))).trans (hX q hlt3)
                have hsz : (S q).size ≤ 1048576 := Hf.out.2.2.2.2 q hlt3
                have HE : Hid (enc3 ⟨j, I, D, ns, S⟩ ++ encS S (q + 1) = (enc3 ⟨j, I, D, ns, S⟩ ++ encS S q) ++ txB (S q)) := hid (by rw [List.append_assoc]; rfl)
                obtain ⟨z, hz⟩ : ∃ z, S q = z := ⟨_, rfl⟩
                obtain ⟨ys, hys⟩ : ∃ ys, enc3 ⟨j, I, D, ns, S⟩ ++ encS S q = ys := ⟨_, rfl⟩
                rw [hz] at x0 hsz HE
                rw [hys] at ho HE hlen
                obtain ⟨pz, hpzz⟩ : ∃ pz, [] ++ txB z = pz := ⟨_, rfl⟩
                have htl := txB_len z (by omega)
                have hpz3 : txB z = pz := by rw [← hpzz, List.nil_append]
                have HLe : Hid (ys.length + pz.length ≤ 140737488355328) := hid (by rw [← hpz3]; omega)
                have HT1 : Hid (Calls Tryd.prog 15 #[.slice none 0 0, .string z] wr fun e w' => ∃ a c, e = .returned (.slice a pz.length c) ∧ Hid (From w' a pz.length (fn pz) ∧ (a = none → c = 0)) ∧ Hid (Own w' L (.slice ar mr cr) ys) ∧ Hid (L ≤ w'.heap.size) ∧ Hid (Below L W0 w')) := hid (by
                  refine (x_text (fr_nil wr) z (by simp only [List.length_nil]; omega)).mono ?_
                  rintro e w' ⟨a, c, rfl, h1, h3⟩
                  rw [hpzz] at h1 ⊢
                  obtain ⟨a', c', e1, e2, e3⟩ := h1.out
                  injection e1 with e1 _ e4
                  subst e1; subst e4
                  exact ⟨_, c, rfl, hid ⟨e2, e3⟩, hid (ho.out.below h3.out (Nat.le_refl _)), hid (Nat.le_trans hLw h3.out.size), hid (mk.out.trans (h3.out.mono hLw))⟩)
                rw [hpz3] at HE
                clear hlen hsz hz hys ho kr hX mk hLw htl hpzz hpz3
                go_wp2_with fail
                refine HT1.out.mono ?_
                clear HT1 x0
                rintro e w7 ⟨b7, d7, rfl, HF7, HO7, HL7, k7⟩
                go_wp2_with (at_builtin; refine wpList_appG rfl _ _ rfl L _ ys rfl HO7.out b7 pz d7 rfl HF7.out.1 HF7.out.2 HLe.out HL7.out ?_)
                intro v8 w8 ho8 hg8
                obtain ⟨a8, c8, hv8, -⟩ := ho8.open
                have k8 : Hid (Below L W0 w8) := hid (own_grown HO7.out k7.out HL7.out hg8)
                subst hv8
                have HO8 := hid ho8
                rw [List.length_append] at HO8
                clear ho8 hg8 HF7 HO7 HL7 k7 HLe
                try rw [List.length_append]
                go_wp2
                go_roundw
                case rel => first
                  | exact ⟨q + 1, _, _, _, by go_num, rfl, by omega, hid (by rw [HE.out]; exact HO8.out), k8⟩
                  | (refine ⟨_, _, _, _, _, _, _, _, _, _, ⟨q + 1, _, _, _, ?_, rfl, by omega, hid (by rw [HE.out]; exact HO8.out), k8⟩, rfl⟩
                     go_num)
                case measure => simp [intOf]; omega
              · obtain rfl : q = ns := by omega
                have ho' : Own wr L (.slice ar mr cr) (Cd.enc ⟨j, I, D, q, S⟩) := ho.out
                obtain ⟨a, k, hv, hF, -, -, -, -⟩ := ho'.open
                have HF : Hid (From wr a (Cd.enc ⟨j, I, D, q, S⟩).length (fn (Cd.enc ⟨j, I, D, q, S⟩))) := hid hF
                have HK := (HX.out wr kr).2
                injection hv with hv1 hv2 hv3
                subst hv1; subst hv2; subst hv3
                clear hF ho ho' mk kr HN KX HX hlen hLw
                go_wp2
                go_ret2
                exact ⟨hid (.inr ⟨Hok.out, _, _, rfl, HF.out⟩), HK⟩
  · have Hok := hid hok
    clear hok
    go_wp2
    go_ret2
    exact ⟨hid (.inl ⟨Hok.out, rfl⟩), K1⟩
end Go.Proofs.YtpjgdpfpgpaenaaDoor
