/-
  PoolBound: the law's walk.
-/
import Derived.Test.YtnaobkpncfbnaaaGreatDoorPoN
namespace Go.Proofs.YtnaobkpncfbnaaaGreatDoor
open Go.RowKit
set_option linter.unusedVariables false

theorem umod (z : Int) (m : Nat) (hm : 0 < m) (hm2 : m ≤ 10) : ∃ t : Nat, t < m ∧ (IntKind.u64.wrap z).tmod (m : Int) = (t : Int) ∧ wrap64 (t : Int) = (t : Int) ∧ wrap64 (1 + (t : Int)) = ((t + 1 : Nat) : Int) := by
  have h0 : 0 ≤ IntKind.u64.wrap z := by
    simp only [IntKind.wrap]
    first | omega | exact Int.emod_nonneg _ (by decide)
  obtain ⟨n, hn⟩ := Int.eq_ofNat_of_zero_le h0
  refine ⟨n % m, Nat.mod_lt _ hm, ?_, ?_, ?_⟩
  · rw [hn]; exact (Int.ofNat_tmod n m).symm
  · have := Nat.mod_lt n hm
    unfold wrap64; omega
  · have := Nat.mod_lt n hm
    unfold wrap64; omega
theorem pinsA_made : pinsA (fun _ => 0) = madeCells #[.int .i64 0] 10 := by
  apply Array.ext_getElem?
  intro i
  by_cases hi : i < 10
  · rw [pinsA_at _ i hi]
    simp [madeCells, hi]
    rw [Nat.mod_one]
    rfl
  · rw [Array.getElem?_eq_none (by unfold pinsA; simp; omega), Array.getElem?_eq_none (by simp [madeCells]; omega)]
/-- A new pool. -/
def Nwp (w w' : World) (S bf : Nat) : Prop := ∃ wb D L, Below w.heap.size w wb ∧ @Pz Ez wb w' S 0 D L bf 0 X0
/-- A round's state, with all that the walk need not name. -/
def Rds (w wr : World) (S bf G : Nat) : Prop := ∃ wb D L n X pf, Below w.heap.size w wb ∧ Rd wb wr S D L bf G n X pf
theorem Rds.new {w w3 : World} {S bf : Nat} (h : Nwp w w3 S bf) (o : Obj) (ho : o = .cells (pinsA fun _ => 0) 3) : Rds w (w3.alloc o) S bf w3.heap.size := by
  obtain ⟨wb, D, L, hb, k⟩ := h
  have k' := @Pz.pf Ez _ _ _ _ _ _ _ _ _ k
  have b0 : Below w3.heap.size w3 (w3.alloc o) := (Below.refl _ w3).alloc (Nat.le_refl _) o
  refine ⟨wb, D, L, 0, X0, fun _ => 0, hb, @Pf.pz (Ep w3.heap.size fun _ => 0) _ _ _ _ _ _ _ _ _ (k'.turn (Part.ofBelow (F := fun _ => False) b0) (fun _ h => h.elim)) (fun q cs hq => ?_), fun q hq => .inr ⟨rfl, fun j hj => absurd hj (by omega)⟩, k'.bel.size⟩
  obtain ⟨rfl, rfl⟩ := hq
  rw [ho]
  exact heap_alloc_at _ _ _ rfl
theorem Rds.below {w wr wq : World} {S bf G : Nat} (h : Rds w wr S bf G) (hq : Below wr.heap.size wr wq) : Rds w wq S bf G := by
  obtain ⟨wb, D, L, n, X, pf, hb, k⟩ := h
  exact ⟨wb, D, L, n, X, pf, hb, k.below hq⟩
theorem Rds.bel {w wr : World} {S bf G : Nat} (h : Rds w wr S bf G) : Below w.heap.size w wr := by
  obtain ⟨wb, D, L, n, X, pf, hb, k⟩ := h
  have := (@Pz.pf (Ep G pf) _ _ _ _ _ _ _ _ _ k.pz).bel
  exact hb.trans (this.mono hb.size)
theorem Rds.dos {w wr : World} {S bf G : Nat} (h : Rds w wr S bf G) {a0 : Option Addr} {N : Nat} (hd : DosP w a0 N) : DosP wr a0 N := fun r hr => by
  obtain ⟨b, off, e, op, z, l, v, h0, h1, h2, h3, hv⟩ := hd r hr
  have hl := World.block_lt_of_cell? w _ h0
  have key : ∀ i u, w.cell? ⟨b, i, none⟩ = some u → wr.cell? ⟨b, i, none⟩ = some u := fun i u hu => by rw [h.bel.cell (p := ⟨b, i, none⟩) hl]; exact hu
  exact ⟨b, off, e, op, z, l, v, key _ _ h0, key _ _ h1, key _ _ h2, key _ _ h3, hv⟩
theorem g_get {w wr : World} {S bf G : Nat} (h : Rds w wr S bf G) (z : Nat) (hz : z < 10) : Calls Tryz.prog 15 #[.pointer (some ⟨S + 1, 0, none⟩), .int .i64 (z : Int)] wr fun r w' => (∃ v l e, r = .returned (.tuple #[v, l, e])) ∧ Hid (Rds w w' S bf G) := by
  obtain ⟨wb, D, L, n, X, pf, hb, k⟩ := h
  exact (r_get k z hz).mono fun r w' ⟨hr, HH⟩ => ⟨hr, by
    obtain ⟨n', X', h⟩ := HH.out
    exact ⟨wb, D, L, n', X', pf, hb, h⟩⟩
theorem pin_le {X : Nat → Bf} {n q p : Nat} (h : PinAt X n q p) (cl : ∀ j, j < n → (X j).fi = 0 ∧ (X j).ls = 0 ∧ (X j).pg < 10 ∧ (X j).pn ≤ 100) : p ≤ 100 := by
  rcases h with ⟨j, hj, _, rfl⟩ | ⟨rfl, _⟩
  · exact (cl j hj).2.2.2
  · omega
theorem g_pin {w wr : World} {S bf G : Nat} (h : Rds w wr S bf G) (z : Nat) (hz : z < 10) : Calls Tryz.prog 19 #[.pointer (some ⟨S + 1, 0, none⟩), .int .i64 (z : Int)] wr fun r w' => (∃ p : Nat, p ≤ 100 ∧ r = .returned (.int .i64 0) ∧ w'.cell? ⟨G, z, none⟩ = some (.int .i64 (p : Int)) ∧ w'.frozen? ⟨G, z, none⟩ = false ∧ Hid (Rds w (w'.setCell ⟨G, z, none⟩ (.int .i64 ((p : Int) + 1))) S bf G)) ∨ (∃ e, r = .returned (.int .i64 e) ∧ (e == 0) = false ∧ Hid (Rds w w' S bf G)) := by
  obtain ⟨wb, D, L, n, X, pf, hb, k⟩ := h
  refine (r_pin k z hz).mono fun r w' h => ?_
  rcases h with ⟨hr, h1, h2, HH⟩ | ⟨e, hr, he, HH⟩
  · refine .inl ⟨pf z, pin_le (k.pin z hz) (@Pz.pf (Ep G pf) _ _ _ _ _ _ _ _ _ k.pz).cl, hr, h1, h2, ?_⟩
    obtain ⟨n', X', h⟩ := HH.out
    exact ⟨wb, D, L, n', X', _, hb, h⟩
  · refine .inr ⟨e, hr, he, ?_⟩
    obtain ⟨n', X', h⟩ := HH.out
    exact ⟨wb, D, L, n', X', pf, hb, h⟩
theorem g_unpin {w wr : World} {S bf G : Nat} (h : Rds w wr S bf G) (z : Nat) (hz : z < 10) : ∃ p : Nat, p ≤ 100 ∧ (∀ wq, Below wr.heap.size wr wq → wq.cell? ⟨G, z, none⟩ = some (.int .i64 (p : Int)) ∧ wq.frozen? ⟨G, z, none⟩ = false ∧ Hid (Calls Tryz.prog 20 #[.pointer (some ⟨S + 1, 0, none⟩), .int .i64 (z : Int)] wq fun r w' => r = .returned (.int .i64 (if p = 0 then 3 else 0)) ∧ Hid (∀ wq, Below w'.heap.size w' wq → wq.cell? ⟨G, z, none⟩ = some (.int .i64 (p : Int)) ∧ wq.frozen? ⟨G, z, none⟩ = false ∧ Rds w (wq.setCell ⟨G, z, none⟩ (.int .i64 ((p - 1 : Nat) : Int))) S bf G))) := by
  obtain ⟨wb, D, L, n, X, pf, hb, k⟩ := h
  refine ⟨pf z, pin_le (k.pin z hz) (@Pz.pf (Ep G pf) _ _ _ _ _ _ _ _ _ k.pz).cl, fun wq hq => ⟨((k.below hq).cell z hz).1, ((k.below hq).cell z hz).2, (r_unpin (k.below hq) z hz).mono fun r w' ⟨hr, h1, h2, HH⟩ => ⟨hr, fun w9 h9 => ?_⟩⟩⟩
  have hl := World.block_lt_of_cell? w' _ h1
  obtain ⟨n', X', h⟩ := HH.out w9 h9
  refine ⟨by rw [h9.cell (p := ⟨G, z, none⟩) hl]; exact h1, ?_, wb, D, L, n', X', _, hb, h⟩
  rw [← h2]
  exact h9.frozen (p := ⟨G, z, none⟩) hl
/-- With the pages that Held gave. -/
def Rhs (w wr : World) (S bf G n : Nat) (a : Option Addr) (c : Nat) : Prop := ∃ wb D L X pf, Below w.heap.size w wb ∧ ∃ B zs, Rh wb wr S D L bf G n X pf B (.slice a n c) zs
/-- And with a clone of them. -/
def Rcl (w wr : World) (S bf G n : Nat) (a : Option Addr) (c : Nat) (a' : Option Addr) (c' : Nat) : Prop := ∃ wb D L X pf, Below w.heap.size w wb ∧ ∃ B zs B', Rh wb wr S D L bf G n X pf B (.slice a n c) zs ∧ wb.heap.size ≤ B' ∧ G < B' ∧ OwnI wr B' (.slice a' n c') zs ∧ ∀ q, (Value.slice a n c).ownBlock = some q → q < B'
theorem g_held {w wr : World} {S bf G : Nat} (h : Rds w wr S bf G) : Calls Tryz.prog 21 #[.pointer (some ⟨S + 1, 0, none⟩)] wr fun r w' => ∃ n a c, n ≤ bf ∧ n ≤ 5 ∧ r = .returned (.slice a n c) ∧ Hid (Rhs w w' S bf G n a c) := by
  obtain ⟨wb, D, L, n, X, pf, hb, k⟩ := h
  have hl := (@Pz.pf (Ep G pf) _ _ _ _ _ _ _ _ _ k.pz).nb
  exact (r_held k).mono fun r w' ⟨a, c, hr, HH⟩ => ⟨n, a, c, hl.1, by omega, hr, wb, D, L, X, pf, hb, HH.out⟩
theorem g_sort {w wr : World} {S bf G n : Nat} {a : Option Addr} {c : Nat} (h : Rhs w wr S bf G n a c) : Calls Tryz.prog 22 #[.slice a n c] wr fun r w' => r = .returned (.tuple #[]) ∧ Hid (Rhs w w' S bf G n a c) := by
  obtain ⟨wb, D, L, X, pf, hb, k⟩ := h
  exact (r_sort k).mono fun r w' ⟨hr, HH⟩ => ⟨hr, wb, D, L, X, pf, hb, HH.out⟩
theorem g_clone {w wr : World} {S bf G n : Nat} {a : Option Addr} {c : Nat} (h : Rhs w wr S bf G n a c) : Calls Tryz.prog 24 #[.slice a n c] wr fun r w' => ∃ a' c', r = .returned (.slice a' n c') ∧ Hid (Rcl w w' S bf G n a c a' c') := by
  obtain ⟨wb, D, L, X, pf, hb, k⟩ := h
  exact (r_clone k).mono fun r w' ⟨a', c', hr, HH⟩ => ⟨a', c', hr, wb, D, L, X, pf, hb, HH.out⟩
theorem g_compact {w wr : World} {S bf G n : Nat} {a a' : Option Addr} {c c' : Nat} (h : Rcl w wr S bf G n a c a' c') : Calls Tryz.prog 23 #[.slice a' n c'] wr fun r w' => ∃ a2 c2, r = .returned (.slice a2 n c2) ∧ Hid (Rhs w w' S bf G n a c) := by
  obtain ⟨wb, D, L, X, pf, hb, k⟩ := h
  exact (r_compact k).mono fun r w' ⟨⟨a2, c2, hr⟩, HH⟩ => ⟨a2, c2, hr, wb, D, L, X, pf, hb, HH.out⟩
theorem Rhs.fin {w wr : World} {S bf G n : Nat} {a : Option Addr} {c : Nat} (h : Rhs w wr S bf G n a c) : Rds w wr S bf G ∧ ∀ i, i < 10 → ∃ p : Nat, p ≤ 100 ∧ wr.cell? ⟨G, i, none⟩ = some (.int .i64 (p : Int)) ∧ (0 < p → Calls Tryz.prog 25 #[.slice a n c, .int .i64 (i : Int)] wr fun r w' => r = .returned (.bool true) ∧ w' = wr) := by
  obtain ⟨wb, D, L, X, pf, hb, B, zs, k⟩ := h
  exact ⟨⟨wb, D, L, n, X, pf, hb, k.rd⟩, fun i hi => ⟨pf i, pin_le (k.pin i hi) (@Pz.pf (Ep G pf) _ _ _ _ _ _ _ _ _ k.rd.pz).cl, (k.rd.cell i hi).1, fun hp => r_contains ⟨B, zs, k⟩ i hi hp⟩⟩
theorem g_table {w wr : World} {S bf G : Nat} (h : Rds w wr S bf G) : Calls Tryz.prog 18 #[.pointer (some ⟨S + 1, 0, none⟩)] wr fun r w' => r = .returned (.slice none 0 0) ∧ Below w.heap.size w w' := by
  obtain ⟨wb, D, L, n, X, pf, hb, k⟩ := h
  exact (r_table k).mono fun r w' ⟨hr, h⟩ => ⟨hr, hb.trans (h.mono hb.size)⟩
set_option maxRecDepth 100000 in
set_option maxHeartbeats 1000000 in
theorem bound_walk (z0 : Int) (a0 : Option Addr) (N c0 : Nat) (w : World) (hz : -9223372036854775808 ≤ z0 ∧ z0 ≤ 9223372036854775807) (hN : N ≤ 9223372036854775806) (hd : DosP w a0 N) :
    Calls Tryz.prog 4 #[.int .i64 z0, .slice a0 N c0] w fun e w' => e = .returned (.bool true) ∧ Below w.heap.size w w' := by
  have HD : Hid (DosP w a0 N) := hd
  have HN : Hid (∀ wq, Calls Tryz.prog 6 #[.int .i64 14] wq fun e w' => ∃ D, e = .returned (.tuple #[.pointer (some ⟨D, 0, none⟩), .int .i64 0]) ∧ Hid (Fresh w' D 14 ∧ Below wq.heap.size wq w')) := fun wq => (newDisk 14 (by decide) (by decide) wq).mono fun e w' ⟨D, he, h1, _, _, h2⟩ => ⟨D, he, h1, h2⟩
  have HO : Hid (∀ wq D, Fresh wq D 14 ∧ Below w.heap.size w wq → Calls Tryz.prog 7 #[.pointer (some ⟨D, 0, none⟩), .int .i64 0, .int .i64 4] wq fun e w' => ∃ L, e = .returned (.tuple #[.pointer (some ⟨L, 0, none⟩), .slice none 0 0, .int .i64 0]) ∧ Hid (∃ T v, LogAt w' L T D 0 4 1 0 0 0 v ∧ Fresh w' D 14 ∧ Below w.heap.size w w')) := fun wq D ⟨h1, h2⟩ => (openZ D 14 0 4 (by decide) (by decide) (by decide) wq h1).mono fun e w' ⟨L, T, he, h3, _, _, _, h4, _⟩ => ⟨L, he, T, _, h3, h1.below h4 (Nat.le_refl _), h2.trans (h4.mono h2.size)⟩
  have HP : Hid (∀ (wq : World) (D L bf : Nat), (∃ T v, LogAt wq L T D 0 4 1 0 0 0 v ∧ Fresh wq D 14 ∧ Below w.heap.size w wq) → 1 ≤ bf → bf ≤ 5 → Calls Tryz.prog 8 #[.pointer (some ⟨D, 0, none⟩), .pointer (some ⟨L, 0, none⟩), .int .i64 4, .int .i64 10, .int .i64 (bf : Int)] wq fun r w' => ∃ S, r = .returned (.tuple #[.pointer (some ⟨S + 1, 0, none⟩), .int .i64 0]) ∧ Hid (Nwp w w' S bf)) := fun wq D L bf ⟨T, v, h1, h2, h3⟩ b1 b5 => (@z_new Ez _ _ _ _ _ _ (fun _ _ h => h) h2 h1 b1 b5).mono fun r w' ⟨hr, HH⟩ => ⟨_, hr, wq, D, L, h3, HH.out⟩
  obtain ⟨MI, hMI⟩ : ∃ MI, pinsA (fun _ => 0) = MI := ⟨_, rfl⟩
  have hmi : ∀ w : World, (Instr.makeSlice 55 (.int .i64 10) (.int .i64 10)).run Tryz.prog w = .ok (.slice (some ⟨w.heap.size, 0, none⟩) 10 10) (w.alloc (.cells MI 3)) := fun w => by
    rw [← hMI, pinsA_made]
    exact run_make_row' (P := Tryz.prog) 55 3 (.int .i64 0) 8 Tryz.underlying55 info3 rfl .i64 .i64 10 (by omega) (by omega) w
  have HNw : Hid (∀ w3 S bf, Nwp w w3 S bf → Rds w (w3.alloc (.cells MI 3)) S bf w3.heap.size) := fun w3 S bf h => Rds.new h _ (by rw [hMI])
  clear hMI
  obtain ⟨t5, h5, e5, w5, x5⟩ := umod z0 5 (by decide) (by decide)
  have HE5 : Hid (((IntKind.u64.wrap z0).tmod 5 = (t5 : Int)) ∧ wrap64 (t5 : Int) = (t5 : Int) ∧ wrap64 (1 + (t5 : Int)) = ((t5 + 1 : Nat) : Int)) := ⟨e5, w5, x5⟩
  obtain ⟨bf, hbf⟩ : ∃ bf, t5 + 1 = bf := ⟨_, rfl⟩
  rw [hbf] at HE5
  have b1 : 1 ≤ bf := by omega
  have b5 : bf ≤ 5 := by omega
  clear hd e5 w5 x5 hbf h5 hz
  go_enter Tryz.func4, Tryz.ntmps4
  go_wp2_with fail
  rw [HE5.out.1, HE5.out.2.1, HE5.out.2.2]
  clear HE5
  refine (HN.out _).mono ?_
  rintro r w1 ⟨D, rfl, HF⟩
  go_wp2_with fail
  refine (HO.out _ _ HF.out).mono ?_
  rintro r w2 ⟨L, rfl, HG⟩
  clear HF HN HO
  go_wp2_with fail
  refine (HP.out _ _ _ _ HG.out b1 b5).mono ?_
  rintro r w3 ⟨S, rfl, HW⟩
  clear HG HP
  have HRd : Hid (Rds w (w3.alloc (.cells MI 3)) S bf w3.heap.size) := HNw.out _ _ _ HW.out
  clear HW HNw
  obtain ⟨G, hG⟩ : ∃ G, w3.heap.size = G := ⟨_, rfl⟩
  rw [hG] at HRd
  have hbI : (bf : Int) ≤ 5 := by omega
  go_wp2
  go_loopw [54] (fun s54 wr => ∃ k : Nat, k ≤ N ∧ s54 = .int .i64 (k : Int) ∧ Hid (Rds w wr S bf G)) (fun i _ => N - (intOf i).toNat)
  case atStart => exact ⟨0, Nat.zero_le _, rfl, HRd⟩
  case round =>
    clear HRd hmi hG
    obtain ⟨k, hk, rfl, HB⟩ := hrel
    by_cases hlt : k < N
    · obtain ⟨b, off, rfl, op, z, l, v, q0, q1, q2, q3, va, vn, vc, rfl⟩ := HB.out.dos HD.out k hlt
      have hlt' : (k : Int) < (N : Int) := by omega
      have hk0 : (0 : Int) ≤ (k : Int) := by omega
      obtain ⟨t10, h10, e10, w10, _⟩ := umod z 10 (by decide) (by decide)
      obtain ⟨t3, h3, e3, w3', _⟩ := umod op 3 (by decide) (by decide)
      have HE : Hid (((IntKind.u64.wrap z).tmod 10 = (t10 : Int) ∧ wrap64 (t10 : Int) = (t10 : Int)) ∧ ((IntKind.u64.wrap op).tmod 3 = (t3 : Int) ∧ wrap64 (t3 : Int) = (t3 : Int))) := ⟨⟨e10, w10⟩, e3, w3'⟩
      clear e10 w10 e3 w3'
      have HBo : Hid (∀ o, Rds w (wr.alloc o) S bf G) := fun o => HB.out.below ((Below.refl _ wr).alloc (Nat.le_refl _) o)
      clear HB
      go_upto_block 2 with fail
      rw [HE.out.1.1, HE.out.1.2, HE.out.2.1, HE.out.2.2]
      clear HE q0 q1 q2 q3
      have HBv : Hid (Rds w (wr.alloc (Obj.cells #[Value.int .i64 op, .int .i64 z, .int .i64 l, .slice va vn vc] 38)) S bf G) := HBo.out _
      clear HBo
      generalize wr.alloc (Obj.cells #[Value.int .i64 op, .int .i64 z, .int .i64 l, .slice va vn vc] 38) = wv at HBv ⊢
      have t0 : (0 : Int) ≤ (t10 : Int) := by omega
      have t9 : (t10 : Int) < 10 := by omega
      go_cut [] from 68 to 103 (fun wc => Hid (Rds w wc S bf G))
      case first =>
        have ht : (t3 : Int) = 0 ∨ (t3 : Int) = 1 ∨ (t3 : Int) = 2 := by omega
        rcases ht with e | e | e
        · skip
          have d1 : ((t3 : Int) == 0) = true := by simpa using e
          clear e h3
          go_wp2_with fail
          refine (g_get HBv.out t10 h10).mono ?_
          rintro r w5 ⟨⟨v1, v2, v3, rfl⟩, HZ⟩
          clear HBv
          go_wp2
          go_meet
          case rel => exact HZ
        · skip
          have d1 : ((t3 : Int) == 0) = false := by simp; omega
          have d2 : ((t3 : Int) == 1) = true := by simpa using e
          clear e h3
          go_wp2_with fail
          refine (g_pin HBv.out t10 h10).mono ?_
          rintro r w5 (⟨p, hp, rfl, y1, y2, HZ⟩ | ⟨e, rfl, he, HZ⟩)
          · have hp' : (p : Int) ≤ 100 := by omega
            have hp0 : (0 : Int) ≤ (p : Int) := by omega
            clear HBv
            go_wp2
            go_meet
            case rel => exact HZ
          · clear HBv
            go_wp2
            go_meet
            case rel => exact HZ
        · skip
          have d1 : ((t3 : Int) == 0) = false := by simp; omega
          have d2 : ((t3 : Int) == 1) = false := by simp; omega
          clear e h3
          obtain ⟨p, hp, hU⟩ := g_unpin HBv.out t10 h10
          have HU : Hid (∀ wq, Below wv.heap.size wv wq → wq.cell? ⟨G, t10, none⟩ = some (.int .i64 (p : Int))) := fun wq hq => (hU wq hq).1
          have HC : Hid (∀ wq, Below wv.heap.size wv wq → Calls Tryz.prog 20 #[.pointer (some ⟨S + 1, 0, none⟩), .int .i64 (t10 : Int)] wq fun r w' => r = .returned (.int .i64 (if p = 0 then 3 else 0)) ∧ w'.cell? ⟨G, t10, none⟩ = some (.int .i64 (p : Int)) ∧ Hid (∀ wq, Below w'.heap.size w' wq → wq.cell? ⟨G, t10, none⟩ = some (.int .i64 (p : Int)) ∧ wq.frozen? ⟨G, t10, none⟩ = false ∧ Hid (∀ u : Int, u = ((p - 1 : Nat) : Int) → Rds w (wq.setCell ⟨G, t10, none⟩ (.int .i64 u)) S bf G))) := fun wq hq => ((hU wq hq).2.2.out).mono fun r w' ⟨hr, HH⟩ => ⟨hr, (HH.out w' (Below.refl _ _)).1, fun w9 h9 => ⟨(HH.out w9 h9).1, (HH.out w9 h9).2.1, fun u hu => by rw [hu]; exact (HH.out w9 h9).2.2⟩⟩
          clear hU HBv
          have y0 := HU.out wv (Below.refl _ _)
          have q1 : Below wv.heap.size wv wv := Below.refl _ _
          have hp' : (p : Int) ≤ 100 := by omega
          have hp0 : (0 : Int) ≤ (p : Int) := by omega
          by_cases hz0 : p = 0
          · rw [if_pos hz0] at HC
            subst hz0
            go_wp2_with fail
            go_region_held3 (fun wq => wq.cell? ⟨G, t10, none⟩ = some (.int .i64 ((0 : Nat) : Int)))
              (first | exact HU.out _ (by assumption) | exact HU.out _ (blw_drewN 1 (by assumption)) | exact y5 | go_keep)
              (first
                | (go_at_call 20; refine (HC.out _ (by first | exact q1 | exact blw_drewN 1 q1)).mono ?_; rintro r w5 ⟨rfl, y5, HZ⟩))
            all_goals
              obtain ⟨z1, z2, HZ2⟩ := HZ.out _ (Below.refl _ _)
              clear HU HC HZ y0
              go_wp2
              go_meet
              case rel => exact HZ2.out _ (by first | rfl | omega | simp)
          · rw [if_neg hz0] at HC
            have hp1 : (0 : Int) < (p : Int) := by omega
            have HX9 : Hid (p ≠ 0) := hz0
            have g2 : decide (0 < p) = true := decide_eq_true (by omega)
            clear hz0
            go_wp2_with fail
            go_region_held3 (fun wq => wq.cell? ⟨G, t10, none⟩ = some (.int .i64 (p : Int)))
              (first | exact HU.out _ (by assumption) | exact HU.out _ (blw_drewN 1 (by assumption)) | exact y5 | go_keep)
              (first
                | (go_at_call 20; refine (HC.out _ (by first | exact q1 | exact blw_drewN 1 q1)).mono ?_; rintro r w5 ⟨rfl, y5, HZ⟩))
            all_goals
              obtain ⟨z1, z2, HZ2⟩ := HZ.out _ (Below.refl _ _)
              clear HU HC HZ y0
              go_wp2
              go_meet
              case rel => exact HZ2.out _ (by first | omega | (have := HX9.out; omega) | (simp; omega))
      case rest =>
        have HBc : Hid (Rds w wc S bf G) := hcut
        clear hcut HBv
        go_wp2_with fail
        refine (g_held HBc.out).mono ?_
        rintro r w5 ⟨n, a, c, n1, n5, rfl, HZ⟩
        clear HBc
        have n1' : (n : Int) ≤ (bf : Int) := by omega
        have n5' : (n : Int) ≤ 5 := by omega
        have g3 : decide (bf < n) = false := decide_eq_false (by omega)
        go_wp2_with fail
        refine (g_sort HZ.out).mono ?_
        rintro r w6 ⟨rfl, HY⟩
        clear HZ
        go_wp2_with fail
        refine (g_clone HY.out).mono ?_
        rintro r w7 ⟨a', c', rfl, HX⟩
        clear HY
        go_wp2_with fail
        refine (g_compact HX.out).mono ?_
        rintro r w8 ⟨a2, c2, rfl, HV⟩
        clear HX
        have HF : Hid (Rds w w8 S bf G ∧ ∀ i, i < 10 → ∃ p : Nat, p ≤ 100 ∧ w8.cell? ⟨G, i, none⟩ = some (.int .i64 (p : Int)) ∧ (0 < p → Calls Tryz.prog 25 #[.slice a n c, .int .i64 (i : Int)] w8 fun r w' => r = .returned (.bool true) ∧ w' = w8)) := HV.out.fin
        clear HV
        go_wp2
        go_loopw [123] (fun s wq => ∃ i : Nat, i ≤ 10 ∧ s = .int .i64 (i : Int) ∧ w8 = wq) (fun i _ => 10 - (intOf i).toNat)
        case atStart => exact ⟨0, by omega, rfl, rfl⟩
        case round =>
          obtain ⟨i, hi, rfl, rfl⟩ := hrel
          by_cases hl : i < 10
          · obtain ⟨p, hp, x1, HQ⟩ := HF.out.2 i hl
            have hl' : (i : Int) < 10 := by omega
            have hi0 : (0 : Int) ≤ (i : Int) := by omega
            by_cases hp0 : 0 < p
            · have hp1 : (0 : Int) < (p : Int) := by omega
              have HQ' : Hid (Calls Tryz.prog 25 #[.slice a n c, .int .i64 (i : Int)] w8 fun r w' => r = .returned (.bool true) ∧ w' = w8) := HQ hp0
              clear HQ
              go_wp2_with fail
              refine HQ'.out.mono ?_
              rintro r w9 ⟨rfl, hw⟩
              obtain rfl : w8 = w9 := hw.symm
              clear hw HQ'
              go_wp2
              go_roundw
              case rel => exact ⟨i + 1, by omega, by go_num, by first | trivial | rfl⟩
              case measure => simp [intOf]; omega
            · obtain rfl : p = 0 := by omega
              clear HQ
              go_wp2
              go_roundw
              case rel => first | exact ⟨i + 1, by omega, by go_num, by first | trivial | rfl⟩ | ((repeat apply Exists.intro); exact ⟨⟨i + 1, by omega, by go_num, by first | trivial | rfl⟩, rfl⟩)
              case measure => simp [intOf]; omega
          · obtain rfl : i = 10 := by omega
            go_wp2
            go_roundw
            case rel => exact ⟨k + 1, by omega, by go_num, HF.out.1⟩
            case measure => simp [intOf]; omega
    · obtain rfl : k = N := by omega
      have hge : ¬ (k : Int) < (k : Int) := by omega
      have HT : Hid (Calls Tryz.prog 18 #[.pointer (some ⟨S + 1, 0, none⟩)] wr fun r w' => r = .returned (.slice none 0 0) ∧ Below w.heap.size w w') := g_table HB.out
      clear HB
      go_wp2_with fail
      refine HT.out.mono ?_
      rintro r w4 ⟨rfl, hb⟩
      clear HT
      go_wp2
      go_ret
      exact ⟨rfl, hb⟩
