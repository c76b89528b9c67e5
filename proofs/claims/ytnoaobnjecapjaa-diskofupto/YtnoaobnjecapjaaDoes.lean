/-
  Contract of does: a call on both disks.
-/
import Derived.Test.YtnoaobnjecapjaaDoes1
import Derived.Deep.RegionHeld
namespace Go.Proofs.Ytnoaobnjecapjaa
open Go.RowKit
set_option linter.unusedVariables false

theorem mod5_ex (z : Int) : ∃ t : Nat, t < 5 ∧ IntKind.i64.wrap ((IntKind.u64.wrap z).tmod 5) = (t : Int) := by
  rw [IntKind.wrap_u64, Int.tmod_eq_emod_of_nonneg (Int.emod_nonneg _ (by decide))]
  have a := Int.emod_nonneg (z % 18446744073709551616) (show (5 : Int) ≠ 0 by omega)
  have b := Int.emod_lt_of_pos (z % 18446744073709551616) (show (0 : Int) < 5 by omega)
  obtain ⟨t, ht⟩ := Int.eq_ofNat_of_zero_le a
  rw [ht] at b ⊢
  exact ⟨t, by omega, by rw [IntKind.wrap_i64]; omega⟩
/-- What was handed in, in no block of P. -/
structure Asked (w : World) (P : Nat → Prop) (a : Option Addr) (l c : Nat) (f : Nat → Int) (ak : Option Addr) (K ck : Nat) (kf : Nat → Int) : Prop where
  fb : From w a l f
  by_ : ∀ j, 0 ≤ f j ∧ f j ≤ 255
  lb : l ≤ 1048576
  nb : a = none → c = 0
  lo : ∀ x, a = some x → 0 < l → ¬ P x.block
  fk : FromI w ak K kf
  kr : ∀ j, j < K → -9223372036854775808 ≤ kf j ∧ kf j ≤ 9223372036854775807
  kb : K ≤ 1048576
  nk : ak = none → K = 0 ∧ ck = 0
  lk : ∀ x, ak = some x → 0 < K → ¬ P x.block
theorem Mid.start {w w2 : World} {P : Nat → Prop} {D X n M : Nat} (h : Mid w P D X n M w) (hb : Below w.heap.size w w2) : Mid w2 P D X n M w2 := by
  obtain ⟨hp, F, G, dur, m, tf, ld, h1, h2, h3, h4, h5⟩ := h
  have lF := h1.lt
  have lG := h2.lt
  refine ⟨Part.refl _ _, F, G, dur, m, tf, ld, h1.below hb, h2.below hb, h3, fun k hk => ?_, h5⟩
  rcases h4 k hk with a | a
  · exact .inl a
  · rcases hk with b | b
    · have := lF k b; omega
    · have := lG k b; omega

set_option maxRecDepth 100000 in
set_option maxHeartbeats 4000000 in
theorem does_ok (D X n M : Nat) (P : Nat → Prop) (op I : Int) (a : Option Addr) (l c : Nat) (f : Nat → Int) (ak : Option Addr) (K ck : Nat) (kf : Nat → Int) (w : World) (h : Mid w P D X n M w) (hP : ∀ k, P k → k < w.heap.size) (hq : Asked w P a l c f ak K ck kf) (hM : M ≤ 549755813886) :
    Calls Try.prog 6 #[.pointer (some ⟨D, 0, none⟩), .pointer (some ⟨X, 0, none⟩), .agg #[.int .i64 op, .int .i64 I, .slice a l c, .slice ak K ck]] w fun e w' => e = .returned (.bool true) ∧ Mid w P D X n (M + 1) w' := by
  obtain ⟨q, hq5, hqe⟩ := mod5_ex op
  obtain ⟨ob, hO⟩ : ∃ ob, Obj.cells #[.int .i64 op, .int .i64 I, .slice a l c, .slice ak K ck] 30 = ob := ⟨_, rfl⟩
  have hbo : Below w.heap.size w (w.alloc ob).drew := ((Below.refl _ w).alloc (Nat.le_refl _) ob).drew
  have hsz : (w.alloc ob).drew.heap.size = w.heap.size + 1 := by simp
  have nP : ¬ P w.heap.size := fun hh => by have := hP _ hh; omega
  have ok1 := hq.lb
  have ok2 := hq.kb
  have HS : Hid (∀ wq, Part P (w.alloc ob).drew wq → wq.cell? ⟨w.heap.size, 0, none⟩ = some (.int .i64 op) ∧ wq.cell? ⟨w.heap.size, 1, none⟩ = some (.int .i64 I) ∧ wq.cell? ⟨w.heap.size, 2, none⟩ = some (.slice a l c) ∧ wq.cell? ⟨w.heap.size, 3, none⟩ = some (.slice ak K ck)) := fun wq hq => by
    have key : ∀ i v, (w.alloc ob).cell? ⟨w.heap.size, i, none⟩ = some v → wq.cell? ⟨w.heap.size, i, none⟩ = some v := fun i v hv => hq.cell (p := ⟨w.heap.size, i, none⟩) nP hv
    refine ⟨key 0 _ ?_, key 1 _ ?_, key 2 _ ?_, key 3 _ ?_⟩ <;> (rw [← hO, World.cell?_alloc_at _ _ _ _ rfl]; rfl)
  have HF : Hid (∀ wq, Part P (w.alloc ob).drew wq → From wq a l f ∧ FromI wq ak K kf) := fun wq hp => ⟨hp.fromG (hq.fb.below hbo (Nat.le_refl _)) hq.lo, hp.fromI (hq.fk.below hbo (Nat.le_refl _)) hq.lk⟩
  have k0 : Part P (w.alloc ob).drew (w.alloc ob).drew := Part.refl _ _
  have HC1 : Hid (∀ wq, Part P (w.alloc ob).drew wq → Calls Try.prog 13 #[.slice a l c] wq fun e w' => ∃ ag cg, e = .returned (.slice ag l cg) ∧ Hid (Own w' wq.heap.size (.slice ag l cg) (lst f l) ∧ Below wq.heap.size wq w') ∧ Part P (w.alloc ob).drew w') := fun wq hp => by
    refine (clone a l c f wq (by omega) (HF.out wq hp).1).mono ?_
    rintro e w' ⟨v', rfl, ho, hb⟩
    obtain ⟨ag, cg, rfl, _⟩ := own_any ho
    exact ⟨ag, cg, rfl, ⟨ho, hb⟩, hp.trans (Part.ofBelow (F := fun _ => False) hb) (fun _ _ h => h.elim)⟩
  have HC2 : Hid (∀ wq, Part P (w.alloc ob).drew wq → Calls Try.prog 14 #[.slice ak K ck] wq fun e w' => ∃ ae ce, e = .returned (.slice ae K ce) ∧ Hid (OwnI w' wq.heap.size (.slice ae K ce) (lst kf K) ∧ Below wq.heap.size wq w') ∧ Part P (w.alloc ob).drew w') := fun wq hp => by
    refine (cloneF ak K ck kf wq (by omega) (HF.out wq hp).2 hq.nk).mono ?_
    rintro e w' ⟨ae, ce, rfl, ho, hb⟩
    exact ⟨ae, ce, rfl, ⟨ho, hb⟩, hp.trans (Part.ofBelow (F := fun _ => False) hb) (fun _ _ h => h.elim)⟩
  have HG : Hid (∀ (w1 w2 : World) (ag ae : Option Addr) (cg ce : Nat), (Own w1 (w.alloc ob).drew.heap.size (.slice ag l cg) (lst f l) ∧ Below (w.alloc ob).drew.heap.size (w.alloc ob).drew w1) → (OwnI w2 w1.heap.size (.slice ae K ce) (lst kf K) ∧ Below w1.heap.size w1 w2) →
      Mid w2 P D X n M w2 ∧ (∀ wq, Part P w2 wq → Part P (w.alloc ob).drew wq) ∧ (∀ wq, Part P w2 wq → From wq ag l f) ∧ (∀ wq, Part P w2 wq → FromI wq ae K kf) ∧ (∀ x, ag = some x → x.spot = none ∧ ¬ P x.block ∧ x.block < w2.heap.size) ∧
      (∀ wq, Mid w2 P D X n (M + 1) wq → Calls Try.prog 20 #[.slice ag l cg] wq fun e w' => e = .returned (.tuple #[]) ∧ Mid w P D X n (M + 1) w')) := fun w1 w2 ag ae cg ce h1 h2 => by
    have s1 := h1.2.size
    have s2 := h2.2.size
    have b12 : Below w.heap.size w w2 := (hbo.trans (h1.2.mono (by omega))).trans (h2.2.mono (by omega))
    have ho := h1.1.below h2.2 (Nat.le_refl _)
    have hlt := World.ownsRow.lt ho
    have nown : ∀ k, (Value.slice ag l cg).ownBlock = some k → ¬ P k := fun k hk hh => by have := hP k hh; have := (hlt k hk).1; omega
    refine ⟨h.start b12, fun wq hp => ?_, fun wq hp => ?_, fun wq hp => ?_, fun x hx => ?_, fun wq hm => ?_⟩
    · exact (((Part.refl P _).trans (Part.ofBelow (F := fun _ => False) h1.2) (fun _ _ h => h.elim)).trans (Part.ofBelow (F := fun _ => False) h2.2) (fun _ _ h => h.elim)).trans hp (fun _ _ h => h)
    · obtain ⟨a9, c9, e9, hf9, _⟩ := own_any (n := l) (f := f) (hp.row ho nown)
      cases e9
      exact hf9
    · refine OwnI.fromI2 (hp.row h2.1 (fun k hk hh => ?_))
      have := hP k hh; have := (World.ownsRow.lt h2.1 k hk).1; omega
    · have h9 := ho.2
      rw [lst_length] at h9
      rcases h9 with ⟨e, _⟩ | ⟨g, cap, cur, e, _⟩
      · cases e; cases hx
      · cases e
        cases hx
        exact ⟨rfl, nown g rfl, (hlt g rfl).2⟩
    · refine (spoilF (.slice ag l cg) _ l f wq (hm.1.row ho nown) (by omega)).mono ?_
      rintro e w' ⟨rfl, hp⟩
      refine ⟨rfl, ?_⟩
      obtain ⟨hp0, F, G, dur, m, tf, ld, k1, k2, k3, k4, k5⟩ := hm
      have nFG : ∀ k, F k ∨ G k → (Value.slice ag l cg).ownBlock ≠ some k := fun k hk he => by
        rcases k4 k hk with b | b
        · exact nown k he b
        · have := (hlt k he).2; omega
      have hpw : Part P w wq := (Part.ofBelow (F := fun _ => False) b12 |>.mono (fun _ _ h => h.elim)).trans hp0 (fun _ _ h => h)
      refine ⟨hpw.trans hp (fun k hk he => ?_), F, G, dur, m, tf, ld, k1.part hp (fun k hk => nFG k (.inl hk)), k2.part hp (fun k hk => nFG k (.inr hk)), k3, fun k hk => ?_, k5⟩
      · have := (hlt k he).1; omega
      · rcases k4 k hk with b | b
        · exact .inl b
        · exact .inr (by omega)
  have HQ : Hid ((a = none → c = 0) ∧ (∀ j, 0 ≤ f j ∧ f j ≤ 255) ∧ ∀ j, j < K → -9223372036854775808 ≤ kf j ∧ kf j ≤ 9223372036854775807) := ⟨hq.nb, hq.by_, hq.kr⟩
  clear hbo h hq nP hsz hP
  go_enter Try.func6, Try.ntmps6
  go_wp2_with fail
  try rw [hO]
  go_region_held (fun wq => wq.cell? ⟨w.heap.size, 0, none⟩ = some (.int .i64 op) ∧ wq.cell? ⟨w.heap.size, 1, none⟩ = some (.int .i64 I) ∧ wq.cell? ⟨w.heap.size, 2, none⟩ = some (.slice a l c) ∧ wq.cell? ⟨w.heap.size, 3, none⟩ = some (.slice ak K ck))
    (first | exact HS.out _ (by assumption) | go_keep)
    (first
      | (go_at_call 13; refine (HC1.out _ k0).mono ?_; rintro e' w1 ⟨ag, cg, rfl, R1, k1⟩)
      | (go_at_call 14; refine (HC2.out _ k1).mono ?_; rintro e' w2 ⟨ae, ce, rfl, R2, k2⟩))
  have HR := HG.out w1 w2 ag ae cg ce R1.out R2.out
  have HPW : Hid (∀ wq, Part P w2 wq → Part P (w.alloc ob).drew wq) := HR.2.1
  have HW : Hid (∀ wq, Below w2.heap.size w2 wq → Calls Try.prog 15 #[.pointer (some ⟨D, 0, none⟩), .int .i64 I, .slice ag l cg] wq fun e w' => ∃ r, e = .returned (.int .i64 r) ∧ Part P (w.alloc ob).drew w' ∧ Hid (Calls Try.prog 16 #[.pointer (some ⟨X, 0, none⟩), .int .i64 I, .slice a l c] w' fun e w'' => e = .returned (.int .i64 r) ∧ Part P (w.alloc ob).drew w'' ∧ Hid (Mid w2 P D X n (M + 1) w''))) := fun wq hb => by
    refine (armWrite hM HR.2.2.1 (fun wq hp => (HF.out wq (HPW.out wq hp)).1) HQ.out.1 HQ.out.2.1 HR.2.2.2.2.1 wq (HR.1.below hb)).mono ?_
    rintro e w' ⟨r, rfl, hp, hc⟩
    refine ⟨r, rfl, HPW.out _ hp, hc.out.mono ?_⟩
    rintro e w'' ⟨rfl, hm⟩
    exact ⟨rfl, HPW.out _ hm.out.1, hm⟩
  have HFl : Hid (∀ wq, Below w2.heap.size w2 wq → Calls Try.prog 21 #[.pointer (some ⟨D, 0, none⟩)] wq fun e w' => ∃ r, e = .returned (.int .i64 r) ∧ Part P (w.alloc ob).drew w' ∧ Hid (Calls Try.prog 22 #[.pointer (some ⟨X, 0, none⟩)] w' fun e w'' => e = .returned (.int .i64 r) ∧ Part P (w.alloc ob).drew w'' ∧ Hid (Mid w2 P D X n (M + 1) w''))) := fun wq hb => by
    refine (armFlush hM wq (HR.1.below hb)).mono ?_
    rintro e w' ⟨r, rfl, hp, hc⟩
    refine ⟨r, rfl, HPW.out _ hp, hc.out.mono ?_⟩
    rintro e w'' ⟨rfl, hm⟩
    exact ⟨rfl, HPW.out _ hm.out.1, hm⟩
  have HCr : Hid (∀ wq, Below w2.heap.size w2 wq → Calls Try.prog 23 #[.pointer (some ⟨D, 0, none⟩), .slice ae K ce] wq fun e w' => ∃ r, e = .returned (.int .i64 r) ∧ Part P (w.alloc ob).drew w' ∧ Hid (Calls Try.prog 24 #[.pointer (some ⟨X, 0, none⟩), .slice ak K ck] w' fun e w'' => e = .returned (.int .i64 r) ∧ Part P (w.alloc ob).drew w'' ∧ Hid (Mid w2 P D X n (M + 1) w''))) := fun wq hb => by
    have hK9 : K ≤ 9223372036854775807 := by omega
    have t1 := armCrash (ck := ck) (ce := ce) hM hK9 HR.2.2.2.1 (fun wq hp => (HF.out wq (HPW.out wq hp)).2) HQ.out.2.2 wq (HR.1.below hb)
    refine t1.mono ?_
    rintro e w' ⟨r, rfl, hp, hc⟩
    refine ⟨r, rfl, HPW.out _ hp, hc.out.mono ?_⟩
    rintro e w'' ⟨rfl, hm⟩
    exact ⟨rfl, HPW.out _ hm.out.1, hm⟩
  have HRd : Hid (∀ wq, Below w2.heap.size w2 wq → Calls Try.prog 17 #[.pointer (some ⟨D, 0, none⟩), .int .i64 I] wq fun e w' => ∃ ar N cr g r, e = .returned (.tuple #[.slice ar N cr, .int .i64 r]) ∧ Part P (w.alloc ob).drew w' ∧
      Hid (Calls Try.prog 18 #[.pointer (some ⟨X, 0, none⟩), .int .i64 I] w' fun e w'' => ∃ at_ cs, e = .returned (.tuple #[.slice at_ N cs, .int .i64 r]) ∧ Part P (w.alloc ob).drew w'' ∧
        Hid (Calls Try.prog 19 #[.slice ar N cr, .slice at_ N cs] w'' fun e w3 => e = .returned (.bool true) ∧ w3 = w'' ) ∧
        Hid (Calls Try.prog 20 #[.slice ar N cr] w'' fun e w3 => e = .returned (.tuple #[]) ∧ Part P (w.alloc ob).drew w3 ∧ Hid (Mid w2 P D X n (M + 1) w3)))) := fun wq hb => by
    refine (armRead hM wq (HR.1.below hb)).mono ?_
    rintro e w' ⟨ar, N, cr, g, r, rfl, hN, hp, hc⟩
    refine ⟨ar, N, cr, g, r, rfl, HPW.out _ hp, hc.out.mono ?_⟩
    rintro e w'' ⟨at_, cs, rfl, hm⟩
    obtain ⟨m1, m2, m3, m4, m5⟩ := hm.out
    refine ⟨at_, cs, rfl, HPW.out _ m1, equal_yes ar at_ N cr N cs g g w'' m4 m2 rfl, ?_⟩
    refine (spoilF (.slice ar N cr) _ N g w'' m3 (by omega)).mono ?_
    rintro e w3 ⟨rfl, hp3⟩
    exact ⟨rfl, HPW.out _ (m5 w3 hp3).1, m5 w3 hp3⟩
  have HE1 : Hid (∀ wq, Part P (w.alloc ob).drew wq → Mid w2 P D X n (M + 1) wq → Calls Try.prog 19 #[.slice ag l cg, .slice a l c] wq fun e w' => e = .returned (.bool true) ∧ w' = wq) := fun wq hp hm => equal_yes ag a l cg l c f f wq (HR.2.2.1 wq hm.1) (HF.out wq hp).1 rfl
  have HE2 : Hid (∀ wq, Part P (w.alloc ob).drew wq → Mid w2 P D X n (M + 1) wq → Calls Try.prog 25 #[.slice ae K ce, .slice ak K ck] wq fun e w' => e = .returned (.bool true) ∧ Part P (w.alloc ob).drew w' ∧ Hid (Calls Try.prog 20 #[.slice ag l cg] w' fun e w'' => e = .returned (.tuple #[]) ∧ Hid (Mid w P D X n (M + 1) w''))) := fun wq hp hm => by
    refine (equalI ae ak K ce ck kf wq (by omega) (HR.2.2.2.1 wq hm.1) (HF.out wq hp).2).mono ?_
    rintro e w' ⟨rfl, hb⟩
    exact ⟨rfl, HPW.out _ (hm.below hb).1, (HR.2.2.2.2.2 w' (hm.below hb)).mono fun e w'' h => h⟩
  clear HR HG HC1 HC2 HF HQ R1 R2 HPW k0
  have hbD : Below w2.heap.size w2 w2.drew := (Below.refl _ w2).drew
  have hb0 : Below w2.heap.size w2 w2 := Below.refl _ w2
  go_wp2_with fail
  · go_region_held (fun wq => wq.cell? ⟨w.heap.size, 0, none⟩ = some (.int .i64 op) ∧ wq.cell? ⟨w.heap.size, 1, none⟩ = some (.int .i64 I) ∧ wq.cell? ⟨w.heap.size, 2, none⟩ = some (.slice a l c) ∧ wq.cell? ⟨w.heap.size, 3, none⟩ = some (.slice ak K ck))
      (first | exact HS.out _ (by assumption) | go_keep)
      (first
        | (go_at_call 15; refine (HW.out _ hbD).mono ?_; rintro e' w3 ⟨r, rfl, k3, R3⟩)
        | (go_at_call 16; refine R3.out.mono ?_; rintro e' w4 ⟨rfl, k4, R4⟩))
    obtain ⟨x0, x1, x2, x3⟩ := HS.out w4 k4
    go_wp2_with fail
    refine (HE1.out _ k4 R4.out).mono ?_
    rintro e' w5 ⟨rfl, rfl⟩
    go_wp2_with fail
    refine (HE2.out _ k4 R4.out).mono ?_
    rintro e' w6 ⟨rfl, k6, R6⟩
    obtain ⟨u0, u1, u2, u3⟩ := HS.out w6 k6
    go_wp2_with fail
    refine R6.out.mono ?_
    rintro e' w7 ⟨rfl, R7⟩
    go_wp2
    go_ret
    exact ⟨rfl, R7.out⟩
  · go_region_held (fun wq => wq.cell? ⟨w.heap.size, 0, none⟩ = some (.int .i64 op) ∧ wq.cell? ⟨w.heap.size, 1, none⟩ = some (.int .i64 I) ∧ wq.cell? ⟨w.heap.size, 2, none⟩ = some (.slice a l c) ∧ wq.cell? ⟨w.heap.size, 3, none⟩ = some (.slice ak K ck))
      (first | exact HS.out _ (by assumption) | go_keep)
      (first
        | (go_at_call 15; refine (HW.out _ hbD).mono ?_; rintro e' w3 ⟨r, rfl, k3, R3⟩)
        | (go_at_call 16; refine R3.out.mono ?_; rintro e' w4 ⟨rfl, k4, R4⟩))
    obtain ⟨x0, x1, x2, x3⟩ := HS.out w4 k4
    go_wp2_with fail
    refine (HE1.out _ k4 R4.out).mono ?_
    rintro e' w5 ⟨rfl, rfl⟩
    go_wp2_with fail
    refine (HE2.out _ k4 R4.out).mono ?_
    rintro e' w6 ⟨rfl, k6, R6⟩
    obtain ⟨u0, u1, u2, u3⟩ := HS.out w6 k6
    go_wp2_with fail
    refine R6.out.mono ?_
    rintro e' w7 ⟨rfl, R7⟩
    go_wp2
    go_ret
    exact ⟨rfl, R7.out⟩
  · refine (HRd.out _ hb0).mono ?_
    rintro e' w3 ⟨ar, Nr, cr, gr, r, rfl, k3, R3⟩
    obtain ⟨y0, y1, y2, y3⟩ := HS.out w3 k3
    go_wp2_with fail
    refine R3.out.mono ?_
    rintro e' w3b ⟨at_, cs, rfl, k3b, R3b, R3c⟩
    obtain ⟨z0, z1, z2, z3⟩ := HS.out w3b k3b
    go_wp2_with fail
    refine R3b.out.mono ?_
    rintro e' w3d ⟨rfl, rfl⟩
    go_wp2_with fail
    refine R3c.out.mono ?_
    rintro e' w4 ⟨rfl, k4, R4⟩
    obtain ⟨x0, x1, x2, x3⟩ := HS.out w4 k4
    go_wp2_with fail
    refine (HE1.out _ k4 R4.out).mono ?_
    rintro e' w5 ⟨rfl, rfl⟩
    go_wp2_with fail
    refine (HE2.out _ k4 R4.out).mono ?_
    rintro e' w6 ⟨rfl, k6, R6⟩
    obtain ⟨u0, u1, u2, u3⟩ := HS.out w6 k6
    go_wp2_with fail
    refine R6.out.mono ?_
    rintro e' w7 ⟨rfl, R7⟩
    go_wp2
    go_ret
    exact ⟨rfl, R7.out⟩
  · refine (HFl.out _ hb0).mono ?_
    rintro e' w3 ⟨r, rfl, k3, R3⟩
    obtain ⟨y0, y1, y2, y3⟩ := HS.out w3 k3
    go_wp2_with fail
    refine R3.out.mono ?_
    rintro e' w4 ⟨rfl, k4, R4⟩
    obtain ⟨x0, x1, x2, x3⟩ := HS.out w4 k4
    go_wp2_with fail
    refine (HE1.out _ k4 R4.out).mono ?_
    rintro e' w5 ⟨rfl, rfl⟩
    go_wp2_with fail
    refine (HE2.out _ k4 R4.out).mono ?_
    rintro e' w6 ⟨rfl, k6, R6⟩
    obtain ⟨u0, u1, u2, u3⟩ := HS.out w6 k6
    go_wp2_with fail
    refine R6.out.mono ?_
    rintro e' w7 ⟨rfl, R7⟩
    go_wp2
    go_ret
    exact ⟨rfl, R7.out⟩
  · go_region_held (fun wq => wq.cell? ⟨w.heap.size, 0, none⟩ = some (.int .i64 op) ∧ wq.cell? ⟨w.heap.size, 1, none⟩ = some (.int .i64 I) ∧ wq.cell? ⟨w.heap.size, 2, none⟩ = some (.slice a l c) ∧ wq.cell? ⟨w.heap.size, 3, none⟩ = some (.slice ak K ck))
      (first | exact HS.out _ (by assumption) | go_keep)
      (first
        | (go_at_call 23; refine (HCr.out _ hbD).mono ?_; rintro e' w3 ⟨r, rfl, k3, R3⟩)
        | (go_at_call 24; refine R3.out.mono ?_; rintro e' w4 ⟨rfl, k4, R4⟩))
    obtain ⟨x0, x1, x2, x3⟩ := HS.out w4 k4
    go_wp2_with fail
    refine (HE1.out _ k4 R4.out).mono ?_
    rintro e' w5 ⟨rfl, rfl⟩
    go_wp2_with fail
    refine (HE2.out _ k4 R4.out).mono ?_
    rintro e' w6 ⟨rfl, k6, R6⟩
    obtain ⟨u0, u1, u2, u3⟩ := HS.out w6 k6
    go_wp2_with fail
    refine R6.out.mono ?_
    rintro e' w7 ⟨rfl, R7⟩
    go_wp2
    go_ret
    exact ⟨rfl, R7.out⟩
end Go.Proofs.Ytnoaobnjecapjaa
