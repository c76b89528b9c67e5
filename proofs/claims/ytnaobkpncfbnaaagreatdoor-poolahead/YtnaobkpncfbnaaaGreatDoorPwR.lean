/-
  A new pool over a new disk and a new log: disk.New, log.Open, pool.New.
-/
import Derived.Test.YtnaobkpncfbnaaaGreatDoorPwQ
namespace Go.Proofs.YtnaobkpncfbnaaaGreatDoor
open Go.RowKit
set_option linter.unusedVariables false

theorem has_zero : Has (from0 (fun _ => 0) 0) 4 0 0 := by
  refine ⟨0, by decide, Taken.nil _, .inr (.inr (fun N u hr => ?_))⟩
  have h := hr.eq 0 (by decide)
  exact absurd h (by
    show ¬ ((0 : Int) = lsec 0 N u _ 0)
    unfold lsec
    rw [sec_head _ _ _ _ _ (by decide)]
    exact (by decide : ¬ ((0 : Int) = 76)))
theorem parsed_zero {f : Nat → Int} {R : List (Nat × Nat)} {size : Nat} (h : Parsed f 0 R size) : R = [] ∧ size = 0 := by
  have h1 := h.1.le
  have h2 := h.1.len
  exact ⟨List.length_eq_zero_iff.1 (by omega), by omega⟩
/-- No buffer. -/
def X0 : Nat → Bf := fun _ => ⟨0, 0, 0, 0, 0, .slice none 0 0⟩
/-- A new log over a new disk of 14 sectors: all that New asks for. -/
structure Nl (w0 w : World) (D L T : Nat) (F : Nat → Prop) (vt : Value) (e : Nat → Int) : Prop where
  sd : Sd w D F 14 0 e
  lp : Lp w L T D F 0 0 vt
  tab : Tab w
  t0 : Tab w0
  low : ∀ k, F k → w0.heap.size ≤ k
  lt : ∀ k, F k → k < w.heap.size
  lT : w0.heap.size ≤ T ∧ w0.heap.size ≤ L
  lV : ∀ k, vt.ownBlock = some k → w0.heap.size ≤ k ∧ k < w.heap.size ∧ k ≠ L
  zero : ∀ p, p < 10 → ∀ i, i < 128 → e ((4 + p) * 128 + i) = 0
  bel : Below w0.heap.size w0 w
theorem Nl.new {w0 w : World} {D L T bf : Nat} {F : Nat → Prop} {vt : Value} {e : Nat → Int} (A : Prop) (k : Nl w0 w D L T F vt e) (hb : bf ≤ 5) (o o2 : Obj) (ho : o = stO 0 D L 4 10 bf (.slice none 0 0)) (ho2 : o2 = .cells #[.pointer (some ⟨w.heap.size, 0, none⟩)] 93) : Pw w0.heap.size A ((w.alloc o).alloc o2) (fun b => F b ∨ b = T ∨ vt.ownBlock = some b ∨ b = w.heap.size) w.heap.size 0 D L bf 0 X0 0 e 0 0 (fun _ => 0) (fun _ _ => 0) ∧ Below w.heap.size w ((w.alloc o).alloc o2) := by
  subst ho ho2
  have e1 : ((w.alloc (stO 0 D L 4 10 bf (.slice none 0 0))).alloc (.cells #[.pointer (some ⟨w.heap.size, 0, none⟩)] 93)).heap[w.heap.size]? = some (stO 0 D L 4 10 bf (.slice none 0 0)) := by
    rw [((Below.refl (w.alloc (stO 0 D L 4 10 bf (.slice none 0 0))).heap.size (w.alloc (stO 0 D L 4 10 bf (.slice none 0 0)))).alloc (Nat.le_refl _) _).block w.heap.size (by simp)]
    exact heap_alloc_at _ _ _ rfl
  have e2 : ((w.alloc (stO 0 D L 4 10 bf (.slice none 0 0))).alloc (.cells #[.pointer (some ⟨w.heap.size, 0, none⟩)] 93)).heap[w.heap.size + 1]? = some (.cells #[.pointer (some ⟨w.heap.size, 0, none⟩)] 93) := heap_alloc_at _ _ _ (by simp)
  have bel : Below w.heap.size w ((w.alloc (stO 0 D L 4 10 bf (.slice none 0 0))).alloc (.cells #[.pointer (some ⟨w.heap.size, 0, none⟩)] 93)) := ((Below.refl _ w).alloc (Nat.le_refl _) _).trans ((Below.refl _ _).alloc (by simp) _)
  have hsz : ((w.alloc (stO 0 D L 4 10 bf (.slice none 0 0))).alloc (.cells #[.pointer (some ⟨w.heap.size, 0, none⟩)] 93)).heap.size = w.heap.size + 1 + 1 := by simp
  obtain ⟨q, place, tl, f, g1, g2, _⟩ := k.lp.lay
  have hL := (Array.getElem?_eq_some_iff.1 g1.hL).1
  have hT := (Array.getElem?_eq_some_iff.1 g1.hT).1
  have htl := k.tab.lt
  have hpz : ∀ p, p < 10 → Pgs e p 0 (fun _ => 0) := fun p hp => .inl ⟨rfl, k.zero p hp, fun _ _ => rfl⟩
  have ht0 := k.t0.lt
  refine ⟨⟨⟨⟨_, e1, ⟨rfl, .inl ⟨rfl, rfl⟩⟩⟩, fun j hj => absurd hj (by omega), fun i j hi => absurd hi (by omega), by omega, k.bel.size⟩, ⟨T, F, vt, k.sd.below bel, k.lp.part (G := fun _ => False) (Part.ofBelow bel) id id (fun _ _ h => h), fun b h => .inl h, .inr (.inl rfl), fun b h => .inr (.inr (.inl h))⟩, .inr (.inr (.inr rfl)), k.tab.below bel (Nat.le_refl _), ⟨?_, ?_, ?_⟩, fun b hb => ?_, e2, fun j hj => absurd hj (by omega), fun j b hj => absurd hj (by omega), fun j hj => absurd hj (by omega), fun p hp _ => hpz p hp, fun i j hi => absurd hi (by omega), fun p i => ⟨Int.le_refl _, by decide⟩, fun p => by decide, fun p hp => ⟨0, _, hpz p hp, fun _ => Nat.le_refl _⟩, fun _ p => Nat.le_refl _, ⟨by omega, hb⟩, fun j hj => absurd hj (by omega), ht0⟩, bel⟩
  · rintro (h | h | h | h)
    · have := k.low _ h; omega
    · have := k.lT.1; omega
    · have := (k.lV _ h).1; omega
    · omega
  · rintro (h | h | h | h)
    · have := k.lt _ h; omega
    · omega
    · have := (k.lV _ h).2.1; omega
    · omega
  · rintro (h | h | h | h)
    · exact k.lp.nL h
    · exact k.lp.ne h
    · exact (k.lV _ h).2.2 rfl
    · omega
  · rw [hsz]
    rcases hb with h | h | h | h
    · have := k.lt _ h; omega
    · omega
    · have := (k.lV _ h).2.1; omega
    · omega
/-- disk.New(14). -/
theorem n_disk (w0 : World) (ht : Tab w0) : Calls Tryz.prog 6 #[.int .i64 14] w0 fun r w' => ∃ D, r = .returned (.tuple #[.pointer (some ⟨D, 0, none⟩), .int .i64 0]) ∧ Hid (Sd w' D (fun k => w0.heap.size ≤ k ∧ k < w'.heap.size) 14 0 (fun _ => 0) ∧ Below w0.heap.size w0 w' ∧ Tab w' ∧ Tab w0) :=
  (dkNew 14 (by decide) (by decide) w0).mono fun r w' ⟨D, hr, hd, hb⟩ => ⟨D, hr, hd.sd, hb, ht.below hb (Nat.le_refl _), ht⟩
/-- log.Open over it. -/
theorem n_log {w0 w : World} {D : Nat} (h : Sd w D (fun k => w0.heap.size ≤ k ∧ k < w.heap.size) 14 0 (fun _ => 0) ∧ Below w0.heap.size w0 w ∧ Tab w ∧ Tab w0) : Calls Tryz.prog 7 #[.pointer (some ⟨D, 0, none⟩), .int .i64 0, .int .i64 4] w fun r w' => ∃ L v, r = .returned (.tuple #[.pointer (some ⟨L, 0, none⟩), v, .int .i64 0]) ∧ Hid (∃ T F vt e, Nl w0 w' D L T F vt e) := by
  obtain ⟨hs, hb, ht, ht0⟩ := h
  have l0 := ht0.lt
  have hbs := hb.size
  refine (openL D 14 0 4 _ (fun _ => 0) w hs (by decide) (by decide) ht (fun h => by omega)).mono fun r w' ⟨L, v, first, tot, size, R, hr, ho⟩ => ⟨L, v, hr, ?_⟩
  obtain ⟨rfl, rfl⟩ := ho.has.uniq has_zero
  obtain ⟨rfl, rfl⟩ := parsed_zero ho.prs
  obtain ⟨T, vt, Ar, C, e', p, q, k1, k2, k3, k4, _, _, _, k5, k6, k7, k8, k9, k10⟩ := ho.lay
  have hpt := ho.part
  have hFw : ∀ k, ((w0.heap.size ≤ k ∧ k < w.heap.size) ∨ (p ≤ k ∧ k < q)) → w0.heap.size ≤ k ∧ k < q := fun k h => by omega
  have hT := (Array.getElem?_eq_some_iff.1 k1.hT).1
  have hL := (Array.getElem?_eq_some_iff.1 k1.hL).1
  refine ⟨T, _, vt, e', k3, ⟨⟨q, 0, 0, _, k1, k2, fun i => ⟨Int.le_refl _, show (0 : Int) ≤ 255 by decide⟩, by decide, fun h => absurd rfl h⟩, k9, fun h => by have := (hFw _ h).2; omega, fun h => by have := (hFw _ h).2; omega, fun b hb' h => ?_, Nat.le_refl _⟩, ht.partG hpt (fun h => by omega), ht0, fun b h => (hFw b h).1, fun b h => by have := (hFw b h).2; omega, ⟨by omega, by omega⟩, fun b hb' => ?_, fun p hp i hi => ?_, hb.trans (hpt.below (fun b h => h.1) hbs)⟩
  · have := (World.ownsRow.lt k2 _ hb').1
    have := (hFw _ h).2
    omega
  · have := World.ownsRow.lt k2 _ hb'
    exact ⟨by omega, by omega, (k10 b hb').1⟩
  · exact k4.2 _ (.inr (by omega))
set_option maxRecDepth 100000 in
set_option maxHeartbeats 2000000 in
/-- pool.New over both. -/
theorem n_pool (A : Prop) {w0 w : World} {D L bf : Nat} (h : ∃ T F vt e, Nl w0 w D L T F vt e) (h1 : 1 ≤ bf) (h5 : bf ≤ 5) : Calls Tryz.prog 8 #[.pointer (some ⟨D, 0, none⟩), .pointer (some ⟨L, 0, none⟩), .int .i64 4, .int .i64 10, .int .i64 (bf : Int)] w fun r w' => ∃ S, r = .returned (.tuple #[.pointer (some ⟨S + 1, 0, none⟩), .int .i64 0]) ∧ Hid (∃ P e, Pw w0.heap.size A w' P S 0 D L bf 0 X0 0 e 0 0 (fun _ => 0) (fun _ _ => 0) ∧ (∀ b, P b → w0.heap.size ≤ b) ∧ w0.heap.size ≤ S ∧ Below w0.heap.size w0 w') := by
  obtain ⟨T, F, vt, e, k⟩ := h
  have HS : Hid (Calls Tryz.prog 30 #[.pointer (some ⟨D, 0, none⟩)] w fun e w' => e = .returned (.int .i64 14) ∧ w' = w) := sdSectors D 14 0 F e w k.sd
  have HL : Hid (Calls Tryz.prog 35 #[.pointer (some ⟨L, 0, none⟩)] w fun r w' => r = .returned (.int .i64 1) ∧ w' = w) := by
    obtain ⟨q, place, tl, f, g1, _⟩ := k.lp.lay
    exact lFirst L T 1 w (by rw [cells_at g1.hL 0]; rfl) (by rw [cells_at g1.hT 3]; rfl)
  have HN : Hid (∀ o o2, o = stO 0 D L 4 10 bf (.slice none 0 0) → o2 = Obj.cells #[.pointer (some ⟨w.heap.size, 0, none⟩)] 93 → ∃ P e, Pw w0.heap.size A ((w.alloc o).alloc o2) P w.heap.size 0 D L bf 0 X0 0 e 0 0 (fun _ => 0) (fun _ _ => 0) ∧ (∀ b, P b → w0.heap.size ≤ b) ∧ w0.heap.size ≤ w.heap.size ∧ Below w0.heap.size w0 ((w.alloc o).alloc o2)) := fun o o2 ho ho2 => by
    obtain ⟨j1, j2⟩ := k.new A h5 o o2 ho ho2
    have hs := k.bel.size
    refine ⟨_, e, j1, ?_, hs, k.bel.trans (j2.mono hs)⟩
    rintro b (h | h | h | h)
    · exact k.low b h
    · have := k.lT.1; omega
    · exact (k.lV b h).1
    · omega
  have d1 : decide ((bf : Int) < 1) = false := decide_eq_false (by omega)
  have d2 : decide ((64 : Int) < (bf : Int)) = false := decide_eq_false (by omega)
  clear k
  go_enter Tryz.func8, Tryz.ntmps8
  go_wp2_with fail
  refine HS.out.mono ?_
  rintro r w1 ⟨rfl, hw⟩
  obtain rfl : w = w1 := hw.symm
  clear hw
  go_wp2_with fail
  refine HL.out.mono ?_
  rintro r w1 ⟨rfl, hw⟩
  obtain rfl : w = w1 := hw.symm
  clear hw
  go_wp2_with fail
  refine HS.out.mono ?_
  rintro r w1 ⟨rfl, hw⟩
  obtain rfl : w = w1 := hw.symm
  clear hw
  go_wp2
  go_ret2
  exact ⟨w.heap.size, by simp, HN.out _ _ rfl rfl⟩
end Go.Proofs.YtnaobkpncfbnaaaGreatDoor
