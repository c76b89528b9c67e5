/-
  A disk by what its reads tell (Sd): contracts of Read, Write, Flush, Copy, and of a log's area over it. Conditions: the sectors are the disk's; at most some thousand writes pend.
-/
import Derived.Test.YthfokciijcmhbaaGreatDoorGag
import Derived.Test.YthfokciijcmhbaaGreatDoorGah
import Derived.Test.YthfokciijcmhbaaGreatDoorGai
import Derived.Test.YthfokciijcmhbaaGreatDoorGak
namespace Go.Proofs.YthfokciijcmhbaaGreatDoor
open Go.RowKit
set_option linter.unusedVariables false

theorem setl_seen (dur : Nat → Int) (tf : Nat → Nat) (ld : Nat → Int) (p i : Nat) (hi : i < 128) : ∀ m, setl dur tf ld (fun _ => true) m (p * 128 + i) = seen dur m tf ld p i
  | 0 => by rw [seen0]; rfl
  | m + 1 => by
    rw [setl, if_pos rfl]
    unfold ov
    by_cases e : tf m = p
    · rw [if_pos (by omega), e, show p * 128 + i - p * 128 = i by omega]
      unfold seen
      rw [lastAt, if_pos e, if_neg (by omega), show (((m + 1 : Nat) : Int) - 1).toNat = m by omega]
    · rw [if_neg (by omega), setl_seen dur tf ld p i hi m]
      unfold seen
      rw [lastAt, if_neg e]
theorem seen_write (dur : Nat → Int) (tf : Nat → Nat) (ld f : Nat → Int) (m t p i : Nat) (hi : i < 128) : seen dur (m + 1) (fun j => if j = m then t else tf j) (fun k => if k < m * 128 then ld k else f (k - m * 128)) p i = if p = t then f i else seen dur m tf ld p i := by
  by_cases e : p = t
  · subst e
    rw [if_pos rfl]
    have hl : lastAt (fun j => if j = m then p else tf j) (m + 1) p = ((m + 1 : Nat) : Int) := by rw [lastAt, if_pos (by simp)]
    unfold seen
    rw [hl, if_neg (by omega), show (((m + 1 : Nat) : Int) - 1).toNat = m by omega]
    show (if m * 128 + i < m * 128 then ld (m * 128 + i) else f (m * 128 + i - m * 128)) = f i
    rw [if_neg (by omega), show m * 128 + i - m * 128 = i by omega]
  · rw [if_neg e]
    have hl : lastAt (fun j => if j = m then t else tf j) (m + 1) p = lastAt tf m p := by
      rw [lastAt, if_neg (by simp; omega)]
      exact lastAt_ext (fun j hj => if_neg (by omega)) p
    unfold seen
    rw [hl]
    have hb := lastAt_bd tf p m
    by_cases e0 : lastAt tf m p = 0
    · rw [if_pos e0, if_pos e0]
    · rw [if_neg e0, if_neg e0]
      show (if (lastAt tf m p - 1).toNat * 128 + i < m * 128 then ld ((lastAt tf m p - 1).toNat * 128 + i) else _) = ld ((lastAt tf m p - 1).toNat * 128 + i)
      rw [if_pos (by omega)]
theorem Dk.grow {w : World} {D : Nat} {F G : Nat → Prop} {n : Nat} {dur : Nat → Int} {m : Nat} {tf : Nat → Nat} {ld : Nat → Int} (h : Dk w D F n dur m tf ld) (h1 : ∀ k, F k → G k) (h2 : ∀ k, G k → k < w.heap.size) : Dk w D G n dur m tf ld := by
  obtain ⟨S, Bd, Bl, cD, cL, vT, vL, h⟩ := h
  exact ⟨S, Bd, Bl, cD, cL, vT, vL, { h with FD := h1 _ h.FD, FS := h1 _ h.FS, FBd := h1 _ h.FBd, FBl := h1 _ h.FBl, FT := fun k hk => h1 _ (h.FT k hk), FL := fun k hk => h1 _ (h.FL k hk), lt := h2 }⟩
theorem Dk.lt {w : World} {D : Nat} {F : Nat → Prop} {n : Nat} {dur : Nat → Int} {m : Nat} {tf : Nat → Nat} {ld : Nat → Int} (h : Dk w D F n dur m tf ld) : ∀ k, F k → k < w.heap.size := by
  obtain ⟨S, Bd, Bl, cD, cL, vT, vL, h⟩ := h
  exact h.lt

/-- A disk of n sectors at D whose reads tell the bytes of e; at most M writes pend. -/
def Sd (w : World) (D : Nat) (F : Nat → Prop) (n M : Nat) (e : Nat → Int) : Prop := ∃ dur m tf ld, Dk w D F n dur m tf ld ∧ m ≤ M ∧ (∀ p, p < n → ∀ i, i < 128 → seen dur m tf ld p i = e (p * 128 + i)) ∧ ∀ i, 0 ≤ e i ∧ e i ≤ 255
theorem Sd.below {w w' : World} {D : Nat} {F : Nat → Prop} {n M : Nat} {e : Nat → Int} (h : Sd w D F n M e) (hb : Below w.heap.size w w') : Sd w' D F n M e := by
  obtain ⟨dur, m, tf, ld, h1, h2⟩ := h
  exact ⟨dur, m, tf, ld, h1.below hb, h2⟩
theorem Sd.part {w w' : World} {D : Nat} {F G : Nat → Prop} {n M : Nat} {e : Nat → Int} (h : Sd w D F n M e) (hp : Part G w w') (hn : ∀ k, F k → ¬ G k) : Sd w' D F n M e := by
  obtain ⟨dur, m, tf, ld, h1, h2⟩ := h
  exact ⟨dur, m, tf, ld, h1.part hp hn, h2⟩
theorem Sd.grow {w : World} {D : Nat} {F G : Nat → Prop} {n M : Nat} {e : Nat → Int} (h : Sd w D F n M e) (h1 : ∀ k, F k → G k) (h2 : ∀ k, G k → k < w.heap.size) : Sd w D G n M e := by
  obtain ⟨dur, m, tf, ld, k1, k2⟩ := h
  exact ⟨dur, m, tf, ld, k1.grow h1 h2, k2⟩
theorem Sd.lt {w : World} {D : Nat} {F : Nat → Prop} {n M : Nat} {e : Nat → Int} (h : Sd w D F n M e) : ∀ k, F k → k < w.heap.size := by
  obtain ⟨dur, m, tf, ld, k1, k2⟩ := h
  exact k1.lt
theorem Sd.n2 {w : World} {D : Nat} {F : Nat → Prop} {n M : Nat} {e : Nat → Int} (h : Sd w D F n M e) : 1 ≤ n ∧ n ≤ 4096 := by
  obtain ⟨dur, m, tf, ld, ⟨_, _, _, _, _, _, _, h⟩, _⟩ := h
  exact ⟨h.n1, h.n2⟩
theorem Sd.by_ {w : World} {D : Nat} {F : Nat → Prop} {n M : Nat} {e : Nat → Int} (h : Sd w D F n M e) : ∀ i, 0 ≤ e i ∧ e i ≤ 255 := by
  obtain ⟨_, _, _, _, _, _, _, h⟩ := h
  exact h
theorem Sd.ext {w : World} {D : Nat} {F : Nat → Prop} {n M : Nat} {e e' : Nat → Int} (h : Sd w D F n M e) (he : ∀ i, i < n * 128 → e i = e' i) (hb : ∀ i, 0 ≤ e' i ∧ e' i ≤ 255) : Sd w D F n M e' := by
  obtain ⟨dur, m, tf, ld, k1, k2, k3, _⟩ := h
  exact ⟨dur, m, tf, ld, k1, k2, fun p hp i hi => by rw [k3 p hp i hi]; exact he _ (by omega), hb⟩
theorem Sd.mono {w : World} {D : Nat} {F : Nat → Prop} {n M M' : Nat} {e : Nat → Int} (h : Sd w D F n M e) (hM : M ≤ M') : Sd w D F n M' e := by
  obtain ⟨dur, m, tf, ld, k1, k2, k3⟩ := h
  exact ⟨dur, m, tf, ld, k1, by omega, k3⟩
/-- Nothing pends. -/
theorem Sd.quiet {w : World} {D : Nat} {F : Nat → Prop} {n : Nat} {e : Nat → Int} (h : Sd w D F n 0 e) : ∃ tf ld, Dk w D F n e 0 tf ld := by
  obtain ⟨dur, m, tf, ld, ⟨S, Bd, Bl, cD, cL, vT, vL, h1⟩, h2, h3, h4⟩ := h
  obtain rfl : m = 0 := by omega
  refine ⟨tf, ld, S, Bd, Bl, cD, cL, vT, vL, h1.ext (fun i hi => ?_) (fun _ _ => rfl) (fun _ _ => rfl) h4 h1.by2⟩
  have := h3 (i / 128) (by omega) (i % 128) (Nat.mod_lt _ (by decide))
  rw [seen0] at this
  show dur i = e i
  have e1 : sh dur (i / 128 * 128) (i % 128) = dur i := by
    unfold sh
    congr 1
    omega
  rw [e1] at this
  rw [this]
  congr 1
  omega
theorem Dk.sd {w : World} {D : Nat} {F : Nat → Prop} {n : Nat} {e : Nat → Int} {tf : Nat → Nat} {ld : Nat → Int} (h : Dk w D F n e 0 tf ld) : Sd w D F n 0 e :=
  ⟨e, 0, tf, ld, h, Nat.le_refl _, fun p _ i _ => by rw [seen0]; rfl, h.by1⟩

theorem sdRead (D p n M : Nat) (F : Nat → Prop) (e : Nat → Int) (w : World) (h : Sd w D F n M e) (hp : p < n) (hM : M ≤ 549755813887) :
    Calls Tryz.prog 136 #[.pointer (some ⟨D, 0, none⟩), .int .i64 (p : Int)] w fun r w' => ∃ g c, r = .returned (.tuple #[.slice (some ⟨g, 0, none⟩) 128 c, .int .i64 0]) ∧ Own w' w.heap.size (.slice (some ⟨g, 0, none⟩) 128 c) (lst (sh e (p * 128)) 128) ∧ 128 ≤ c ∧ Below w.heap.size w w' := by
  obtain ⟨dur, m, tf, ld, k1, k2, k3, k4⟩ := h
  refine (dkRead D p n m F dur tf ld w k1 hp (by omega)).mono ?_
  rintro r w1 ⟨v, rfl, ho, hb⟩
  have ho' := ho.ext (G := sh e (p * 128)) (fun i hi => k3 p hp i hi)
  obtain ⟨g, c, rfl, _, _, hc, _⟩ := Own.open128 (k := 127) ho'
  exact ⟨g, c, rfl, ho', hc, hb⟩
/-- The bytes e with a sector's. -/
def ovs (e : Nat → Int) (p : Nat) (f : Nat → Int) : Nat → Int := ov e (p * 128) 128 f
theorem sdWrite (D p n M : Nat) (F : Nat → Prop) (e : Nat → Int) (g off c : Nat) (f : Nat → Int) (w : World) (h : Sd w D F n M e) (hp : p < n) (hM : M ≤ 549755813887) (hf : From w (some ⟨g, off, none⟩) 128 f) (hby : ∀ j, 0 ≤ f j ∧ f j ≤ 255) (hg : ¬ F g) :
    Calls Tryz.prog 141 #[.pointer (some ⟨D, 0, none⟩), .int .i64 (p : Int), .slice (some ⟨g, off, none⟩) 128 c] w fun r w' => r = .returned (.int .i64 0) ∧ Sd w' D (fun k => F k ∨ (w.heap.size ≤ k ∧ k < w'.heap.size)) n (M + 1) (ovs e p f) ∧ Part F w w' := by
  obtain ⟨dur, m, tf, ld, k1, k2, k3, k4⟩ := h
  refine (dkWrite D p n m F dur tf ld g off c f w k1 hp (by omega) hf hby hg).mono ?_
  rintro r w1 ⟨rfl, hd, hb⟩
  refine ⟨rfl, ⟨dur, m + 1, _, _, hd, by omega, fun q hq i hi => ?_, ov_by k4 hby _ _⟩, hb⟩
  rw [seen_write _ _ _ _ _ _ _ _ hi]
  unfold ovs ov
  by_cases e1 : q = p
  · rw [if_pos e1, if_pos (by omega), e1, show p * 128 + i - p * 128 = i by omega]
  · rw [if_neg e1, if_neg (by omega), k3 q hq i hi]
theorem sdFlush (D n M : Nat) (F : Nat → Prop) (e : Nat → Int) (w : World) (h : Sd w D F n M e) (hM : M ≤ 549755813887) :
    Calls Tryz.prog 44 #[.pointer (some ⟨D, 0, none⟩)] w fun r w' => r = .returned (.int .i64 0) ∧ Sd w' D F n 0 e ∧ Part F w w' := by
  obtain ⟨dur, m, tf, ld, k1, k2, k3, k4⟩ := h
  refine (dkFlush D n m F dur tf ld w k1 (by omega)).mono ?_
  rintro r w1 ⟨rfl, hd, hb⟩
  refine ⟨rfl, ⟨_, 0, tf, ld, hd, Nat.le_refl _, fun p hp i hi => ?_, k4⟩, hb⟩
  rw [seen0]
  show setl dur tf ld (fun _ => true) m (p * 128 + i) = _
  rw [setl_seen _ _ _ _ _ hi, k3 p hp i hi]
theorem sdCopy (D n M : Nat) (F : Nat → Prop) (e : Nat → Int) (w : World) (h : Sd w D F n M e) (hM : M ≤ 1000000) :
    Calls Tryz.prog 29 #[.pointer (some ⟨D, 0, none⟩)] w fun r w' => ∃ D', r = .returned (.pointer (some ⟨D', 0, none⟩)) ∧ Sd w' D' (fun k => w.heap.size ≤ k ∧ k < w'.heap.size) n M e ∧ Below w.heap.size w w' := by
  obtain ⟨dur, m, tf, ld, k1, k2, k3⟩ := h
  refine (dkCopy D n m F dur tf ld w k1 (by omega)).mono ?_
  rintro r w1 ⟨D', rfl, hd, hb⟩
  exact ⟨D', rfl, ⟨dur, m, tf, ld, hd, k2, k3⟩, hb⟩
theorem sdSectors (D n M : Nat) (F : Nat → Prop) (e : Nat → Int) (w : World) (h : Sd w D F n M e) :
    Calls Tryz.prog 65 #[.pointer (some ⟨D, 0, none⟩)] w fun r w' => r = .returned (.int .i64 (n : Int)) ∧ w' = w := by
  obtain ⟨dur, m, tf, ld, ⟨S, Bd, Bl, cD, cL, vT, vL, h1⟩, _⟩ := h
  exact dSectors D S n cL _ w (by rw [cells_at h1.hD 0]; rfl) (by rw [cells_at h1.hS 1]; rfl)

set_option maxRecDepth 100000 in
set_option maxHeartbeats 1000000 in
theorem aReadS (D n from_ sectors place M : Nat) (F : Nat → Prop) (e : Nat → Int) (w : World) (h : Sd w D F n M e) (hp : from_ + place < n) (hn : n ≤ 4096) (hM : M ≤ 549755813887) :
    Calls Tryz.prog 100 #[.agg #[.pointer (some ⟨D, 0, none⟩), .int .i64 (from_ : Int), .int .i64 (sectors : Int)], .int .i64 (place : Int)] w fun r w' => ∃ g c, r = .returned (.slice (some ⟨g, 0, none⟩) 128 c) ∧ Own w' w.heap.size (.slice (some ⟨g, 0, none⟩) 128 c) (lst (secAt (from0 e from_) place) 128) ∧ 128 ≤ c ∧ Below w.heap.size w w' := by
  have hb0 : ∀ o, Below w.heap.size w (w.alloc o) := fun o => (Below.refl _ w).alloc (Nat.le_refl _) o
  have HR : Hid (∀ o, Calls Tryz.prog 136 #[.pointer (some ⟨D, 0, none⟩), .int .i64 ((from_ : Int) + (place : Int))] (w.alloc o) fun r w' => ∃ g c, r = .returned (.tuple #[.slice (some ⟨g, 0, none⟩) 128 c, .int .i64 0]) ∧ Own w' w.heap.size (.slice (some ⟨g, 0, none⟩) 128 c) (lst (secAt (from0 e from_) place) 128) ∧ 128 ≤ c ∧ Below w.heap.size w w') := fun o => by
    rw [show (from_ : Int) + (place : Int) = ((from_ + place : Nat) : Int) by omega]
    refine (sdRead D (from_ + place) n M F e (w.alloc o) (h.below (hb0 o)) hp hM).mono ?_
    rintro r w1 ⟨g, c, rfl, ho, hc, hb⟩
    rw [← from0_sec] at ho
    exact ⟨g, c, rfl, ho.mono (by simp), hc, (hb0 o).trans (hb.mono (by simp))⟩
  clear hb0 h
  go_enter Tryz.func100, Tryz.ntmps100
  go_wp2_with fail
  refine (HR.out _).mono ?_
  rintro e w1 ⟨g, c, rfl, ho, hc, hb⟩
  clear HR
  go_wp2
  go_ret
  exact ⟨g, c, rfl, ho, hc, hb⟩

set_option maxRecDepth 100000 in
set_option maxHeartbeats 1000000 in
theorem aWriteS (D n from_ sectors place M : Nat) (F : Nat → Prop) (e : Nat → Int) (g c : Nat) (f : Nat → Int) (w : World) (h : Sd w D F n M e) (hp : from_ + place < n) (hn : n ≤ 4096) (hM : M ≤ 549755813887) (hf : From w (some ⟨g, 0, none⟩) 128 f) (hby : ∀ j, 0 ≤ f j ∧ f j ≤ 255) (hg : ¬ F g) :
    Calls Tryz.prog 104 #[.agg #[.pointer (some ⟨D, 0, none⟩), .int .i64 (from_ : Int), .int .i64 (sectors : Int)], .int .i64 (place : Int), .slice (some ⟨g, 0, none⟩) 128 c] w fun r w' => r = .returned (.int .i64 0) ∧ Sd w' D (fun k => F k ∨ (w.heap.size ≤ k ∧ k < w'.heap.size)) n (M + 1) (ovs e (from_ + place) f) ∧ Part F w w' := by
  have hb0 : ∀ o, Below w.heap.size w (w.alloc o) := fun o => (Below.refl _ w).alloc (Nat.le_refl _) o
  have HR : Hid (∀ o, Calls Tryz.prog 141 #[.pointer (some ⟨D, 0, none⟩), .int .i64 ((from_ : Int) + (place : Int)), .slice (some ⟨g, 0, none⟩) 128 c] (w.alloc o) fun r w' => r = .returned (.int .i64 0) ∧ Sd w' D (fun k => F k ∨ (w.heap.size ≤ k ∧ k < w'.heap.size)) n (M + 1) (ovs e (from_ + place) f) ∧ Part F w w') := fun o => by
    rw [show (from_ : Int) + (place : Int) = ((from_ + place : Nat) : Int) by omega]
    refine (sdWrite D (from_ + place) n M F e g 0 c f (w.alloc o) (h.below (hb0 o)) hp hM (hf.below (hb0 o) (Nat.le_refl _)) hby hg).mono ?_
    rintro r w1 ⟨rfl, hs, hb⟩
    have hsz := hb.size
    refine ⟨rfl, hs.grow (fun k hk => hk.imp id (fun hk => by simp at hk; omega)) (fun k hk => ?_), (Part.ofBelow (hb0 o)).trans hb (fun _ _ h => h)⟩
    rcases hk with hk | hk
    · exact hs.lt k (.inl hk)
    · exact hk.2
  clear hb0 h hf
  go_enter Tryz.func104, Tryz.ntmps104
  go_wp2_with fail
  refine (HR.out _).mono ?_
  rintro e w1 ⟨rfl, hs, hb⟩
  clear HR
  go_wp2
  go_ret
  exact ⟨rfl, hs, hb⟩
end Go.Proofs.YthfokciijcmhbaaGreatDoor
