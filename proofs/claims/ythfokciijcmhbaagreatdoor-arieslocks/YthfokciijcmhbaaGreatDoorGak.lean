/-
  Contract of a disk's Copy over Dk.
-/
import Derived.Test.YthfokciijcmhbaaGreatDoorGaj
import Derived.Deep.RegionHeld
namespace Go.Proofs.YthfokciijcmhbaaGreatDoor
open Go.RowKit
set_option linter.unusedVariables false

/-- Four slices of one's own, one behind the other, and the two structs over them: a disk. -/
theorem dk_laid {w w1 w2 w3 w4 : World} {n m g1 c1 g2 c2 : Nat} {v3 v4 : Value} {dur : Nat → Int} {tf : Nat → Nat} {ld : Nat → Int}
    (b1 : Below w.heap.size w w1) (o1 : Own w1 w.heap.size (.slice (some ⟨g1, 0, none⟩) (n * 128) c1) (lst dur (n * 128)))
    (b2 : Below w1.heap.size w1 w2) (o2 : OwnI w2 w1.heap.size (.slice (some ⟨g2, 0, none⟩) n c2) (lst (lastAt tf m) n))
    (b3 : Below w2.heap.size w2 w3) (o3 : OwnI w3 w2.heap.size v3 (lst (fun j => (tf j : Int)) m))
    (b4 : Below w3.heap.size w3 w4) (o4 : Own w4 w3.heap.size v4 (lst ld (m * 128)))
    (tn : ∀ j, j < m → tf j < n) (y1 : ∀ i, 0 ≤ dur i ∧ dur i ≤ 255) (y2 : ∀ i, 0 ≤ ld i ∧ ld i ≤ 255) (n1 : 1 ≤ n) (n2 : n ≤ 4096) (wf : World)
    (hf : wf = (w4.alloc (.cells #[.slice (some ⟨g1, 0, none⟩) (n * 128) c1, .slice (some ⟨g2, 0, none⟩) n c2, v3, v4] 68)).alloc (.cells #[.pointer (some ⟨w4.heap.size, 0, none⟩)] 64)) :
    Dk wf (w4.heap.size + 1) (fun k => w.heap.size ≤ k ∧ k < wf.heap.size) n dur m tf ld ∧ Below w.heap.size w wf := by
  have s1 := b1.size
  have s2 := b2.size
  have s3 := b3.size
  have s4 := b4.size
  obtain ⟨p1, q1⟩ := World.ownsRow.lt o1 g1 rfl
  obtain ⟨p2, q2⟩ := World.ownsRow.lt o2 g2 rfl
  have h3 := fun k hk => World.ownsRow.lt o3 k hk
  have h4 := fun k hk => World.ownsRow.lt o4 k hk
  have no : ∀ k, (fun _ : Nat => False) k → False := fun _ h => h
  have hcap := row_cap o1
  rw [lst_length] at hcap
  have x1 := (Part.ofBelow (F := fun _ => False) b4).row ((Part.ofBelow (F := fun _ => False) b3).row ((Part.ofBelow (F := fun _ => False) b2).row (row_mono o1 (Nat.zero_le _)) (fun _ _ h => h)) (fun _ _ h => h)) (fun _ _ h => h)
  have x2 := (Part.ofBelow (F := fun _ => False) b4).row ((Part.ofBelow (F := fun _ => False) b3).row (row_mono o2 (Nat.zero_le _)) (fun _ _ h => h)) (fun _ _ h => h)
  have x3 := (Part.ofBelow (F := fun _ => False) b4).row (row_mono o3 (Nat.zero_le _)) (fun _ _ h => h)
  have x4 := row_mono o4 (Nat.zero_le _)
  have hsz : wf.heap.size = w4.heap.size + 2 := by rw [hf]; simp
  subst hf
  refine ⟨⟨w4.heap.size, g1, g2, c1, c2, v3, v4, ?_⟩, ?_⟩
  · refine ⟨heap_alloc_at _ _ _ (by simp), ?_, ⟨hcap.1, hcap.2.1, _, World.ownsRow.alloc (World.ownsRow.alloc x1 _) _⟩, World.ownsRow.alloc (World.ownsRow.alloc x2 _) _, World.ownsRow.alloc (World.ownsRow.alloc x3 _) _, World.ownsRow.alloc (World.ownsRow.alloc x4 _) _, fun e => ?_, fun e => ?_, ?_, ?_, ?_, ?_, fun k hk => ?_, fun k hk => ?_, fun k h => h.2, tn, y1, y2, n1, n2⟩
    · rw [heap_alloc_past _ _ _ (by simp), heap_alloc_at _ _ _ rfl]
    · have := (h3 g2 e).1; omega
    · have := (h4 g1 e).1; omega
    · exact ⟨by omega, by omega⟩
    · exact ⟨by omega, by omega⟩
    · exact ⟨by omega, by omega⟩
    · exact ⟨by omega, by omega⟩
    · have := h3 k hk; exact ⟨by omega, by omega⟩
    · have := h4 k hk; exact ⟨by omega, by omega⟩
  · exact (((b1.trans (b2.mono s1)).trans (b3.mono (by omega))).trans (b4.mono (by omega))).alloc (by omega) _ |>.alloc (by simp; omega) _

set_option maxRecDepth 100000 in
set_option maxHeartbeats 4000000 in
theorem dkCopy (D n m : Nat) (F : Nat → Prop) (dur : Nat → Int) (tf : Nat → Nat) (ld : Nat → Int) (w : World) (h : Dk w D F n dur m tf ld) (hm : m ≤ 1000000) :
    Calls Tryz.prog 29 #[.pointer (some ⟨D, 0, none⟩)] w fun e w' => ∃ D', e = .returned (.pointer (some ⟨D', 0, none⟩)) ∧ Dk w' D' (fun k => w.heap.size ≤ k ∧ k < w'.heap.size) n dur m tf ld ∧ Below w.heap.size w w' := by
  obtain ⟨S, Bd, Bl, cD, cL, vT, vL, h⟩ := h
  obtain ⟨d0, s0, s1, s2, s3, _⟩ := heads h.hD h.hS
  obtain ⟨aL, cV, rfl⟩ : ∃ aL cV, vL = .slice aL (m * 128) cV := by
    rcases h.oo.2 with ⟨rfl, h0⟩ | ⟨g, cap, cur, rfl, _⟩
    · rw [lst_length] at h0; rw [h0]; exact ⟨none, 0, rfl⟩
    · rw [lst_length]; exact ⟨_, cap, rfl⟩
  have hb0 : Below w.heap.size w w.drew := ⟨rfl, rfl, rfl, Nat.le_refl _, fun _ _ => rfl⟩
  have HS : Hid (∀ wq, Below w.heap.size w wq → wq.cell? ⟨D, 0, none⟩ = some (.pointer (some ⟨S, 0, none⟩)) ∧ wq.cell? ⟨S, 0, none⟩ = some (.slice (some ⟨Bd, 0, none⟩) (n * 128) cD) ∧ wq.cell? ⟨S, 1, none⟩ = some (.slice (some ⟨Bl, 0, none⟩) n cL) ∧ wq.cell? ⟨S, 2, none⟩ = some vT ∧ wq.cell? ⟨S, 3, none⟩ = some (.slice aL (m * 128) cV)) := fun wq hb => by
    have k : ∀ (b i : Nat) (v : Value), w.cell? ⟨b, i, none⟩ = some v → wq.cell? ⟨b, i, none⟩ = some v := fun b i v hc => by
      rw [hb.cell (p := ⟨b, i, none⟩) (World.block_lt_of_cell? w _ hc)]; exact hc
    exact ⟨k _ _ _ d0, k _ _ _ s0, k _ _ _ s1, k _ _ _ s2, k _ _ _ s3⟩
  have keepR : ∀ {e : TypeId} {v : Value} {k : Nat} {xs : List Value} (wq : World), Below w.heap.size w wq → w.ownsRow 0 e 1 v k xs → wq.ownsRow 0 e 1 v k xs := fun wq hb ho => (Part.ofBelow (F := fun _ => False) hb).row ho (fun _ _ h => h)
  have HC1 : Hid (∀ wq, Below w.heap.size w wq → Calls Tryz.prog 23 #[.slice (some ⟨Bd, 0, none⟩) (n * 128) cD] wq fun e w' => ∃ g c, e = .returned (.slice (some ⟨g, 0, none⟩) (n * 128) c) ∧ Own w' wq.heap.size (.slice (some ⟨g, 0, none⟩) (n * 128) c) (lst dur (n * 128)) ∧ Below wq.heap.size wq w' ∧ Below w.heap.size w w') := fun wq hb => by
    have hn2 := h.n2
    have hn1 := h.n1
    obtain ⟨_, _, cO, hob⟩ := h.ob
    obtain ⟨a, c0, e0, hf, _⟩ := own_any (n := n * 128) (f := dur) (keepR wq hb hob)
    injection e0 with e1 e2 e3
    subst e1
    refine (clone (some ⟨Bd, 0, none⟩) (n * 128) cD dur wq (by omega) hf).mono ?_
    rintro e w' ⟨v', rfl, ho, hb'⟩
    obtain ⟨g, c, rfl, ho, _⟩ := own_some ho (by omega)
    exact ⟨g, c, rfl, ho, hb', hb.trans (hb'.mono hb.size)⟩
  have HC2 : Hid (∀ wq, Below w.heap.size w wq → Calls Tryz.prog 48 #[.slice (some ⟨Bl, 0, none⟩) n cL] wq fun e w' => ∃ g c, e = .returned (.slice (some ⟨g, 0, none⟩) n c) ∧ OwnI w' wq.heap.size (.slice (some ⟨g, 0, none⟩) n c) (lst (lastAt tf m) n) ∧ Below wq.heap.size wq w' ∧ Below w.heap.size w w') := fun wq hb => by
    have hn2 := h.n2
    have hn1 := h.n1
    refine (cloneI _ n (lastAt tf m) wq (by omega) (keepR wq hb h.ol)).mono ?_
    rintro e w' ⟨v', rfl, ho, hb'⟩
    obtain ⟨g, c, rfl, ho, _⟩ := ownI_some ho (by omega)
    exact ⟨g, c, rfl, ho, hb', hb.trans (hb'.mono hb.size)⟩
  have HC3 : Hid (∀ wq, Below w.heap.size w wq → Calls Tryz.prog 48 #[vT] wq fun e w' => ∃ a c, e = .returned (.slice a m c) ∧ OwnI w' wq.heap.size (.slice a m c) (lst (fun j => (tf j : Int)) m) ∧ Below wq.heap.size wq w' ∧ Below w.heap.size w w') := fun wq hb => by
    refine (cloneI vT m _ wq (by omega) (keepR wq hb h.ot)).mono ?_
    rintro e w' ⟨v', rfl, ho, hb'⟩
    obtain ⟨a, c, rfl⟩ := ownI_any ho
    exact ⟨a, c, rfl, ho, hb', hb.trans (hb'.mono hb.size)⟩
  have HC4 : Hid (∀ wq, Below w.heap.size w wq → Calls Tryz.prog 23 #[.slice aL (m * 128) cV] wq fun e w' => ∃ a c, e = .returned (.slice a (m * 128) c) ∧ Own w' wq.heap.size (.slice a (m * 128) c) (lst ld (m * 128)) ∧ Below wq.heap.size wq w' ∧ Below w.heap.size w w') := fun wq hb => by
    obtain ⟨a, c0, e0, hf, _⟩ := own_any (n := m * 128) (f := ld) (keepR wq hb h.oo)
    injection e0 with e1 e2 e3
    subst e1
    refine (clone aL (m * 128) cV ld wq (by omega) hf).mono ?_
    rintro e w' ⟨v', rfl, ho, hb'⟩
    obtain ⟨a, c, rfl, _⟩ := own_any ho
    exact ⟨a, c, rfl, ho, hb', hb.trans (hb'.mono hb.size)⟩
  have HM : Hid ((∀ j, j < m → tf j < n) ∧ (∀ i, 0 ≤ dur i ∧ dur i ≤ 255) ∧ (∀ i, 0 ≤ ld i ∧ ld i ≤ 255) ∧ 1 ≤ n ∧ n ≤ 4096) := ⟨h.tn, h.by1, h.by2, h.n1, h.n2⟩
  clear h keepR d0 s0 s1 s2 s3
  have hbw : Below w.heap.size w w := Below.refl _ _
  obtain ⟨d0, s0, s1, s2, s3⟩ := HS.out w hbw
  go_enter Tryz.func29, Tryz.ntmps29
  go_wp2_with fail
  refine (dMissing D S w d0).mono ?_
  rintro e w1 ⟨rfl, hw⟩
  obtain rfl : w = w1 := hw.symm
  clear hw
  clear d0 s0 s1 s2 s3 hbw
  go_wp2_with fail
  go_region_held (fun wq => wq.cell? ⟨D, 0, none⟩ = some (.pointer (some ⟨S, 0, none⟩)) ∧ wq.cell? ⟨S, 0, none⟩ = some (.slice (some ⟨Bd, 0, none⟩) (n * 128) cD) ∧ wq.cell? ⟨S, 1, none⟩ = some (.slice (some ⟨Bl, 0, none⟩) n cL) ∧ wq.cell? ⟨S, 2, none⟩ = some vT ∧ wq.cell? ⟨S, 3, none⟩ = some (.slice aL (m * 128) cV))
    (first | exact HS.out _ (by assumption) | go_keep)
    (first
      | (go_at_call 23; refine (HC1.out _ hb0).mono ?_; rintro e' w1 ⟨g1, c1, rfl, o1, b1, k1⟩)
      | (go_at_call 48; refine (HC2.out _ k1).mono ?_; rintro e' w2 ⟨g2, c2, rfl, o2, b2, k2⟩)
      | (go_at_call 48; refine (HC3.out _ k2).mono ?_; rintro e' w3 ⟨a3, c3, rfl, o3, b3, k3⟩)
      | (go_at_call 23; refine (HC4.out _ k3).mono ?_; rintro e' w4 ⟨a4, c4, rfl, o4, b4, k4⟩))
  have HL := fun wf hf => dk_laid (w := w.drew) b1 o1 b2 o2 b3 o3 b4 o4 HM.out.1 HM.out.2.1 HM.out.2.2.1 HM.out.2.2.2.1 HM.out.2.2.2.2 wf hf
  have HZ : Hid (∀ wf, wf = (w4.alloc (.cells #[.slice (some ⟨g1, 0, none⟩) (n * 128) c1, .slice (some ⟨g2, 0, none⟩) n c2, .slice a3 m c3, .slice a4 (m * 128) c4] 68)).alloc (.cells #[.pointer (some ⟨w4.heap.size, 0, none⟩)] 64) → Dk wf (w4.heap.size + 1) (fun k => w.heap.size ≤ k ∧ k < wf.heap.size) n dur m tf ld ∧ Below w.heap.size w wf) := fun wf hf => ⟨(HL wf hf).1, hb0.trans (HL wf hf).2⟩
  clear HL o1 o2 o3 o4 b1 b2 b3 b4 k1 k2 k3 k4 hb0 HC1 HC2 HC3 HC4 HS HM
  go_wp2
  go_ret
  obtain ⟨z1, z2⟩ := HZ.out _ rfl
  exact ⟨_, by simp, z1, z2⟩
end Go.Proofs.YthfokciijcmhbaaGreatDoor
