/-
  Contract of a log area's clean: what stands behind the records is taken away. Conditions: the sectors are the disk's, nothing pends; the library's table of sums is as it starts.
-/
import Derived.Test.YthfokciijcmhbaaGreatDoorGal
import Derived.Deep.DeepCutAuto
namespace Go.Proofs.YthfokciijcmhbaaGreatDoor
open Go.RowKit
set_option linter.unusedVariables false

/-- The first place that is to be noughts. -/
def nxt (first size : Nat) : Nat := if first = 0 then 0 else (size - 1) / 112 + 1
/-- The last sector is to be written anew. -/
def Trunc (first tot size : Nat) : Prop := 0 < first ∧ size < min tot ((size - 1) / 112 * 112 + 112)
instance (first tot size : Nat) : Decidable (Trunc first tot size) := by unfold Trunc; exact inferInstance
/-- A sector behind clean. -/
def cl (E : Nat → Int) (first tot size p i : Nat) : Int := if nxt first size ≤ p then 0 else if Trunc first tot size ∧ p = (size - 1) / 112 then lsec p first (size - p * 112) (sh (lg E) (p * 112)) i else E (p * 128 + i)
/-- The disk's bytes behind clean. -/
def Cleaned (e e' : Nat → Int) (from_ sectors first tot size : Nat) : Prop := (∀ p, p < sectors → ∀ i, i < 128 → e' ((from_ + p) * 128 + i) = cl (from0 e from_) first tot size p i) ∧ ∀ j, (j < from_ * 128 ∨ (from_ + sectors) * 128 ≤ j) → e' j = e j
/-- .. up to a place. -/
def CleanTo (e e' : Nat → Int) (from_ sectors first tot size k : Nat) : Prop := (∀ p, p < sectors → ∀ i, i < 128 → e' ((from_ + p) * 128 + i) = if p < k then cl (from0 e from_) first tot size p i else e ((from_ + p) * 128 + i)) ∧ ∀ j, (j < from_ * 128 ∨ (from_ + sectors) * 128 ≤ j) → e' j = e j
theorem ovs_at (e : Nat → Int) (p q i : Nat) (f : Nat → Int) (hi : i < 128) : ovs e p f (q * 128 + i) = if q = p then f i else e (q * 128 + i) := by
  unfold ovs ov
  by_cases h : q = p
  · rw [if_pos (by omega), if_pos h, h, show p * 128 + i - p * 128 = i by omega]
  · rw [if_neg (by omega), if_neg h]
theorem ovs_out (e : Nat → Int) (p j : Nat) (f : Nat → Int) (h : j < p * 128 ∨ (p + 1) * 128 ≤ j) : ovs e p f j = e j := by
  unfold ovs ov
  rw [if_neg (by omega)]
theorem from0_at (e : Nat → Int) (from_ p i : Nat) : from0 e from_ (p * 128 + i) = e ((from_ + p) * 128 + i) := by
  show e _ = e _
  congr 1
  omega
theorem CleanTo.start (e : Nat → Int) (from_ sectors first tot size : Nat) (h : ¬ Trunc first tot size) : CleanTo e e from_ sectors first tot size (nxt first size) := by
  refine ⟨fun p hp i hi => ?_, fun _ _ => rfl⟩
  by_cases h1 : p < nxt first size
  · rw [if_pos h1]
    unfold cl
    rw [if_neg (by omega), if_neg (fun k => h k.1), from0_at]
  · rw [if_neg h1]
theorem CleanTo.trunc (e : Nat → Int) (from_ sectors first tot size : Nat) (h : Trunc first tot size) (hp0 : (size - 1) / 112 < sectors) : CleanTo e (ovs e (from_ + (size - 1) / 112) (lsec ((size - 1) / 112) first (size - (size - 1) / 112 * 112) (sh (lg (from0 e from_)) ((size - 1) / 112 * 112)))) from_ sectors first tot size (nxt first size) := by
  have hn : nxt first size = (size - 1) / 112 + 1 := by unfold nxt; rw [if_neg (by have := h.1; omega)]
  refine ⟨fun p hp i hi => ?_, fun j hj => ovs_out _ _ _ _ (by omega)⟩
  rw [ovs_at _ _ _ _ _ hi]
  by_cases h1 : p = (size - 1) / 112
  · rw [if_pos (by omega), if_pos (by omega)]
    unfold cl
    rw [if_neg (by omega), if_pos ⟨h, h1⟩, h1]
  · rw [if_neg (by omega)]
    by_cases h2 : p < nxt first size
    · rw [if_pos h2]
      unfold cl
      rw [if_neg (by omega), if_neg (fun k => h1 k.2), from0_at]
    · rw [if_neg h2]
theorem CleanTo.zero {e e' : Nat → Int} {from_ sectors first tot size k : Nat} (h : CleanTo e e' from_ sectors first tot size k) (hk : k < sectors) (hn : nxt first size ≤ k) (f : Nat → Int) (hf : ∀ i, i < 128 → f i = 0) : CleanTo e (ovs e' (from_ + k) f) from_ sectors first tot size (k + 1) := by
  refine ⟨fun p hp i hi => ?_, fun j hj => by rw [ovs_out _ _ _ _ (by omega)]; exact h.2 j hj⟩
  rw [ovs_at _ _ _ _ _ hi]
  by_cases h1 : p = k
  · rw [if_pos (by omega), if_pos (by omega), hf i hi]
    unfold cl
    rw [if_pos (by omega)]
  · rw [if_neg (by omega), h.1 p hp i hi]
    by_cases h2 : p < k
    · rw [if_pos h2, if_pos (by omega)]
    · rw [if_neg h2, if_neg (by omega)]
theorem CleanTo.blank {e e' : Nat → Int} {from_ sectors first tot size k : Nat} (h : CleanTo e e' from_ sectors first tot size k) (hk : k < sectors) (hn : nxt first size ≤ k) (hf : ∀ i, i < 128 → e ((from_ + k) * 128 + i) = 0) : CleanTo e e' from_ sectors first tot size (k + 1) := by
  refine ⟨fun p hp i hi => ?_, h.2⟩
  rw [h.1 p hp i hi]
  by_cases h1 : p = k
  · subst h1
    rw [if_neg (by omega), if_pos (by omega), hf i hi]
    unfold cl
    rw [if_pos hn]
  · by_cases h2 : p < k
    · rw [if_pos h2, if_pos (by omega)]
    · rw [if_neg h2, if_neg (by omega)]
theorem CleanTo.done {e e' : Nat → Int} {from_ sectors first tot size k : Nat} (h : CleanTo e e' from_ sectors first tot size k) (hk : sectors ≤ k) : Cleaned e e' from_ sectors first tot size :=
  ⟨fun p hp i hi => by rw [h.1 p hp i hi, if_pos (by omega)], h.2⟩

set_option maxRecDepth 100000 in
set_option maxHeartbeats 2000000 in
theorem cleanL (D n from_ sectors first tot size : Nat) (F : Nat → Prop) (e : Nat → Int) (a0 : Option Addr) (c : Nat) (w : World) (h : Sd w D F n 0 e) (hp : from_ + sectors ≤ n) (hn : n ≤ 4096) (ht : Tab w) (hf : From w a0 tot (lg (from0 e from_))) (hc : tot ≤ c) (hc9 : c ≤ 9223372036854775807) (hst : size ≤ tot) (htt : tot ≤ sectors * 112) (hfi : first ≤ 4611686018427387904) (hf0 : first = 0 → tot = 0) (hs1 : 1 ≤ sectors) (htb : ¬ F 0) (ha : tot = 0 ∨ ∃ g, a0 = some ⟨g, 0, none⟩) :
    Calls Tryz.prog 68 #[.agg #[.pointer (some ⟨D, 0, none⟩), .int .i64 (from_ : Int), .int .i64 (sectors : Int)], .int .i64 (first : Int), .slice a0 tot c, .int .i64 (size : Int)] w fun r w' => ∃ e', r = .returned (.tuple #[]) ∧ Sd w' D (fun k => F k ∨ (w.heap.size ≤ k ∧ k < w'.heap.size)) n 0 e' ∧ Cleaned e e' from_ sectors first tot size ∧ Part F w w' := by
  obtain ⟨o, ho⟩ : ∃ o, Obj.cells #[.pointer (some ⟨D, 0, none⟩), .int .i64 (from_ : Int), .int .i64 (sectors : Int)] 127 = o := ⟨_, rfl⟩
  have hb0 : Below w.heap.size w (w.alloc o) := (Below.refl _ w).alloc (Nat.le_refl _) o
  have hh0 : (w.alloc o).heap[w.heap.size]? = some (.cells #[.pointer (some ⟨D, 0, none⟩), .int .i64 (from_ : Int), .int .i64 (sectors : Int)] 127 (0, 0)) := by rw [← ho]; exact heap_alloc_at _ _ _ rfl
  have hsz : (w.alloc o).heap.size = w.heap.size + 1 := by simp
  have hFl := h.lt
  -- what stays, whatever F's blocks and new ones become
  have HI : Hid (∀ wr, Part F (w.alloc o) wr → wr.cell? ⟨w.heap.size, 0, none⟩ = some (.pointer (some ⟨D, 0, none⟩)) ∧ wr.cell? ⟨w.heap.size, 1, none⟩ = some (.int .i64 (from_ : Int)) ∧ wr.cell? ⟨w.heap.size, 2, none⟩ = some (.int .i64 (sectors : Int)) ∧ Tab wr ∧ w.heap.size + 1 ≤ wr.heap.size ∧ Part F w wr) := fun wr hb => by
    have hs := hb.size
    have e1 := (hb.block w.heap.size (by omega) (fun k => by have := hFl _ k; omega)).trans hh0
    refine ⟨by rw [cells_at e1 0]; rfl, by rw [cells_at e1 1]; rfl, by rw [cells_at e1 2]; rfl, fun i hi => ?_, by omega, (Part.ofBelow hb0).trans hb (fun _ _ k => k)⟩
    have := (ht.below hb0 (Nat.le_refl _)) i hi
    exact hb.cell htb this
  have hS0 : Sd (w.alloc o) D (fun k => F k ∨ (w.heap.size + 1 ≤ k ∧ k < (w.alloc o).heap.size)) n 0 e := (h.below hb0).grow (fun k hk => .inl hk) (fun k hk => by
    rcases hk with hk | hk
    · have := hFl k hk; omega
    · exact hk.2)
  have hf1 : From (w.alloc o) a0 tot (lg (from0 e from_)) := hf.below hb0 (Nat.le_refl _)
  have ht1 : Tab (w.alloc o) := ht.below hb0 (Nat.le_refl _)
  have hby := h.by_
  have d0 : (w.alloc o).cell? ⟨w.heap.size, 0, none⟩ = some (.pointer (some ⟨D, 0, none⟩)) := by rw [cells_at hh0 0]; rfl
  have d1 : (w.alloc o).cell? ⟨w.heap.size, 1, none⟩ = some (.int .i64 (from_ : Int)) := by rw [cells_at hh0 1]; rfl
  have d2 : (w.alloc o).cell? ⟨w.heap.size, 2, none⟩ = some (.int .i64 (sectors : Int)) := by rw [cells_at hh0 2]; rfl
  clear h ht hh0 hf
  obtain ⟨N8, hN8⟩ : ∃ N8, nxt first size = N8 := ⟨_, rfl⟩
  go_enter Tryz.func68, Tryz.ntmps68
  go_upto_if 12 with fail
  try rw [ho]
  go_cut [8, 9] (fun s8 s9 wc => ∃ (eK : Nat → Int) (b : Bool), s8 = .int .i64 (N8 : Int) ∧ s9 = .bool b ∧ Sd wc D (fun k => F k ∨ (w.heap.size + 1 ≤ k ∧ k < wc.heap.size)) n (if b then 1 else 0) eK ∧ CleanTo e eK from_ sectors first tot size N8 ∧ Part F (w.alloc o) wc)
  case first =>
    have HS : Hid (Sd (w.alloc o) D (fun k => F k ∨ (w.heap.size + 1 ≤ k ∧ k < (w.alloc o).heap.size)) n 0 e) := hS0
    by_cases h0 : first = 0
    · have hz : (first : Int) ≤ 0 := by omega
      have HC0 : Hid (CleanTo e e from_ sectors first tot size N8) := by rw [← hN8]; exact CleanTo.start e from_ sectors first tot size (fun k => by have := k.1; omega)
      have HN : Hid ((N8 : Int) = 0) := by rw [← hN8]; unfold nxt; rw [if_pos h0]; rfl
      clear hS0 h0 hf0 hN8 hfi
      go_wp2_with fail
      go_meet
      exact ⟨e, false, by rw [HN.out], rfl, HS.out, HC0.out, Part.refl _ _⟩
    · have hz : (0 : Int) < (first : Int) := by omega
      obtain ⟨q, hq⟩ : ∃ q, (size - 1) / 112 = q := ⟨_, rfl⟩
      have hN9 : N8 = q + 1 := by rw [← hN8]; unfold nxt; rw [if_neg h0, hq]
      have HN : Hid ((N8 : Int) = (q : Int) + 1) := (by omega : (N8 : Int) = (q : Int) + 1)
      clear hN9
      by_cases hT : Trunc first tot size
      · have hT1 := (Nat.lt_min.1 hT.2).1
        have hT2 := (Nat.lt_min.1 hT.2).2
        rw [hq] at hT2
        have hqs : q < sectors := by omega
        have hq112 : q * 112 ≤ size := by omega
        obtain ⟨g, rfl⟩ : ∃ g, a0 = some ⟨g, 0, none⟩ := by
          rcases ha with h | h
          · omega
          · exact h
        have HC1 : Hid (CleanTo e (ovs e (from_ + q) (lsec q first (size - q * 112) (sh (lg (from0 e from_)) (q * 112)))) from_ sectors first tot size N8) := by
          have := CleanTo.trunc e from_ sectors first tot size hT (by rw [hq]; exact hqs)
          rw [hq, hN8] at this
          exact this
        have hbE : ∀ i, 0 ≤ sh (lg (from0 e from_)) (q * 112) i ∧ sh (lg (from0 e from_)) (q * 112) i ≤ 255 := fun i => hby _
        have hb1 : Below (w.alloc o).heap.size (w.alloc o) (w.alloc o).drew := blw_drewN 1 (Below.refl _ _)
        have HE : Hid (∀ z : Int, z = (q : Int) → Calls Tryz.prog 105 #[.int .i64 z, .int .i64 (first : Int), .slice (some ⟨g, q * 112, none⟩) (size - q * 112) (c - q * 112)] (w.alloc o).drew fun r w' => ∃ g2 c2, r = .returned (.slice (some ⟨g2, 0, none⟩) 128 c2) ∧ Hid (∀ z : Int, z = (q : Int) → Calls Tryz.prog 104 #[.agg #[.pointer (some ⟨D, 0, none⟩), .int .i64 (from_ : Int), .int .i64 (sectors : Int)], .int .i64 z, .slice (some ⟨g2, 0, none⟩) 128 c2] w' fun r w'' => r = .returned (.int .i64 0) ∧ Sd w'' D (fun k => F k ∨ (w.heap.size + 1 ≤ k ∧ k < w''.heap.size)) n 1 (ovs e (from_ + q) (lsec q first (size - q * 112) (sh (lg (from0 e from_)) (q * 112)))) ∧ Part F (w.alloc o) w'') ∧ w'.cell? ⟨w.heap.size, 0, none⟩ = some (.pointer (some ⟨D, 0, none⟩)) ∧ w'.cell? ⟨w.heap.size, 1, none⟩ = some (.int .i64 (from_ : Int)) ∧ w'.cell? ⟨w.heap.size, 2, none⟩ = some (.int .i64 (sectors : Int))) := fun z hz => by
          subst hz
          have hfq : From (w.alloc o).drew (some ⟨g, q * 112, none⟩) (size - q * 112) (sh (lg (from0 e from_)) (q * 112)) := by
            rcases hf1 with ⟨h, _⟩ | ⟨x, hx, hcx⟩
            · cases h
            · cases hx
              refine .inr ⟨_, rfl, fun i hi => ?_⟩
              have := hcx (q * 112 + i) (by omega)
              rw [Addr.add_lit] at this ⊢
              rw [Nat.zero_add] at this
              exact this
          refine (encL q first (size - q * 112) (c - q * 112) _ _ (w.alloc o).drew (by omega) (by omega) (by omega) hfq hbE (ht1.below hb1 (Nat.le_refl _))).mono ?_
          rintro r w2 ⟨g2, c2, rfl, ho2, hc2, hb2⟩
          have hb3 : Below (w.alloc o).heap.size (w.alloc o) w2 := hb1.trans hb2
          have hg2 : (w.alloc o).heap.size ≤ g2 := (World.ownsRow.lt ho2 g2 rfl).1
          refine ⟨g2, c2, rfl, fun z hz => ?_, ?_⟩
          · subst hz
            refine (aWriteS D n from_ sectors q 0 _ e g2 c2 _ w2 (HS.out.below hb3) (by omega) hn (by omega) (own_from ho2) (sec_by (hdL_by (by omega)) hbE _ _) (fun k => ?_)).mono ?_
            · rcases k with k | k
              · have := hFl _ k; omega
              · omega
            · rintro r w3 ⟨rfl, hs3, hp3⟩
              have hz2 := hb3.size
              have hz3 := hp3.size
              refine ⟨rfl, hs3.grow (fun k hk => ?_) (fun k hk => ?_), (Part.ofBelow (F := F) hb3).trans hp3 (fun k hk hk2 => ?_)⟩
              · rcases hk with (hk | hk) | hk
                · exact .inl hk
                · exact .inr (by omega)
                · exact .inr (by omega)
              · rcases hk with hk | hk
                · exact hs3.lt k (.inl (.inl hk))
                · exact hk.2
              · rcases hk2 with hk2 | hk2
                · exact hk2
                · omega
          · obtain ⟨c1, c2', c3, _⟩ := HI.out w2 (Part.ofBelow hb3)
            exact ⟨c1, c2', c3⟩
        have hqi2 : (q : Int) * 112 ≤ (size : Int) := by omega
        have hsi : (size : Int) ≤ (c : Int) := by omega
        have hmt : (tot : Int) ≤ (q : Int) * 112 + 112 ∨ (q : Int) * 112 + 112 < (tot : Int) := by omega
        have hT1' : (size : Int) < (tot : Int) := by omega
        have hT2' : (size : Int) < (q : Int) * 112 + 112 := by omega
        by_cases hs0 : size = 0
        · obtain rfl : q = 0 := by omega
          have hs2 : (size : Int) - 1 < 0 := by omega
          have HN0 : Hid ((N8 : Int) = 1) := by have := HN.out; show (N8 : Int) = 1; omega
          simp only [Nat.zero_mul, Nat.sub_zero] at HE HC1
          have e0 : (w.alloc o).drew.cell? ⟨w.heap.size, 0, none⟩ = some (.pointer (some ⟨D, 0, none⟩)) := d0
          have e1 : (w.alloc o).drew.cell? ⟨w.heap.size, 1, none⟩ = some (.int .i64 (from_ : Int)) := d1
          have e2 : (w.alloc o).drew.cell? ⟨w.heap.size, 2, none⟩ = some (.int .i64 (sectors : Int)) := d2
          have hm1 : (tot : Int) ≤ 112 ∨ 112 < (tot : Int) := by omega
          have hT3 : (size : Int) < 112 := by omega
          clear hS0 h0 hf0 hN8 hfi hT hs0 hq hf1 HI hT1 hT2 hqi2 hmt hT2' hqs hq112 HN
          rcases hm1 with hmt | hmt
          all_goals
            go_wp2_with fail
            go_region_with (first
              | (go_at_call 105; refine (HE.out _ rfl).mono ?_; rintro r w2 ⟨g2, c2, rfl, HW, f0, f1, f2⟩)
              | (go_at_call 104; refine (HW.out _ rfl).mono ?_; rintro r w3 ⟨rfl, hs3, hp3⟩))
            all_goals
              go_wp2_with fail
              go_meet
              exact ⟨_, true, by rw [HN0.out], rfl, hs3, HC1.out, hp3⟩
        · have hs2 : (0 : Int) ≤ (size : Int) - 1 := by omega
          have hqi : ((size : Int) - 1) / 112 = (q : Int) := by omega
          clear hS0 h0 hf0 hN8 hfi hT hs0 hq hf1 HI hT1 hT2
          have e0 : (w.alloc o).drew.cell? ⟨w.heap.size, 0, none⟩ = some (.pointer (some ⟨D, 0, none⟩)) := d0
          have e1 : (w.alloc o).drew.cell? ⟨w.heap.size, 1, none⟩ = some (.int .i64 (from_ : Int)) := d1
          have e2 : (w.alloc o).drew.cell? ⟨w.heap.size, 2, none⟩ = some (.int .i64 (sectors : Int)) := d2
          rcases hmt with hmt | hmt
          all_goals
            go_wp2_with fail
            go_region_with (first
              | (go_at_call 105; refine (HE.out _ (by first | rfl | exact hqi)).mono ?_; rintro r w2 ⟨g2, c2, rfl, HW, f0, f1, f2⟩)
              | (go_at_call 104; refine (HW.out _ (by first | rfl | exact hqi)).mono ?_; rintro r w3 ⟨rfl, hs3, hp3⟩))
            all_goals
              go_wp2_with fail
              go_meet
              exact ⟨_, true, by rw [HN.out], rfl, hs3, HC1.out, hp3⟩
      · have HC0 : Hid (CleanTo e e from_ sectors first tot size N8) := by rw [← hN8]; exact CleanTo.start e from_ sectors first tot size hT
        have hT1 : ¬ ((size : Int) < (tot : Int) ∧ (size : Int) < (q : Int) * 112 + 112) := fun k => hT ⟨by omega, Nat.lt_min.2 ⟨by omega, by rw [hq]; omega⟩⟩
        by_cases hs0 : size = 0
        · have hs2 : (size : Int) - 1 < 0 := by omega
          have HN0 : Hid ((N8 : Int) = 1) := by have := HN.out; show (N8 : Int) = 1; omega
          have hT2 : ¬ ((size : Int) < (tot : Int)) := fun k => hT1 ⟨k, by omega⟩
          clear hS0 h0 hf0 hN8 hfi hT hs0 hq hT1
          go_wp2_with fail
          all_goals
            go_meet
            exact ⟨e, false, by rw [HN0.out], rfl, HS.out, HC0.out, Part.refl _ _⟩
        · have hs2 : (0 : Int) ≤ (size : Int) - 1 := by omega
          have hqi : ((size : Int) - 1) / 112 = (q : Int) := by omega
          clear hS0 h0 hf0 hN8 hfi hT hs0 hq
          go_wp2_with fail
          all_goals
            go_meet
            exact ⟨e, false, by rw [HN.out], rfl, HS.out, HC0.out, Part.refl _ _⟩
  case rest =>
    obtain ⟨eK, b, rfl, rfl, hSK, hCK, hPK⟩ := hcut
    obtain ⟨z0, z1, z2, _, _, _⟩ := HI.out wc hPK
    have HN8 : Hid (nxt first size = N8) := hN8
    have hN8b : N8 ≤ sectors + 1 := by rw [← hN8]; unfold nxt; split <;> omega
    clear hS0 hf1 d0 d1 d2 hN8 ho
    go_wp2_with fail
    go_loopw [8, 9] (fun s8 s9 wr => ∃ (k : Nat) (e1 : Nat → Int) (b : Bool), s8 = .int .i64 (k : Int) ∧ N8 ≤ k ∧ k ≤ N8 + sectors ∧ s9 = .bool b ∧ Sd wr D (fun k => F k ∨ (w.heap.size + 1 ≤ k ∧ k < wr.heap.size)) n (if b then k + 1 else 0) e1 ∧ Hid (CleanTo e e1 from_ sectors first tot size k) ∧ Part F (w.alloc o) wr) (fun k _ _ => sectors - (intOf k).toNat)
    case atStart => exact ⟨N8, eK, b, rfl, Nat.le_refl _, by omega, rfl, hSK.mono (by cases b <;> simp), hCK, hPK⟩
    case round =>
      obtain ⟨k, e1, b, rfl, hk1, hk2, rfl, hS, hC, hP⟩ := hrel
      obtain ⟨z0, z1, z2, ht2, hs2, hPw⟩ := HI.out wr hP
      by_cases hlt : k < sectors
      · have hlt' : (k : Int) < (sectors : Int) := by omega
        have hMb : (if b then k + 1 else 0) ≤ 5000 := by split <;> omega
        have CR := aReadS D n from_ sectors k (if b then k + 1 else 0) _ e1 wr hS (by omega) hn (by omega)
        have hsec : ∀ i, i < 128 → secAt (from0 e1 from_) k i = e ((from_ + k) * 128 + i) := fun i hi => by
          have := hC.out.1 k hlt i hi
          rw [if_neg (by omega)] at this
          rw [← this]
          exact from0_at e1 from_ k i
        have HSk : Hid (Sd wr D (fun k => F k ∨ (w.heap.size + 1 ≤ k ∧ k < wr.heap.size)) n (if b then k + 1 else 0) e1) := hS
        have hnx : nxt first size ≤ k := by rw [HN8.out]; exact hk1
        obtain ⟨sK, hsK⟩ : ∃ sK, secAt (from0 e1 from_) k = sK := ⟨_, rfl⟩
        rw [hsK] at CR hsec
        clear hS ht2
        go_wp2_with fail
        refine CR.mono ?_
        rintro r w1 ⟨g, c1, rfl, o1, hc1, b1⟩
        have HCc : Hid (∀ i, i < 128 → w1.cell? ⟨g, 0 + i, none⟩ = some (.int .u8 (sK i))) := fun i hi => by rw [Nat.zero_add]; exact o1.cellF i hi
        have hP1 : Part F (w.alloc o) w1 := hP.trans (Part.ofBelow (F := fun _ => False) b1) (fun _ _ k => k.elim)
        obtain ⟨y0, y1, y2, _, _, _⟩ := HI.out w1 hP1
        have hS1 := HSk.out.below b1
        have hsz1 := b1.size
        clear CR o1
        go_wp2_with fail
        refine (blank_at g 0 128 c1 sK w1 (by omega) HCc).mono ?_
        rintro r w2 ⟨rfl, hw⟩
        obtain rfl : w1 = w2 := hw.symm
        clear hw HCc
        by_cases hbl : Nil sK 128
        · have hbl' : decide (Nil sK 128) = true := decide_eq_true hbl
          have HC2 : Hid (CleanTo e e1 from_ sectors first tot size (k + 1)) := hC.out.blank hlt hnx (fun i hi => by rw [← hsec i hi]; exact hbl i hi)
          have HS2 : Hid (Sd w1 D (fun k => F k ∨ (w.heap.size + 1 ≤ k ∧ k < w1.heap.size)) n (if b then k + 1 + 1 else 0) e1) := (hS1.grow (fun k hk => hk.imp id (fun hk => by omega)) (fun k hk => by
            rcases hk with hk | hk
            · exact hS1.lt k (.inl hk)
            · exact hk.2)).mono (by split <;> omega)
          rw [hbl']
          clear hbl hsec hbl' hC hS1 HSk
          go_wp2
          go_roundw
          case rel => exact ⟨k + 1, e1, b, by go_num, by omega, by omega, rfl, HS2.out, HC2, hP1⟩
          case measure => simp [intOf]; omega
        · have hbl' : decide (Nil sK 128) = false := decide_eq_false hbl
          obtain ⟨MB, hMB⟩ : ∃ MB, madeCells #[.int .u8 0] 128 = MB := ⟨_, rfl⟩
          have hmk : ∀ w : World, (Instr.makeSlice 47 (.int .i64 128) (.int .i64 128)).run Tryz.prog w = .ok (.slice (some ⟨w.heap.size, 0, none⟩) 128 128) (w.alloc (.cells MB 5)) := fun w => by
            rw [← hMB]
            exact run_make_row' (P := Tryz.prog) 47 5 (.int .u8 0) 1 Tryz.underlying47 info5 rfl .i64 .i64 128 (by omega) (by omega) w
          have HMf : Hid (∀ v : World, v.heap[w1.heap.size]? = some (.cells MB 5 (0, 0)) → From v (some ⟨w1.heap.size, 0, none⟩) 128 (fun _ => 0)) := fun v hv => by
            refine .inr ⟨_, rfl, fun i hi => ?_⟩
            rw [Addr.add_lit, Nat.zero_add, cells_at hv i, ← Array.getElem?_toList, ← hMB, made_bytes, List.getElem?_map, lst_get _ _ _ hi]
            rfl
          have HC2 : Hid (CleanTo e (ovs e1 (from_ + k) (fun _ => 0)) from_ sectors first tot size (k + 1)) := hC.out.zero hlt hnx _ (fun _ _ => rfl)
          have HWr : Hid (∀ Wm : World, Below w1.heap.size w1 Wm → Wm.heap[w1.heap.size]? = some (.cells MB 5 (0, 0)) → Calls Tryz.prog 104 #[.agg #[.pointer (some ⟨D, 0, none⟩), .int .i64 (from_ : Int), .int .i64 (sectors : Int)], .int .i64 (k : Int), .slice (some ⟨w1.heap.size, 0, none⟩) 128 128] Wm fun r w'' => r = .returned (.int .i64 0) ∧ Sd w'' D (fun k => F k ∨ (w.heap.size + 1 ≤ k ∧ k < w''.heap.size)) n (k + 1 + 1) (ovs e1 (from_ + k) (fun _ => 0)) ∧ Part F (w.alloc o) w'') := fun Wm hbm hhm => by
            refine (aWriteS D n from_ sectors k (if b then k + 1 else 0) _ e1 w1.heap.size 128 _ Wm (hS1.below hbm) (by omega) hn (by omega) (HMf.out Wm hhm) (fun _ => by omega) (fun hx => by
              rcases hx with hx | hx
              · have := hFl _ hx; omega
              · omega)).mono ?_
            rintro r w3 ⟨rfl, s3, p3⟩
            have hz2 := hbm.size
            have hz3 := p3.size
            refine ⟨rfl, (s3.grow (fun k hk => ?_) (fun k hk => ?_)).mono (by split <;> omega), (hP1.trans (Part.ofBelow (F := fun _ => False) hbm) (fun _ _ h => h.elim)).trans p3 (fun k hk hk2 => ?_)⟩
            · rcases hk with (hk | hk) | hk
              · exact .inl hk
              · exact .inr (by omega)
              · exact .inr (by omega)
            · rcases hk with hk | hk
              · exact s3.lt k (.inl (.inl hk))
              · exact hk.2
            · rcases hk2 with hk2 | hk2
              · exact hk2
              · omega
          rw [hbl']
          have x0 : ∀ q o', ((w1.drewN q).alloc o').cell? ⟨w.heap.size, 0, none⟩ = some (.pointer (some ⟨D, 0, none⟩)) := fun q o' => (HI.out _ ((hP1.drewN q).alloc o')).1
          have x1 : ∀ q o', ((w1.drewN q).alloc o').cell? ⟨w.heap.size, 1, none⟩ = some (.int .i64 (from_ : Int)) := fun q o' => (HI.out _ ((hP1.drewN q).alloc o')).2.1
          have x2 : ∀ q o', ((w1.drewN q).alloc o').cell? ⟨w.heap.size, 2, none⟩ = some (.int .i64 (sectors : Int)) := fun q o' => (HI.out _ ((hP1.drewN q).alloc o')).2.2.1
          have v0 : ∀ o', (w1.alloc o').drew.cell? ⟨w.heap.size, 0, none⟩ = some (.pointer (some ⟨D, 0, none⟩)) := fun o' => x0 0 o'
          have v1 : ∀ o', (w1.alloc o').drew.cell? ⟨w.heap.size, 1, none⟩ = some (.int .i64 (from_ : Int)) := fun o' => x1 0 o'
          have v2 : ∀ o', (w1.alloc o').drew.cell? ⟨w.heap.size, 2, none⟩ = some (.int .i64 (sectors : Int)) := fun o' => x2 0 o'
          have y0' : w1.drew.cell? ⟨w.heap.size, 0, none⟩ = some (.pointer (some ⟨D, 0, none⟩)) := y0
          have y1' : w1.drew.cell? ⟨w.heap.size, 1, none⟩ = some (.int .i64 (from_ : Int)) := y1
          have y2' : w1.drew.cell? ⟨w.heap.size, 2, none⟩ = some (.int .i64 (sectors : Int)) := y2
          clear hbl hsec hbl' hC hS1 HSk hMB HMf
          go_wp2_with fail
          go_region_with (go_at_call 104; refine (HWr.out _ (by first | exact (blw_drewN 1 (Below.refl _ w1)).alloc (Nat.le_refl _) _ | exact blw_drewN 1 ((Below.refl _ w1).alloc (Nat.le_refl _) _)) (by exact heap_alloc_at w1 _ _ rfl)).mono ?_; rintro r w3 ⟨rfl, s3, p3⟩)
          all_goals
            go_wp2
            go_roundw
            case rel => exact ⟨k + 1, _, true, by go_num, by omega, by omega, rfl, s3, HC2, p3⟩
            case measure => simp [intOf]; omega
      · have hge : ¬ (k : Int) < (sectors : Int) := by omega
        have HD : Hid (Cleaned e e1 from_ sectors first tot size) := hC.out.done (by omega)
        have hs3 := hP.size
        have hMb : (if b then k + 1 else 0) ≤ 100000 := by split <;> omega
        have HG : Hid (∀ wf, Part F (w.alloc o) wf → Sd wf D (fun k => F k ∨ (w.heap.size + 1 ≤ k ∧ k < wr.heap.size)) n 0 e1 → wr.heap.size ≤ wf.heap.size → Sd wf D (fun k => F k ∨ (w.heap.size ≤ k ∧ k < wf.heap.size)) n 0 e1 ∧ Part F w wf) := fun wf h1 h2 h3 => ⟨h2.grow (fun k hk => hk.imp id (fun hk => by omega)) (fun k hk => by
            rcases hk with hk | hk
            · exact h2.lt k (.inl hk)
            · exact hk.2), (HI.out wf h1).2.2.2.2.2⟩
        cases b with
        | false =>
          obtain ⟨q1, q2⟩ := HG.out wr hP hS (Nat.le_refl _)
          clear HG hS hC
          go_wp2
          go_end0
          first | exact ⟨rfl, e1, q1, HD.out, q2⟩ | exact ⟨e1, rfl, q1, HD.out, q2⟩
        | true =>
          have CF := sdFlush D n _ _ e1 wr hS (by omega)
          clear hS hC
          go_wp2_with fail
          refine CF.mono ?_
          rintro r w1 ⟨rfl, s1, p1⟩
          have hz1 := p1.size
          obtain ⟨q1, q2⟩ := HG.out w1 (hP.trans p1 (fun k hk hk2 => by
            rcases hk2 with hk2 | hk2
            · exact hk2
            · omega)) s1 hz1
          clear HG CF
          go_wp2
          go_end0
          first | exact ⟨rfl, e1, q1, HD.out, q2⟩ | exact ⟨e1, rfl, q1, HD.out, q2⟩
end Go.Proofs.YthfokciijcmhbaaGreatDoor
