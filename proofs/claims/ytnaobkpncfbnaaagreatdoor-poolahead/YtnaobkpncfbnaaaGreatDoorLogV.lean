/-
  Contract of a log area's save: sectors with loads, from a place on, made durable. Conditions: the sectors are the disk's; the loads lie apart from it; the library's table of sums is as it starts.
-/
import Derived.Test.YtnaobkpncfbnaaaGreatDoorLogO
namespace Go.Proofs.YtnaobkpncfbnaaaGreatDoor
open Go.RowKit
set_option linter.unusedVariables false

/-- The disk's bytes with k sectors written, from a place on. -/
def svs (e : Nat → Int) (at_ place first : Nat) (Ls : Nat → Nat) (f : Nat → Nat → Int) : Nat → Nat → Int
  | 0 => e
  | k + 1 => ovs (svs e at_ place first Ls f k) (at_ + (place + k)) (lsec (place + k) first (Ls k) (f k))
theorem svs_at (e : Nat → Int) (at_ place first : Nat) (Ls : Nat → Nat) (f : Nat → Nat → Int) (p i : Nat) (hi : i < 128) : ∀ k, svs e at_ place first Ls f k (p * 128 + i) = if at_ + place ≤ p ∧ p < at_ + place + k then lsec (p - at_) first (Ls (p - at_ - place)) (f (p - at_ - place)) i else e (p * 128 + i)
  | 0 => by rw [svs, if_neg (by omega)]
  | k + 1 => by
    rw [svs, ovs_at _ _ _ _ _ hi, svs_at e at_ place first Ls f p i hi k]
    by_cases h : p = at_ + (place + k)
    · subst h
      rw [if_pos rfl, if_pos (by omega), show at_ + (place + k) - at_ = place + k by omega, show place + k - place = k by omega]
    · rw [if_neg h]
      by_cases h2 : at_ + place ≤ p ∧ p < at_ + place + k
      · rw [if_pos h2, if_pos (by omega)]
      · rw [if_neg h2, if_neg (by omega)]
theorem svs_by {e : Nat → Int} (h : ∀ i, 0 ≤ e i ∧ e i ≤ 255) {at_ place first : Nat} {Ls : Nat → Nat} {f : Nat → Nat → Int} (hL : ∀ k, Ls k ≤ 112) (hf : ∀ k i, 0 ≤ f k i ∧ f k i ≤ 255) : ∀ k i, 0 ≤ svs e at_ place first Ls f k i ∧ svs e at_ place first Ls f k i ≤ 255
  | 0, i => h i
  | k + 1, i => ov_by (svs_by h hL hf k) (sec_by (hdL_by (hL k)) (hf k) _ _) _ _ i

set_option maxRecDepth 100000 in
set_option maxHeartbeats 2000000 in
theorem saveL (D n from_ sectors place first N : Nat) (F : Nat → Prop) (e : Nat → Int) (g0 c0 : Nat) (A : Nat → Option Addr) (Ls C : Nat → Nat) (f : Nat → Nat → Int) (w : World) (h : Sd w D F n 0 e) (hn : n ≤ 4096) (hp : from_ + place + N ≤ n) (hN : first ≤ 9223372036854775807) (ht : Tab w) (htb : ¬ F 0)
    (hIm : ∀ wr, Part F w wr → Img wr (some ⟨g0, 0, none⟩) N A Ls C f) (hL : ∀ k, Ls k ≤ 112) (hf : ∀ k i, 0 ≤ f k i ∧ f k i ≤ 255) :
    Calls Tryz.prog 113 #[.agg #[.pointer (some ⟨D, 0, none⟩), .int .i64 (from_ : Int), .int .i64 (sectors : Int)], .int .i64 (place : Int), .int .i64 (first : Int), .slice (some ⟨g0, 0, none⟩) N c0] w fun r w' => r = .returned (.int .i64 0) ∧ Sd w' D (fun k => F k ∨ (w.heap.size ≤ k ∧ k < w'.heap.size)) n 0 (svs e from_ place first Ls f N) ∧ Part F w w' := by
  obtain ⟨o, ho⟩ : ∃ o, Obj.cells #[.pointer (some ⟨D, 0, none⟩), .int .i64 (from_ : Int), .int .i64 (sectors : Int)] 68 = o := ⟨_, rfl⟩
  have hb0 : Below w.heap.size w (w.alloc o) := (Below.refl _ w).alloc (Nat.le_refl _) o
  have hh0 : (w.alloc o).heap[w.heap.size]? = some (.cells #[.pointer (some ⟨D, 0, none⟩), .int .i64 (from_ : Int), .int .i64 (sectors : Int)] 68 (0, 0)) := by rw [← ho]; exact heap_alloc_at _ _ _ rfl
  have hsz : (w.alloc o).heap.size = w.heap.size + 1 := by simp
  have hFl := h.lt
  have hby := h.by_
  have HI : Hid (∀ wr, Part F (w.alloc o) wr → wr.cell? ⟨w.heap.size, 0, none⟩ = some (.pointer (some ⟨D, 0, none⟩)) ∧ wr.cell? ⟨w.heap.size, 1, none⟩ = some (.int .i64 (from_ : Int)) ∧ wr.cell? ⟨w.heap.size, 2, none⟩ = some (.int .i64 (sectors : Int)) ∧ Tab wr ∧ w.heap.size + 1 ≤ wr.heap.size ∧ Part F w wr) := fun wr hb => by
    have hs := hb.size
    have e1 := (hb.block w.heap.size (by omega) (fun k => by have := hFl _ k; omega)).trans hh0
    refine ⟨by rw [cells_at e1 0]; rfl, by rw [cells_at e1 1]; rfl, by rw [cells_at e1 2]; rfl, fun i hi => ?_, by omega, (Part.ofBelow hb0).trans hb (fun _ _ k => k)⟩
    have := (ht.below hb0 (Nat.le_refl _)) i hi
    exact hb.cell htb this
  have hS0 : Sd (w.alloc o) D (fun k => F k ∨ (w.heap.size + 1 ≤ k ∧ k < (w.alloc o).heap.size)) n 0 e := (h.below hb0).grow (fun k hk => .inl hk) (fun k hk => by
    rcases hk with hk | hk
    · have := hFl k hk; omega
    · exact hk.2)
  have HIm : Hid (∀ wr, Part F w wr → Img wr (some ⟨g0, 0, none⟩) N A Ls C f) := hIm
  have HL : Hid (∀ k, Ls k ≤ 112) := hL
  have HF : Hid (∀ k i, 0 ≤ f k i ∧ f k i ≤ 255) := hf
  clear h ht hh0 hIm hL hf
  go_enter Tryz.func113, Tryz.ntmps113
  go_wp2
  try rw [ho]
  go_loopw [14] (fun i wr => ∃ k : Nat, k ≤ N ∧ i = .int .i64 (k : Int) ∧ Sd wr D (fun k => F k ∨ (w.heap.size + 1 ≤ k ∧ k < wr.heap.size)) n k (svs e from_ place first Ls f k) ∧ Part F (w.alloc o) wr) (fun i _ => N - (intOf i).toNat)
  case atStart => exact ⟨0, Nat.zero_le _, rfl, hS0, Part.refl _ _⟩
  case round =>
    obtain ⟨k, hk, rfl, hS, hP⟩ := hrel
    obtain ⟨z0, z1, z2, ht2, hs2, hPw⟩ := HI.out wr hP
    by_cases hlt : k < N
    · have hlt' : (k : Int) < (N : Int) := by omega
      have hk0 : (0 : Int) ≤ (k : Int) := by omega
      obtain ⟨b, off, hbo, hcell, hfrom, _⟩ := HIm.out wr hPw k hlt
      cases hbo
      rw [Nat.zero_add] at hcell
      have hLk := HL.out k
      have hb1 : Below wr.heap.size wr wr.drew := blw_drewN 1 (Below.refl _ _)
      have hPd : Part F (w.alloc o) wr.drew := hP.drewN 1
      have HE : Hid (∀ z : Int, z = ((place + k : Nat) : Int) → Calls Tryz.prog 65 #[.int .i64 z, .int .i64 (first : Int), .slice (A k) (Ls k) (C k)] wr.drew fun r w' => ∃ g2 c2, r = .returned (.slice (some ⟨g2, 0, none⟩) 128 c2) ∧ Hid (∀ z : Int, z = ((place + k : Nat) : Int) → Calls Tryz.prog 64 #[.agg #[.pointer (some ⟨D, 0, none⟩), .int .i64 (from_ : Int), .int .i64 (sectors : Int)], .int .i64 z, .slice (some ⟨g2, 0, none⟩) 128 c2] w' fun r w'' => r = .returned (.int .i64 0) ∧ Sd w'' D (fun k => F k ∨ (w.heap.size + 1 ≤ k ∧ k < w''.heap.size)) n (k + 1) (svs e from_ place first Ls f (k + 1)) ∧ Part F (w.alloc o) w'') ∧ w'.cell? ⟨w.heap.size, 0, none⟩ = some (.pointer (some ⟨D, 0, none⟩)) ∧ w'.cell? ⟨w.heap.size, 1, none⟩ = some (.int .i64 (from_ : Int)) ∧ w'.cell? ⟨w.heap.size, 2, none⟩ = some (.int .i64 (sectors : Int))) := fun z hz => by
        subst hz
        refine (encL (place + k) first (Ls k) (C k) (A k) (f k) wr.drew (by omega) hN hLk (hfrom.below hb1 (Nat.le_refl _)) (HF.out k) (ht2.below hb1 (Nat.le_refl _))).mono ?_
        rintro r w2 ⟨g2, c2, rfl, ho2, hc2, hb2⟩
        have hb3 : Below wr.heap.size wr w2 := hb1.trans hb2
        have hg2 : wr.heap.size ≤ g2 := (World.ownsRow.lt ho2 g2 rfl).1
        refine ⟨g2, c2, rfl, fun z hz => ?_, ?_⟩
        · subst hz
          refine (aWriteS D n from_ sectors (place + k) k _ _ g2 c2 _ w2 (hS.below hb3) (by omega) hn (by omega) (own_from ho2) (sec_by (hdL_by hLk) (HF.out k) _ _) (fun hx => ?_)).mono ?_
          · rcases hx with hx | hx
            · have := hFl _ hx; omega
            · omega
          · rintro r w3 ⟨rfl, s3, p3⟩
            have hz2 := hb3.size
            have hz3 := p3.size
            refine ⟨rfl, s3.grow (fun k hk => ?_) (fun k hk => ?_), (hP.trans (Part.ofBelow (F := fun _ => False) hb3) (fun _ _ h => h.elim)).trans p3 (fun k hk hk2 => ?_)⟩
            · rcases hk with (hk | hk) | hk
              · exact .inl hk
              · exact .inr (by omega)
              · exact .inr (by omega)
            · rcases hk with hk | hk
              · exact s3.lt k (.inl (.inl hk))
              · exact hk.2
            · rcases hk2 with hk2 | hk2
              · exact hk2
              · omega
        · obtain ⟨c1, c2', c3, _⟩ := HI.out w2 (hP.trans (Part.ofBelow (F := fun _ => False) hb3) (fun _ _ h => h.elim))
          exact ⟨c1, c2', c3⟩
      have HZ : Hid (IntKind.i64.wrap ((place : Int) + (k : Int)) = ((place + k : Nat) : Int)) := (by rw [IntKind.wrap_i64]; omega : IntKind.i64.wrap ((place : Int) + (k : Int)) = ((place + k : Nat) : Int))
      have hpb : (place : Int) ≤ 4096 := by omega
      have hkb : (k : Int) ≤ 4096 := by omega
      obtain ⟨u0, u1, u2, _⟩ := HI.out wr.drew hPd
      clear hS ht2 hfrom
      go_upto_region 4 with fail
      go_cut [11] (fun s11 wc => s11 = .int .i64 0 ∧ Sd wc D (fun k => F k ∨ (w.heap.size + 1 ≤ k ∧ k < wc.heap.size)) n (k + 1) (svs e from_ place first Ls f (k + 1)) ∧ Part F (w.alloc o) wc)
      case first =>
        go_region_with (first
          | (go_at_call 65; refine (HE.out _ (by first | exact HZ.out | omega)).mono ?_; rintro r w2 ⟨g2, c2, rfl, HW, f0, f1, f2⟩)
          | (go_at_call 64; refine (HW.out _ (by first | exact HZ.out | omega)).mono ?_; rintro r w3 ⟨rfl, hs3, hp3⟩))
        all_goals
          go_wp2_with fail
          go_meet
          exact ⟨rfl, hs3, hp3⟩
      case rest =>
        obtain ⟨rfl, hs3, hp3⟩ := hcut
        clear HE
        go_wp2
        go_roundw
        case rel => exact ⟨k + 1, by omega, by go_num, hs3, hp3⟩
        case measure => simp [intOf]; omega
    · obtain rfl : k = N := by omega
      have hge : ¬ (k : Int) < (k : Int) := by omega
      have CF := sdFlush D n _ _ _ wr hS (by omega)
      have hz5 := hP.size
      clear hS
      go_wp2_with fail
      refine CF.mono ?_
      rintro r w1 ⟨rfl, s1, p1⟩
      have hz1 := p1.size
      have q2 : Part F w w1 := (HI.out w1 (hP.trans p1 (fun k hk hk2 => by
        rcases hk2 with hk2 | hk2
        · exact hk2
        · omega))).2.2.2.2.2
      have q1 := s1.grow (G := fun k => F k ∨ (w.heap.size ≤ k ∧ k < w1.heap.size)) (fun k hk => hk.imp id (fun hk => by omega)) (fun k hk => by
        rcases hk with hk | hk
        · exact s1.lt k (.inl hk)
        · exact hk.2)
      clear CF s1 p1
      go_wp2
      go_ret
      exact ⟨rfl, q1, q2⟩
end Go.Proofs.YtnaobkpncfbnaaaGreatDoor
