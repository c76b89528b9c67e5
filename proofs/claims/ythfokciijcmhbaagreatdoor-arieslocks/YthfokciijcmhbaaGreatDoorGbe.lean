/-
  Contract of a log area's save, where writes pend: sectors with loads, from a place on, made durable with all that pends. Conditions: the sectors are the disk's; the loads lie apart from it; the library's table of sums is as it starts.
  Contract of a log's Force, where writes pend. Conditions: the log and its tail lie apart from the disk; the library's table of sums is as it starts.
  A pool whose log is written, where writes pend: Force, Append; save of any buffer.
-/
import Derived.Test.YthfokciijcmhbaaGreatDoorGat
import Derived.Test.YthfokciijcmhbaaGreatDoorGbd
import Derived.Test.YthfokciijcmhbaaGreatDoorGbb
import Derived.Test.YthfokciijcmhbaaGreatDoorGbc
namespace Go.Proofs.YthfokciijcmhbaaGreatDoor
open Go.RowKit
set_option linter.unusedVariables false

set_option maxRecDepth 100000 in
set_option maxHeartbeats 2000000 in
theorem saveM (M D n from_ sectors place first N : Nat) (F : Nat → Prop) (e : Nat → Int) (g0 c0 : Nat) (A : Nat → Option Addr) (Ls C : Nat → Nat) (f : Nat → Nat → Int) (w : World) (h : Sd w D F n M e) (hM : M ≤ 1000000) (hn : n ≤ 4096) (hp : from_ + place + N ≤ n) (hN : first ≤ 9223372036854775807) (ht : Tab w) (htb : ¬ F 0)
    (hIm : ∀ wr, Part F w wr → Img wr (some ⟨g0, 0, none⟩) N A Ls C f) (hL : ∀ k, Ls k ≤ 112) (hf : ∀ k i, 0 ≤ f k i ∧ f k i ≤ 255) :
    Calls Tryz.prog 95 #[.agg #[.pointer (some ⟨D, 0, none⟩), .int .i64 (from_ : Int), .int .i64 (sectors : Int)], .int .i64 (place : Int), .int .i64 (first : Int), .slice (some ⟨g0, 0, none⟩) N c0] w fun r w' => r = .returned (.int .i64 0) ∧ Sd w' D (fun k => F k ∨ (w.heap.size ≤ k ∧ k < w'.heap.size)) n 0 (svs e from_ place first Ls f N) ∧ Part F w w' := by
  obtain ⟨o, ho⟩ : ∃ o, Obj.cells #[.pointer (some ⟨D, 0, none⟩), .int .i64 (from_ : Int), .int .i64 (sectors : Int)] 127 = o := ⟨_, rfl⟩
  have hb0 : Below w.heap.size w (w.alloc o) := (Below.refl _ w).alloc (Nat.le_refl _) o
  have hh0 : (w.alloc o).heap[w.heap.size]? = some (.cells #[.pointer (some ⟨D, 0, none⟩), .int .i64 (from_ : Int), .int .i64 (sectors : Int)] 127 (0, 0)) := by rw [← ho]; exact heap_alloc_at _ _ _ rfl
  have hsz : (w.alloc o).heap.size = w.heap.size + 1 := by simp
  have hFl := h.lt
  have hby := h.by_
  have HI : Hid (∀ wr, Part F (w.alloc o) wr → wr.cell? ⟨w.heap.size, 0, none⟩ = some (.pointer (some ⟨D, 0, none⟩)) ∧ wr.cell? ⟨w.heap.size, 1, none⟩ = some (.int .i64 (from_ : Int)) ∧ wr.cell? ⟨w.heap.size, 2, none⟩ = some (.int .i64 (sectors : Int)) ∧ Tab wr ∧ w.heap.size + 1 ≤ wr.heap.size ∧ Part F w wr) := fun wr hb => by
    have hs := hb.size
    have e1 := (hb.block w.heap.size (by omega) (fun k => by have := hFl _ k; omega)).trans hh0
    refine ⟨by rw [cells_at e1 0]; rfl, by rw [cells_at e1 1]; rfl, by rw [cells_at e1 2]; rfl, fun i hi => ?_, by omega, (Part.ofBelow hb0).trans hb (fun _ _ k => k)⟩
    have := (ht.below hb0 (Nat.le_refl _)) i hi
    exact hb.cell htb this
  have hS0 : Sd (w.alloc o) D (fun k => F k ∨ (w.heap.size + 1 ≤ k ∧ k < (w.alloc o).heap.size)) n M e := (h.below hb0).grow (fun k hk => .inl hk) (fun k hk => by
    rcases hk with hk | hk
    · have := hFl k hk; omega
    · exact hk.2)
  have HIm : Hid (∀ wr, Part F w wr → Img wr (some ⟨g0, 0, none⟩) N A Ls C f) := hIm
  have HL : Hid (∀ k, Ls k ≤ 112) := hL
  have HF : Hid (∀ k i, 0 ≤ f k i ∧ f k i ≤ 255) := hf
  clear h ht hh0 hIm hL hf
  go_enter Tryz.func95, Tryz.ntmps95
  go_wp2
  try rw [ho]
  go_loopw [14] (fun i wr => ∃ k : Nat, k ≤ N ∧ i = .int .i64 (k : Int) ∧ Sd wr D (fun k => F k ∨ (w.heap.size + 1 ≤ k ∧ k < wr.heap.size)) n (M + k) (svs e from_ place first Ls f k) ∧ Part F (w.alloc o) wr) (fun i _ => N - (intOf i).toNat)
  case atStart => exact ⟨0, Nat.zero_le _, rfl, hS0, Part.refl _ _⟩
  case round =>
    obtain ⟨k, hk, rfl, hS, hP⟩ := hrel
    obtain ⟨z0, z1, z2, ht2, hs2, hPw⟩ := HI.out wr hP
    by_cases hlt : k < N
    · have hlt' : (k : Int) < (N : Int) := by omega
      have hk0 : (0 : Int) ≤ (k : Int) := by omega
      obtain ⟨b, off, hbo, hcell, hfrom, _⟩ := HIm.out wr hPw k hlt
      cases hbo
      rw [Nat.zero_add] at hcell
      have hLk := HL.out k
      have hb1 : Below wr.heap.size wr wr.drew := blw_drewN 1 (Below.refl _ _)
      have hPd : Part F (w.alloc o) wr.drew := hP.drewN 1
      have HE : Hid (∀ z : Int, z = ((place + k : Nat) : Int) → Calls Tryz.prog 105 #[.int .i64 z, .int .i64 (first : Int), .slice (A k) (Ls k) (C k)] wr.drew fun r w' => ∃ g2 c2, r = .returned (.slice (some ⟨g2, 0, none⟩) 128 c2) ∧ Hid (∀ z : Int, z = ((place + k : Nat) : Int) → Calls Tryz.prog 104 #[.agg #[.pointer (some ⟨D, 0, none⟩), .int .i64 (from_ : Int), .int .i64 (sectors : Int)], .int .i64 z, .slice (some ⟨g2, 0, none⟩) 128 c2] w' fun r w'' => r = .returned (.int .i64 0) ∧ Sd w'' D (fun k => F k ∨ (w.heap.size + 1 ≤ k ∧ k < w''.heap.size)) n (M + (k + 1)) (svs e from_ place first Ls f (k + 1)) ∧ Part F (w.alloc o) w'') ∧ w'.cell? ⟨w.heap.size, 0, none⟩ = some (.pointer (some ⟨D, 0, none⟩)) ∧ w'.cell? ⟨w.heap.size, 1, none⟩ = some (.int .i64 (from_ : Int)) ∧ w'.cell? ⟨w.heap.size, 2, none⟩ = some (.int .i64 (sectors : Int))) := fun z hz => by
        subst hz
        refine (encL (place + k) first (Ls k) (C k) (A k) (f k) wr.drew (by omega) hN hLk (hfrom.below hb1 (Nat.le_refl _)) (HF.out k) (ht2.below hb1 (Nat.le_refl _))).mono ?_
        rintro r w2 ⟨g2, c2, rfl, ho2, hc2, hb2⟩
        have hb3 : Below wr.heap.size wr w2 := hb1.trans hb2
        have hg2 : wr.heap.size ≤ g2 := (World.ownsRow.lt ho2 g2 rfl).1
        refine ⟨g2, c2, rfl, fun z hz => ?_, ?_⟩
        · subst hz
          refine (aWriteS D n from_ sectors (place + k) (M + k) _ _ g2 c2 _ w2 (hS.below hb3) (by omega) hn (by omega) (own_from ho2) (sec_by (hdL_by hLk) (HF.out k) _ _) (fun hx => ?_)).mono ?_
          · rcases hx with hx | hx
            · have := hFl _ hx; omega
            · omega
          · rintro r w3 ⟨rfl, s3, p3⟩
            have hz2 := hb3.size
            have hz3 := p3.size
            refine ⟨rfl, s3.grow (fun k hk => ?_) (fun k hk => ?_), (hP.trans (Part.ofBelow (F := fun _ => False) hb3) (fun _ _ h => h.elim)).trans p3 (fun k hk hk2 => ?_)⟩
            · rcases hk with (hk | hk) | hk
              · exact .inl hk
              · exact .inr (by omega)
              · exact .inr (by omega)
            · rcases hk with hk | hk
              · exact s3.lt k (.inl (.inl hk))
              · exact hk.2
            · rcases hk2 with hk2 | hk2
              · exact hk2
              · omega
        · obtain ⟨c1, c2', c3, _⟩ := HI.out w2 (hP.trans (Part.ofBelow (F := fun _ => False) hb3) (fun _ _ h => h.elim))
          exact ⟨c1, c2', c3⟩
      have HZ : Hid (IntKind.i64.wrap ((place : Int) + (k : Int)) = ((place + k : Nat) : Int)) := (by rw [IntKind.wrap_i64]; omega : IntKind.i64.wrap ((place : Int) + (k : Int)) = ((place + k : Nat) : Int))
      have hpb : (place : Int) ≤ 4096 := by omega
      have hkb : (k : Int) ≤ 4096 := by omega
      obtain ⟨u0, u1, u2, _⟩ := HI.out wr.drew hPd
      clear hS ht2 hfrom
      go_upto_region 4 with fail
      go_cut [11] (fun s11 wc => s11 = .int .i64 0 ∧ Sd wc D (fun k => F k ∨ (w.heap.size + 1 ≤ k ∧ k < wc.heap.size)) n (M + (k + 1)) (svs e from_ place first Ls f (k + 1)) ∧ Part F (w.alloc o) wc)
      case first =>
        go_region_with (first
          | (go_at_call 105; refine (HE.out _ (by first | exact HZ.out | omega)).mono ?_; rintro r w2 ⟨g2, c2, rfl, HW, f0, f1, f2⟩)
          | (go_at_call 104; refine (HW.out _ (by first | exact HZ.out | omega)).mono ?_; rintro r w3 ⟨rfl, hs3, hp3⟩))
        all_goals
          go_wp2_with fail
          go_meet
          exact ⟨rfl, hs3, hp3⟩
      case rest =>
        obtain ⟨rfl, hs3, hp3⟩ := hcut
        clear HE
        go_wp2
        go_roundw
        case rel => exact ⟨k + 1, by omega, by go_num, hs3, hp3⟩
        case measure => simp [intOf]; omega
    · obtain rfl : k = N := by omega
      have hge : ¬ (k : Int) < (k : Int) := by omega
      have CF := sdFlush D n _ _ _ wr hS (by omega)
      have hz5 := hP.size
      clear hS
      go_wp2_with fail
      refine CF.mono ?_
      rintro r w1 ⟨rfl, s1, p1⟩
      have hz1 := p1.size
      have q2 : Part F w w1 := (HI.out w1 (hP.trans p1 (fun k hk hk2 => by
        rcases hk2 with hk2 | hk2
        · exact hk2
        · omega))).2.2.2.2.2
      have q1 := s1.grow (G := fun k => F k ∨ (w.heap.size ≤ k ∧ k < w1.heap.size)) (fun k hk => hk.imp id (fun hk => by omega)) (fun k hk => by
        rcases hk with hk | hk
        · exact s1.lt k (.inl hk)
        · exact hk.2)
      clear CF s1 p1
      go_wp2
      go_ret
      exact ⟨rfl, q1, q2⟩
end Go.Proofs.YthfokciijcmhbaaGreatDoor

namespace Go.Proofs.YthfokciijcmhbaaGreatDoor
open Go.RowKit Go.Shelf
set_option linter.unusedVariables false

set_option maxRecDepth 100000 in
set_option maxHeartbeats 2000000 in
theorem forceM (M L T D n from_ sectors first last forced place g tl c N : Nat) (F : Nat → Prop) (e f : Nat → Int) (w : World) (h : LogW w L T D from_ sectors first last forced place (.slice (some ⟨g, 0, none⟩) tl c)) (hne : L ≠ T) (hfl : forced ≠ last) (hS : Sd w D F n M e) (hM : M ≤ 1000000) (hLF : ¬ F L) (hTF : ¬ F T) (hgF : ¬ F g) (hgT : g ≠ T) (hgl : g < w.heap.size)
    (hc : ∀ i, i < tl → w.cell? ⟨g, i, none⟩ = some (.int .u8 (f i))) (hcap : tl ≤ c) (hc2 : c ≤ 9223372036854775807) (hf : ∀ i, 0 ≤ f i ∧ f i ≤ 255) (htl : 0 < tl) (hN : tl ≤ N * 112) (hN2 : N * 112 < tl + 112) (hp : from_ + place + N ≤ n) (hfi : first ≤ 9223372036854775807) (ht : Tab w) (htb : ¬ F 0) :
    Calls Tryz.prog 63 #[.pointer (some ⟨L, 0, none⟩)] w fun r w' => r = .returned (.int .i64 0) ∧ ForceTo w w' L T D n from_ sectors first last place tl N F e f := by
  have hLl : L < w.heap.size := (Array.getElem?_eq_some_iff.1 h.hL).1
  have hTl : T < w.heap.size := (Array.getElem?_eq_some_iff.1 h.hT).1
  obtain ⟨n1, n2⟩ := hS.n2
  have hFl := hS.lt
  obtain ⟨hL, hT⟩ := h
  have HK : Hid (∀ w5 : World, Part F w w5 → w5.heap[L]? = some (.cells #[.pointer (some ⟨T, 0, none⟩)] 137 (0, 0)) ∧ w5.heap[T]? = some (.cells #[.pointer (some ⟨D, 0, none⟩), .int .i64 (from_ : Int), .int .i64 (sectors : Int), .int .i64 (first : Int), .int .i64 (last : Int), .int .i64 (forced : Int), .int .i64 (place : Int), .slice (some ⟨g, 0, none⟩) tl c] 135 (0, 0))) := fun w5 hP => ⟨(hP.block L hLl hLF).trans hL, (hP.block T hTl hTF).trans hT⟩
  have HC : Hid (∀ w5 : World, Part F w w5 → w5.cell? ⟨L, 0, none⟩ = some (.pointer (some ⟨T, 0, none⟩)) ∧ w5.cell? ⟨T, 0, none⟩ = some (.pointer (some ⟨D, 0, none⟩)) ∧ w5.cell? ⟨T, 1, none⟩ = some (.int .i64 (from_ : Int)) ∧ w5.cell? ⟨T, 2, none⟩ = some (.int .i64 (sectors : Int)) ∧ w5.cell? ⟨T, 3, none⟩ = some (.int .i64 (first : Int)) ∧ w5.cell? ⟨T, 4, none⟩ = some (.int .i64 (last : Int)) ∧ w5.cell? ⟨T, 5, none⟩ = some (.int .i64 (forced : Int)) ∧ w5.cell? ⟨T, 6, none⟩ = some (.int .i64 (place : Int)) ∧ w5.cell? ⟨T, 7, none⟩ = some (.slice (some ⟨g, 0, none⟩) tl c)) := fun w5 hP => by
    obtain ⟨k1, k2⟩ := HK.out w5 hP
    exact ⟨by rw [cells_at k1 0]; rfl, by rw [cells_at k2 0]; rfl, by rw [cells_at k2 1]; rfl, by rw [cells_at k2 2]; rfl, by rw [cells_at k2 3]; rfl, by rw [cells_at k2 4]; rfl, by rw [cells_at k2 5]; rfl, by rw [cells_at k2 6]; rfl, by rw [cells_at k2 7]; rfl⟩
  have hFT : Hid (∀ w5 : World, Part F w w5 → ∀ i, i < tl → w5.cell? ⟨g, i, none⟩ = some (.int .u8 (f i))) := fun w5 hP i hi => hP.cell (p := ⟨g, i, none⟩) hgF (hc i hi)
  -- the row of chunks, and what save does with it
  have HSv : Hid (∀ (w1 w2 : World) (v : Value), Below w.heap.size w w1 → w1.heap.size = w.heap.size + 2 → w2.ownsRow w1.heap.size 47 1 v N ((cks N N (Nat.le_refl _)).map (fun x => ckV g tl x.1)) → Below w1.heap.size w1 w2 → ∃ g2 c2, v = .slice (some ⟨g2, 0, none⟩) N c2 ∧ Below w.heap.size w w2 ∧ Hid (∀ W5 : World, W5.heap = w2.heap → W5.os = w2.os → W5.tape = w2.tape → W5.output = w2.output → Calls Tryz.prog 95 #[.agg #[.pointer (some ⟨D, 0, none⟩), .int .i64 (from_ : Int), .int .i64 (sectors : Int)], .int .i64 (place : Int), .int .i64 (first : Int), .slice (some ⟨g2, 0, none⟩) N c2] W5 fun r w6 => r = .returned (.int .i64 0) ∧ Hid (Sd w6 D (fun k => F k ∨ (w.heap.size ≤ k ∧ k < w6.heap.size)) n 0 (svs e from_ place first (ckL tl) (fun k => sh f (k * 112)) N)) ∧ Part F w w6)) := fun w1 w2 v hb1 hs1 ho hb2 => by
    have hb12 : Below w.heap.size w w2 := hb1.trans (hb2.mono (by omega))
    have hz2 := hb2.size
    have hN1 : N ≠ 0 := by omega
    obtain ⟨g2, c2, rfl, hg2⟩ : ∃ g2 c2, v = .slice (some ⟨g2, 0, none⟩) N c2 ∧ w1.heap.size ≤ g2 ∧ g2 < w2.heap.size := by
      rcases ho.2 with ⟨_, h0⟩ | ⟨g2, cap, cur, e1, e2, e3, _⟩
      · exact absurd h0 hN1
      · exact ⟨g2, cap, e1, e2, (Array.getElem?_eq_some_iff.1 e3).1⟩
    have hcl : ∀ j, j < N → w2.cell? ⟨g2, j, none⟩ = some (ckV g tl j) := fun j hj => by
      have := World.ownsRow.cells (g := g2) ho rfl j (ckV g tl j) (by rw [List.getElem?_map, cks_get N N (Nat.le_refl _) j hj]; rfl)
      rwa [Addr.add_lit, Nat.zero_add] at this
    refine ⟨g2, c2, rfl, hb12, fun W5 e1 e2 e3 e4 => ?_⟩
    have hb5 : Below w.heap.size w W5 := ⟨e2.trans hb12.os, e3.trans hb12.tape, e4.trans hb12.output, by rw [e1]; exact hb12.size, fun k hk => by rw [e1]; exact hb12.block k hk⟩
    have hs5 : W5.heap.size = w2.heap.size := by rw [e1]
    refine (saveM M D n from_ sectors place first N F e g2 c2 (fun k => some ⟨g, k * 112, none⟩) (ckL tl) (ckL tl) (fun k => sh f (k * 112)) W5 (hS.below hb5) hM n2 (by omega) hfi (ht.below hb5 (Nat.le_refl _)) htb (fun wr hP i hi => ?_) (fun k => Nat.min_le_left _ _) (fun k i => hf _)).mono ?_
    · refine ⟨_, _, rfl, ?_, .inr ⟨_, rfl, fun j hj => ?_⟩, fun h => by cases h⟩
      · have h1 : W5.cell? ⟨g2, i, none⟩ = some (ckV g tl i) := (World.cell?_of_block (w := w2) (by rw [e1])).trans (hcl i hi)
        rw [Nat.zero_add]
        exact hP.cell (p := ⟨g2, i, none⟩) (fun k => by have := hFl g2 k; omega) h1
      · rw [Addr.add_lit]
        have hj' : j < min 112 (tl - i * 112) := hj
        exact hFT.out wr ((Part.ofBelow hb5).trans hP (fun _ _ h => h)) (i * 112 + j) (by omega)
    · rintro r w6 ⟨rfl, s6, p6⟩
      have hz6 := p6.size
      refine ⟨rfl, s6.grow (fun k hk => ?_) (fun k hk => ?_), (Part.ofBelow hb5).trans p6 (fun _ _ h => h)⟩
      · rcases hk with hk | hk
        · exact .inl hk
        · exact .inr (by have := hb12.size; omega)
      · rcases hk with hk | hk
        · have := hFl _ hk; have := hb12.size; omega
        · exact hk.2
  have HE : Hid (∀ w6 w7 v', Part F w w6 → Sd w6 D (fun k => F k ∨ (w.heap.size ≤ k ∧ k < w6.heap.size)) n 0 (svs e from_ place first (ckL tl) (fun k => sh f (k * 112)) N) → w7.heap[T]? = some (.cells #[.pointer (some ⟨D, 0, none⟩), .int .i64 (from_ : Int), .int .i64 (sectors : Int), .int .i64 (first : Int), .int .i64 (last : Int), .int .i64 (last : Int), .int .i64 ((place + tl / 112 : Nat) : Int), v'] 135 (0, 0)) → Own w7 w6.heap.size v' (lst (sh f (tl / 112 * 112)) (tl - tl / 112 * 112)) → Part (fun q => q = T) w6 w7 → ForceTo w w7 L T D n from_ sectors first last place tl N F e f) := fun w6 w7 v' p6 s6 h1 h2 h3 => by
    have hz6 := p6.size
    obtain ⟨k1, _⟩ := HK.out w6 p6
    refine ⟨w6.heap.size, v', ⟨(h3.block L (by omega) hne).trans k1, h1⟩, h2, s6.part h3 (fun k hk e => ?_), (p6.mono (fun _ _ h => .inl h)).trans h3 (fun i hi h => .inr h), hz6⟩
    subst e
    rcases hk with hk | hk
    · exact hTF hk
    · omega
  have HSt : Hid (∀ w6 : World, Part F w w6 → Calls Tryz.prog 69 #[.pointer (some ⟨T, 0, none⟩)] w6 fun r w' => ∃ v', r = .returned (.tuple #[]) ∧ w'.heap[T]? = some (.cells #[.pointer (some ⟨D, 0, none⟩), .int .i64 (from_ : Int), .int .i64 (sectors : Int), .int .i64 (first : Int), .int .i64 (last : Int), .int .i64 (last : Int), .int .i64 ((place + tl / 112 : Nat) : Int), v'] 135 (0, 0)) ∧ Own w' w6.heap.size v' (lst (sh f (tl / 112 * 112)) (tl - tl / 112 * 112)) ∧ Part (fun q => q = T) w6 w') := fun w6 p6 =>
    settleL T last place tl c _ _ _ _ _ (some ⟨g, 0, none⟩) f w6 (HK.out w6 p6).2 ⟨hcap, hc2, .inr ⟨g, rfl, fun i hi => hFT.out w6 p6 i hi⟩⟩ (fun g' e => by cases e; exact hgT) (by omega) (by omega) ⟨_, rfl⟩
  have HCo : Hid (∀ w0 : World, Below w.heap.size w w0 → w0.heap.size = w.heap.size → Calls Tryz.prog 93 #[.func (.func 131) #[] #[.pointer (some ⟨w0.heap.size, 0, none⟩), .pointer (some ⟨w0.heap.size + 1, 0, none⟩)]] ((w0.alloc (.cells #[.slice (some ⟨g, 0, none⟩) tl c] 47)).alloc (.cells #[.int .i64 112] 3)) fun r w2 => ∃ g2 c2, r = .returned (.slice (some ⟨g2, 0, none⟩) N c2) ∧ Part F w w2 ∧ Hid (∀ W5 : World, W5.heap = w2.heap → W5.os = w2.os → W5.tape = w2.tape → W5.output = w2.output → Calls Tryz.prog 95 #[.agg #[.pointer (some ⟨D, 0, none⟩), .int .i64 (from_ : Int), .int .i64 (sectors : Int)], .int .i64 (place : Int), .int .i64 (first : Int), .slice (some ⟨g2, 0, none⟩) N c2] W5 fun r w6 => r = .returned (.int .i64 0) ∧ Hid (Sd w6 D (fun k => F k ∨ (w.heap.size ≤ k ∧ k < w6.heap.size)) n 0 (svs e from_ place first (ckL tl) (fun k => sh f (k * 112)) N)) ∧ Part F w w6)) := fun w0 hb0 hs0 => by
    obtain ⟨W1, hW1⟩ : ∃ W1, (w0.alloc (.cells #[.slice (some ⟨g, 0, none⟩) tl c] 47)).alloc (.cells #[.int .i64 112] 3) = W1 := ⟨_, rfl⟩
    have hs1 : W1.heap.size = w.heap.size + 2 := by rw [← hW1]; simp; omega
    have hb1 : Below w.heap.size w W1 := by rw [← hW1]; exact (hb0.alloc (by omega) _).alloc (by simp; omega) _
    have x1 : W1.heap[w0.heap.size]? = some (.cells #[.slice (some ⟨g, 0, none⟩) tl c] 47 (0, 0)) := by rw [← hW1, Below.heap_alloc _ _ _ (by simp)]; exact heap_alloc_at _ _ _ rfl
    have x2 : W1.heap[w0.heap.size + 1]? = some (.cells #[.int .i64 112] 3 (0, 0)) := by rw [← hW1]; exact heap_alloc_at _ _ _ (by simp)
    rw [hW1]
    refine (collectC W1 w0.heap.size (w0.heap.size + 1) g tl c N hN hN2 (by omega) hcap (by omega) (by omega) (by rw [cells_at x1 0]; rfl) (by rw [cells_at x2 0]; rfl)).mono ?_
    rintro r w2 ⟨v, rfl, ho, hb2⟩
    obtain ⟨g2, c2, rfl, hb12, H⟩ := HSv.out W1 w2 v hb1 hs1 ho hb2
    exact ⟨g2, c2, rfl, Part.ofBelow hb12, H⟩
  obtain ⟨l0, _, _, _, _, c4, c5, _, c7⟩ := HC.out w (Part.refl _ _)
  obtain ⟨d0, _, _, _, _, d4, d5, _, d7⟩ := HC.out w.drew ((Part.refl _ _).drewN 1)
  have hq : ((forced : Int) == (last : Int)) = false := by rw [beq_eq_false_iff_ne]; omega
  have HB0 : Hid (Below w.heap.size w w.drew) := blw_drewN 1 (Below.refl _ _)
  clear hL hT hS ht HSv hFT hc hf hfl hN hN2 HK
  go_enter Tryz.func63, Tryz.ntmps63
  go_wp2_with fail
  refine (lMissing L T w l0).mono ?_
  rintro r w0 ⟨rfl, hw⟩
  obtain rfl : w = w0 := hw.symm
  clear hw
  go_wp2_with fail
  go_region
  go_wp2_with fail
  refine (chunkC (some ⟨g, 0, none⟩) tl c w.drew).mono ?_
  rintro r w1 ⟨rfl, rfl⟩
  go_wp2_with fail
  refine (HCo.out w.drew HB0.out rfl).mono ?_
  rintro r w2 ⟨g2, c2, rfl, p2, HV⟩
  obtain ⟨e0, e1, e2, e3, e4, e5, e6, e7, e8⟩ := HC.out w2 p2
  obtain ⟨j0, j1, j2, j3, j4, j5, j6, j7, j8⟩ := HC.out w2.drew (p2.drewN 1)
  clear HCo c4 c5 c7 d0 d4 d5 d7 hq HB0 hp hLl hTl hFl
  go_upto_region 6 with fail
  refine wp_region_still_tail 22 (by kernel_rfl) (by kernel_rfl) ?_
  simp only [List.take_succ_cons, List.take_zero, List.drop_succ_cons, List.drop_zero]
  repeat still_step
  refine wpStill_nil ?_
  go_wp2_with fail
  refine (HV.out _ (by rfl) (by rfl) (by rfl) (by rfl)).mono ?_
  rintro r w6 ⟨rfl, s6, p6⟩
  obtain ⟨q0, _⟩ := HC.out w6 p6
  have CS := HSt.out w6 p6
  clear HC HV e0 e1 e2 e3 e4 e5 e6 e7 e8 j0 j1 j2 j3 j4 j5 j6 j7 j8
  go_wp2_with fail
  refine CS.mono ?_
  rintro r w7 ⟨v', rfl, h1, h2, h3⟩
  go_wp2
  go_ret
  exact ⟨rfl, HE.out _ _ _ p6 s6.out h1 h2 h3⟩
end Go.Proofs.YthfokciijcmhbaaGreatDoor

namespace Go.Proofs.YthfokciijcmhbaaGreatDoor
open Go.RowKit
set_option linter.unusedVariables false

theorem s1_typedF {F : Nat → Prop} {w : World} : ∀ b, (F b ∧ Dt w b) → Dt w b := fun b h => h.2
variable {B0 : Nat} {A : Ax} {w w' : World} {P G F F' : Nat → Prop} {S D L T bf n M M' last last' forced forced' : Nat} {m : Int} {X : Nat → Bf} {e e' : Nat → Int} {ln : Nat → Nat} {lo : Nat → Nat → Int} {vt vt' : Value}
/-- What writes the disk, the log's state and its tail leaves the pool. -/
theorem Pw.relog (k : Pw B0 A w P S m D L bf n X M e last forced ln lo) (s2 : Lp A w L T D F last forced vt) (hFP : ∀ b, F b → P b) (hT : P T) (hV : ∀ b, vt.ownBlock = some b → P b) (hty : ∀ b, F b → Dt w b) (hp : Part G w w') (hG : ∀ b, G b → F b ∨ b = T ∨ vt.ownBlock = some b) (n1 : Sd w' D F' 46 M' e') {A' : Ax} (hA : A'.al → A.al) (n2 : Lp A' w' L T D F' last' forced' vt') (hF' : ∀ b, F' b → F b ∨ w.heap.size ≤ b) (hV' : ∀ b, vt'.ownBlock = some b → vt.ownBlock = some b ∨ w.heap.size ≤ b) (he : ∀ p l f, p < 6 → Pgs e p l f → Pgs e' p l f) (hf : forced ≤ forced') (hl : last ≤ last') :
    Pw B0 A' w' (fun b => P b ∨ (w.heap.size ≤ b ∧ b < w'.heap.size)) S m D L bf n X M' e' last' forced' ln lo ∧ Part (Fq B0 P w) w w' := by
  obtain ⟨held, h1, _⟩ := k.ps.lay
  obtain ⟨q, place, tl, f, g1, g2, _⟩ := s2.lay
  obtain ⟨q', place', tl', f', g1', g2', _⟩ := n2.lay
  have hsz := hp.size
  have hGP : ∀ b, G b → P b := fun b hb => by
    rcases hG b hb with h | h | h
    · exact hFP b h
    · rw [h]; exact hT
    · exact hV b h
  have hnt : ∀ b cs t, G b → w.heap[b]? = some (.cells cs t (0, 0)) → t ≠ 166 ∧ t ≠ 170 ∧ t ≠ 143 := fun b cs t hb e => by
    rcases hG b hb with h | h | h
    · obtain ⟨cs', t', e', ht⟩ := hty b h
      rw [e'] at e
      injection e with e
      injection e with _ e
      subst e
      rcases ht with rfl | rfl | rfl | rfl <;> decide
    · subst h
      rw [g1.hT] at e
      injection e with e
      injection e with _ e
      subst e
      decide
    · obtain ⟨cur, e'⟩ := row_block g2 h
      rw [e'] at e
      injection e with e
      injection e with _ e
      subst e
      decide
  have hlt' := n1.lt
  refine ⟨⟨k.ps.part hp (fun hf => (hnt S _ _ hf h1).2.2 rfl) (fun b cs t hf e => ⟨(hnt b cs t hf e).1, (hnt b cs t hf e).2.1⟩), ⟨T, F', vt', n1, n2, fun b hb => ?_, .inl hT, fun b hb => ?_⟩, .inl k.pS, k.tab.partG hp (fun h => k.np.1 (hGP _ h)), ⟨?_, ?_, ?_⟩, fun b hb => ?_, (hp.block _ (Array.getElem?_eq_some_iff.1 k.pl).1 (fun h => k.np.2.1 (hGP _ h))).trans k.pl, fun j hj => hp.row (k.ld j hj) (fun b hb h => k.nP j b hj hb (hGP _ h)), fun j b hj hb => ?_, fun j hj => ?_, fun p hp' hn => he _ _ _ hp' (k.off p hp' hn), k.pa, k.by_, k.lm, fun p hp' => ?_, fun a p => Nat.le_trans (k.al (hA a) p) hl, k.nb, k.bl, k.tl⟩, hp.mono (fun b _ h => .inl (hGP b h))⟩
  · rcases hF' b hb with h | h
    · exact .inl (hFP b h)
    · exact .inr ⟨h, hlt' b hb⟩
  · rcases hV' b hb with h | h
    · exact .inl (hV b h)
    · exact .inr ⟨h, (World.ownsRow.lt g2' b hb).2⟩
  · have := k.tab.lt; exact fun h => h.elim k.np.1 (fun h => by omega)
  · have := (Array.getElem?_eq_some_iff.1 k.pl).1; exact fun h => h.elim k.np.2.1 (fun h => by omega)
  · have := (Array.getElem?_eq_some_iff.1 g1.hL).1; exact fun h => h.elim k.np.2.2 (fun h => by omega)
  · rcases hb with hb | hb
    · have := k.lt b hb; omega
    · exact hb.2
  · obtain ⟨cur, e⟩ := row_block (k.ld j hj) hb
    have := (Array.getElem?_eq_some_iff.1 e).1
    exact fun h => h.elim (k.nP j b hj hb) (fun h => by omega)
  · obtain ⟨z1, z2, z3, z4, z5⟩ := k.cl j hj
    exact ⟨z1, z2, z3, fun h => he _ _ _ z1 (z4 h), z5⟩
  · obtain ⟨l, f, d1, d2⟩ := k.dk p hp'
    exact ⟨l, f, he _ _ _ hp' d1, fun a => Nat.le_trans (d2 (hA a)) hf⟩
/-- The log's Force, where writes pend. -/
theorem pw_force (k : Pw B0 A w P S m D L bf n X M e last forced ln lo) (hM : M ≤ 1000000) (q : Nat) : Calls Tryz.prog 63 #[.pointer (some ⟨L, 0, none⟩)] (w.drewN q) fun r w' => r = .returned (.int .i64 0) ∧ ∃ P' e', Pw B0 A w' P' S m D L bf n X M e' last last ln lo ∧ Part (Fq B0 P w) w w' ∧ ∀ b, P' b → P b ∨ w.heap.size ≤ b := by
  by_cases hfl : forced = last
  · subst hfl
    exact pw_force_same k q
  · have bq : Below w.heap.size w (w.drewN q) := blw_drewN q (Below.refl _ w)
    have kq := k.below bq
    obtain ⟨T, F, vt, s1, s2, s3, s4, s5⟩ := kq.lay
    have s2' := s2.less (F' := fun b => F b ∧ Dt (w.drewN q) b) (fun b h => h.1)
    obtain ⟨q0, place, tl, f, g1, g2, g3, g4, g4', g5⟩ := s2'.lay
    have htl := g5 hfl
    obtain ⟨a, c, rfl, ⟨hcap, hc2, hfst⟩, hlow⟩ := g2.fst
    obtain ⟨g, rfl, hcl⟩ : ∃ g, a = some ⟨g, 0, none⟩ ∧ ∀ i, i < tl → (w.drewN q).cell? ⟨g, i, none⟩ = some (.int .u8 (f i)) := by
      rcases hfst with ⟨_, h, _⟩ | h
      · omega
      · exact h
    have hg := hlow g rfl
    obtain ⟨cur, hgb⟩ := row_block g2 (k := g) rfl
    have hgT : g ≠ T := fun e => by
      rw [e, g1.hT] at hgb
      injection hgb with hgb
      injection hgb with _ hgb
      exact absurd hgb (by decide)
    have hLl := (Array.getElem?_eq_some_iff.1 g1.hL).1
    have hTl := (Array.getElem?_eq_some_iff.1 g1.hT).1
    have hs0 := bq.size
    refine (forceM M L T D 46 0 40 1 last forced place g tl c ((tl + 111) / 112) _ e f _ g1 s2'.ne hfl s1.typed hM s2'.nL s2'.nT (s2'.nV g rfl) hgT hg.2 hcl hcap hc2 g3 htl (by omega) (by omega) (by omega) (by decide) kq.tab (fun h => kq.np.1 (s3 _ h.1))).mono fun r w' ⟨hr, q1, v', n1, n2, n3, n4, n5⟩ => ⟨hr, ?_⟩
    have lp : Lp A w' L T D (fun b => (F b ∧ Dt (w.drewN q) b) ∨ ((w.drewN q).heap.size ≤ b ∧ b < q1)) last last v' := ⟨⟨q1, place + tl / 112, tl - tl / 112 * 112, _, n1, n2, fun i => g3 _, by omega, g4', fun h => absurd rfl h⟩, s2'.ne, fun h => h.elim s2'.nL (fun h => by omega), fun h => h.elim s2'.nT (fun h => by omega), fun b hb h => by
      have := (World.ownsRow.lt n2 b hb).1
      rcases h with h | h
      · have := kq.lt b (s3 b h.1); omega
      · omega, Nat.le_refl _⟩
    obtain ⟨j1, j2⟩ := kq.relog s2' (fun b h => s3 b h.1) s4 s5 s1_typedF n4 (fun b h => h.imp id .inl) (n3.mono (Nat.zero_le M)) id lp (fun b h => h.imp id (fun h => h.1)) (fun b hb => .inr (by have := (World.ownsRow.lt n2 b hb).1; omega)) (fun p l f hp h => h.ext fun j hj => by rw [svs_at _ _ _ _ _ _ _ _ hj, if_neg (by omega)]) s2.fl (Nat.le_refl _)
    exact ⟨_, _, j1, Fq.trans (P' := P) (Part.ofBelow bq) (fun b h => .inl h) j2, fun b hb => hb.imp id (fun h => by omega)⟩
/-- save, of any buffer. -/
theorem s_saveG (k : Pw B0 A w P S m D L bf n X M e last forced ln lo) (i : Nat) (hi : i < n) (hM : M ≤ 1000000) : Calls Tryz.prog 133 #[.pointer (some ⟨S, 0, none⟩), ptr (X i).b] w fun r w' => r = .returned (.int .i64 0) ∧ Svd B0 A w P S m D L bf n (cleanX X i) (M + 1) last forced ln lo w' := by
  by_cases hx : (X i).fi = 0
  · exact s_saveC k i hi hx
  · by_cases hF : (X i).ls ≤ forced
    · exact s_saveN k i hi hM (by omega) hF
    · exact s_saveF k i hi hM (by omega) (by omega) (fun q => pw_force k hM q)
end Go.Proofs.YthfokciijcmhbaaGreatDoor
