/-
  Contract of a log area's save, where writes pend: sectors with loads, from a place on, made durable with all that pends. Conditions: the sectors are the disk's; the loads lie apart from it; the library's table of sums is as it starts.
  Contract of a log's Force, where writes pend. Conditions: the log and its tail lie apart from the disk; the library's table of sums is as it starts.
  A pool whose log is written, where writes pend: Force, Append; save of any buffer.
  Pool.Flush, Get, Table, over a pool whose pages are written.
-/
import Derived.Test.YtnaobkpncfbnaaaGreatDoorLogV
import Derived.Test.YtnaobkpncfbnaaaGreatDoorLogF
import Derived.Test.YtnaobkpncfbnaaaGreatDoorPwQ
import Derived.Test.YtnaobkpncfbnaaaGreatDoorLogB
import Derived.Deep.RegionHeld3
namespace Go.Proofs.YtnaobkpncfbnaaaGreatDoor
open Go.RowKit
set_option linter.unusedVariables false

set_option maxRecDepth 100000 in
set_option maxHeartbeats 2000000 in
theorem saveM (M D n from_ sectors place first N : Nat) (F : Nat → Prop) (e : Nat → Int) (g0 c0 : Nat) (A : Nat → Option Addr) (Ls C : Nat → Nat) (f : Nat → Nat → Int) (w : World) (h : Sd w D F n M e) (hM : M ≤ 1000000) (hn : n ≤ 4096) (hp : from_ + place + N ≤ n) (hN : first ≤ 9223372036854775807) (ht : Tab w) (htb : ¬ F 0)
    (hIm : ∀ wr, Part F w wr → Img wr (some ⟨g0, 0, none⟩) N A Ls C f) (hL : ∀ k, Ls k ≤ 112) (hf : ∀ k i, 0 ≤ f k i ∧ f k i ≤ 255) :
    Calls Tryz.prog 113 #[.agg #[.pointer (some ⟨D, 0, none⟩), .int .i64 (from_ : Int), .int .i64 (sectors : Int)], .int .i64 (place : Int), .int .i64 (first : Int), .slice (some ⟨g0, 0, none⟩) N c0] w fun r w' => r = .returned (.int .i64 0) ∧ Sd w' D (fun k => F k ∨ (w.heap.size ≤ k ∧ k < w'.heap.size)) n 0 (svs e from_ place first Ls f N) ∧ Part F w w' := by
  obtain ⟨o, ho⟩ : ∃ o, Obj.cells #[.pointer (some ⟨D, 0, none⟩), .int .i64 (from_ : Int), .int .i64 (sectors : Int)] 68 = o := ⟨_, rfl⟩
  have hb0 : Below w.heap.size w (w.alloc o) := (Below.refl _ w).alloc (Nat.le_refl _) o
  have hh0 : (w.alloc o).heap[w.heap.size]? = some (.cells #[.pointer (some ⟨D, 0, none⟩), .int .i64 (from_ : Int), .int .i64 (sectors : Int)] 68 (0, 0)) := by rw [← ho]; exact heap_alloc_at _ _ _ rfl
  have hsz : (w.alloc o).heap.size = w.heap.size + 1 := by simp
  have hFl := h.lt
  have hby := h.by_
  have HI : Hid (∀ wr, Part F (w.alloc o) wr → wr.cell? ⟨w.heap.size, 0, none⟩ = some (.pointer (some ⟨D, 0, none⟩)) ∧ wr.cell? ⟨w.heap.size, 1, none⟩ = some (.int .i64 (from_ : Int)) ∧ wr.cell? ⟨w.heap.size, 2, none⟩ = some (.int .i64 (sectors : Int)) ∧ Tab wr ∧ w.heap.size + 1 ≤ wr.heap.size ∧ Part F w wr) := fun wr hb => by
    have hs := hb.size
    have e1 := (hb.block w.heap.size (by omega) (fun k => by have := hFl _ k; omega)).trans hh0
    refine ⟨by rw [cells_at e1 0]; rfl, by rw [cells_at e1 1]; rfl, by rw [cells_at e1 2]; rfl, fun i hi => ?_, by omega, (Part.ofBelow hb0).trans hb (fun _ _ k => k)⟩
    have := (ht.below hb0 (Nat.le_refl _)) i hi
    exact hb.cell htb this
  have hS0 : Sd (w.alloc o) D (fun k => F k ∨ (w.heap.size + 1 ≤ k ∧ k < (w.alloc o).heap.size)) n M e := (h.below hb0).grow (fun k hk => .inl hk) (fun k hk => by
    rcases hk with hk | hk
    · have := hFl k hk; omega
    · exact hk.2)
  have HIm : Hid (∀ wr, Part F w wr → Img wr (some ⟨g0, 0, none⟩) N A Ls C f) := hIm
  have HL : Hid (∀ k, Ls k ≤ 112) := hL
  have HF : Hid (∀ k i, 0 ≤ f k i ∧ f k i ≤ 255) := hf
  clear h ht hh0 hIm hL hf
  go_enter Tryz.func113, Tryz.ntmps113
  go_wp2
  try rw [ho]
  go_loopw [14] (fun i wr => ∃ k : Nat, k ≤ N ∧ i = .int .i64 (k : Int) ∧ Sd wr D (fun k => F k ∨ (w.heap.size + 1 ≤ k ∧ k < wr.heap.size)) n (M + k) (svs e from_ place first Ls f k) ∧ Part F (w.alloc o) wr) (fun i _ => N - (intOf i).toNat)
  case atStart => exact ⟨0, Nat.zero_le _, rfl, hS0, Part.refl _ _⟩
  case round =>
    obtain ⟨k, hk, rfl, hS, hP⟩ := hrel
    obtain ⟨z0, z1, z2, ht2, hs2, hPw⟩ := HI.out wr hP
    by_cases hlt : k < N
    · have hlt' : (k : Int) < (N : Int) := by omega
      have hk0 : (0 : Int) ≤ (k : Int) := by omega
      obtain ⟨b, off, hbo, hcell, hfrom, _⟩ := HIm.out wr hPw k hlt
      cases hbo
      rw [Nat.zero_add] at hcell
      have hLk := HL.out k
      have hb1 : Below wr.heap.size wr wr.drew := blw_drewN 1 (Below.refl _ _)
      have hPd : Part F (w.alloc o) wr.drew := hP.drewN 1
      have HE : Hid (∀ z : Int, z = ((place + k : Nat) : Int) → Calls Tryz.prog 65 #[.int .i64 z, .int .i64 (first : Int), .slice (A k) (Ls k) (C k)] wr.drew fun r w' => ∃ g2 c2, r = .returned (.slice (some ⟨g2, 0, none⟩) 128 c2) ∧ Hid (∀ z : Int, z = ((place + k : Nat) : Int) → Calls Tryz.prog 64 #[.agg #[.pointer (some ⟨D, 0, none⟩), .int .i64 (from_ : Int), .int .i64 (sectors : Int)], .int .i64 z, .slice (some ⟨g2, 0, none⟩) 128 c2] w' fun r w'' => r = .returned (.int .i64 0) ∧ Sd w'' D (fun k => F k ∨ (w.heap.size + 1 ≤ k ∧ k < w''.heap.size)) n (M + (k + 1)) (svs e from_ place first Ls f (k + 1)) ∧ Part F (w.alloc o) w'') ∧ w'.cell? ⟨w.heap.size, 0, none⟩ = some (.pointer (some ⟨D, 0, none⟩)) ∧ w'.cell? ⟨w.heap.size, 1, none⟩ = some (.int .i64 (from_ : Int)) ∧ w'.cell? ⟨w.heap.size, 2, none⟩ = some (.int .i64 (sectors : Int))) := fun z hz => by
        subst hz
        refine (encL (place + k) first (Ls k) (C k) (A k) (f k) wr.drew (by omega) hN hLk (hfrom.below hb1 (Nat.le_refl _)) (HF.out k) (ht2.below hb1 (Nat.le_refl _))).mono ?_
        rintro r w2 ⟨g2, c2, rfl, ho2, hc2, hb2⟩
        have hb3 : Below wr.heap.size wr w2 := hb1.trans hb2
        have hg2 : wr.heap.size ≤ g2 := (World.ownsRow.lt ho2 g2 rfl).1
        refine ⟨g2, c2, rfl, fun z hz => ?_, ?_⟩
        · subst hz
          refine (aWriteS D n from_ sectors (place + k) (M + k) _ _ g2 c2 _ w2 (hS.below hb3) (by omega) hn (by omega) (own_from ho2) (sec_by (hdL_by hLk) (HF.out k) _ _) (fun hx => ?_)).mono ?_
          · rcases hx with hx | hx
            · have := hFl _ hx; omega
            · omega
          · rintro r w3 ⟨rfl, s3, p3⟩
            have hz2 := hb3.size
            have hz3 := p3.size
            refine ⟨rfl, s3.grow (fun k hk => ?_) (fun k hk => ?_), (hP.trans (Part.ofBelow (F := fun _ => False) hb3) (fun _ _ h => h.elim)).trans p3 (fun k hk hk2 => ?_)⟩
            · rcases hk with (hk | hk) | hk
              · exact .inl hk
              · exact .inr (by omega)
              · exact .inr (by omega)
            · rcases hk with hk | hk
              · exact s3.lt k (.inl (.inl hk))
              · exact hk.2
            · rcases hk2 with hk2 | hk2
              · exact hk2
              · omega
        · obtain ⟨c1, c2', c3, _⟩ := HI.out w2 (hP.trans (Part.ofBelow (F := fun _ => False) hb3) (fun _ _ h => h.elim))
          exact ⟨c1, c2', c3⟩
      have HZ : Hid (IntKind.i64.wrap ((place : Int) + (k : Int)) = ((place + k : Nat) : Int)) := (by rw [IntKind.wrap_i64]; omega : IntKind.i64.wrap ((place : Int) + (k : Int)) = ((place + k : Nat) : Int))
      have hpb : (place : Int) ≤ 4096 := by omega
      have hkb : (k : Int) ≤ 4096 := by omega
      obtain ⟨u0, u1, u2, _⟩ := HI.out wr.drew hPd
      clear hS ht2 hfrom
      go_upto_region 4 with fail
      go_cut [11] (fun s11 wc => s11 = .int .i64 0 ∧ Sd wc D (fun k => F k ∨ (w.heap.size + 1 ≤ k ∧ k < wc.heap.size)) n (M + (k + 1)) (svs e from_ place first Ls f (k + 1)) ∧ Part F (w.alloc o) wc)
      case first =>
        go_region_with (first
          | (go_at_call 65; refine (HE.out _ (by first | exact HZ.out | omega)).mono ?_; rintro r w2 ⟨g2, c2, rfl, HW, f0, f1, f2⟩)
          | (go_at_call 64; refine (HW.out _ (by first | exact HZ.out | omega)).mono ?_; rintro r w3 ⟨rfl, hs3, hp3⟩))
        all_goals
          go_wp2_with fail
          go_meet
          exact ⟨rfl, hs3, hp3⟩
      case rest =>
        obtain ⟨rfl, hs3, hp3⟩ := hcut
        clear HE
        go_wp2
        go_roundw
        case rel => exact ⟨k + 1, by omega, by go_num, hs3, hp3⟩
        case measure => simp [intOf]; omega
    · obtain rfl : k = N := by omega
      have hge : ¬ (k : Int) < (k : Int) := by omega
      have CF := sdFlush D n _ _ _ wr hS (by omega)
      have hz5 := hP.size
      clear hS
      go_wp2_with fail
      refine CF.mono ?_
      rintro r w1 ⟨rfl, s1, p1⟩
      have hz1 := p1.size
      have q2 : Part F w w1 := (HI.out w1 (hP.trans p1 (fun k hk hk2 => by
        rcases hk2 with hk2 | hk2
        · exact hk2
        · omega))).2.2.2.2.2
      have q1 := s1.grow (G := fun k => F k ∨ (w.heap.size ≤ k ∧ k < w1.heap.size)) (fun k hk => hk.imp id (fun hk => by omega)) (fun k hk => by
        rcases hk with hk | hk
        · exact s1.lt k (.inl hk)
        · exact hk.2)
      clear CF s1 p1
      go_wp2
      go_ret
      exact ⟨rfl, q1, q2⟩
end Go.Proofs.YtnaobkpncfbnaaaGreatDoor

namespace Go.Proofs.YtnaobkpncfbnaaaGreatDoor
open Go.RowKit Go.Shelf
set_option linter.unusedVariables false

set_option maxRecDepth 100000 in
set_option maxHeartbeats 2000000 in
theorem forceM (M L T D n from_ sectors first last forced place g tl c N : Nat) (F : Nat → Prop) (e f : Nat → Int) (w : World) (h : LogW w L T D from_ sectors first last forced place (.slice (some ⟨g, 0, none⟩) tl c)) (hne : L ≠ T) (hfl : forced ≠ last) (hS : Sd w D F n M e) (hM : M ≤ 1000000) (hLF : ¬ F L) (hTF : ¬ F T) (hgF : ¬ F g) (hgT : g ≠ T) (hgl : g < w.heap.size)
    (hc : ∀ i, i < tl → w.cell? ⟨g, i, none⟩ = some (.int .u8 (f i))) (hcap : tl ≤ c) (hc2 : c ≤ 9223372036854775807) (hf : ∀ i, 0 ≤ f i ∧ f i ≤ 255) (htl : 0 < tl) (hN : tl ≤ N * 112) (hN2 : N * 112 < tl + 112) (hp : from_ + place + N ≤ n) (hfi : first ≤ 9223372036854775807) (ht : Tab w) (htb : ¬ F 0) :
    Calls Tryz.prog 74 #[.pointer (some ⟨L, 0, none⟩)] w fun r w' => r = .returned (.int .i64 0) ∧ ForceTo w w' L T D n from_ sectors first last place tl N F e f := by
  have hLl : L < w.heap.size := (Array.getElem?_eq_some_iff.1 h.hL).1
  have hTl : T < w.heap.size := (Array.getElem?_eq_some_iff.1 h.hT).1
  obtain ⟨n1, n2⟩ := hS.n2
  have hFl := hS.lt
  obtain ⟨hL, hT⟩ := h
  have HK : Hid (∀ w5 : World, Part F w w5 → w5.heap[L]? = some (.cells #[.pointer (some ⟨T, 0, none⟩)] 78 (0, 0)) ∧ w5.heap[T]? = some (.cells #[.pointer (some ⟨D, 0, none⟩), .int .i64 (from_ : Int), .int .i64 (sectors : Int), .int .i64 (first : Int), .int .i64 (last : Int), .int .i64 (forced : Int), .int .i64 (place : Int), .slice (some ⟨g, 0, none⟩) tl c] 76 (0, 0))) := fun w5 hP => ⟨(hP.block L hLl hLF).trans hL, (hP.block T hTl hTF).trans hT⟩
  have HC : Hid (∀ w5 : World, Part F w w5 → w5.cell? ⟨L, 0, none⟩ = some (.pointer (some ⟨T, 0, none⟩)) ∧ w5.cell? ⟨T, 0, none⟩ = some (.pointer (some ⟨D, 0, none⟩)) ∧ w5.cell? ⟨T, 1, none⟩ = some (.int .i64 (from_ : Int)) ∧ w5.cell? ⟨T, 2, none⟩ = some (.int .i64 (sectors : Int)) ∧ w5.cell? ⟨T, 3, none⟩ = some (.int .i64 (first : Int)) ∧ w5.cell? ⟨T, 4, none⟩ = some (.int .i64 (last : Int)) ∧ w5.cell? ⟨T, 5, none⟩ = some (.int .i64 (forced : Int)) ∧ w5.cell? ⟨T, 6, none⟩ = some (.int .i64 (place : Int)) ∧ w5.cell? ⟨T, 7, none⟩ = some (.slice (some ⟨g, 0, none⟩) tl c)) := fun w5 hP => by
    obtain ⟨k1, k2⟩ := HK.out w5 hP
    exact ⟨by rw [cells_at k1 0]; rfl, by rw [cells_at k2 0]; rfl, by rw [cells_at k2 1]; rfl, by rw [cells_at k2 2]; rfl, by rw [cells_at k2 3]; rfl, by rw [cells_at k2 4]; rfl, by rw [cells_at k2 5]; rfl, by rw [cells_at k2 6]; rfl, by rw [cells_at k2 7]; rfl⟩
  have hFT : Hid (∀ w5 : World, Part F w w5 → ∀ i, i < tl → w5.cell? ⟨g, i, none⟩ = some (.int .u8 (f i))) := fun w5 hP i hi => hP.cell (p := ⟨g, i, none⟩) hgF (hc i hi)
  -- the row of chunks, and what save does with it
  have HSv : Hid (∀ (w1 w2 : World) (v : Value), Below w.heap.size w w1 → w1.heap.size = w.heap.size + 2 → w2.ownsRow w1.heap.size 36 1 v N ((cks N N (Nat.le_refl _)).map (fun x => ckV g tl x.1)) → Below w1.heap.size w1 w2 → ∃ g2 c2, v = .slice (some ⟨g2, 0, none⟩) N c2 ∧ Below w.heap.size w w2 ∧ Hid (∀ W5 : World, W5.heap = w2.heap → W5.os = w2.os → W5.tape = w2.tape → W5.output = w2.output → Calls Tryz.prog 113 #[.agg #[.pointer (some ⟨D, 0, none⟩), .int .i64 (from_ : Int), .int .i64 (sectors : Int)], .int .i64 (place : Int), .int .i64 (first : Int), .slice (some ⟨g2, 0, none⟩) N c2] W5 fun r w6 => r = .returned (.int .i64 0) ∧ Hid (Sd w6 D (fun k => F k ∨ (w.heap.size ≤ k ∧ k < w6.heap.size)) n 0 (svs e from_ place first (ckL tl) (fun k => sh f (k * 112)) N)) ∧ Part F w w6)) := fun w1 w2 v hb1 hs1 ho hb2 => by
    have hb12 : Below w.heap.size w w2 := hb1.trans (hb2.mono (by omega))
    have hz2 := hb2.size
    have hN1 : N ≠ 0 := by omega
    obtain ⟨g2, c2, rfl, hg2⟩ : ∃ g2 c2, v = .slice (some ⟨g2, 0, none⟩) N c2 ∧ w1.heap.size ≤ g2 ∧ g2 < w2.heap.size := by
      rcases ho.2 with ⟨_, h0⟩ | ⟨g2, cap, cur, e1, e2, e3, _⟩
      · exact absurd h0 hN1
      · exact ⟨g2, cap, e1, e2, (Array.getElem?_eq_some_iff.1 e3).1⟩
    have hcl : ∀ j, j < N → w2.cell? ⟨g2, j, none⟩ = some (ckV g tl j) := fun j hj => by
      have := World.ownsRow.cells (g := g2) ho rfl j (ckV g tl j) (by rw [List.getElem?_map, cks_get N N (Nat.le_refl _) j hj]; rfl)
      rwa [Addr.add_lit, Nat.zero_add] at this
    refine ⟨g2, c2, rfl, hb12, fun W5 e1 e2 e3 e4 => ?_⟩
    have hb5 : Below w.heap.size w W5 := ⟨e2.trans hb12.os, e3.trans hb12.tape, e4.trans hb12.output, by rw [e1]; exact hb12.size, fun k hk => by rw [e1]; exact hb12.block k hk⟩
    have hs5 : W5.heap.size = w2.heap.size := by rw [e1]
    refine (saveM M D n from_ sectors place first N F e g2 c2 (fun k => some ⟨g, k * 112, none⟩) (ckL tl) (ckL tl) (fun k => sh f (k * 112)) W5 (hS.below hb5) hM n2 (by omega) hfi (ht.below hb5 (Nat.le_refl _)) htb (fun wr hP i hi => ?_) (fun k => Nat.min_le_left _ _) (fun k i => hf _)).mono ?_
    · refine ⟨_, _, rfl, ?_, .inr ⟨_, rfl, fun j hj => ?_⟩, fun h => by cases h⟩
      · have h1 : W5.cell? ⟨g2, i, none⟩ = some (ckV g tl i) := (World.cell?_of_block (w := w2) (by rw [e1])).trans (hcl i hi)
        rw [Nat.zero_add]
        exact hP.cell (p := ⟨g2, i, none⟩) (fun k => by have := hFl g2 k; omega) h1
      · rw [Addr.add_lit]
        have hj' : j < min 112 (tl - i * 112) := hj
        exact hFT.out wr ((Part.ofBelow hb5).trans hP (fun _ _ h => h)) (i * 112 + j) (by omega)
    · rintro r w6 ⟨rfl, s6, p6⟩
      have hz6 := p6.size
      refine ⟨rfl, s6.grow (fun k hk => ?_) (fun k hk => ?_), (Part.ofBelow hb5).trans p6 (fun _ _ h => h)⟩
      · rcases hk with hk | hk
        · exact .inl hk
        · exact .inr (by have := hb12.size; omega)
      · rcases hk with hk | hk
        · have := hFl _ hk; have := hb12.size; omega
        · exact hk.2
  have HE : Hid (∀ w6 w7 v', Part F w w6 → Sd w6 D (fun k => F k ∨ (w.heap.size ≤ k ∧ k < w6.heap.size)) n 0 (svs e from_ place first (ckL tl) (fun k => sh f (k * 112)) N) → w7.heap[T]? = some (.cells #[.pointer (some ⟨D, 0, none⟩), .int .i64 (from_ : Int), .int .i64 (sectors : Int), .int .i64 (first : Int), .int .i64 (last : Int), .int .i64 (last : Int), .int .i64 ((place + tl / 112 : Nat) : Int), v'] 76 (0, 0)) → Own w7 w6.heap.size v' (lst (sh f (tl / 112 * 112)) (tl - tl / 112 * 112)) → Part (fun q => q = T) w6 w7 → ForceTo w w7 L T D n from_ sectors first last place tl N F e f) := fun w6 w7 v' p6 s6 h1 h2 h3 => by
    have hz6 := p6.size
    obtain ⟨k1, _⟩ := HK.out w6 p6
    refine ⟨w6.heap.size, v', ⟨(h3.block L (by omega) hne).trans k1, h1⟩, h2, s6.part h3 (fun k hk e => ?_), (p6.mono (fun _ _ h => .inl h)).trans h3 (fun i hi h => .inr h), hz6⟩
    subst e
    rcases hk with hk | hk
    · exact hTF hk
    · omega
  have HSt : Hid (∀ w6 : World, Part F w w6 → Calls Tryz.prog 34 #[.pointer (some ⟨T, 0, none⟩)] w6 fun r w' => ∃ v', r = .returned (.tuple #[]) ∧ w'.heap[T]? = some (.cells #[.pointer (some ⟨D, 0, none⟩), .int .i64 (from_ : Int), .int .i64 (sectors : Int), .int .i64 (first : Int), .int .i64 (last : Int), .int .i64 (last : Int), .int .i64 ((place + tl / 112 : Nat) : Int), v'] 76 (0, 0)) ∧ Own w' w6.heap.size v' (lst (sh f (tl / 112 * 112)) (tl - tl / 112 * 112)) ∧ Part (fun q => q = T) w6 w') := fun w6 p6 =>
    settleL T last place tl c _ _ _ _ _ (some ⟨g, 0, none⟩) f w6 (HK.out w6 p6).2 ⟨hcap, hc2, .inr ⟨g, rfl, fun i hi => hFT.out w6 p6 i hi⟩⟩ (fun g' e => by cases e; exact hgT) (by omega) (by omega) ⟨_, rfl⟩
  have HCo : Hid (∀ w0 : World, Below w.heap.size w w0 → w0.heap.size = w.heap.size → Calls Tryz.prog 111 #[.func (.func 135) #[] #[.pointer (some ⟨w0.heap.size, 0, none⟩), .pointer (some ⟨w0.heap.size + 1, 0, none⟩)]] ((w0.alloc (.cells #[.slice (some ⟨g, 0, none⟩) tl c] 36)).alloc (.cells #[.int .i64 112] 3)) fun r w2 => ∃ g2 c2, r = .returned (.slice (some ⟨g2, 0, none⟩) N c2) ∧ Part F w w2 ∧ Hid (∀ W5 : World, W5.heap = w2.heap → W5.os = w2.os → W5.tape = w2.tape → W5.output = w2.output → Calls Tryz.prog 113 #[.agg #[.pointer (some ⟨D, 0, none⟩), .int .i64 (from_ : Int), .int .i64 (sectors : Int)], .int .i64 (place : Int), .int .i64 (first : Int), .slice (some ⟨g2, 0, none⟩) N c2] W5 fun r w6 => r = .returned (.int .i64 0) ∧ Hid (Sd w6 D (fun k => F k ∨ (w.heap.size ≤ k ∧ k < w6.heap.size)) n 0 (svs e from_ place first (ckL tl) (fun k => sh f (k * 112)) N)) ∧ Part F w w6)) := fun w0 hb0 hs0 => by
    obtain ⟨W1, hW1⟩ : ∃ W1, (w0.alloc (.cells #[.slice (some ⟨g, 0, none⟩) tl c] 36)).alloc (.cells #[.int .i64 112] 3) = W1 := ⟨_, rfl⟩
    have hs1 : W1.heap.size = w.heap.size + 2 := by rw [← hW1]; simp; omega
    have hb1 : Below w.heap.size w W1 := by rw [← hW1]; exact (hb0.alloc (by omega) _).alloc (by simp; omega) _
    have x1 : W1.heap[w0.heap.size]? = some (.cells #[.slice (some ⟨g, 0, none⟩) tl c] 36 (0, 0)) := by rw [← hW1, Below.heap_alloc _ _ _ (by simp)]; exact heap_alloc_at _ _ _ rfl
    have x2 : W1.heap[w0.heap.size + 1]? = some (.cells #[.int .i64 112] 3 (0, 0)) := by rw [← hW1]; exact heap_alloc_at _ _ _ (by simp)
    rw [hW1]
    refine (collectC W1 w0.heap.size (w0.heap.size + 1) g tl c N hN hN2 (by omega) hcap (by omega) (by omega) (by rw [cells_at x1 0]; rfl) (by rw [cells_at x2 0]; rfl)).mono ?_
    rintro r w2 ⟨v, rfl, ho, hb2⟩
    obtain ⟨g2, c2, rfl, hb12, H⟩ := HSv.out W1 w2 v hb1 hs1 ho hb2
    exact ⟨g2, c2, rfl, Part.ofBelow hb12, H⟩
  obtain ⟨l0, _, _, _, _, c4, c5, _, c7⟩ := HC.out w (Part.refl _ _)
  obtain ⟨d0, _, _, _, _, d4, d5, _, d7⟩ := HC.out w.drew ((Part.refl _ _).drewN 1)
  have hq : ((forced : Int) == (last : Int)) = false := by rw [beq_eq_false_iff_ne]; omega
  have HB0 : Hid (Below w.heap.size w w.drew) := blw_drewN 1 (Below.refl _ _)
  clear hL hT hS ht HSv hFT hc hf hfl hN hN2 HK
  go_enter Tryz.func74, Tryz.ntmps74
  go_wp2_with fail
  refine (lMissing L T w l0).mono ?_
  rintro r w0 ⟨rfl, hw⟩
  obtain rfl : w = w0 := hw.symm
  clear hw
  go_wp2_with fail
  go_region
  go_wp2_with fail
  refine (chunkC (some ⟨g, 0, none⟩) tl c w.drew).mono ?_
  rintro r w1 ⟨rfl, rfl⟩
  go_wp2_with fail
  refine (HCo.out w.drew HB0.out rfl).mono ?_
  rintro r w2 ⟨g2, c2, rfl, p2, HV⟩
  obtain ⟨e0, e1, e2, e3, e4, e5, e6, e7, e8⟩ := HC.out w2 p2
  obtain ⟨j0, j1, j2, j3, j4, j5, j6, j7, j8⟩ := HC.out w2.drew (p2.drewN 1)
  clear HCo c4 c5 c7 d0 d4 d5 d7 hq HB0 hp hLl hTl hFl
  go_upto_region 6 with fail
  refine wp_region_still_tail 22 (by kernel_rfl) (by kernel_rfl) ?_
  simp only [List.take_succ_cons, List.take_zero, List.drop_succ_cons, List.drop_zero]
  repeat still_step
  refine wpStill_nil ?_
  go_wp2_with fail
  refine (HV.out _ (by rfl) (by rfl) (by rfl) (by rfl)).mono ?_
  rintro r w6 ⟨rfl, s6, p6⟩
  obtain ⟨q0, _⟩ := HC.out w6 p6
  have CS := HSt.out w6 p6
  clear HC HV e0 e1 e2 e3 e4 e5 e6 e7 e8 j0 j1 j2 j3 j4 j5 j6 j7 j8
  go_wp2_with fail
  refine CS.mono ?_
  rintro r w7 ⟨v', rfl, h1, h2, h3⟩
  go_wp2
  go_ret
  exact ⟨rfl, HE.out _ _ _ p6 s6.out h1 h2 h3⟩
end Go.Proofs.YtnaobkpncfbnaaaGreatDoor

namespace Go.Proofs.YtnaobkpncfbnaaaGreatDoor
open Go.RowKit
set_option linter.unusedVariables false

theorem s1_typedF {F : Nat → Prop} {w : World} : ∀ b, (F b ∧ Dt w b) → Dt w b := fun b h => h.2
variable {B0 : Nat} {A : Prop} {w w' : World} {P G F F' : Nat → Prop} {S D L T bf n M M' last last' forced forced' : Nat} {m : Int} {X : Nat → Bf} {e e' : Nat → Int} {ln : Nat → Nat} {lo : Nat → Nat → Int} {vt vt' : Value}
/-- What writes the disk, the log's state and its tail leaves the pool. -/
theorem Pw.relog (k : Pw B0 A w P S m D L bf n X M e last forced ln lo) (s2 : Lp w L T D F last forced vt) (hFP : ∀ b, F b → P b) (hT : P T) (hV : ∀ b, vt.ownBlock = some b → P b) (hty : ∀ b, F b → Dt w b) (hp : Part G w w') (hG : ∀ b, G b → F b ∨ b = T ∨ vt.ownBlock = some b) (n1 : Sd w' D F' 14 M' e') (n2 : Lp w' L T D F' last' forced' vt') (hF' : ∀ b, F' b → F b ∨ w.heap.size ≤ b) (hV' : ∀ b, vt'.ownBlock = some b → vt.ownBlock = some b ∨ w.heap.size ≤ b) (he : ∀ p l f, p < 10 → Pgs e p l f → Pgs e' p l f) (hf : forced ≤ forced') (hl : last ≤ last') :
    Pw B0 A w' (fun b => P b ∨ (w.heap.size ≤ b ∧ b < w'.heap.size)) S m D L bf n X M' e' last' forced' ln lo ∧ Part (Fq B0 P w) w w' := by
  obtain ⟨held, h1, _⟩ := k.ps.lay
  obtain ⟨q, place, tl, f, g1, g2, _⟩ := s2.lay
  obtain ⟨q', place', tl', f', g1', g2', _⟩ := n2.lay
  have hsz := hp.size
  have hGP : ∀ b, G b → P b := fun b hb => by
    rcases hG b hb with h | h | h
    · exact hFP b h
    · rw [h]; exact hT
    · exact hV b h
  have hnt : ∀ b cs t, G b → w.heap[b]? = some (.cells cs t (0, 0)) → t ≠ 97 ∧ t ≠ 111 ∧ t ≠ 91 := fun b cs t hb e => by
    rcases hG b hb with h | h | h
    · obtain ⟨cs', t', e', ht⟩ := hty b h
      rw [e'] at e
      injection e with e
      injection e with _ e
      subst e
      rcases ht with rfl | rfl | rfl | rfl <;> decide
    · subst h
      rw [g1.hT] at e
      injection e with e
      injection e with _ e
      subst e
      decide
    · obtain ⟨cur, e'⟩ := row_block g2 h
      rw [e'] at e
      injection e with e
      injection e with _ e
      subst e
      decide
  have hlt' := n1.lt
  refine ⟨⟨k.ps.part hp (fun hf => (hnt S _ _ hf h1).2.2 rfl) (fun b cs t hf e => ⟨(hnt b cs t hf e).1, (hnt b cs t hf e).2.1⟩), ⟨T, F', vt', n1, n2, fun b hb => ?_, .inl hT, fun b hb => ?_⟩, .inl k.pS, k.tab.partG hp (fun h => k.np.1 (hGP _ h)), ⟨?_, ?_, ?_⟩, fun b hb => ?_, (hp.block _ (Array.getElem?_eq_some_iff.1 k.pl).1 (fun h => k.np.2.1 (hGP _ h))).trans k.pl, fun j hj => hp.row (k.ld j hj) (fun b hb h => k.nP j b hj hb (hGP _ h)), fun j b hj hb => ?_, fun j hj => ?_, fun p hp' hn => he _ _ _ hp' (k.off p hp' hn), k.pa, k.by_, k.lm, fun p hp' => ?_, fun a p => Nat.le_trans (k.al a p) hl, k.nb, k.bl, k.tl⟩, hp.mono (fun b _ h => .inl (hGP b h))⟩
  · rcases hF' b hb with h | h
    · exact .inl (hFP b h)
    · exact .inr ⟨h, hlt' b hb⟩
  · rcases hV' b hb with h | h
    · exact .inl (hV b h)
    · exact .inr ⟨h, (World.ownsRow.lt g2' b hb).2⟩
  · have := k.tab.lt; exact fun h => h.elim k.np.1 (fun h => by omega)
  · have := (Array.getElem?_eq_some_iff.1 k.pl).1; exact fun h => h.elim k.np.2.1 (fun h => by omega)
  · have := (Array.getElem?_eq_some_iff.1 g1.hL).1; exact fun h => h.elim k.np.2.2 (fun h => by omega)
  · rcases hb with hb | hb
    · have := k.lt b hb; omega
    · exact hb.2
  · obtain ⟨cur, e⟩ := row_block (k.ld j hj) hb
    have := (Array.getElem?_eq_some_iff.1 e).1
    exact fun h => h.elim (k.nP j b hj hb) (fun h => by omega)
  · obtain ⟨z1, z2, z3, z4, z5⟩ := k.cl j hj
    exact ⟨z1, z2, z3, fun h => he _ _ _ z1 (z4 h), z5⟩
  · obtain ⟨l, f, d1, d2⟩ := k.dk p hp'
    exact ⟨l, f, he _ _ _ hp' d1, fun a => Nat.le_trans (d2 a) hf⟩
/-- The log's Force, where writes pend. -/
theorem pw_force (k : Pw B0 A w P S m D L bf n X M e last forced ln lo) (hM : M ≤ 1000000) (q : Nat) : Calls Tryz.prog 74 #[.pointer (some ⟨L, 0, none⟩)] (w.drewN q) fun r w' => r = .returned (.int .i64 0) ∧ ∃ P' e', Pw B0 A w' P' S m D L bf n X M e' last last ln lo ∧ Part (Fq B0 P w) w w' ∧ ∀ b, P' b → P b ∨ w.heap.size ≤ b := by
  by_cases hfl : forced = last
  · subst hfl
    exact pw_force_same k q
  · have bq : Below w.heap.size w (w.drewN q) := blw_drewN q (Below.refl _ w)
    have kq := k.below bq
    obtain ⟨T, F, vt, s1, s2, s3, s4, s5⟩ := kq.lay
    have s2' := s2.less (F' := fun b => F b ∧ Dt (w.drewN q) b) (fun b h => h.1)
    obtain ⟨q0, place, tl, f, g1, g2, g3, g4, g5⟩ := s2'.lay
    have htl := g5 hfl
    obtain ⟨a, c, rfl, ⟨hcap, hc2, hfst⟩, hlow⟩ := g2.fst
    obtain ⟨g, rfl, hcl⟩ : ∃ g, a = some ⟨g, 0, none⟩ ∧ ∀ i, i < tl → (w.drewN q).cell? ⟨g, i, none⟩ = some (.int .u8 (f i)) := by
      rcases hfst with ⟨_, h, _⟩ | h
      · omega
      · exact h
    have hg := hlow g rfl
    obtain ⟨cur, hgb⟩ := row_block g2 (k := g) rfl
    have hgT : g ≠ T := fun e => by
      rw [e, g1.hT] at hgb
      injection hgb with hgb
      injection hgb with _ hgb
      exact absurd hgb (by decide)
    have hLl := (Array.getElem?_eq_some_iff.1 g1.hL).1
    have hTl := (Array.getElem?_eq_some_iff.1 g1.hT).1
    have hs0 := bq.size
    refine (forceM M L T D 14 0 4 1 last forced place g tl c ((tl + 111) / 112) _ e f _ g1 s2'.ne hfl s1.typed hM s2'.nL s2'.nT (s2'.nV g rfl) hgT hg.2 hcl hcap hc2 g3 htl (by omega) (by omega) (by omega) (by decide) kq.tab (fun h => kq.np.1 (s3 _ h.1))).mono fun r w' ⟨hr, q1, v', n1, n2, n3, n4, n5⟩ => ⟨hr, ?_⟩
    have lp : Lp w' L T D (fun b => (F b ∧ Dt (w.drewN q) b) ∨ ((w.drewN q).heap.size ≤ b ∧ b < q1)) last last v' := ⟨⟨q1, place + tl / 112, tl - tl / 112 * 112, _, n1, n2, fun i => g3 _, by omega, fun h => absurd rfl h⟩, s2'.ne, fun h => h.elim s2'.nL (fun h => by omega), fun h => h.elim s2'.nT (fun h => by omega), fun b hb h => by
      have := (World.ownsRow.lt n2 b hb).1
      rcases h with h | h
      · have := kq.lt b (s3 b h.1); omega
      · omega, Nat.le_refl _⟩
    obtain ⟨j1, j2⟩ := kq.relog s2' (fun b h => s3 b h.1) s4 s5 s1_typedF n4 (fun b h => h.imp id .inl) (n3.mono (Nat.zero_le M)) lp (fun b h => h.imp id (fun h => h.1)) (fun b hb => .inr (by have := (World.ownsRow.lt n2 b hb).1; omega)) (fun p l f hp h => h.ext fun j hj => by rw [svs_at _ _ _ _ _ _ _ _ hj, if_neg (by omega)]) s2.fl (Nat.le_refl _)
    exact ⟨_, _, j1, Fq.trans (P' := P) (Part.ofBelow bq) (fun b h => .inl h) j2, fun b hb => hb.imp id (fun h => by omega)⟩
/-- save, of any buffer. -/
theorem s_saveG (k : Pw B0 A w P S m D L bf n X M e last forced ln lo) (i : Nat) (hi : i < n) (hM : M ≤ 1000000) : Calls Tryz.prog 47 #[.pointer (some ⟨S, 0, none⟩), ptr (X i).b] w fun r w' => r = .returned (.int .i64 0) ∧ Svd B0 A w P S m D L bf n (cleanX X i) (M + 1) last forced ln lo w' := by
  by_cases hx : (X i).fi = 0
  · exact s_saveC k i hi hx
  · by_cases hF : (X i).ls ≤ forced
    · exact s_saveN k i hi hM (by omega) hF
    · exact s_saveF k i hi hM (by omega) (by omega) (fun q => pw_force k hM q)
/-- Append of a record of one byte. -/
theorem pw_append (k : Pw B0 A w P S m D L bf n X M e last forced ln lo) (hl : last ≤ 1000000) (g c : Nat) (z : Int) (hz : 0 ≤ z ∧ z ≤ 255) (hc : w.cell? ⟨g, 0, none⟩ = some (.int .u8 z)) (hPg : ¬ P g) : Calls Tryz.prog 9 #[.pointer (some ⟨L, 0, none⟩), .slice (some ⟨g, 0, none⟩) 1 c] w fun r w' => (r = .returned (.tuple #[.int .i64 0, .int .i64 4]) ∧ Below w.heap.size w w') ∨ (r = .returned (.tuple #[.int .i64 ((last + 1 : Nat) : Int), .int .i64 0]) ∧ ∃ P', Pw B0 A w' P' S m D L bf n X M e (last + 1) forced ln lo ∧ Part (Fq B0 P w) w w' ∧ ∀ b, P' b → P b ∨ w.heap.size ≤ b) := by
  obtain ⟨T, F, vt, s1, s2, s3, s4, s5⟩ := k.lay
  have s2' := s2.less (F' := fun b => F b ∧ Dt w b) (fun b h => h.1)
  obtain ⟨q0, place, tl, f, g1, g2, g3, g4, g5⟩ := s2'.lay
  have p1 : putB 1 = [1] := putB_small 1 (by decide)
  have pl : (putB 1).length = 1 := by rw [p1]; rfl
  have xl : (lst f tl).length = tl := lst_length f tl
  by_cases hf : 448 < place * 112 + tl + 2
  · exact (appL_full L T D 0 4 1 last forced place q0 1 c vt _ (some ⟨g, 0, none⟩) w g1 g2 (by decide) (by omega) (by decide) (by decide) (.inl (by omega))).mono fun r w' ⟨hr, hb⟩ => .inl ⟨hr, hb⟩
  · refine (appL_ok L T D 0 4 1 last forced place 0 1 c vt _ (some ⟨g, 0, none⟩) (fun _ => z) w g1 s2.ne (g2.mono (Nat.zero_le _)) (Nat.zero_le _) (by decide) (by decide) (by decide) (by omega) (by omega) (fun w5 hp => .inr ⟨_, rfl, fun j hj => ?_⟩) (fun h => by cases h)).mono fun r w' ⟨hr, v', n1, n2, n3, n4⟩ => .inr ⟨hr, ?_⟩
    · obtain rfl : j = 0 := by omega
      exact hp.cell (p := ⟨g, 0, none⟩) (fun h => hPg (s5 g h.symm)) hc
    · rw [p1, show ([1] : List Int) = lst (fun _ => 1) 1 from rfl, lst_app, lst_app] at n2
      have hsz := n3.size
      have sd1 := s1.typed.part n3 (fun b hb h => by
        rcases h with h | h
        · exact s2'.nT (h ▸ hb)
        · exact s2'.nV b h.symm hb)
      have lp : Lp w' L T D (fun b => F b ∧ Dt w b) (last + 1) forced v' := ⟨⟨0, place, tl + 1 + 1, _, n1, n2, fun i => by
        show 0 ≤ (if i < tl + 1 then (if i < tl then f i else 1) else z) ∧ (if i < tl + 1 then (if i < tl then f i else 1) else z) ≤ 255
        split
        · split
          · exact g3 i
          · exact ⟨by decide, by decide⟩
        · exact hz, by omega, fun _ => by omega⟩, s2.ne, s2'.nL, s2'.nT, fun b hb h => by
        rcases n4 b hb with h1 | h1
        · exact s2'.nV b h1.symm h
        · have := s1.lt b h.1; omega, by have := s2.fl; omega⟩
      obtain ⟨j1, j2⟩ := k.relog s2' (fun b h => s3 b h.1) s4 s5 s1_typedF n3 (fun b h => .inr (h.imp id (fun h => h.symm))) sd1 lp (fun b h => .inl h) (fun b hb => (n4 b hb).imp (fun h => h.symm) id) (fun p l f hp h => h) (Nat.le_refl _) (Nat.le_succ _)
      exact ⟨_, j1, j2, fun b hb => hb.imp id (fun h => h.1)⟩
end Go.Proofs.YtnaobkpncfbnaaaGreatDoor

namespace Go.Proofs.YtnaobkpncfbnaaaGreatDoor
open Go.RowKit
set_option linter.unusedVariables false

variable {B0 : Nat} {A : Prop} {w w1 : World} {P : Nat → Prop} {S D L bf n M last forced : Nat} {m : Int} {X : Nat → Bf} {e : Nat → Int} {ln : Nat → Nat} {lo : Nat → Nat → Int}
theorem ptd_unlock {w : World} {Q : World → Prop} (hQ : ∀ a b, Q a → Part (fun k => k = S) a b → Q b) : ∀ wq, Ptd B0 A w P S 1 D L bf M last forced ln lo wq ∧ Q wq → CallsD Tryz.prog 42 #[.pointer (some ⟨S, 0, none⟩)] .returning wq fun e u' w' => u' = .returning ∧ (e = .returned (.tuple #[]) ∧ Hid (Ptd B0 A w P S 0 D L bf M last forced ln lo w' ∧ Q w')) := fun wq ⟨⟨n', X', P', e', fo', j1, j2, j3, j4, _⟩, q⟩ => (pw_unlock j1 .returning).mono fun e u' w' ⟨h1, h2, h3⟩ => ⟨h1, h2, ⟨n', X', P', e', fo', h3.out.1, j2, Fw.trans j3 j4 (Fw.locks (w2 := wq) h3.out.2 j1.pS), j4, trivial⟩, hQ wq w' q h3.out.2⟩
set_option maxRecDepth 100000 in
set_option maxHeartbeats 2000000 in
theorem p_flushW (k : Pw B0 A w P S 0 D L bf n X M e last forced ln lo) (z : Nat) (hz : z < 10) (hM : M ≤ 1000000) : Calls Tryz.prog 12 #[.pointer (some ⟨S + 1, 0, none⟩), .int .i64 (z : Int)] w fun r w' => r = .returned (.int .i64 0) ∧ Hid (Ptd B0 A w P S 0 D L bf (M + 1) last forced ln lo w' ∧ True) := by
  have HM : Hid (Calls Tryz.prog 40 #[.pointer (some ⟨S + 1, 0, none⟩)] w fun r w' => r = .returned (.bool false) ∧ w' = w) := pw_missing k
  have HL : Hid (Calls Tryz.prog 41 #[.pointer (some ⟨S, 0, none⟩)] w fun r w' => r = .returned (.tuple #[]) ∧ Hid (Pw B0 A w' P S 1 D L bf n X M e last forced ln lo ∧ Part (fun b => b = S) w w')) := pw_lock k
  have c0 := k.cells
  have pS := k.pS
  have HC : Hid (∀ wq, Pw B0 A wq P S 1 D L bf n X M e last forced ln lo ∧ Part (fun b => b = S) w wq → wq.cell? ⟨S + 1, 0, none⟩ = some (.pointer (some ⟨S, 0, none⟩)) ∧ Hid (Calls Tryz.prog 43 #[.pointer (some ⟨S, 0, none⟩), .int .i64 (z : Int)] wq fun r w' => r = .returned (.bool true) ∧ w' = wq)) := fun wq kq => ⟨kq.1.cells, pw_has kq.1 z hz⟩
  have HU : Hid (∀ wq, Ptd B0 A w P S 1 D L bf (M + 1) last forced ln lo wq ∧ True → CallsD Tryz.prog 42 #[.pointer (some ⟨S, 0, none⟩)] .returning wq fun e u' w' => u' = .returning ∧ (e = .returned (.tuple #[]) ∧ Hid (Ptd B0 A w P S 0 D L bf (M + 1) last forced ln lo w' ∧ True))) := ptd_unlock (Q := fun _ => True) (fun _ _ h _ => h)
  by_cases h : ∃ i, i < n ∧ (X i).pg = z
  · obtain ⟨i, hi, rfl⟩ := h
    have hfd : Fd X n ((X i).pg : Int) (ptr (X i).b) := .inl ⟨i, hi, rfl, fun j hj e => by
      have := k.pa j i (by omega) hi (by omega)
      omega, rfl⟩
    have HF : Hid (∀ wq, Pw B0 A wq P S 1 D L bf n X M e last forced ln lo ∧ Part (fun b => b = S) w wq → Calls Tryz.prog 46 #[.pointer (some ⟨S, 7, none⟩), .int .i64 ((X i).pg : Int)] wq fun r w' => r = .returned (ptr (X i).b) ∧ w' = wq) := fun wq kq => (t_find kq.1.ps _).mono fun r w' ⟨v, hr, hv, hw⟩ => ⟨by rw [hr, hv.uniq hfd], hw⟩
    have HS : Hid (∀ wq, Pw B0 A wq P S 1 D L bf n X M e last forced ln lo ∧ Part (fun b => b = S) w wq → Calls Tryz.prog 47 #[.pointer (some ⟨S, 0, none⟩), ptr (X i).b] wq fun r w' => r = .returned (.int .i64 0) ∧ Hid (Ptd B0 A w P S 1 D L bf (M + 1) last forced ln lo w' ∧ True)) := fun wq ⟨kq, pq⟩ => (s_saveG kq i hi hM).mono fun r w' ⟨hr, P', e', fo', j1, j2, j3, j4⟩ => ⟨hr, ⟨n, _, P', e', fo', j1, j2, Fw.trans (P' := P) (Fw.locks (w2 := wq) pq pS) (fun b h => .inl h) (Fq.wide j3), fun b hb => (j4 b hb).imp id (fun h => by have := pq.size; omega), trivial⟩, trivial⟩
    have hz' : ((X i).pg : Int) < 10 := by omega
    have hz0 : (0 : Int) ≤ ((X i).pg : Int) := by omega
    obtain ⟨y, hy⟩ : ∃ y, (X i).pg = y := ⟨_, rfl⟩
    obtain ⟨q, hq⟩ : ∃ q, (X i).b = q := ⟨_, rfl⟩
    rw [hy] at HC HF hz' hz0 ⊢
    rw [hq] at HF HS
    unfold ptr at HF HS
    clear k hfd hy hq hz hi
    go_enter_defers Tryz.func12, Tryz.ntmps12
    go_wp2_with fail
    refine HM.out.mono ?_
    rintro r w1 ⟨rfl, hw⟩
    obtain rfl : w = w1 := hw.symm
    clear hw
    go_wp2_with fail
    refine HL.out.mono ?_
    rintro r w1 ⟨rfl, k1⟩
    obtain ⟨c1, HH⟩ := HC.out _ k1.out
    clear c0 HM HL
    go_wp2_with fail
    refine HH.out.mono ?_
    rintro r w2 ⟨rfl, hw⟩
    obtain rfl : w1 = w2 := hw.symm
    clear hw
    go_wp2_with fail
    refine (HF.out _ k1.out).mono ?_
    rintro r w2 ⟨rfl, hw⟩
    obtain rfl : w1 = w2 := hw.symm
    clear hw
    go_wp2_with fail
    refine (HS.out _ k1.out).mono ?_
    rintro r w2 ⟨rfl, HE⟩
    go_wp2
    refine leaves_cons (f := 42) (args := #[.pointer (some ⟨S, 0, none⟩)]) (by simp) (by simp [go_sem]) ?_
    refine (HU.out _ HE.out).mono ?_
    rintro e u' w9 ⟨rfl, rfl, HZ⟩
    exact ⟨_, results_tmp rfl _ _ _, rfl, HZ⟩
  · have hno : ∀ j, j < n → (X j).pg ≠ z := fun j hj e => h ⟨j, hj, e⟩
    have hfd : Fd X n (z : Int) (.pointer none) := .inr ⟨fun j hj e => hno j hj (by omega), rfl⟩
    have HF : Hid (∀ wq, Pw B0 A wq P S 1 D L bf n X M e last forced ln lo ∧ Part (fun b => b = S) w wq → Calls Tryz.prog 46 #[.pointer (some ⟨S, 7, none⟩), .int .i64 (z : Int)] wq fun r w' => r = .returned (.pointer none) ∧ w' = wq) := fun wq kq => (t_find kq.1.ps _).mono fun r w' ⟨v, hr, hv, hw⟩ => ⟨by rw [hr, hv.uniq hfd], hw⟩
    have HS : Hid (∀ wq, Pw B0 A wq P S 1 D L bf n X M e last forced ln lo ∧ Part (fun b => b = S) w wq → Ptd B0 A w P S 1 D L bf (M + 1) last forced ln lo wq ∧ True) := fun wq ⟨kq, pq⟩ => ⟨⟨n, X, P, e, forced, kq.more (by omega), Nat.le_refl _, Fw.locks (w2 := wq) pq pS, fun b h => .inl h, trivial⟩, trivial⟩
    have hz' : (z : Int) < 10 := by omega
    have hz0 : (0 : Int) ≤ (z : Int) := by omega
    clear k hfd hno h
    go_enter_defers Tryz.func12, Tryz.ntmps12
    go_wp2_with fail
    refine HM.out.mono ?_
    rintro r w1 ⟨rfl, hw⟩
    obtain rfl : w = w1 := hw.symm
    clear hw
    go_wp2_with fail
    refine HL.out.mono ?_
    rintro r w1 ⟨rfl, k1⟩
    obtain ⟨c1, HH⟩ := HC.out _ k1.out
    clear c0 HM HL
    go_wp2_with fail
    refine HH.out.mono ?_
    rintro r w2 ⟨rfl, hw⟩
    obtain rfl : w1 = w2 := hw.symm
    clear hw
    go_wp2_with fail
    refine (HF.out _ k1.out).mono ?_
    rintro r w2 ⟨rfl, hw⟩
    obtain rfl : w1 = w2 := hw.symm
    clear hw
    go_wp2
    refine leaves_cons (f := 42) (args := #[.pointer (some ⟨S, 0, none⟩)]) (by simp) (by simp [go_sem]) ?_
    refine (HU.out _ (HS.out _ k1.out)).mono ?_
    rintro e u' w9 ⟨rfl, rfl, HZ⟩
    exact ⟨_, results_tmp rfl _ _ _, rfl, HZ⟩
set_option maxRecDepth 100000 in
set_option maxHeartbeats 2000000 in
theorem p_getW (k : Pw B0 A w P S 0 D L bf n X M e last forced ln lo) (z : Nat) (hz : z < 10) (hM : M ≤ 1000000) (hbf : 0 < bf) : Calls Tryz.prog 15 #[.pointer (some ⟨S + 1, 0, none⟩), .int .i64 (z : Int)] w fun r w' => ∃ g c, r = .returned (.tuple #[.slice (some ⟨g, 0, none⟩) 112 c, .int .i64 (ln z : Int), .int .i64 0]) ∧ Hid (Ptd B0 A w P S 0 D L bf (M + 1) last forced ln lo w' ∧ From w' (some ⟨g, 0, none⟩) 112 (lo z)) := by
  have HM : Hid (Calls Tryz.prog 40 #[.pointer (some ⟨S + 1, 0, none⟩)] w fun r w' => r = .returned (.bool false) ∧ w' = w) := pw_missing k
  have HL : Hid (Calls Tryz.prog 41 #[.pointer (some ⟨S, 0, none⟩)] w fun r w' => r = .returned (.tuple #[]) ∧ Hid (Pw B0 A w' P S 1 D L bf n X M e last forced ln lo ∧ Part (fun b => b = S) w w')) := pw_lock k
  have c0 := k.cells
  have hSl := k.ps.lt
  have HC : Hid (∀ wq, Pw B0 A wq P S 1 D L bf n X M e last forced ln lo ∧ Part (fun b => b = S) w wq → wq.cell? ⟨S + 1, 0, none⟩ = some (.pointer (some ⟨S, 0, none⟩)) ∧ Hid (Calls Tryz.prog 43 #[.pointer (some ⟨S, 0, none⟩), .int .i64 (z : Int)] wq fun r w' => r = .returned (.bool true) ∧ w' = wq)) := fun wq kq => ⟨kq.1.cells, pw_has kq.1 z hz⟩
  have HB : Hid (∀ wq, Pw B0 A wq P S 1 D L bf n X M e last forced ln lo ∧ Part (fun b => b = S) w wq → Calls Tryz.prog 44 #[.pointer (some ⟨S, 0, none⟩), .int .i64 (z : Int)] wq fun r w' => ∃ b g c, r = .returned (.tuple #[.pointer (some ⟨b, 0, none⟩), .int .i64 0]) ∧ Hid (∀ wq, Below w'.heap.size w' wq → wq.cell? ⟨b, 2, none⟩ = some (.slice (some ⟨g, 0, none⟩) 112 c) ∧ wq.cell? ⟨b, 1, none⟩ = some (.int .i64 (ln z : Int))) ∧ Hid (∀ wq, Below w'.heap.size w' wq → Calls Tryz.prog 10 #[.slice (some ⟨g, 0, none⟩) 112 c] wq fun r w'' => ∃ g c, r = .returned (.slice (some ⟨g, 0, none⟩) 112 c) ∧ Below w'.heap.size w' w'' ∧ Hid (∀ w3, Below w''.heap.size w'' w3 → Ptd B0 A w P S 1 D L bf (M + 1) last forced ln lo w3 ∧ w.heap.size ≤ g ∧ From w3 (some ⟨g, 0, none⟩) 112 (lo z)))) := fun wq ⟨kq, pq⟩ => (s_bringW kq z hz hM hbf (fun wr h0 kr => s_saveG kr 0 h0 hM)).mono fun r w' ⟨b, hr, HE⟩ => by
    obtain ⟨n', X', e1, e2, P', e', fo', j1, j2, j3, j4, _⟩ := HE.out
    have hl := Nat.lt_succ_self n'
    have ho := j1.ld n' hl
    rw [e2] at ho
    obtain ⟨g, c, hv, ho2, _⟩ := own_some ho (by decide)
    have hls := (j1.cl n' hl).2.2.1
    rw [e2] at hls
    have hpq := pq.size
    have p1 : Part (Fw B0 P w) w w' := Fw.trans (P' := P) (Fw.locks (w2 := wq) pq kq.pS) (fun b h => .inl h) j3
    have hP : ∀ b, P' b → P b ∨ w.heap.size ≤ b := fun b hb => (j4 b hb).imp id (fun h => by omega)
    refine ⟨b, g, c, hr, fun wr hb => ?_, fun wr hb => ?_⟩
    · have h := (hb.block _ (Array.getElem?_eq_some_iff.1 (j1.ps.buf n' hl)).1).trans (j1.ps.buf n' hl)
      rw [e1] at h
      exact ⟨by rw [cells_at h 2, ← hv]; rfl, by rw [cells_at h 1, ← hls]; rfl⟩
    · have hf : From wr (some ⟨g, 0, none⟩) 112 (lo z) := From.below (B := w'.heap.size) (.inr ⟨_, rfl, fun j hj => World.ownsRow.cells (g := g) ho2 rfl j (.int .u8 (lo z j)) (by rw [List.getElem?_map, lst_get _ 112 j hj]; rfl)⟩) hb (Nat.le_refl _)
      refine (clone (some ⟨g, 0, none⟩) 112 c (lo z) wr (by decide) hf).mono fun r w'' ⟨v', hr', ho', hb'⟩ => ?_
      obtain ⟨g2, c2, rfl, ho3, hg2, _⟩ := own_some ho' (by decide)
      have hbs := hb.size
      have hps := p1.size
      have b2 : Below w'.heap.size w' w'' := hb.trans (hb'.mono hbs)
      refine ⟨g2, c2, hr', b2, fun w3 hb3 => ⟨?_, by omega, From.below (B := w''.heap.size) (.inr ⟨_, rfl, fun j hj => World.ownsRow.cells (g := g2) ho3 rfl j (.int .u8 (lo z j)) (by rw [List.getElem?_map, lst_get _ 112 j hj]; rfl)⟩) hb3 (Nat.le_refl _)⟩⟩
      have b3 : Below w'.heap.size w' w3 := b2.trans (hb3.mono b2.size)
      exact ⟨n' + 1, X', P', e', fo', j1.below b3, j2, Fw.trans p1 hP (Part.ofBelow b3), hP, trivial⟩
  have HU : Hid (∀ g wq, Ptd B0 A w P S 1 D L bf (M + 1) last forced ln lo wq ∧ w.heap.size ≤ g ∧ From wq (some ⟨g, 0, none⟩) 112 (lo z) → CallsD Tryz.prog 42 #[.pointer (some ⟨S, 0, none⟩)] .returning wq fun e u' w' => u' = .returning ∧ (e = .returned (.tuple #[]) ∧ Hid (Ptd B0 A w P S 0 D L bf (M + 1) last forced ln lo w' ∧ w.heap.size ≤ g ∧ From w' (some ⟨g, 0, none⟩) 112 (lo z)))) := fun g => ptd_unlock (Q := fun wq => w.heap.size ≤ g ∧ From wq (some ⟨g, 0, none⟩) 112 (lo z)) (fun a b ⟨h1, h2⟩ hp => ⟨h1, by
    rcases h2 with h | ⟨y, h, h3⟩
    · exact .inl h
    · refine .inr ⟨y, h, fun j hj => hp.cell (fun e5 => ?_) (h3 j hj)⟩
      injection h with h
      have e5 : (y.add j).block = S := e5
      rw [add_block, ← h] at e5
      have e5 : g = S := e5
      omega⟩)
  have hz' : (z : Int) < 10 := by omega
  have hz0 : (0 : Int) ≤ (z : Int) := by omega
  clear k hM
  go_enter_defers Tryz.func15, Tryz.ntmps15
  go_wp2_with fail
  refine HM.out.mono ?_
  rintro r w1 ⟨rfl, hw⟩
  obtain rfl : w = w1 := hw.symm
  clear hw
  go_wp2_with fail
  refine HL.out.mono ?_
  rintro r w1 ⟨rfl, k1⟩
  obtain ⟨c1, HH⟩ := HC.out _ k1.out
  clear c0 HM HL
  go_wp2_with fail
  refine HH.out.mono ?_
  rintro r w2 ⟨rfl, hw⟩
  obtain rfl : w1 = w2 := hw.symm
  clear hw
  go_wp2_with fail
  refine (HB.out _ k1.out).mono ?_
  rintro r w2 ⟨b, g, c, rfl, HS, HR⟩
  obtain ⟨x1, x2⟩ := HS.out _ (Below.refl _ _)
  have q1 : Below w2.heap.size w2 w2 := Below.refl _ _
  clear HB HC HH c1 k1 hSl
  go_wp2_with fail
  go_region_held3 (fun wq => wq.cell? ⟨b, 2, none⟩ = some (.slice (some ⟨g, 0, none⟩) 112 c) ∧ wq.cell? ⟨b, 1, none⟩ = some (.int .i64 (ln z : Int)))
    (first | exact HS.out _ (by assumption) | exact HS.out _ (blw_drewN 1 (by assumption)) | go_keep)
    (first
      | (go_at_call 10; refine (HR.out _ (by first | exact q1 | exact blw_drewN 1 q1)).mono ?_; rintro e' w3 ⟨g3, c3, rfl, k3, HG⟩))
  go_wp2
  refine leaves_cons (f := 42) (args := #[.pointer (some ⟨S, 0, none⟩)]) (by simp) (by simp [go_sem]) ?_
  refine (HU.out _ _ (HG.out _ (Below.refl _ _))).mono ?_
  rintro e u' w9 ⟨rfl, rfl, HZ⟩
  exact ⟨_, results_tmp3 rfl _ _ _, g3, c3, rfl, HZ.out.1, HZ.out.2.2⟩
set_option maxRecDepth 100000 in
set_option maxHeartbeats 2000000 in
/-- Table, where no page is dirty. -/
theorem p_tableW (k : Pw B0 A w P S 0 D L bf n X M e last forced ln lo) (hc : ∀ i, i < n → (X i).fi = 0) : Calls Tryz.prog 18 #[.pointer (some ⟨S + 1, 0, none⟩)] w fun r w' => r = .returned (.slice none 0 0) ∧ Hid (Ptd B0 A w P S 0 D L bf M last forced ln lo w' ∧ True) := by
  have nb := k.nb
  have HM : Hid (Calls Tryz.prog 40 #[.pointer (some ⟨S + 1, 0, none⟩)] w fun r w' => r = .returned (.bool false) ∧ w' = w) := pw_missing k
  have HL : Hid (Calls Tryz.prog 41 #[.pointer (some ⟨S, 0, none⟩)] w fun r w' => r = .returned (.tuple #[]) ∧ Hid (Pw B0 A w' P S 1 D L bf n X M e last forced ln lo ∧ Part (fun b => b = S) w w')) := pw_lock k
  have c0 := k.cells
  have pS := k.pS
  have HC : Hid (∀ wq, Pw B0 A wq P S 1 D L bf n X M e last forced ln lo ∧ Part (fun b => b = S) w wq → wq.cell? ⟨S + 1, 0, none⟩ = some (.pointer (some ⟨S, 0, none⟩)) ∧ Hid (Calls Tryz.prog 51 #[.pointer (some ⟨S, 7, none⟩)] wq fun r w' => ∃ a c, r = .returned (.slice a 0 c) ∧ Hid (Ptd B0 A w P S 1 D L bf M last forced ln lo w' ∧ True))) := fun wq ⟨kq, pq⟩ => ⟨kq.cells, (t_changedW kq.ps (by omega)).mono fun r w' ⟨a, q, c, hr, HE⟩ => by
    obtain ⟨f, hd⟩ := HE.out
    obtain rfl : q = 0 := by
      by_cases h : q = 0
      · exact h
      · obtain ⟨i, h1, h2, _⟩ := hd.of 0 (by omega)
        have := hc i h1
        omega
    exact ⟨a, c, hr, ⟨n, X, P, e, forced, kq.below hd.bel, Nat.le_refl _, Fw.trans (P' := P) (Fw.locks (w2 := wq) pq pS) (fun b h => .inl h) (Part.ofBelow hd.bel), fun b h => .inl h, trivial⟩, trivial⟩⟩
  have HU : Hid (∀ wq, Ptd B0 A w P S 1 D L bf M last forced ln lo wq ∧ True → CallsD Tryz.prog 42 #[.pointer (some ⟨S, 0, none⟩)] .returning wq fun e u' w' => u' = .returning ∧ (e = .returned (.tuple #[]) ∧ Hid (Ptd B0 A w P S 0 D L bf M last forced ln lo w' ∧ True))) := ptd_unlock (Q := fun _ => True) (fun _ _ h _ => h)
  clear k hc
  go_enter_defers Tryz.func18, Tryz.ntmps18
  go_wp2_with fail
  refine HM.out.mono ?_
  rintro r w1 ⟨rfl, hw⟩
  obtain rfl : w = w1 := hw.symm
  clear hw
  go_wp2_with fail
  refine HL.out.mono ?_
  rintro r w1 ⟨rfl, k1⟩
  obtain ⟨c1, HH⟩ := HC.out _ k1.out
  clear c0 HM HL
  go_wp2_with fail
  refine HH.out.mono ?_
  rintro r w2 ⟨a, c, rfl, HE⟩
  go_wp2
  go_loopw [3, 29] (fun s i wr => s = .slice none 0 0 ∧ i = .int .i64 0 ∧ wr = w2) (fun _ _ _ => 0)
  case atStart => exact ⟨rfl, rfl, rfl⟩
  case round =>
    obtain ⟨rfl, rfl, rfl⟩ := hrel
    go_wp2
    refine leaves_cons (f := 42) (args := #[.pointer (some ⟨S, 0, none⟩)]) (by simp) (by simp [go_sem]) ?_
    refine (HU.out _ HE.out).mono ?_
    rintro e u' w9 ⟨rfl, rfl, HZ⟩
    exact ⟨_, results_tmp rfl _ _ _, rfl, HZ⟩
end Go.Proofs.YtnaobkpncfbnaaaGreatDoor
