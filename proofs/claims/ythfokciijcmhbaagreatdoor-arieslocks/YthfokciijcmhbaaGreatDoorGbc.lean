/-
  Contract of a log's Append where the record goes in. Conditions: the log lies apart from its tail; the record's bytes stay while the tail grows.
-/
import Derived.Test.YthfokciijcmhbaaGreatDoorGaw
namespace Go.Proofs.YthfokciijcmhbaaGreatDoor
open Go.RowKit
set_option linter.unusedVariables false

/-- What Append leaves. -/
def AppTo (w w' : World) (L T D from_ sectors first last forced place B : Nat) (vt : Value) (ys : List Int) : Prop := ∃ v', LogW w' L T D from_ sectors first last forced place v' ∧ Own w' B v' ys ∧ Part (fun k => k = T ∨ some k = vt.ownBlock) w w' ∧ ∀ k, v'.ownBlock = some k → some k = vt.ownBlock ∨ w.heap.size ≤ k
theorem AppTo.end_ {w w4 : World} {L T D from_ sectors first last forced place B last' : Nat} {vt v4 : Value} {ys : List Int} (h : LogW w4 L T D from_ sectors first last forced place vt) (hne : L ≠ T) (ho : Own w4 B v4 ys) (hg : Grow w w4 vt v4) :
    AppTo w ((w4.setCell ⟨T, 7, none⟩ v4).setCell ⟨T, 4, none⟩ (.int .i64 (last' : Int))) L T D from_ sectors first last' forced place B vt ys := by
  have hk : v4.ownBlock ≠ some T := ho.ne h.hT (by decide)
  refine ⟨v4, ⟨?_, ?_⟩, row_set (row_set ho hk 7 v4) hk 4 _, ?_, hg.2⟩
  · exact (heap_setCell_other _ _ _ _ hne).trans ((heap_setCell_other _ _ _ _ hne).trans h.hL)
  · exact heap_set_at (heap_set_at h.hT _) _
  · exact ((hg.1.mono (fun _ _ h => .inr h)).setCell (p := ⟨T, 7, none⟩) (fun _ => .inl rfl) _).setCell (p := ⟨T, 4, none⟩) (fun _ => .inl rfl) _

set_option maxRecDepth 100000 in
set_option maxHeartbeats 2000000 in
theorem appL_ok (L T D from_ sectors first last forced place B n c : Nat) (vt : Value) (xs : List Int) (a0 : Option Addr) (f : Nat → Int) (w : World) (h : LogW w L T D from_ sectors first last forced place vt) (hne : L ≠ T) (ho : Own w B vt xs) (hB : B ≤ w.heap.size) (hs : sectors ≤ 4096) (h1 : 0 < n) (h2 : n ≤ 2000) (hf : place * 112 + xs.length + (putB n).length + n ≤ sectors * 112) (hl : last < 4611686018427387904)
    (hF : ∀ w', Part (fun k => some k = vt.ownBlock) w w' → From w' a0 n f) (hc0 : a0 = none → c = 0) :
    Calls Tryz.prog 92 #[.pointer (some ⟨L, 0, none⟩), .slice a0 n c] w fun e w' => e = .returned (.tuple #[.int .i64 ((last + 1 : Nat) : Int), .int .i64 0]) ∧ AppTo w w' L T D from_ sectors first (last + 1) forced place B vt (xs ++ putB n ++ lst f n) := by
  have hl0 := h.l0
  have hLl : L < w.heap.size := (Array.getElem?_eq_some_iff.1 h.hL).1
  have hTl : T < w.heap.size := (Array.getElem?_eq_some_iff.1 h.hT).1
  have hLv : vt.ownBlock ≠ some L := ho.ne h.hL (by decide)
  have hTv : vt.ownBlock ≠ some T := ho.ne h.hT (by decide)
  have g1 : ((n : Int) == 0) = false := by simp; omega
  have g2 : ¬ (2000 : Int) < (n : Int) := by omega
  have hlen := putB_le n (by omega)
  have H : Hid (LogW w L T D from_ sectors first last forced place vt) := h
  have HO : Hid (Own w B vt xs) := ho
  have HF : Hid (∀ w', Part (fun k => some k = vt.ownBlock) w w' → From w' a0 n f) := hF
  have HFull : Hid (place * 112 + xs.length + (putB n).length + n ≤ sectors * 112) := hf
  have g4 : decide ((4611686018427387904 : Int) ≤ (last : Int)) = false := by simp; omega
  have HLs : Hid (last < 4611686018427387904) := hl
  clear h ho hF hl
  go_enter Tryz.func92, Tryz.ntmps92
  go_wp2_with fail
  refine (lMissing L T w hl0).mono ?_
  rintro e w1 ⟨rfl, hw⟩
  obtain rfl : w = w1 := hw.symm
  clear hw
  go_wp2_with fail
  refine (wPut none 0 0 (fun _ => 0) (n : Int) w (by omega) (.inl ⟨rfl, rfl⟩) (fun _ => rfl) (by omega)).mono ?_
  rintro e w1 ⟨v1, rfl, ho1, hb1⟩
  rw [Int.toNat_natCast, show lst (fun _ => 0) 0 ++ putB n = putB n from rfl] at ho1
  obtain ⟨al, cl, rfl, hfl, hal, _, _, _⟩ := ho1.open
  have hz1 := hb1.size
  have H1 := H.out.below hb1
  have HO1 : Own w1 B vt xs := HO.out.below hb1 (Nat.le_refl _)
  have l1 := H1.l0
  have l4 : w1.cell? ⟨T, 4, none⟩ = some (.int .i64 (last : Int)) := by rw [cells_at H1.hT 4]; rfl
  have CR := lwRoom H1 HO1 hs (by omega)
  obtain ⟨at_, ct, rfl, _, _, _, _, htb⟩ := HO1.open
  have t1 : w1.cell? ⟨T, 7, none⟩ = some (.slice at_ xs.length ct) := by rw [cells_at H1.hT 7]; rfl
  obtain ⟨R, hR⟩ : ∃ R, sectors * 112 - place * 112 - xs.length = R := ⟨_, rfl⟩
  obtain ⟨tl, htl⟩ : ∃ tl, xs.length = tl := ⟨_, rfl⟩
  obtain ⟨ln, hln⟩ : ∃ ln, (putB n).length = ln := ⟨_, rfl⟩
  rw [hR] at CR
  rw [hln] at hf hlen hfl ⊢
  have g3 : ¬ (R : Int) < (ln : Int) + (n : Int) := by omega
  have HX : Hid (xs.length + ln + n ≤ 140737488355328) := (by omega : xs.length + ln + n ≤ 140737488355328)
  rw [htl] at t1 hTv hLv
  obtain ⟨o, hO⟩ : ∃ o, Obj.cells #[.slice al ln cl, .slice a0 n c] 47 = o := ⟨_, rfl⟩
  have HOb : Hid (Obj.cells #[.slice al ln cl, .slice a0 n c] 47 = o) := hO
  have HQ : Hid (∀ wq : World, wq.heap = (w1.alloc o).heap → Own wq B (.slice at_ tl ct) xs ∧ B ≤ wq.heap.size ∧ w1.heap.size < wq.heap.size ∧ wq.cell? ⟨w1.heap.size, 0, none⟩ = some (.slice al ln cl) ∧ wq.cell? ⟨w1.heap.size, 1, none⟩ = some (.slice a0 n c) ∧ From wq al ln (fn (putB n))) := fun wq hq => by
    have hc : ∀ p, wq.cell? p = (w1.alloc o).cell? p := fun p => World.cell?_of_block (w := w1.alloc o) (by rw [hq])
    refine ⟨?_, ?_, ?_, ?_, ?_, ?_⟩
    · have h4 : Own (w1.alloc o) B (.slice at_ xs.length ct) xs := World.ownsRow.alloc HO1 _
      rw [htl] at h4
      unfold Own World.ownsRow at h4 ⊢
      rw [hq]
      exact h4
    · rw [hq]; simp; omega
    · rw [hq]; simp
    · rw [hc, ← HOb.out, World.cell?_alloc_at _ _ _ _ rfl]; rfl
    · rw [hc, ← HOb.out, World.cell?_alloc_at _ _ _ _ rfl]; rfl
    · have h5 := hfl.alloc o
      rcases h5 with h6 | ⟨x, k1, k2⟩
      · exact .inl h6
      · exact .inr ⟨x, k1, fun i hi => (hc _).trans (k2 i hi)⟩
  have HB : Hid (∀ wq : World, wq.heap = (w1.alloc o).heap → wq.os = w1.os → wq.tape = w1.tape → wq.output = w1.output → Below w.heap.size w wq) := fun wq e1 e2 e3 e4 =>
    have hb : Below w.heap.size w (w1.alloc o) := hb1.alloc hz1 o
    hb.trans ⟨e2, e3, e4, by rw [e1]; exact Nat.le_refl _, fun k _ => by rw [e1]⟩
  have HV : Hid (some w1.heap.size ≠ (Value.slice at_ tl ct).ownBlock) := fun hx => by
    cases at_ with
    | none => cases hx
    | some g0 =>
      obtain ⟨k, rfl, _, hk⟩ := htb g0 rfl
      have : w1.heap.size = k := Option.some.inj hx
      omega
  have HK : Hid (∀ (wq w4 : World) (v4 : Value), Below w.heap.size w wq → Grow wq w4 (.slice at_ tl ct) v4 → Own w4 B v4 (xs ++ lst (fn (putB n)) ln ++ lst f n) → ∃ a4 t4 c4, v4 = .slice a4 t4 c4 ∧ w4.cell? ⟨L, 0, none⟩ = some (.pointer (some ⟨T, 0, none⟩)) ∧ w4.cell? ⟨T, 4, none⟩ = some (.int .i64 (last : Int)) ∧ w4.cell? ⟨T, 7, none⟩ = some (.slice at_ tl ct) ∧ (∀ i, w4.frozen? ⟨T, i, none⟩ = false) ∧ Hid (AppTo w ((w4.setCell ⟨T, 7, none⟩ v4).setCell ⟨T, 4, none⟩ (.int .i64 ((last + 1 : Nat) : Int))) L T D from_ sectors first (last + 1) forced place B (.slice at_ tl ct) (xs ++ putB n ++ lst f n))) := fun wq w4 v4 hbq hg ho4 => by
    have hgw : Grow w w4 (.slice at_ tl ct) v4 := Grow.trans ⟨Part.ofBelow hbq, fun k e => .inl e.symm⟩ hg
    have hH := H.out
    rw [htl] at hH
    have h4 : LogW w4 L T D from_ sectors first last forced place (.slice at_ tl ct) := hH.part hgw.1 (fun e => hLv e.symm) (fun e => hTv e.symm)
    obtain ⟨a4, c4, hv4, _, _, _, _, _⟩ := ho4.open
    refine ⟨a4, _, c4, hv4, h4.l0, by rw [cells_at h4.hT 4]; rfl, by rw [cells_at h4.hT 7]; rfl, fun i => cells_free h4.hT i, ?_⟩
    have e9 : lst (fn (putB n)) ln = putB n := by rw [← hln]; exact lst_fn _
    rw [e9] at ho4
    exact AppTo.end_ h4 hne ho4 hgw
  have hTw : T < w1.heap.size := by omega
  have hLw : L < w1.heap.size := by omega
  have hTn : T ≠ w1.heap.size := by omega
  have hLn : L ≠ w1.heap.size := by omega
  have al7 : ∀ (k : Nat) (o' : Obj), ((w1.drewN k).alloc o').cell? ⟨T, 7, none⟩ = some (.slice at_ tl ct) := fun k o' => (World.cell?_alloc_past (w := w1.drewN k) o' T 7 (by exact hTw)).trans t1
  have al0 : ∀ (k : Nat) (o' : Obj), ((w1.drewN k).alloc o').cell? ⟨L, 0, none⟩ = some (.pointer (some ⟨T, 0, none⟩)) := fun k o' => (World.cell?_alloc_past (w := w1.drewN k) o' L 0 (by exact hLw)).trans l1
  have HTl : Hid (xs.length = tl) := htl
  have HFo : Hid (∀ wq w', Below w.heap.size w wq → Part (fun k => some k = (Value.slice at_ tl ct).ownBlock) wq w' → From w' a0 n f) := fun wq w' hb hp => HF.out w' (by rw [HTl.out]; exact (Part.ofBelow hb).trans hp (fun _ _ h => h))
  clear hO HO1 hfl htb hb1 hR ho1 hln htl H HO HF HFull H1 hTl hLl hTv hLv hB hz1 hf
  go_wp2_with fail
  refine CR.mono ?_
  rintro e w2 ⟨rfl, q, rfl⟩
  go_wp2_with fail
  go_region_with (first
    | (go_at_call 129; rw [HOb.out]; refine (lputH (.slice at_ tl ct) B xs w1.heap.size al a0 ln cl n c (fn (putB n)) f _ (by exact (HQ.out _ rfl).1) (by exact (HQ.out _ rfl).2.1) (by exact (HQ.out _ rfl).2.2.1) HV.out (by exact (HQ.out _ rfl).2.2.2.1) (by exact (HQ.out _ rfl).2.2.2.2.1) (by exact (HQ.out _ rfl).2.2.2.2.2) (by exact fun w' hb => HFo.out _ w' (HB.out _ (by rfl) (by rfl) (by rfl) (by rfl)) hb) hal hc0 HX.out).mono ?_; rintro e' w4 ⟨v4, rfl, ho4, hg4⟩; obtain ⟨a4, t4, c4, hv4, k0, k4, k7, kz, KE⟩ := HK.out _ w4 v4 (HB.out _ (by rfl) (by rfl) (by rfl) (by rfl)) hg4 ho4; subst hv4; have kz7 := kz 7; have kz4 := kz 4; clear ho4 hg4))
  all_goals
    go_wp2
    go_ret2
    have e9 : wrap64 ((last : Int) + 1) = ((last + 1 : Nat) : Int) := by have := HLs.out; unfold wrap64; omega
    rw [e9, HTl.out]
    exact ⟨rfl, KE.out⟩
end Go.Proofs.YthfokciijcmhbaaGreatDoor
