/-
  A new manager: restore over no record; aries.over, aries.Open over a new disk.
  The law's begin: a world with a new manager. (Printed by tools/mkasg.py.)
  The law's world under way: a manager, the slice that is handed in, and each call on them.
-/
import Derived.Test.YthfokciijcmhbaaGreatDoorGbs
import Derived.Test.YthfokciijcmhbaaGreatDoorGbq
import Derived.Test.YthfokciijcmhbaaGreatDoorGbr
namespace Go.Proofs.YthfokciijcmhbaaGreatDoor
open Go.RowKit
set_option linter.unusedVariables false

variable {B0 : Nat} {A : Ax} {P P' : Nat → Prop} {w w0 w' w1 w2 : World} {Z S D L bf n M la fo lt N Q : Nat} {g : Int} {X : Nat → Bf} {e : Nat → Int} {ln : Nat → Nat} {lo : Nat → Nat → Int} {T : Nat → Tr}
/-- No transaction. -/
def T0 : Nat → Tr := fun _ => freshTr 0 0
theorem Mg.new (k : Pw B0 A w P S 0 D L bf n X M e la fo ln lo) (hB : B0 ≤ w.heap.size) : Mg B0 A (w.alloc (mgO 0 S L 0 (.slice none 0 0))) P w.heap.size S 0 D L bf n X M e la fo ln lo 0 0 T0 := by
  have hb : Below w.heap.size w (w.alloc (mgO 0 S L 0 (.slice none 0 0))) := (Below.refl _ w).alloc (Nat.le_refl _) _
  exact ⟨k.below hb, ⟨⟨_, heap_alloc_at _ _ _ rfl, World.ownsRow_nil _ _ _ _, fun b hb => by cases hb⟩, fun j hj => absurd hj (by omega), fun j hj => absurd hj (by omega), fun j hj => absurd hj (by omega), fun i j hi => absurd hi (by omega), fun i j b hi => absurd hi (by omega), fun i j b hi => absurd hi (by omega), ⟨fun h => by have := k.lt _ h; omega, fun j hj => absurd hj (by omega), fun j b hj => absurd hj (by omega), fun j b hj => absurd hj (by omega)⟩, ⟨hB, fun j hj => absurd hj (by omega)⟩, by omega, fun j hj => absurd hj (by omega), by decide⟩⟩
set_option maxRecDepth 100000 in
set_option maxHeartbeats 2000000 in
theorem m_restore (k : Mg B0 A w P Z S 0 D L bf n X M e la la ln lo lt 0 T) (a : Option Addr) (c : Nat) : Calls Tryz.prog 47 #[.pointer (some ⟨Z, 0, none⟩), .slice a 0 c] w fun r w' => r = .returned (.int .i64 0) ∧ Hid (Sb B0 A w P Z S 0 D L bf M la ln lo lt 0 T w') := by
  have HD := decZ (.pointer (some ⟨Z, 0, none⟩)) a c w
  have HR := redZ (.pointer (some ⟨Z, 0, none⟩)) w
  have HL := losersE (.pointer (some ⟨Z, 0, none⟩)) w
  have HF : Hid (∀ w1, Below w.heap.size w w1 → w1.cell? ⟨Z, 3, none⟩ = some (.pointer (some ⟨L, 0, none⟩)) ∧ Calls Tryz.prog 63 #[.pointer (some ⟨L, 0, none⟩)] w1 fun r w' => r = .returned (.int .i64 0) ∧ Hid (Sb B0 A w P Z S 0 D L bf M la ln lo lt 0 T w')) := fun w1 hb => by
    have kb := k.below hb
    obtain ⟨a9, c9, ⟨_, _, z3, _⟩, _⟩ := kb.mt.cells
    refine ⟨z3, (pw_force_same kb.pw 0).mono fun r w' ⟨h1, P', e', j1, j2, j3⟩ => ⟨h1, n, e', la, X, P', ⟨j1, kb.mt.called (Fq.wide j2) j3⟩, Fm.trans (Part.ofBelow (F := Fm B0 P w) hb) (fun b h => .inl h) (Fm.pool (Fq.wide j2)), fun b h => ?_⟩⟩
    have := hb.size
    rcases j3 b h with h | h
    · exact .inl h
    · exact .inr (by omega)
  clear k
  go_enter Tryz.func47, Tryz.ntmps47
  go_wp2_with first
    | (go_at_call 71; refine HD.mono ?_; clear HD; rintro r w1 ⟨rfl, hw⟩; rw [hw]; clear hw)
    | (go_at_call 72; refine HR.mono ?_; clear HR; rintro r w1 ⟨rfl, hw⟩; rw [hw]; clear hw)
    | (go_at_call 73; refine HL.mono ?_; clear HL; rintro r w1 ⟨rfl, hb1⟩; obtain ⟨hc1, HF1⟩ := HF.out w1 hb1)
  go_loopw [29] (fun i wr => i = .int .i64 0 ∧ wr = w1) (fun _ _ => 0)
  case atStart => exact ⟨rfl, rfl⟩
  case round =>
    obtain ⟨rfl, rfl⟩ := hrel
    go_wp2_with (go_at_call 63; refine HF1.mono ?_; clear HF1; rintro r w3 ⟨rfl, HS⟩)
    go_ret
    exact ⟨rfl, HS⟩
/-- A new manager over a new disk. -/
def NewM (pr : Prop) (w0 : World) (D bf Q : Nat) (w' : World) : Prop := ∃ Z S L n e fo X P, Mg w0.heap.size ⟨pr, 0⟩ w' P Z S 0 D L bf n X 0 e 0 fo (fun _ => 0) (fun _ _ => 0) 0 0 T0 ∧ Mk w' P Q Z ∧ (∀ b, P b → w0.heap.size ≤ b) ∧ w0.heap.size ≤ Q ∧ Below w0.heap.size w0 w'
set_option maxRecDepth 100000 in
set_option maxHeartbeats 2000000 in
theorem m_over (pr : Prop) {D bf : Nat} {bz : Int} (hbz : bz = (bf : Int)) (h1 : 1 ≤ bf) (h5 : bf ≤ 5) (hs : Sd w D (fun k => w0.heap.size ≤ k ∧ k < w.heap.size) 46 0 (fun _ => 0) ∧ Below w0.heap.size w0 w ∧ Tab w ∧ Tab w0) : Calls Tryz.prog 28 #[.pointer (some ⟨D, 0, none⟩), .int .i64 40, .int .i64 6, .int .i64 bz] w fun r w' => ∃ Q, r = .returned (.tuple #[.pointer (some ⟨Q, 0, none⟩), .int .i64 0]) ∧ Hid (NewM pr w0 D bf Q w') := by
  have HO := n_log pr hs
  have HP : Hid (∀ w1 L, (∃ T F vt e, Nl ⟨pr, 0⟩ w0 w1 D L T F vt e) → Calls Tryz.prog 46 #[.pointer (some ⟨D, 0, none⟩), .pointer (some ⟨L, 0, none⟩), .int .i64 40, .int .i64 6, .int .i64 bz] w1 fun r w' => ∃ S, r = .returned (.tuple #[.pointer (some ⟨S + 1, 0, none⟩), .int .i64 0]) ∧ Hid (∃ P e, Pw w0.heap.size ⟨pr, 0⟩ w' P S 0 D L bf 0 X0 0 e 0 0 (fun _ => 0) (fun _ _ => 0) ∧ (∀ b, P b → w0.heap.size ≤ b) ∧ w0.heap.size ≤ S ∧ Below w0.heap.size w0 w')) := fun w1 L h => by rw [hbz]; exact n_pool ⟨pr, 0⟩ h h1 h5
  have HR : Hid (∀ S L a c w2, (∃ P e, Pw w0.heap.size ⟨pr, 0⟩ w2 P S 0 D L bf 0 X0 0 e 0 0 (fun _ => 0) (fun _ _ => 0) ∧ (∀ b, P b → w0.heap.size ≤ b) ∧ w0.heap.size ≤ S ∧ Below w0.heap.size w0 w2) → Calls Tryz.prog 47 #[.pointer (some ⟨w2.heap.size, 0, none⟩), .slice a 0 c] (w2.alloc (.cells #[.int .i32 0, .int .u32 0, .pointer (some ⟨S + 1, 0, none⟩), .pointer (some ⟨L, 0, none⟩), .int .i64 6, .int .i64 0, .slice none 0 0] 88)) fun r w4 => r = .returned (.int .i64 0) ∧ Hid (NewM pr w0 D bf w4.heap.size (w4.alloc (.cells #[.pointer (some ⟨w2.heap.size, 0, none⟩)] 91)))) := fun S L a c w2 ⟨P, e, k, hP, hS, hb⟩ => by
    have hbs := hb.size
    have k2 := Mg.new k hbs
    refine (m_restore k2 a c).mono fun r w4 ⟨h1, h2⟩ => ⟨h1, ?_⟩
    obtain ⟨n, e', fo, X, P', j1, j2, j3⟩ := h2.out
    have hb2 : Below w2.heap.size w2 (w2.alloc (mgO 0 S L 0 (.slice none 0 0))) := (Below.refl _ w2).alloc (Nat.le_refl _) _
    have s2 := hb2.size
    have hb3 : Below w0.heap.size w0 (w2.alloc (mgO 0 S L 0 (.slice none 0 0))) := hb.trans (hb2.mono hbs)
    have hb4 : Below w0.heap.size w0 w4 := hb3.trans (j2.below (Fm.low hP) hb3.size)
    have s4 := hb4.size
    have hb5 : Below w4.heap.size w4 (w4.alloc (.cells #[.pointer (some ⟨w2.heap.size, 0, none⟩)] 91)) := (Below.refl _ w4).alloc (Nat.le_refl _) _
    refine ⟨w2.heap.size, S, L, n, e', fo, X, P', j1.below hb5, ⟨heap_alloc_at _ _ _ rfl, fun h => ?_⟩, fun b h => ?_, s4, hb4.trans (hb5.mono s4)⟩
    · have := j1.pw.lt _ h
      omega
    · rcases j3 b h with h | h
      · exact hP b h
      · omega
  clear hs hbz
  go_enter Tryz.func28, Tryz.ntmps28
  go_wp2_with (go_at_call 45; refine HO.mono ?_; clear HO; rintro r w1 ⟨L, a, c, rfl, HH⟩; have HP := HP.out w1 L HH.out)
  all_goals try (refine HP.mono ?_)
  rintro r w2 ⟨S, rfl, HH2⟩
  have HR2 := HR.out S L a c w2 HH2.out
  clear HH HH2 HP HR
  go_wp2_with fail
  refine HR2.mono ?_
  rintro r w4 ⟨rfl, HN⟩
  go_wp2
  go_ret2
  exact ⟨_, rfl, HN⟩
set_option maxRecDepth 100000 in
set_option maxHeartbeats 2000000 in
/-- aries.Open over a new disk. -/
theorem m_open (pr : Prop) {D bf : Nat} {bz : Int} (hbz : bz = (bf : Int)) (h1 : 1 ≤ bf) (h5 : bf ≤ 5) (hs : Sd w D (fun k => w0.heap.size ≤ k ∧ k < w.heap.size) 46 0 (fun _ => 0) ∧ Below w0.heap.size w0 w ∧ Tab w ∧ Tab w0) : Calls Tryz.prog 10 #[.pointer (some ⟨D, 0, none⟩), .int .i64 40, .int .i64 6, .int .i64 bz] w fun r w' => ∃ Q, r = .returned (.tuple #[.pointer (some ⟨Q, 0, none⟩), .int .i64 0]) ∧ Hid (NewM pr w0 D bf Q w') := by
  have HC := sdCopy D 46 0 _ _ w hs.1 (by decide)
  have H1 : Hid (∀ D' w1, Sd w1 D' (fun k => w.heap.size ≤ k ∧ k < w1.heap.size) 46 0 (fun _ => 0) → Below w.heap.size w w1 → Calls Tryz.prog 28 #[.pointer (some ⟨D', 0, none⟩), .int .i64 40, .int .i64 6, .int .i64 bz] w1 fun r w' => ∃ Q, r = .returned (.tuple #[.pointer (some ⟨Q, 0, none⟩), .int .i64 0]) ∧ Hid (Below w.heap.size w w')) := fun D' w1 a1 a2 =>
    (m_over (w0 := w) pr hbz h1 h5 ⟨a1, a2, hs.2.2.1.below a2 (Nat.le_refl _), hs.2.2.1⟩).mono fun r w' ⟨Q, b1, b2⟩ => ⟨Q, b1, by obtain ⟨_, _, _, _, _, _, _, _, _, _, _, _, b3⟩ := b2.out; exact b3⟩
  have H2 : Hid (∀ w1, Below w.heap.size w w1 → Calls Tryz.prog 28 #[.pointer (some ⟨D, 0, none⟩), .int .i64 40, .int .i64 6, .int .i64 bz] w1 fun r w' => ∃ Q, r = .returned (.tuple #[.pointer (some ⟨Q, 0, none⟩), .int .i64 0]) ∧ Hid (NewM pr w0 D bf Q w')) := fun w1 a2 => by
    have s0 := hs.2.1.size
    have s1 := a2.size
    exact m_over (w0 := w0) pr hbz h1 h5 ⟨(hs.1.below a2).grow (fun k h => ⟨h.1, by omega⟩) (fun k h => h.2), hs.2.1.trans (a2.mono s0), hs.2.2.1.below a2 (Nat.le_refl _), hs.2.2.2⟩
  clear hs hbz
  go_enter Tryz.func10, Tryz.ntmps10
  go_wp2_with first
    | (go_at_call 29; refine HC.mono ?_; clear HC; rintro r w1 ⟨D', rfl, hF1, hb1⟩; have H1' := H1.out D' w1 hF1 hb1; clear H1)
    | (go_at_call 28; refine H2'.mono ?_; clear H2'; rintro r w3 ⟨Q, rfl, HN⟩)
    | (go_at_call 28; refine H1'.mono ?_; clear H1'; rintro r w2 ⟨Q2, rfl, hb2⟩; have H2' := H2.out w2 hb2.out; clear H2)
  go_ret2
  exact ⟨_, rfl, HN⟩
end Go.Proofs.YthfokciijcmhbaaGreatDoor

namespace Go.Proofs.YthfokciijcmhbaaGreatDoor
open Go.RowKit
set_option linter.unusedVariables false
set_option maxRecDepth 100000
set_option maxHeartbeats 2000000

theorem infoBy : (Tryz.prog.info? 47).map (fun i => (i.zero, i.size, i.bytes)) = some (some (.slice none 0 0), 1, 24) := by kernel_rfl
theorem one_new (w : World) (x : Value) (t : TypeId) : ∀ j u, [x][j]? = some u → (w.alloc (.cells #[x] t)).cell? ((⟨w.heap.size, 0, none⟩ : Addr).add j) = some u := fun j u hu => by
  have hj : j = 0 := by
    have := (List.getElem?_eq_some_iff.1 hu).1
    simpa using this
  subst hj
  obtain rfl : x = u := by simpa using hu
  rw [Addr.add_lit, cells_at (heap_alloc_at w _ _ rfl) _]
  rfl
theorem row_slice {W : World} {base : Nat} {e : TypeId} {size : Nat} {v : Value} {k : Nat} {xs : List Value} (h : W.ownsRow base e size v k xs) : ∃ a c, v = .slice a k c := by
  rcases h.2 with ⟨rfl, h0⟩ | ⟨g, cap, cur, rfl, _⟩
  · rw [h0]; exact ⟨_, _, rfl⟩
  · exact ⟨_, _, rfl⟩
theorem row_off {W : World} {B : Nat} {e : TypeId} {sz n : Nat} {v : Value} {xs : List Value} (h : W.ownsRow B e sz v n xs) {g : Nat} {cs : Array Value} {t : TypeId} {z : Nat × Nat} (hg : W.heap[g]? = some (.cells cs t z)) (ht : t ≠ e) : v.ownBlock ≠ some g := fun he => by
  rcases h.2 with ⟨h1, _⟩ | ⟨g', cap, cur', h1, hb, h2, _⟩
  · rw [h1] at he; cases he
  · rw [h1] at he
    have he : some g' = some g := he
    injection he with he
    rw [he, hg] at h2
    injection h2 with h2
    injection h2 with _ h2 _
    exact ht h2
/-- The law's world under way: so many rows of noughts are there. -/
structure Bg (w wr : World) (B : Nat) (d m p : Value) (k : Nat) : Prop where
  ex : ∃ v xs, wr.heap[B]? = some (.cells #[d, m, v, p] 33 (0, 0)) ∧ wr.ownsRow w.heap.size 47 1 v k xs
  bel : Below w.heap.size w wr
  low : w.heap.size ≤ B
theorem Bg.step {w wr w2 : World} {B : Nat} {d m p v v2 : Value} {k : Nat} {xs ys : List Value} {o1 o2 : Obj} (hb : Below w.heap.size w wr) (hl : w.heap.size ≤ B) (hv : wr.heap[B]? = some (.cells #[d, m, v, p] 33 (0, 0))) (ho : wr.ownsRow w.heap.size 47 1 v k xs)
    (h2 : w2.ownsRow w.heap.size 47 1 v2 (k + 1) ys) (hg : ((wr.alloc o1).alloc o2).grownBy w2 v.ownBlock) :
    w2.cell? ⟨B, 2, none⟩ = some v ∧ w2.frozen? ⟨B, 2, none⟩ = false ∧ (∃ a c, v2 = .slice a (k + 1) c) ∧ Hid (Bg w (w2.setCell ⟨B, 2, none⟩ v2) B d m p (k + 1)) := by
  have hlt : B < wr.heap.size := (Array.getElem?_eq_some_iff.1 hv).1
  have n1 := row_off ho hv (by decide)
  have hv2 : w2.heap[B]? = some (.cells #[d, m, v, p] 33 (0, 0)) := by
    rw [hg.block B (by rw [World.size_alloc, World.size_alloc]; omega) (fun e => n1 e.symm), Below.heap_alloc _ _ _ (by rw [World.size_alloc]; omega), Below.heap_alloc _ _ _ hlt]
    exact hv
  have hbs := hb.size
  have hb2 : Below w.heap.size w ((wr.alloc o1).alloc o2) := (hb.alloc hb.size o1).alloc (by rw [World.size_alloc]; omega) o2
  have hb3 : Below w.heap.size w w2 := hb2.grown hg hb2.size (fun q e => (World.ownsRow.lt ho q e).1)
  refine ⟨cells_at hv2 2, cells_free hv2 2, row_slice h2, ⟨v2, ys, heap_set_at hv2 v2, row_set h2 (row_off h2 hv2 (by decide)) 2 v2⟩, hb3.setCell (p := ⟨B, 2, none⟩) hl _, hl⟩
variable {w0 w : World}
/-- The law's world behind begin: a manager, and what is kept beside it: all that was there ahead, and the world's own block. -/
def Lw (w0 : World) (Q B : Nat) (w : World) : Prop := ∃ Z S D L, Ws w0.heap.size ⟨True, 0⟩ (fun b => b < w0.heap.size ∨ b = B) Q Z S D L 2 0 0 (fun _ => 0) (fun _ _ => 0) 0 0 T0 w ∧ w.cell? ⟨B, 1, none⟩ = some (.pointer (some ⟨Q, 0, none⟩)) ∧ Below w0.heap.size w0 w ∧ w0.heap.size ≤ B
theorem beginS (ht : Tab w0) : Calls Tryz.prog 17 #[] w0 fun r w' => ∃ B, r = .returned (.pointer (some ⟨B, 0, none⟩)) ∧ Hid (∃ Q, Lw w0 Q B w') := by
  obtain ⟨i0, hi0, hz0, hz1, hz2⟩ := info_parts infoBy
  have hmm := @run_makeMap Tryz.prog
  obtain ⟨MB, hMB⟩ : ∃ MB, madeCells #[.int .u8 0] 112 = MB := ⟨_, rfl⟩
  have hmb : ∀ w : World, (Instr.makeSlice 47 (.int .i64 112) (.int .i64 112)).run Tryz.prog w = .ok (.slice (some ⟨w.heap.size, 0, none⟩) 112 112) (w.alloc (.cells MB 5)) := fun w => by
    rw [← hMB]
    exact run_make_row' (P := Tryz.prog) 47 5 (.int .u8 0) 1 Tryz.underlying47 info5 rfl .i64 .i64 112 (by omega) (by omega) w
  clear hMB
  have HN := n_disk w0 ht
  have HA : Hid (∀ w1 D, (Sd w1 D (fun k => w0.heap.size ≤ k ∧ k < w1.heap.size) 46 0 (fun _ => 0) ∧ Below w0.heap.size w0 w1 ∧ Tab w1 ∧ Tab w0) → Calls Tryz.prog 10 #[.pointer (some ⟨D, 0, none⟩), .int .i64 40, .int .i64 6, .int .i64 2] w1 fun r w' => ∃ M, r = .returned (.tuple #[.pointer (some ⟨M, 0, none⟩), .int .i64 0]) ∧ Hid (NewM True w0 D 2 M w')) := fun w1 D h => m_open True (bf := 2) rfl (by decide) (by decide) h
  go_enter Tryz.func17, Tryz.ntmps17
  go_wp2_with first
    | (go_at_call 37; refine HN.mono ?_; clear HN; rintro r w1 ⟨D, rfl, HH⟩; have H13 := HA.out w1 D HH.out; clear HA HH)
    | (go_at_call 10; refine H13.mono ?_; clear H13; rintro r w2 ⟨M, rfl, HB2⟩)
  have HB3 : Hid (∀ B wf, Bg w2 wf B (.pointer (some ⟨D, 0, none⟩)) (.pointer (some ⟨M, 0, none⟩)) (.map (some w2.heap.size)) 6 → ∃ Q, Lw w0 Q B wf) := fun B wf h => by
    obtain ⟨Z, S, L, n, e, fo, X, P, k, q, hP, hQ, hb⟩ := HB2.out
    obtain ⟨v, xs, hv, _⟩ := h.ex
    have hs := h.bel.size
    have hbs := hb.size
    have k' := k.below h.bel
    have hlow := h.low
    have hBl := (Array.getElem?_eq_some_iff.1 hv).1
    refine ⟨M, Z, S, D, L, ⟨n, e, fo, X, P, k', q.below h.bel, hP, by omega, fun b hb' => ?_⟩, by rw [cells_at hv 1]; rfl, hb.trans (h.bel.mono hbs), by omega⟩
    rcases hb' with hb' | rfl
    · exact ⟨by omega, .inl hb'⟩
    · exact ⟨hBl, .inr ⟨fun h => by have := k.pw.lt _ h; omega, _, _, hv, by decide, by decide, by decide, by decide, by decide, by decide, by decide⟩⟩
  have H0 : Hid (∀ wf, wf = (w2.alloc (.map #[] 0)).alloc (.cells #[.pointer (some ⟨D, 0, none⟩), .pointer (some ⟨M, 0, none⟩), .slice none 0 0, .map (some w2.heap.size)] 33) → Bg w2 wf (w2.heap.size + 1) (.pointer (some ⟨D, 0, none⟩)) (.pointer (some ⟨M, 0, none⟩)) (.map (some w2.heap.size)) 0) := fun wf hf => by
    subst hf
    refine ⟨⟨.slice none 0 0, [], heap_alloc_at _ _ _ (World.size_alloc ..).symm, World.ownsRow_nil _ _ _ _⟩, ((Below.refl _ w2).alloc (Nat.le_refl _) _).alloc (by rw [World.size_alloc]; omega) _, by omega⟩
  have H0 := H0.out _ rfl
  generalize (Value.map (some w2.heap.size)) = mp at *
  generalize w2.heap.size + 1 = B at *
  go_loopw [26] (fun i wr => ∃ k : Nat, k ≤ 6 ∧ i = .int .i64 (k : Int) ∧ Hid (Bg w2 wr B (.pointer (some ⟨D, 0, none⟩)) (.pointer (some ⟨M, 0, none⟩)) mp k)) (fun i _ => 6 - (intOf i).toNat)
  case atStart => exact ⟨0, by omega, rfl, H0⟩
  case round =>
    clear H0
    obtain ⟨k, hk, rfl, HG⟩ := hrel
    by_cases hlt : k < 6
    · have hlt' : (k : Int) < 6 := by omega
      obtain ⟨v, xs, hv, ho⟩ := HG.out.ex
      have hbel := HG.out.bel
      have hlow := HG.out.low
      have hlB : B < wr.heap.size := (Array.getElem?_eq_some_iff.1 hv).1
      have k1 : wr.cell? ⟨B, 2, none⟩ = some v := cells_at hv 2
      have al1 : ∀ o, (wr.alloc o).cell? ⟨B, 2, none⟩ = some v := fun o => (World.cell?_alloc_past (w := wr) o _ 2 hlB).trans k1
      have al2 : ∀ o o', ((wr.alloc o).alloc o').cell? ⟨B, 2, none⟩ = some v := fun o o' => (World.cell?_alloc_past (w := wr.alloc o) o' _ 2 (by rw [World.size_alloc]; omega)).trans (al1 o)
      have HO : Hid (∀ o1 o2, ((wr.alloc o1).alloc o2).ownsRow w2.heap.size 47 1 v k xs) := fun o1 o2 => World.ownsRow.alloc (World.ownsRow.alloc ho o1) o2
      have HN : Hid (∀ (o1 o2 : Obj) (v2 : Value) (w3 : World) (ys : List Value), w3.ownsRow w2.heap.size 47 1 v2 (k + 1) ys → ((wr.alloc o1).alloc o2).grownBy w3 v.ownBlock → w3.cell? ⟨B, 2, none⟩ = some v ∧ w3.frozen? ⟨B, 2, none⟩ = false ∧ (∃ a c, v2 = .slice a (k + 1) c) ∧ Hid (Bg w2 (w3.setCell ⟨B, 2, none⟩ v2) B (.pointer (some ⟨D, 0, none⟩)) (.pointer (some ⟨M, 0, none⟩)) mp (k + 1))) := fun o1 o2 v2 w3 ys h2 hg => Bg.step hbel hlow hv ho h2 hg
      have hsz := hbel.size
      obtain ⟨av, cv, rfl⟩ := row_slice ho
      clear hv ho HG hbel
      go_wp2_with fail
      go_region_law (refine step_append_own_at rfl _ _ 30 rfl w2.heap.size 47 i0 (.slice none 0 0) 1 24 Tryz.underlying30 hi0 hz0 hz1 hz2 rfl (by decide) (.slice av k cv) k xs (by go_simp) (by exact HO.out _ _) ⟨wr.heap.size + 1, 0, none⟩ 1 1 [.slice (some ⟨wr.heap.size, 0, none⟩) 112 112] (by go_simp) rfl (by first | exact one_new _ _ _ | (have := one_new (wr.alloc (.cells MB 5)) (.slice (some ⟨wr.heap.size, 0, none⟩) 112 112) 47; rw [World.size_alloc] at this; exact this)) (by intro u hu; simp at hu; subst hu; rfl) (by unfold maxLen; omega) (by omega) (by simp; omega) ?_; intro v2 w3 ho2 hg2 _; obtain ⟨x1, x2, ⟨gx, cx, hv2⟩, HE⟩ := HN.out _ _ v2 w3 _ ho2 (by first | exact grown_drew hg2 | exact hg2); subst hv2)
      all_goals
        go_wp2
        go_roundw
        case rel => exact ⟨k + 1, by omega, by first | rfl | go_num, HE.out⟩
        case measure => simp [intOf]; omega
    · obtain rfl : k = 6 := by omega
      go_wp2
      go_ret
      exact ⟨_, rfl, HB3.out _ _ HG.out⟩
end Go.Proofs.YthfokciijcmhbaaGreatDoor

namespace Go.Proofs.YthfokciijcmhbaaGreatDoor
open Go.RowKit
set_option linter.unusedVariables false

/-- What a law names: the manager's block, the world's, and the slice. -/
structure Pm where
  Q : Nat
  B : Nat
  gb : Nat
  ob : Nat
  nb : Nat
  fb : Nat → Int
variable {w w0 w' w1 w2 : World} {m : Pm} {K : Nat → Prop} {u M la lt N : Nat} {lo : Nat → Nat → Int} {T : Nat → Tr}
def Cwd (w0 : World) (m : Pm) (K : Nat → Prop) (w : World) : Prop := K m.B ∧ K m.gb ∧ w.cell? ⟨m.B, 1, none⟩ = some (.pointer (some ⟨m.Q, 0, none⟩)) ∧ From w (some ⟨m.gb, m.ob, none⟩) m.nb m.fb ∧ (∀ b, b < w0.heap.size → K b) ∧ Below w0.heap.size w0 w
theorem Cwd.part (h : Cwd w0 m K w) (hp : Part (fun b => ¬ K b) w w') : Cwd w0 m K w' := by
  obtain ⟨h1, h2, h3, h4, h5, h6⟩ := h
  refine ⟨h1, h2, hp.cell (p := ⟨m.B, 1, none⟩) (fun h => h h1) h3, hp.from h4 (fun h => h h2), h5, h6.trans (hp.below (fun b hb => Classical.byContradiction fun h9 => hb (h5 b (by omega))) h6.size)⟩
theorem Cwd.more {K' : Nat → Prop} (h : Cwd w0 m K w) (hK : ∀ b, K b → K' b) : Cwd w0 m K' w := ⟨hK _ h.1, hK _ h.2.1, h.2.2.1, h.2.2.2.1, fun b hb => hK _ (h.2.2.2.2.1 b hb), h.2.2.2.2.2⟩
theorem Cwd.below (h : Cwd w0 m K w) (hb : Below w.heap.size w w') : Cwd w0 m K w' := h.part (Part.ofBelow hb)
/-- A manager in the law's world. -/
def Sg (w0 : World) (m : Pm) (u M la lt N : Nat) (lo : Nat → Nat → Int) (T : Nat → Tr) (K : Nat → Prop) (w : World) : Prop := (∃ Z S D L ln, Ws w0.heap.size ⟨True, u⟩ K m.Q Z S D L 2 M la ln lo lt N T w) ∧ Cwd w0 m K w
theorem Sg.below (h : Sg w0 m u M la lt N lo T K w) (hb : Below w.heap.size w w') : Sg w0 m u M la lt N lo T K w' := by
  obtain ⟨⟨Z, S, D, L, ln, h1⟩, h2⟩ := h
  exact ⟨⟨Z, S, D, L, ln, h1.below hb⟩, h2.below hb⟩
theorem Sg.cell (h : Sg w0 m u M la lt N lo T K w) : w.cell? ⟨m.B, 1, none⟩ = some (.pointer (some ⟨m.Q, 0, none⟩)) := h.2.2.2.1
theorem Sg.of {A' : Ax} {Z S D L bf M' la' lt' N' u' : Nat} {ln' : Nat → Nat} {lo' : Nat → Nat → Int} {T' : Nat → Tr} (hA : A' = ⟨True, u'⟩) (hb : bf = 2) (h2 : Cwd w0 m K w) (h : Wk w0.heap.size A' K m.Q Z S D L bf M' la' ln' lo' lt' N' T' w w') : Sg w0 m u' M' la' lt' N' lo' T' K w' ∧ w'.cell? ⟨m.B, 1, none⟩ = some (.pointer (some ⟨m.Q, 0, none⟩)) := by
  subst hA hb
  have h3 := h2.part h.2
  exact ⟨⟨⟨Z, S, D, L, ln', h.1⟩, h3⟩, h3.2.2.1⟩
theorem G_begin (h : Sg w0 m u M la lt N lo T K w) (hN : N < 16) (hm : mxT lt T N < 1099511627776) (no : Nat) (hno : mxT lt T N + 1 = no) (z : Int) (hz : z = (no : Int)) : Calls Tryz.prog 14 #[.pointer (some ⟨m.Q, 0, none⟩)] w fun r w' => r = .returned (.tuple #[.int .i64 z, .int .i64 0]) ∧ w'.cell? ⟨m.B, 1, none⟩ = some (.pointer (some ⟨m.Q, 0, none⟩)) ∧ Hid (∃ q, Sg w0 m u M la lt (N + 1) lo (updT T N (freshTr q no)) K w') := by
  obtain ⟨⟨Z, S, D, L, ln, h1⟩, h2⟩ := h
  refine (W_begin h1 hN hm).mono fun r w' ⟨a1, a2⟩ => ?_
  obtain ⟨q, h3⟩ := a2.out
  have h4 := Sg.of rfl rfl h2 h3
  rw [hno] at h4
  refine ⟨by rw [a1, hz, ← hno]; rfl, h4.2, q, h4.1⟩
theorem G_read (h : Sg w0 m u M la lt N lo T K w) (hd : Sole T N) (i : Nat) (hi : i < N) (z : Nat) (hz : z < 6) (hM : M ≤ 1000000) (hL : ¬ Lkd T N i (z : Int)) (no : Int) (hno : no = ((T i).no : Int)) : Calls Tryz.prog 18 #[.pointer (some ⟨m.Q, 0, none⟩), .int .i64 no, .int .i64 (z : Int)] w fun r w' => ∃ a n9 c, r = .returned (.tuple #[.slice a n9 c, .int .i64 0]) ∧ w'.cell? ⟨m.B, 1, none⟩ = some (.pointer (some ⟨m.Q, 0, none⟩)) ∧ Hid (∃ gl, .slice a n9 c = Value.slice (some ⟨gl, 0, none⟩) 112 c ∧ 112 ≤ c ∧ c ≤ 9223372036854775807 ∧ Sg w0 m u (M + 1) la lt N lo T (fun b => K b ∨ b = gl) w' ∧ Part (fun b => ¬ K b) w w' ∧ From w' (some ⟨gl, 0, none⟩) 112 (lo z)) := by
  obtain ⟨⟨Z, S, D, L, ln, h1⟩, h2⟩ := h
  subst hno
  refine (W_read h1 hd i hi z hz hM (by decide) hL).mono fun r w' ⟨a, n9, c, a1, a2⟩ => ⟨a, n9, c, a1, ?_⟩
  obtain ⟨gl, hv, h3, h4, h5, h6⟩ := a2.out
  have h7 := h2.part h5
  obtain ⟨x1, x2, e9, h8, _, h9, h10, _⟩ := h6.openF
  injection e9 with e1 _ e3
  subst e1 e3
  exact ⟨h7.2.2.1, gl, hv, h9, h10, ⟨⟨Z, S, D, L, ln, h4⟩, h7.more (fun b h => .inl h)⟩, h5, h8⟩
theorem G_read_no (h : Sg w0 m u M la lt N lo T K w) (hd : Sole T N) (i : Nat) (hi : i < N) (z : Nat) (hz : z < 6) (hL : Lkd T N i (z : Int)) (no : Int) (hno : no = ((T i).no : Int)) : Calls Tryz.prog 18 #[.pointer (some ⟨m.Q, 0, none⟩), .int .i64 no, .int .i64 (z : Int)] w fun r w' => ∃ a n9 c, r = .returned (.tuple #[.slice a n9 c, .int .i64 61]) ∧ w'.cell? ⟨m.B, 1, none⟩ = some (.pointer (some ⟨m.Q, 0, none⟩)) ∧ Hid (Sg w0 m u M la lt N lo T K w' ∧ Part (fun b => ¬ K b) w w') := by
  obtain ⟨⟨Z, S, D, L, ln, h1⟩, h2⟩ := h
  subst hno
  refine (W_read_no h1 hd i hi z hz hL).mono fun r w' ⟨a, n9, c, a1, a2⟩ => ⟨a, n9, c, a1, ?_⟩
  have h4 := Sg.of rfl rfl h2 a2.out
  exact ⟨h4.2, h4.1, a2.out.2⟩
theorem G_write (h : Sg w0 m u M la lt N lo T K w) (hd : Sole T N) (i : Nat) (hi : i < N) (z : Nat) (hz : z < 6) (hM : M ≤ 900000) (hla : la ≤ 1000000) (hL : ¬ Lkd T N i (z : Int)) (off : Nat) (hnb : 0 < m.nb) (ho : off + m.nb ≤ 112) (cb : Nat) (hby : ∀ j, 0 ≤ m.fb j ∧ m.fb j ≤ 255) (ah be : ByteArray) (hah : strF (fun j => lo z (off + j)) m.nb = ah) (hbe : strF m.fb m.nb = be) (hne : ah ≠ be) (hps : (T i).ps.length < 1000) (hus : (T i).us.length < 1000) (R : List Int) (hR : encB 1 (T i).no z off ah be 0 = R) (hu : u + (putB R.length).length + R.length + rsv T N + 160 ≤ 4480) (no : Int) (hno : no = ((T i).no : Int)) :
    Calls Tryz.prog 15 #[.pointer (some ⟨m.Q, 0, none⟩), .int .i64 no, .int .i64 (z : Int), .int .i64 (off : Int), .slice (some ⟨m.gb, m.ob, none⟩) m.nb cb] w fun r w' => r = .returned (.int .i64 0) ∧ w'.cell? ⟨m.B, 1, none⟩ = some (.pointer (some ⟨m.Q, 0, none⟩)) ∧ Hid (∃ pv uv, Sg w0 m (u + (putB R.length).length + R.length) (M + 2) (la + 1) (max lt (T i).no) N (upd lo z (ov (lo z) off m.nb (fn (strL be)))) (updT T i ⟨(T i).b, (T i).no, pv, if Ci (T i).ps (z : Int) then (T i).ps else (T i).ps ++ [z], uv, (T i).us ++ [⟨la + 1, z, off, ah, be⟩]⟩) K w') := by
  obtain ⟨⟨Z, S, D, L, ln, h1⟩, h2⟩ := h
  subst hno
  refine (W_write h1 hd i hi z hz hM (by decide) hla hL off m.nb hnb ho m.gb m.ob cb m.fb h2.2.2.2.1 h2.2.1 hby ah be hah hbe hne hps hus R hR hu).mono fun r w' ⟨a1, a2⟩ => ⟨a1, ?_⟩
  obtain ⟨pv, uv, h3⟩ := a2.out
  have h4 := Sg.of rfl rfl h2 h3
  exact ⟨h4.2, pv, uv, h4.1⟩
theorem G_write_same (h : Sg w0 m u M la lt N lo T K w) (hd : Sole T N) (i : Nat) (hi : i < N) (z : Nat) (hz : z < 6) (hM : M ≤ 900000) (hla : la ≤ 1000000) (hL : ¬ Lkd T N i (z : Int)) (off : Nat) (hnb : 0 < m.nb) (ho : off + m.nb ≤ 112) (cb : Nat) (hby : ∀ j, 0 ≤ m.fb j ∧ m.fb j ≤ 255) (ah be : ByteArray) (hah : strF (fun j => lo z (off + j)) m.nb = ah) (hbe : strF m.fb m.nb = be) (heq : ah = be) (no : Int) (hno : no = ((T i).no : Int)) :
    Calls Tryz.prog 15 #[.pointer (some ⟨m.Q, 0, none⟩), .int .i64 no, .int .i64 (z : Int), .int .i64 (off : Int), .slice (some ⟨m.gb, m.ob, none⟩) m.nb cb] w fun r w' => r = .returned (.int .i64 0) ∧ w'.cell? ⟨m.B, 1, none⟩ = some (.pointer (some ⟨m.Q, 0, none⟩)) ∧ Hid (Sg w0 m u (M + 1) la lt N lo T K w') := by
  obtain ⟨⟨Z, S, D, L, ln, h1⟩, h2⟩ := h
  subst hno
  refine (W_write_same h1 hd i hi z hz hM (by decide) hla hL off m.nb hnb ho m.gb m.ob cb m.fb h2.2.2.2.1 h2.2.1 hby ah be hah hbe heq).mono fun r w' ⟨a1, a2⟩ => ⟨a1, ?_⟩
  have h4 := Sg.of rfl rfl h2 a2.out
  exact ⟨h4.2, h4.1⟩
theorem G_write_no (h : Sg w0 m u M la lt N lo T K w) (hd : Sole T N) (i : Nat) (hi : i < N) (z : Nat) (hz : z < 6) (hL : Lkd T N i (z : Int)) (off cb : Nat) (no : Int) (hno : no = ((T i).no : Int)) : Calls Tryz.prog 15 #[.pointer (some ⟨m.Q, 0, none⟩), .int .i64 no, .int .i64 (z : Int), .int .i64 (off : Int), .slice (some ⟨m.gb, m.ob, none⟩) m.nb cb] w fun r w' => r = .returned (.int .i64 61) ∧ w'.cell? ⟨m.B, 1, none⟩ = some (.pointer (some ⟨m.Q, 0, none⟩)) ∧ Hid (Sg w0 m u M la lt N lo T K w' ∧ Part (fun b => ¬ K b) w w') := by
  obtain ⟨⟨Z, S, D, L, ln, h1⟩, h2⟩ := h
  subst hno
  refine (W_write_no h1 hd i hi z hz hL off m.nb m.gb m.ob cb).mono fun r w' ⟨a1, a2⟩ => ⟨a1, ?_⟩
  have h4 := Sg.of rfl rfl h2 a2.out
  exact ⟨h4.2, h4.1, a2.out.2⟩
theorem G_commit (h : Sg w0 m u M la lt N lo T K w) (hd : Sole T N) (i : Nat) (hi : i < N) (hp : 0 < (T i).ps.length) (hla : la ≤ 1000000) (hM : M ≤ 1000000) (hu : u + 12 ≤ 4480) (R : List Int) (hR : encB 3 (T i).no 0 0 ByteArray.empty ByteArray.empty 0 = R) (no : Int) (hno : no = ((T i).no : Int)) : Calls Tryz.prog 20 #[.pointer (some ⟨m.Q, 0, none⟩), .int .i64 no] w fun r w' => r = .returned (.int .i64 0) ∧ w'.cell? ⟨m.B, 1, none⟩ = some (.pointer (some ⟨m.Q, 0, none⟩)) ∧ Hid (Sg w0 m (u + (putB R.length).length + R.length) M (la + 1) (max lt (T i).no) (N - 1) lo (dropT T i) K w') := by
  obtain ⟨⟨Z, S, D, L, ln, h1⟩, h2⟩ := h
  subst hno
  refine (W_commit h1 hd i hi hp hla hM hu R hR).mono fun r w' ⟨a1, a2⟩ => ⟨a1, ?_⟩
  have h4 := Sg.of rfl rfl h2 a2.out
  exact ⟨h4.2, h4.1⟩
theorem G_commit_none (h : Sg w0 m u M la lt N lo T K w) (hd : Sole T N) (i : Nat) (hi : i < N) (hp : (T i).ps = []) (no : Int) (hno : no = ((T i).no : Int)) : Calls Tryz.prog 20 #[.pointer (some ⟨m.Q, 0, none⟩), .int .i64 no] w fun r w' => r = .returned (.int .i64 0) ∧ w'.cell? ⟨m.B, 1, none⟩ = some (.pointer (some ⟨m.Q, 0, none⟩)) ∧ Hid (Sg w0 m u M la lt (N - 1) lo (dropT T i) K w') := by
  obtain ⟨⟨Z, S, D, L, ln, h1⟩, h2⟩ := h
  subst hno
  refine (W_commit_none h1 hd i hi hp).mono fun r w' ⟨a1, a2⟩ => ⟨a1, ?_⟩
  have h4 := Sg.of rfl rfl h2 a2.out
  exact ⟨h4.2, h4.1⟩
theorem G_commit_no (h : Sg w0 m u M la lt N lo T K w) (z : Int) (hz : ∀ j, j < N → ((T j).no : Int) ≠ z) : Calls Tryz.prog 20 #[.pointer (some ⟨m.Q, 0, none⟩), .int .i64 z] w fun r w' => r = .returned (.int .i64 60) ∧ w'.cell? ⟨m.B, 1, none⟩ = some (.pointer (some ⟨m.Q, 0, none⟩)) ∧ Hid (Sg w0 m u M la lt N lo T K w') := by
  obtain ⟨⟨Z, S, D, L, ln, h1⟩, h2⟩ := h
  refine (W_commit_no h1 z hz).mono fun r w' ⟨a1, a2⟩ => ⟨a1, ?_⟩
  have h4 := Sg.of rfl rfl h2 a2.out
  exact ⟨h4.2, h4.1⟩
theorem G_abort (h : Sg w0 m u M la lt N lo T K w) (hd : Sole T N) (i : Nat) (hi : i < N) (hp : 0 < (T i).ps.length) (ho : ∀ x ∈ (T i).us, Okb x) (hla : la + (T i).us.length ≤ 1000000) (hM : M + 2 * (T i).us.length ≤ 900000) (hu : u + 160 * (T i).us.length + 12 ≤ 4480) (no : Int) (hno : no = ((T i).no : Int)) : Calls Tryz.prog 16 #[.pointer (some ⟨m.Q, 0, none⟩), .int .i64 no] w fun r w' => r = .returned (.int .i64 0) ∧ w'.cell? ⟨m.B, 1, none⟩ = some (.pointer (some ⟨m.Q, 0, none⟩)) ∧ Hid (∃ F, (∃ ln, Ts.fin (T i).no (T i).us.reverse ⟨u, M, la, ln, lo, lt⟩ = F) ∧ Sg w0 m (F.u + endN (T i).no) F.M (F.la + 1) (max F.lt (T i).no) (N - 1) F.lo (dropT T i) K w') := by
  obtain ⟨⟨Z, S, D, L, ln, h1⟩, h2⟩ := h
  subst hno
  refine (W_abort h1 hd i hi hp (by decide) ho hla hM hu _ rfl).mono fun r w' ⟨a1, a2⟩ => ⟨a1, ?_⟩
  have h4 := Sg.of rfl rfl h2 a2.out
  exact ⟨h4.2, _, ⟨ln, rfl⟩, h4.1⟩
theorem G_abort_none (h : Sg w0 m u M la lt N lo T K w) (hd : Sole T N) (i : Nat) (hi : i < N) (hp : (T i).ps = []) (no : Int) (hno : no = ((T i).no : Int)) : Calls Tryz.prog 16 #[.pointer (some ⟨m.Q, 0, none⟩), .int .i64 no] w fun r w' => r = .returned (.int .i64 0) ∧ w'.cell? ⟨m.B, 1, none⟩ = some (.pointer (some ⟨m.Q, 0, none⟩)) ∧ Hid (Sg w0 m u M la lt (N - 1) lo (dropT T i) K w') := by
  obtain ⟨⟨Z, S, D, L, ln, h1⟩, h2⟩ := h
  subst hno
  refine (W_abort_none h1 hd i hi hp).mono fun r w' ⟨a1, a2⟩ => ⟨a1, ?_⟩
  have h4 := Sg.of rfl rfl h2 a2.out
  exact ⟨h4.2, h4.1⟩
end Go.Proofs.YthfokciijcmhbaaGreatDoor
