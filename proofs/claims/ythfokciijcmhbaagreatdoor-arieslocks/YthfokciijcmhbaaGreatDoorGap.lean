/-
  Contract of log.Open over any disk on which nothing pends. Condition: the library's table of sums is as it starts.
  How bytes and a Boolean that are handed in are read.
  Contracts of page.Encode and of the document's own Encode: a page's sector, or the error. Condition: the table is laid.
-/
import Derived.Test.YthfokciijcmhbaaGreatDoorGan
import Derived.Test.YthfokciijcmhbaaGreatDoorGao
import Derived.BigRegion
import Derived.Test.YthfokciijcmhbaaGreatDoorRows
import Derived.ProofKit
import Derived.OpenShut
import Derived.ShutString
import Derived.ChangeOld
import Derived.SizedLaws
import Derived.Deep.Slices
import Derived.Deep.Grids
import Derived.Deep.DeepHandedRow
import Derived.Lib.LaidTab
import Derived.Test.YthfokciijcmhbaaGreatDoorGac
namespace Go.Proofs.YthfokciijcmhbaaGreatDoor
open Go.RowKit
set_option linter.unusedVariables false

/-- A log in memory: where its parts lie, what it knows. -/
structure LogW (w : World) (L T D from_ sectors first last forced place : Nat) (vt : Value) : Prop where
  hL : w.heap[L]? = some (.cells #[.pointer (some ⟨T, 0, none⟩)] 137 (0, 0))
  hT : w.heap[T]? = some (.cells #[.pointer (some ⟨D, 0, none⟩), .int .i64 (from_ : Int), .int .i64 (sectors : Int), .int .i64 (first : Int), .int .i64 (last : Int), .int .i64 (forced : Int), .int .i64 (place : Int), vt] 135 (0, 0))

/-- What Open leaves: the disk, the log, the records. -/
structure Opened (w w' : World) (D n from_ sectors : Nat) (F : Nat → Prop) (e : Nat → Int) (L : Nat) (v : Value) (first tot size : Nat) (R : List (Nat × Nat)) : Prop where
  has : Has (from0 e from_) sectors first tot
  prs : Parsed (lg (from0 e from_)) tot R size
  lay : ∃ T vt A C e' p q, LogW w' L T D from_ sectors (max first 1) (max first 1 + R.length - 1) (max first 1 + R.length - 1) (size / 112) vt ∧ Own w' q vt (lst (sh (lg (from0 e from_)) (size / 112 * 112)) (size - size / 112 * 112)) ∧ Sd w' D (fun k => F k ∨ (p ≤ k ∧ k < q)) n 0 e' ∧ Cleaned e e' from_ sectors first tot size ∧ RecG w' w.heap.size v R.length A (lenF R) C (bytF (lg (from0 e from_)) R) ∧ (∀ k, v.ownBlock = some k → k < p) ∧ (∀ j k, j < R.length → A j = some ⟨k, 0, none⟩ → k < p) ∧ w.heap.size ≤ p ∧ p ≤ q ∧ q ≤ L ∧ q ≤ T ∧ L ≠ T ∧ (∀ k, vt.ownBlock = some k → k ≠ L ∧ k ≠ T)
  part : Part F w w'

theorem RecG.part2 {w w' : World} {G : Nat → Prop} {B : Nat} {v : Value} {k : Nat} {A : Nat → Option Addr} {L C : Nat → Nat} {f : Nat → Nat → Int} (h : RecG w B v k A L C f) (hp : Part G w w') (h1 : ∀ q, v.ownBlock = some q → ¬ G q) (h2 : ∀ j g, j < k → A j = some ⟨g, 0, none⟩ → ¬ G g) : RecG w' B v k A L C f := by
  refine ⟨hp.row h.own h1, fun j hj => ?_⟩
  obtain ⟨g, cur, fz, k1, k2, k3, k4⟩ := h.each j hj
  exact ⟨g, cur, fz, k1, k2, (hp.block g (Array.getElem?_eq_some_iff.1 k3).1 (h2 j g hj k1)).trans k3, k4⟩
theorem RecG.lt {w : World} {B : Nat} {v : Value} {k : Nat} {A : Nat → Option Addr} {L C : Nat → Nat} {f : Nat → Nat → Int} (h : RecG w B v k A L C f) : (∀ q, v.ownBlock = some q → q < w.heap.size) ∧ ∀ j g, j < k → A j = some ⟨g, 0, none⟩ → g < w.heap.size := by
  refine ⟨fun q hq => (World.ownsRow.lt h.own q hq).2, fun j g hj e => ?_⟩
  obtain ⟨g', cur, fz, k1, k2, k3, k4⟩ := h.each j hj
  rw [k1] at e
  cases e
  exact (Array.getElem?_eq_some_iff.1 k3).1
theorem RecG.heap {w w' : World} {B : Nat} {v : Value} {k : Nat} {A : Nat → Option Addr} {L C : Nat → Nat} {f : Nat → Nat → Int} (h : RecG w B v k A L C f) (e : w'.heap = w.heap) : RecG w' B v k A L C f :=
  ⟨row_heap h.own e, fun j hj => by
    obtain ⟨g, cur, fz, k1, k2, k3, k4⟩ := h.each j hj
    exact ⟨g, cur, fz, k1, k2, by rw [e]; exact k3, k4⟩⟩
theorem Sd.heap {w w' : World} {D : Nat} {F : Nat → Prop} {n M : Nat} {e : Nat → Int} (h : Sd w D F n M e) (hh : w'.heap = w.heap) : Sd w' D F n M e := by
  obtain ⟨dur, m, tf, ld, k1, k2⟩ := h
  exact ⟨dur, m, tf, ld, k1.heap hh, k2⟩

set_option maxRecDepth 100000 in
set_option maxHeartbeats 2000000 in
theorem openL (D n from_ sectors : Nat) (F : Nat → Prop) (e : Nat → Int) (w : World) (h : Sd w D F n 0 e) (hp : from_ + sectors ≤ n) (hs1 : 1 ≤ sectors) (ht : Tab w) (htb : ¬ F 0) :
    Calls Tryz.prog 45 #[.pointer (some ⟨D, 0, none⟩), .int .i64 (from_ : Int), .int .i64 (sectors : Int)] w fun r w' => ∃ L v first tot size R, r = .returned (.tuple #[.pointer (some ⟨L, 0, none⟩), v, .int .i64 0]) ∧ Opened w w' D n from_ sectors F e L v first tot size R := by
  obtain ⟨n1, n2⟩ := h.n2
  have hFl := h.lt
  have hby := h.by_
  have HSc : Hid (Calls Tryz.prog 65 #[.pointer (some ⟨D, 0, none⟩)] w fun r w' => r = .returned (.int .i64 (n : Int)) ∧ w' = w) := sdSectors D n 0 F e w h
  obtain ⟨o, ho⟩ : ∃ o, Obj.cells #[.pointer (some ⟨D, 0, none⟩), .int .i64 (from_ : Int), .int .i64 (sectors : Int)] 127 = o := ⟨_, rfl⟩
  have hb0 : Below w.heap.size w (w.alloc o) := (Below.refl _ w).alloc (Nat.le_refl _) o
  have hh0 : (w.alloc o).heap[w.heap.size]? = some (.cells #[.pointer (some ⟨D, 0, none⟩), .int .i64 (from_ : Int), .int .i64 (sectors : Int)] 127 (0, 0)) := by rw [← ho]; exact heap_alloc_at _ _ _ rfl
  have hsz : (w.alloc o).heap.size = w.heap.size + 1 := by simp
  have HI : Hid (∀ wr, Part F (w.alloc o) wr → wr.cell? ⟨w.heap.size, 0, none⟩ = some (.pointer (some ⟨D, 0, none⟩)) ∧ wr.cell? ⟨w.heap.size, 1, none⟩ = some (.int .i64 (from_ : Int)) ∧ wr.cell? ⟨w.heap.size, 2, none⟩ = some (.int .i64 (sectors : Int)) ∧ Tab wr ∧ w.heap.size + 1 ≤ wr.heap.size ∧ Part F w wr) := fun wr hb => by
    have hs := hb.size
    have e1 := (hb.block w.heap.size (by omega) (fun k => by have := hFl _ k; omega)).trans hh0
    refine ⟨by rw [cells_at e1 0]; rfl, by rw [cells_at e1 1]; rfl, by rw [cells_at e1 2]; rfl, fun i hi => ?_, by omega, (Part.ofBelow hb0).trans hb (fun _ _ k => k)⟩
    have := (ht.below hb0 (Nat.le_refl _)) i hi
    exact hb.cell htb this
  have hS1 : Sd (w.alloc o) D F n 0 e := h.below hb0
  have CH : Calls Tryz.prog 66 #[.agg #[.pointer (some ⟨D, 0, none⟩), .int .i64 (from_ : Int), .int .i64 (sectors : Int)]] (w.alloc o) fun r w' => ∃ (first tot : Nat) (v : Value), r = .returned (.tuple #[.int .i64 (first : Int), v]) ∧ Own w' (w.alloc o).heap.size v (lst (lg (from0 e from_)) tot) ∧ Has (from0 e from_) sectors first tot ∧ Below (w.alloc o).heap.size (w.alloc o) w' := by
    obtain ⟨tf, ld, hd⟩ := hS1.quiet
    exact hasL D n from_ sectors F e tf ld (w.alloc o) hd hp n2 (ht.below hb0 (Nat.le_refl _))
  have d0 : (w.alloc o).cell? ⟨w.heap.size, 0, none⟩ = some (.pointer (some ⟨D, 0, none⟩)) := by rw [cells_at hh0 0]; rfl
  have d1 : (w.alloc o).cell? ⟨w.heap.size, 1, none⟩ = some (.int .i64 (from_ : Int)) := by rw [cells_at hh0 1]; rfl
  have d2 : (w.alloc o).cell? ⟨w.heap.size, 2, none⟩ = some (.int .i64 (sectors : Int)) := by rw [cells_at hh0 2]; rfl
  have i1 : ¬ ((n : Int) = 0) := by omega
  have i2 : ¬ ((from_ : Int) < 0) := by omega
  have i3 : ¬ ((sectors : Int) < 1) := by omega
  have i4 : ¬ ((n : Int) - (from_ : Int) < (sectors : Int)) := by omega
  have i5 : ((n : Int) == 0) = false := by rw [beq_eq_false_iff_ne]; exact i1
  have HS1 : Hid (Sd (w.alloc o) D F n 0 e) := hS1
  clear h ht hh0 hS1
  obtain ⟨E, hE⟩ : ∃ E, from0 e from_ = E := ⟨_, rfl⟩
  have hbE : ∀ i, 0 ≤ lg E i ∧ lg E i ≤ 255 := fun i => by rw [← hE]; exact hby _
  go_enter Tryz.func45, Tryz.ntmps45
  go_wp2_with fail
  refine HSc.out.mono ?_
  rintro r w0 ⟨rfl, hw⟩
  obtain rfl : w = w0 := hw.symm
  clear hw
  go_wp2_with fail
  refine HSc.out.mono ?_
  rintro r w0 ⟨rfl, hw⟩
  obtain rfl : w = w0 := hw.symm
  clear hw HSc
  go_wp2_with fail
  try rw [ho]
  refine CH.mono ?_
  rintro r w2 ⟨first, tot, v, rfl, o2, hH, b2⟩
  rw [hE] at o2
  obtain ⟨a, c, rfl, fs, fg⟩ := o2.fst
  have hle := hH.le
  have hff := hH.first
  have hz2 := b2.size
  have hf2 : From w2 a tot (lg E) := by
    rcases fs.2.2 with ⟨e1, e2, _⟩ | ⟨g, e1, hg⟩
    · exact .inl ⟨e1, e2⟩
    · subst e1
      exact .inr ⟨_, rfl, fun i hi => by rw [Addr.add_lit, Nat.zero_add]; exact hg i hi⟩
  have CR := recsL a tot c (lg E) w2 (by omega) hf2 hbE
  obtain ⟨x0, x1, x2, _⟩ := HI.out w2 (Part.ofBelow b2)
  clear CH o2
  go_wp2_with fail
  refine CR.mono ?_
  rintro r w3 ⟨R, size, vr, A, C, rfl, hG, hPr, b3⟩
  obtain ⟨ag, cg, rfl⟩ : ∃ ag cg, vr = .slice ag R.length cg := by
    rcases hG.own.2 with ⟨rfl, h0⟩ | ⟨g, cap, cur, rfl, _⟩
    · rw [h0]; exact ⟨none, 0, rfl⟩
    · exact ⟨_, cap, rfl⟩
  have hst := hPr.1.le
  have hRl := hPr.1.len
  have hz3 := b3.size
  have hB3 : Below (w.alloc o).heap.size (w.alloc o) w3 := b2.trans (b3.mono hz2)
  obtain ⟨x0', x1', x2', t3, _, _⟩ := HI.out w3 (Part.ofBelow hB3)
  have CC := cleanL D n from_ sectors first tot size F e a c w3 (HS1.out.below hB3) hp n2 t3 (by rw [hE]; exact hf2.below b3 (Nat.le_refl _)) fs.1 fs.2.1 hst hle hff.1 hff.2 hs1 htb (by
    rcases fs.2.2 with ⟨_, e2, _⟩ | ⟨g, e1, _⟩
    · exact .inl e2
    · exact .inr ⟨g, e1⟩)
  clear CR t3 x0 x1 x2
  go_wp2_with fail
  refine CC.mono ?_
  rintro r w4 ⟨e', rfl, s4, hCl, p4⟩
  have hz4 := p4.size
  have hP4 : Part F (w.alloc o) w4 := (Part.ofBelow (F := F) hB3).trans p4 (fun _ _ h => h)
  obtain ⟨y0, y1, y2, _, hzw, hPw⟩ := HI.out w4 hP4
  obtain ⟨M, hM⟩ : ∃ M, max first 1 = M := ⟨_, rfl⟩
  have hM1 : 1 ≤ M := by omega
  have hM2 : M ≤ 4611686018427387904 := by have := hff.1; omega
  have hfs4 : Fst w4 a size c (lg E) := ⟨by have := fs.1; omega, fs.2.1, by
    rcases fs.2.2 with ⟨e1, e2, e3⟩ | ⟨g, e1, hg⟩
    · exact .inl ⟨e1, by omega, e3⟩
    · refine .inr ⟨g, e1, fun i hi => ?_⟩
      have h1 := hg i (by omega)
      have h2 : w3.cell? ⟨g, i, none⟩ = some (.int .u8 (lg E i)) := by rw [b3.cell (p := ⟨g, i, none⟩) (World.block_lt_of_cell? w2 _ h1)]; exact h1
      exact p4.cell (p := ⟨g, i, none⟩) (fun k => by have h9 : g < w.heap.size := hFl g k; have := (fg g e1).1; omega) h2⟩
  obtain ⟨OB, hOB⟩ : ∃ OB, Obj.cells #[.pointer (some ⟨D, 0, none⟩), .int .i64 (from_ : Int), .int .i64 (sectors : Int), .int .i64 (M : Int), .int .i64 ((M : Int) + (R.length : Int) - 1), .int .i64 0, .int .i64 0, .slice a size c] 135 = OB := ⟨_, rfl⟩
  have HSt : Hid (∀ W5 : World, W5.heap = (w4.alloc OB).heap → W5.os = w4.os → W5.tape = w4.tape → W5.output = w4.output → Calls Tryz.prog 69 #[.pointer (some ⟨w4.heap.size, 0, none⟩)] W5 fun r w' => r = .returned (.tuple #[]) ∧ Hid (∀ oL, oL = Obj.cells #[.pointer (some ⟨w4.heap.size, 0, none⟩)] 137 → Opened w (w'.alloc oL) D n from_ sectors F e w'.heap.size (.slice ag R.length cg) first tot size R)) := fun W5 e1 e2 e3 e4 => by
    have hT5 : W5.heap[w4.heap.size]? = some (.cells #[.pointer (some ⟨D, 0, none⟩), .int .i64 (from_ : Int), .int .i64 (sectors : Int), .int .i64 (M : Int), .int .i64 ((M + R.length - 1 : Nat) : Int), .int .i64 0, .int .i64 ((0 : Nat) : Int), .slice a size c] 135 (0, 0)) := by
      rw [e1, heap_alloc_at w4 OB _ rfl, ← hOB, show (M : Int) + (R.length : Int) - 1 = ((M + R.length - 1 : Nat) : Int) by omega]
      rfl
    have hs5 : W5.heap.size = w4.heap.size + 1 := by rw [e1]; simp
    have hb45 : Below w4.heap.size w4 W5 := ⟨e2, e3, e4, by omega, fun k hk => by rw [e1]; exact Below.heap_alloc _ _ _ hk⟩
    have hf5 : Fst W5 a size c (lg E) := ⟨hfs4.1, hfs4.2.1, hfs4.2.2.imp id fun ⟨g, e1, hg⟩ => ⟨g, e1, fun i hi => by
      have h1 := hg i hi
      rw [hb45.cell (p := ⟨g, i, none⟩) (World.block_lt_of_cell? w4 _ h1)]
      exact h1⟩⟩
    refine (settleL w4.heap.size (M + R.length - 1) 0 size c _ _ _ _ _ a (lg E) W5 hT5 hf5 (fun g eg => ?_) (by omega) (by omega) ⟨0, rfl⟩).mono ?_
    · have := (fg g eg).2
      omega
    · rintro r w6 ⟨v', rfl, hT6, o6, p6⟩
      have hs6 := p6.size
      refine ⟨rfl, fun oL hoL => ?_⟩
      subst hoL
      have hb6 : Below w6.heap.size w6 (w6.alloc (.cells #[.pointer (some ⟨w4.heap.size, 0, none⟩)] 137)) := (Below.refl _ w6).alloc (Nat.le_refl _) _
      obtain ⟨l1, l2⟩ := hG.lt
      have g4 : RecG w4 w2.heap.size (.slice ag R.length cg) R.length A (lenF R) C (bytF (lg E) R) := hG.part p4 (fun q hq => by have := hFl _ hq; omega)
      have g6 : RecG w6 w2.heap.size (.slice ag R.length cg) R.length A (lenF R) C (bytF (lg E) R) := (g4.below hb45).part2 p6 (fun q hq => by have := l1 q hq; omega) (fun j g hj eg => by have := l2 j g hj eg; omega)
      have s6 : Sd w6 D (fun k => F k ∨ (w3.heap.size ≤ k ∧ k < w4.heap.size)) n 0 e' := (s4.below hb45).part p6 (fun k hk => by
        rcases hk with hk | hk
        · have := hFl _ hk; omega
        · omega)
      refine ⟨hH, by rw [hE]; exact hPr, ⟨w4.heap.size, v', A, C, e', w3.heap.size, w4.heap.size, ⟨heap_alloc_at _ _ _ rfl, ?_⟩, ?_, s6.below hb6, hCl, ?_, l1, l2, by omega, by omega, by omega, Nat.le_refl _, by omega, fun k hk => ?_⟩, ?_⟩
      · rw [hb6.block _ (by omega), hM]
        rw [hT6]
        rw [Nat.zero_add]
      · rw [hE]
        exact (o6.below hb6 (Nat.le_refl _)).mono (by omega)
      · rw [hE]
        exact (g6.below hb6).mono (by omega)
      · have := World.ownsRow.lt o6 k hk
        omega
      · exact ((hPw.trans (Part.ofBelow (F := fun _ => False) hb45) (fun _ _ h => h.elim)).trans p6 (fun i hi hk => by omega)).alloc _
  have m1 : (first : Int) < 1 ∨ ¬ (first : Int) < 1 := by omega
  have hMv : Hid ((first : Int) < 1 → (M : Int) = 1) := fun h => by omega
  have hMw : Hid (¬ (first : Int) < 1 → (M : Int) = (first : Int)) := fun h => by omega
  have hsc : (size : Int) ≤ (c : Int) := by have := fs.1; omega
  have hRb : (R.length : Int) ≤ 1000000 := by omega
  have hRc : (0 : Int) ≤ (R.length : Int) := by omega
  have hMb : (M : Int) ≤ 4611686018427387904 := by omega
  have hMc : (1 : Int) ≤ (M : Int) := by omega
  clear CC hG hPr s4 hCl p4 hfs4 HI HS1 hff hH hM fs fg hf2 hst
  go_upto_region 9 with fail
  go_cut [10] (fun s10 wx => s10 = .int .i64 (M : Int) ∧ wx = w4)
  case first =>
    rcases m1 with m1 | m1
    · go_wp2_with fail
      go_meet
      exact ⟨by rw [hMv.out m1], rfl⟩
    · go_wp2_with fail
      go_meet
      exact ⟨by rw [hMw.out m1], rfl⟩
  case rest =>
    obtain ⟨rfl, rfl⟩ := hcut
    clear m1 hMv hMw
    go_wp2_with fail
    go_region
    all_goals
      go_wp2_with fail
      refine (HSt.out (wc.alloc OB).drew rfl rfl rfl rfl).mono ?_
      rintro r w6 ⟨rfl, H⟩
      go_wp2
      go_ret3
      exact ⟨_, _, first, tot, size, R, rfl, H.out _ rfl⟩
end Go.Proofs.YthfokciijcmhbaaGreatDoor

namespace Go.Proofs.YthfokciijcmhbaaGreatDoor
open Go.ChangeShapes Go.WideShapes Go.ChangeAt Go.RowKit
set_option linter.unusedVariables false

theorem own : ownKnob Tryz.prog.godebug = none := by kernel_rfl
theorem laidOut : laidOutB Tryz.prog = true := by kernel_rfl
theorem cells5 : Tryz.prog.cellsOf 5 = 1 := by kernel_rfl
theorem cells3 : Tryz.prog.cellsOf 3 = 1 := by kernel_rfl
theorem cellsB : Tryz.prog.cellsOf 47 = 1 := by kernel_rfl
theorem gTab : Tryz.prog.globalNamed "rostrum/wire.halves" = some 0 := by kernel_rfl
theorem gTabType : (Tryz.prog.globals[0]?).map (·.type) = some 243 := by kernel_rfl
theorem cells45 : Tryz.prog.cellsOf 243 = 16 := by kernel_rfl
theorem cells27 : Tryz.prog.cellsOf 79 = 1 := by kernel_rfl
def tabI : List Int := [0, 498536548, 997073096, 651767980, 1994146192, 1802195444, 1303535960, 1342533948, 3988292384, 4027552580, 3604390888, 3412177804, 2607071920, 2262029012, 2685067896, 3183342108]
theorem table {W : World} (h : laidMetH Tryz.prog [("rostrum/wire.halves", Rows.laid_rostrum_wire_halves)] W) : Tab W := by
  have hT : Lib.TabIs Tryz.prog W "rostrum/wire.halves" .u32 tabI := Lib.tabIs_of_head (rest := []) gTab gTabType Tryz.underlying243 Tryz.underlying79 cells27 cells45 h
  intro i hi
  have hc := hT.cell gTab i (by simpa [tabI] using hi)
  rw [hc]
  have hr : i = 0 ∨ i = 1 ∨ i = 2 ∨ i = 3 ∨ i = 4 ∨ i = 5 ∨ i = 6 ∨ i = 7 ∨ i = 8 ∨ i = 9 ∨ i = 10 ∨ i = 11 ∨ i = 12 ∨ i = 13 ∨ i = 14 ∨ i = 15 := by omega
  rcases hr with h | h | h | h | h | h | h | h | h | h | h | h | h | h | h | h <;> subst h <;> rfl
/-- A block that holds the table. -/
def layTab : Obj → Obj
  | .cells _ t frozen => .cells (tabI.map (Value.int .u32)).toArray t frozen
  | o => o
/-- A world whose first block holds the table (for the witness). -/
def layWorld (w : World) : World := { w with heap := w.heap.modify 0 layTab }
/-- No part of a datum weighs more than a machine can hold. -/
def Light {H : Type} (t : TypeId) (d : DataW H) : Prop := ∀ x ∈ d.weights Tryz.prog t, x ≤ reachBytes
theorem light_arg {H : Type} {ts : List TypeId} {ds : List (DataW H)} (h : (DataW.weightsEach Tryz.prog ts ds).all (· ≤ reachBytes) = true) {j : Nat} {t : TypeId} {d : DataW H} (ht : ts[j]? = some t) (hd : ds[j]? = some d) : Light t d := fun x hx => by
  have := List.all_eq_true.1 h _ (DataW.weights_mem_each ht hd x hx)
  simpa using this
theorem weightsAll_mem {H : Type} {e : TypeId} {d : DataW H} {x : Nat} (hx : x ∈ d.weights Tryz.prog e) : ∀ {l : List (DataW H)}, d ∈ l → x ∈ DataW.weightsAll Tryz.prog e l
  | [], h => by cases h
  | y :: r, h => by
    simp only [DataW.weightsAll, List.mem_append]
    rcases List.mem_cons.1 h with rfl | h
    · exact .inl hx
    · exact .inr (weightsAll_mem hx h)
theorem light_slice {H : Type} {t e : TypeId} {elems spare : List (DataW H)} (hu : Tryz.prog.underlying t = some (.slice e)) (h : Light t (.slice elems spare)) : (elems.length + spare.length) * Tryz.prog.bytesOf e ≤ reachBytes ∧ ∀ d ∈ elems, Light e d := by
  have key : (DataW.slice elems spare).weights Tryz.prog t = (elems.length + spare.length) * Tryz.prog.bytesOf e :: (DataW.weightsAll Tryz.prog e elems ++ DataW.weightsAll Tryz.prog e spare) := by simp only [DataW.weights, hu]
  unfold Light at h
  rw [key] at h
  refine ⟨h _ (List.mem_cons_self ..), fun d hd x hx => h x ?_⟩
  exact List.mem_cons_of_mem _ (List.mem_append_left _ (weightsAll_mem hx hd))
theorem open_bytesD {H : Type} {enc : TypeId × Value → H} {W : World} {fuel : Nat} {v : Value} {x : DataW H × List MemPlace} (hf : DataW.trod enc Tryz.prog W 0 (fun _ => true) true fuel 47 [v] = some x) :
    ∃ a l c f, v = .slice a l c ∧ From W a l f ∧ (∀ i, 0 ≤ f i ∧ f i ≤ 255) ∧ l ≤ c ∧ c ≤ 9223372036854775807 ∧ (a = none → c = 0) := by
  rcases open_ints Tryz.underlying47 Tryz.underlying5 cells5 hf with ⟨hcs, _⟩ | ⟨y, l, c', zs, hcs, _, hl, hm, hz, hx, hcell, hwz⟩
  · cases hcs
    exact ⟨none, 0, 0, fun _ => 0, rfl, .inl ⟨rfl, rfl⟩, fun _ => (by simp), by omega, by omega, fun _ => rfl⟩
  · cases hcs
    simp only [if_true] at hz
    unfold maxLen at hm
    refine ⟨some y, l, c', fun i => zs.getD i 0, rfl, .inr ⟨y, rfl, fun i hi => hcell i (by omega)⟩, fun i => ?_, hl, by omega, fun h => by cases h⟩
    have := range_u8 hwz i
    simpa [List.getD] using this
theorem open_recD {H : Type} {enc : TypeId × Value → H} {W : World} {a0 : Option Addr} {n c : Nat} {d : DataW H} {p : List MemPlace} (h : DataW.Trod enc Tryz.prog W 0 (fun _ => true) true 47 (.slice a0 n c) d p) :
    ∃ f, From W a0 n f ∧ (∀ i, 0 ≤ f i ∧ f i ≤ 255) ∧ n ≤ c ∧ c ≤ 9223372036854775807 ∧ (a0 = none → c = 0) := by
  obtain ⟨fuel, hf⟩ := h
  obtain ⟨a, l, c', f, e, h1, h2, h3, h4, h5⟩ := open_bytesD hf
  cases e
  exact ⟨f, h1, h2, h3, h4, h5⟩
set_option maxRecDepth 100000 in
theorem open_boolD {H : Type} {enc : TypeId × Value → H} {W : World} {b0 : Nat} {v : Value} {d : DataW H} {p : List MemPlace} (hval : Value.okWide Tryz.prog W .any b0 4 v) (h : DataW.Trod enc Tryz.prog W 0 (fun _ => true) true 4 v d p) : ∃ b, v = .bool b ∧ d = .lit (.bool b) ∧ p = [] := by
  obtain ⟨b, rfl⟩ := okWide_bool Tryz.underlying4 hval
  obtain ⟨fuel, hf⟩ := h
  cases fuel with
  | zero => simp [DataW.trod] at hf
  | succ n =>
    unfold DataW.trod at hf
    rw [Tryz.underlying4] at hf
    simp [Value.cells] at hf
    exact ⟨b, rfl, by first | exact hf.1 | exact hf.1.symm, by first | exact hf.2 | exact hf.2.symm⟩
end Go.Proofs.YthfokciijcmhbaaGreatDoor

namespace Go.Proofs.YthfokciijcmhbaaGreatDoor
open Go.RowKit
set_option linter.unusedVariables false

def hdP : Nat → Int := fn [80, 0, 0, 0]
theorem hdP_by : ∀ i, 0 ≤ hdP i ∧ hdP i ≤ 255 := fn_by (by intro x hx; simp at hx; rcases hx with rfl | rfl <;> decide)
/-- The sector of a page. -/
def pg (s : Nat) (f : Nat → Int) : Nat → Int := sec hdP s 112 f
def EncOk (z : Int) (n : Nat) : Prop := 0 ≤ z ∧ z ≤ 4611686018427387904 ∧ n = 112
instance (z : Int) (n : Nat) : Decidable (EncOk z n) := by unfold EncOk; exact inferInstance
def encE (z : Int) (n : Nat) : Int := if EncOk z n then 0 else 1
def encF (z : Int) (f : Nat → Int) : Nat → Int := if z = 0 ∧ Nil f 112 then fun _ => 0 else pg z.toNat f
def encPL (z : Int) (n : Nat) (f : Nat → Int) : List Int := if EncOk z n then lst (encF z f) 128 else []

set_option maxHeartbeats 400000 in
theorem wEnc_err1 (a0 : Option Addr) (n c : Nat) (z : Int) (w : World) (h : z < 0) :
    Calls Tryz.prog 159 #[.int .i64 z, .slice a0 n c] w fun e w' => e = .returned (.tuple #[.slice none 0 0, .int .i64 1]) ∧ w' = w := by
  go_enter Tryz.func159, Tryz.ntmps159
  go_wp2
  go_ret2
  exact ⟨rfl, rfl⟩
set_option maxHeartbeats 400000 in
theorem wEnc_err2 (a0 : Option Addr) (n c : Nat) (z : Int) (w : World) (h : 4611686018427387904 < z) :
    Calls Tryz.prog 159 #[.int .i64 z, .slice a0 n c] w fun e w' => e = .returned (.tuple #[.slice none 0 0, .int .i64 1]) ∧ w' = w := by
  have h' : ¬ z < 0 := by omega
  go_enter Tryz.func159, Tryz.ntmps159
  go_wp2
  go_ret2
  exact ⟨rfl, rfl⟩
set_option maxHeartbeats 400000 in
theorem wEnc_err3 (a0 : Option Addr) (n c : Nat) (z : Int) (w : World) (h1 : 0 ≤ z) (h2 : z ≤ 4611686018427387904) (hn : n ≠ 112) :
    Calls Tryz.prog 159 #[.int .i64 z, .slice a0 n c] w fun e w' => e = .returned (.tuple #[.slice none 0 0, .int .i64 1]) ∧ w' = w := by
  have h' : ¬ z < 0 := by omega
  have h2' : ¬ 4611686018427387904 < z := by omega
  have h3 : ((n : Int) == 112) = false := by simp; omega
  go_enter Tryz.func159, Tryz.ntmps159
  go_wp2
  go_ret2
  exact ⟨rfl, rfl⟩
set_option maxHeartbeats 400000 in
theorem wEnc_zero (b off c : Nat) (f : Nat → Int) (w : World) (hc : Hid (∀ i, i < 112 → w.cell? ⟨b, off + i, none⟩ = some (.int .u8 (f i)))) (hz : Nil f 112) :
    Calls Tryz.prog 159 #[.int .i64 0, .slice (some ⟨b, off, none⟩) 112 c] w fun e w' => ∃ v', e = .returned (.tuple #[v', .int .i64 0]) ∧ Own w' w.heap.size v' (lst (fun _ => 0) 128) ∧ Below w.heap.size w w' := by
  have HD : Hid (decide (Nil f 112) = true) := decide_eq_true hz
  go_enter Tryz.func159, Tryz.ntmps159
  go_wp2_with fail
  refine (blank_at b off 112 c f w (by omega) hc).mono ?_
  rintro e w1 ⟨rfl, hw⟩
  obtain rfl : w = w1 := hw.symm
  rw [HD.out]
  clear hw
  go_wp2_with (at_make; refine wpList_mk rfl _ _ rfl 128 _ _ rfl rfl rfl rfl (by omega) w.heap.size (Nat.le_refl _) ?_)
  intro w2 ho hb
  go_wp2
  go_ret2
  exact ⟨_, rfl, ho, hb⟩
theorem hx4 : ∀ x ∈ [(80 : Int), 0, 0, 0], 0 ≤ x ∧ x ≤ 255 := by intro x hx; simp at hx; rcases hx with rfl | rfl <;> decide
set_option maxRecDepth 100000 in
set_option maxHeartbeats 1000000 in
theorem wEnc_seal (b off c s : Nat) (f : Nat → Int) (w : World) (hc : Hid (∀ i, i < 112 → w.cell? ⟨b, off + i, none⟩ = some (.int .u8 (f i)))) (hby : ∀ i, 0 ≤ f i ∧ f i ≤ 255) (hs : s ≤ 4611686018427387904) (hs0 : 0 < s ∨ ¬ Nil f 112) (ht : Tab w) :
    Calls Tryz.prog 159 #[.int .i64 (s : Int), .slice (some ⟨b, off, none⟩) 112 c] w fun e w' => ∃ v', e = .returned (.tuple #[v', .int .i64 0]) ∧ Own w' w.heap.size v' (lst (pg s f) 128) ∧ Below w.heap.size w w' := by
  have h1 : ¬ (s : Int) < 0 := by omega
  have h2 : ¬ (4611686018427387904 : Int) < (s : Int) := by omega
  have HF : Hid (From w (some ⟨b, off, none⟩) 112 f) := .inr ⟨_, rfl, fun i hi => by rw [Addr.add_lit]; exact hc.out i hi⟩
  have HB : Hid (∀ i, 0 ≤ f i ∧ f i ≤ 255) := hby
  have HT : Hid (Tab w) := ht
  clear hby ht
  by_cases h0 : 0 < s
  · have h0' : ((s : Int) == 0) = false := by simp; omega
    go_enter Tryz.func159, Tryz.ntmps159
    go_wp2_with fail
    refine (seal_ok 80 0 0 0 (some ⟨b, off, none⟩) 112 c s f w (by omega) (by omega) HF.out HB.out hx4 HT.out).mono ?_
    rintro e w1 ⟨v, rfl, ho, hb⟩
    go_wp2
    go_ret2
    exact ⟨v, rfl, ho, hb⟩
  · have hN : Hid (decide (Nil f 112) = false) := decide_eq_false (hs0.resolve_left h0)
    obtain rfl : s = 0 := by omega
    go_enter Tryz.func159, Tryz.ntmps159
    go_wp2_with fail
    refine (blank_at b off 112 c f w (by omega) hc).mono ?_
    rintro e w1 ⟨rfl, hw⟩
    obtain rfl : w = w1 := hw.symm
    rw [hN.out]
    clear hw
    go_wp2_with fail
    refine (seal_ok 80 0 0 0 (some ⟨b, off, none⟩) 112 c 0 f w (by omega) (by omega) HF.out HB.out hx4 HT.out).mono ?_
    rintro e w1 ⟨v, rfl, ho, hb⟩
    go_wp2
    go_ret2
    exact ⟨v, rfl, ho, hb⟩

theorem wEncode (a0 : Option Addr) (n c : Nat) (z : Int) (f : Nat → Int) (w : World) (hf : From w a0 n f) (hby : ∀ i, 0 ≤ f i ∧ f i ≤ 255) (ht : Tab w) :
    Calls Tryz.prog 159 #[.int .i64 z, .slice a0 n c] w fun e w' => ∃ v', e = .returned (.tuple #[v', .int .i64 (encE z n)]) ∧ Own w' w.heap.size v' (encPL z n f) ∧ Below w.heap.size w w' := by
  unfold encE encPL
  by_cases h : EncOk z n
  · rw [if_pos h, if_pos h]
    obtain ⟨h1, h2, rfl⟩ := h
    obtain ⟨b, off, rfl, hc⟩ := hf.lay.resolve_left (by omega)
    obtain ⟨s, rfl⟩ := Int.eq_ofNat_of_zero_le h1
    unfold encF
    by_cases h3 : (s : Int) = 0 ∧ Nil f 112
    · rw [if_pos h3]
      obtain ⟨h4, h5⟩ := h3
      rw [h4]
      exact wEnc_zero b off c f w hc h5
    · rw [if_neg h3, Int.toNat_natCast]
      refine wEnc_seal b off c s f w hc hby (by omega) ?_ ht
      by_cases h4 : 0 < s
      · exact .inl h4
      · exact .inr fun h5 => h3 ⟨by omega, h5⟩
  · rw [if_neg h, if_neg h]
    have key : Calls Tryz.prog 159 #[.int .i64 z, .slice a0 n c] w fun e w' => e = .returned (.tuple #[.slice none 0 0, .int .i64 1]) ∧ w' = w := by
      by_cases h1 : z < 0
      · exact wEnc_err1 a0 n c z w h1
      · by_cases h2 : 4611686018427387904 < z
        · exact wEnc_err2 a0 n c z w h2
        · exact wEnc_err3 a0 n c z w (by omega) (by omega) (fun h3 => h ⟨by omega, by omega, h3⟩)
    exact key.mono fun e w' ⟨h1, h2⟩ => ⟨_, h1, World.ownsRow_nil _ _ _ _, by rw [h2]; exact Below.refl _ _⟩
end Go.Proofs.YthfokciijcmhbaaGreatDoor
