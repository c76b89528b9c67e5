/-
  Contract of log.Open over any disk on which nothing pends. Condition: the library's table of sums is as it starts.
-/
import Derived.Test.YtnaobkpncfbnaaaGreatDoorLogT
import Derived.Test.YtnaobkpncfbnaaaGreatDoorLogP
import Derived.BigRegion
namespace Go.Proofs.YtnaobkpncfbnaaaGreatDoor
open Go.RowKit
set_option linter.unusedVariables false

/-- A log in memory: where its parts lie, what it knows. -/
structure LogW (w : World) (L T D from_ sectors first last forced place : Nat) (vt : Value) : Prop where
  hL : w.heap[L]? = some (.cells #[.pointer (some ⟨T, 0, none⟩)] 78 (0, 0))
  hT : w.heap[T]? = some (.cells #[.pointer (some ⟨D, 0, none⟩), .int .i64 (from_ : Int), .int .i64 (sectors : Int), .int .i64 (first : Int), .int .i64 (last : Int), .int .i64 (forced : Int), .int .i64 (place : Int), vt] 76 (0, 0))

/-- What Open leaves: the disk, the log, the records. -/
structure Opened (w w' : World) (D n from_ sectors : Nat) (F : Nat → Prop) (e : Nat → Int) (L : Nat) (v : Value) (first tot size : Nat) (R : List (Nat × Nat)) : Prop where
  has : Has (from0 e from_) sectors first tot
  prs : Parsed (lg (from0 e from_)) tot R size
  lay : ∃ T vt A C e' p q, LogW w' L T D from_ sectors (max first 1) (max first 1 + R.length - 1) (max first 1 + R.length - 1) (size / 112) vt ∧ Own w' q vt (lst (sh (lg (from0 e from_)) (size / 112 * 112)) (size - size / 112 * 112)) ∧ Sd w' D (fun k => F k ∨ (p ≤ k ∧ k < q)) n 0 e' ∧ Cleaned e e' from_ sectors first tot size ∧ RecG w' w.heap.size v R.length A (lenF R) C (bytF (lg (from0 e from_)) R) ∧ (∀ k, v.ownBlock = some k → k < p) ∧ (∀ j k, j < R.length → A j = some ⟨k, 0, none⟩ → k < p) ∧ w.heap.size ≤ p ∧ p ≤ q ∧ q ≤ L ∧ q ≤ T ∧ L ≠ T ∧ (∀ k, vt.ownBlock = some k → k ≠ L ∧ k ≠ T)
  part : Part F w w'

theorem RecG.part2 {w w' : World} {G : Nat → Prop} {B : Nat} {v : Value} {k : Nat} {A : Nat → Option Addr} {L C : Nat → Nat} {f : Nat → Nat → Int} (h : RecG w B v k A L C f) (hp : Part G w w') (h1 : ∀ q, v.ownBlock = some q → ¬ G q) (h2 : ∀ j g, j < k → A j = some ⟨g, 0, none⟩ → ¬ G g) : RecG w' B v k A L C f := by
  refine ⟨hp.row h.own h1, fun j hj => ?_⟩
  obtain ⟨g, cur, fz, k1, k2, k3, k4⟩ := h.each j hj
  exact ⟨g, cur, fz, k1, k2, (hp.block g (Array.getElem?_eq_some_iff.1 k3).1 (h2 j g hj k1)).trans k3, k4⟩
theorem RecG.lt {w : World} {B : Nat} {v : Value} {k : Nat} {A : Nat → Option Addr} {L C : Nat → Nat} {f : Nat → Nat → Int} (h : RecG w B v k A L C f) : (∀ q, v.ownBlock = some q → q < w.heap.size) ∧ ∀ j g, j < k → A j = some ⟨g, 0, none⟩ → g < w.heap.size := by
  refine ⟨fun q hq => (World.ownsRow.lt h.own q hq).2, fun j g hj e => ?_⟩
  obtain ⟨g', cur, fz, k1, k2, k3, k4⟩ := h.each j hj
  rw [k1] at e
  cases e
  exact (Array.getElem?_eq_some_iff.1 k3).1
theorem RecG.heap {w w' : World} {B : Nat} {v : Value} {k : Nat} {A : Nat → Option Addr} {L C : Nat → Nat} {f : Nat → Nat → Int} (h : RecG w B v k A L C f) (e : w'.heap = w.heap) : RecG w' B v k A L C f :=
  ⟨row_heap h.own e, fun j hj => by
    obtain ⟨g, cur, fz, k1, k2, k3, k4⟩ := h.each j hj
    exact ⟨g, cur, fz, k1, k2, by rw [e]; exact k3, k4⟩⟩
theorem Sd.heap {w w' : World} {D : Nat} {F : Nat → Prop} {n M : Nat} {e : Nat → Int} (h : Sd w D F n M e) (hh : w'.heap = w.heap) : Sd w' D F n M e := by
  obtain ⟨dur, m, tf, ld, k1, k2⟩ := h
  exact ⟨dur, m, tf, ld, k1.heap hh, k2⟩

set_option maxRecDepth 100000 in
set_option maxHeartbeats 2000000 in
theorem openL (D n from_ sectors : Nat) (F : Nat → Prop) (e : Nat → Int) (w : World) (h : Sd w D F n 0 e) (hp : from_ + sectors ≤ n) (hs1 : 1 ≤ sectors) (ht : Tab w) (htb : ¬ F 0) :
    Calls Tryz.prog 7 #[.pointer (some ⟨D, 0, none⟩), .int .i64 (from_ : Int), .int .i64 (sectors : Int)] w fun r w' => ∃ L v first tot size R, r = .returned (.tuple #[.pointer (some ⟨L, 0, none⟩), v, .int .i64 0]) ∧ Opened w w' D n from_ sectors F e L v first tot size R := by
  obtain ⟨n1, n2⟩ := h.n2
  have hFl := h.lt
  have hby := h.by_
  have HSc : Hid (Calls Tryz.prog 30 #[.pointer (some ⟨D, 0, none⟩)] w fun r w' => r = .returned (.int .i64 (n : Int)) ∧ w' = w) := sdSectors D n 0 F e w h
  obtain ⟨o, ho⟩ : ∃ o, Obj.cells #[.pointer (some ⟨D, 0, none⟩), .int .i64 (from_ : Int), .int .i64 (sectors : Int)] 68 = o := ⟨_, rfl⟩
  have hb0 : Below w.heap.size w (w.alloc o) := (Below.refl _ w).alloc (Nat.le_refl _) o
  have hh0 : (w.alloc o).heap[w.heap.size]? = some (.cells #[.pointer (some ⟨D, 0, none⟩), .int .i64 (from_ : Int), .int .i64 (sectors : Int)] 68 (0, 0)) := by rw [← ho]; exact heap_alloc_at _ _ _ rfl
  have hsz : (w.alloc o).heap.size = w.heap.size + 1 := by simp
  have HI : Hid (∀ wr, Part F (w.alloc o) wr → wr.cell? ⟨w.heap.size, 0, none⟩ = some (.pointer (some ⟨D, 0, none⟩)) ∧ wr.cell? ⟨w.heap.size, 1, none⟩ = some (.int .i64 (from_ : Int)) ∧ wr.cell? ⟨w.heap.size, 2, none⟩ = some (.int .i64 (sectors : Int)) ∧ Tab wr ∧ w.heap.size + 1 ≤ wr.heap.size ∧ Part F w wr) := fun wr hb => by
    have hs := hb.size
    have e1 := (hb.block w.heap.size (by omega) (fun k => by have := hFl _ k; omega)).trans hh0
    refine ⟨by rw [cells_at e1 0]; rfl, by rw [cells_at e1 1]; rfl, by rw [cells_at e1 2]; rfl, fun i hi => ?_, by omega, (Part.ofBelow hb0).trans hb (fun _ _ k => k)⟩
    have := (ht.below hb0 (Nat.le_refl _)) i hi
    exact hb.cell htb this
  have hS1 : Sd (w.alloc o) D F n 0 e := h.below hb0
  have CH : Calls Tryz.prog 31 #[.agg #[.pointer (some ⟨D, 0, none⟩), .int .i64 (from_ : Int), .int .i64 (sectors : Int)]] (w.alloc o) fun r w' => ∃ (first tot : Nat) (v : Value), r = .returned (.tuple #[.int .i64 (first : Int), v]) ∧ Own w' (w.alloc o).heap.size v (lst (lg (from0 e from_)) tot) ∧ Has (from0 e from_) sectors first tot ∧ Below (w.alloc o).heap.size (w.alloc o) w' := by
    obtain ⟨tf, ld, hd⟩ := hS1.quiet
    exact hasL D n from_ sectors F e tf ld (w.alloc o) hd hp n2 (ht.below hb0 (Nat.le_refl _))
  have d0 : (w.alloc o).cell? ⟨w.heap.size, 0, none⟩ = some (.pointer (some ⟨D, 0, none⟩)) := by rw [cells_at hh0 0]; rfl
  have d1 : (w.alloc o).cell? ⟨w.heap.size, 1, none⟩ = some (.int .i64 (from_ : Int)) := by rw [cells_at hh0 1]; rfl
  have d2 : (w.alloc o).cell? ⟨w.heap.size, 2, none⟩ = some (.int .i64 (sectors : Int)) := by rw [cells_at hh0 2]; rfl
  have i1 : ¬ ((n : Int) = 0) := by omega
  have i2 : ¬ ((from_ : Int) < 0) := by omega
  have i3 : ¬ ((sectors : Int) < 1) := by omega
  have i4 : ¬ ((n : Int) - (from_ : Int) < (sectors : Int)) := by omega
  have i5 : ((n : Int) == 0) = false := by rw [beq_eq_false_iff_ne]; exact i1
  have HS1 : Hid (Sd (w.alloc o) D F n 0 e) := hS1
  clear h ht hh0 hS1
  obtain ⟨E, hE⟩ : ∃ E, from0 e from_ = E := ⟨_, rfl⟩
  have hbE : ∀ i, 0 ≤ lg E i ∧ lg E i ≤ 255 := fun i => by rw [← hE]; exact hby _
  go_enter Tryz.func7, Tryz.ntmps7
  go_wp2_with fail
  refine HSc.out.mono ?_
  rintro r w0 ⟨rfl, hw⟩
  obtain rfl : w = w0 := hw.symm
  clear hw
  go_wp2_with fail
  refine HSc.out.mono ?_
  rintro r w0 ⟨rfl, hw⟩
  obtain rfl : w = w0 := hw.symm
  clear hw HSc
  go_wp2_with fail
  try rw [ho]
  refine CH.mono ?_
  rintro r w2 ⟨first, tot, v, rfl, o2, hH, b2⟩
  rw [hE] at o2
  obtain ⟨a, c, rfl, fs, fg⟩ := o2.fst
  have hle := hH.le
  have hff := hH.first
  have hz2 := b2.size
  have hf2 : From w2 a tot (lg E) := by
    rcases fs.2.2 with ⟨e1, e2, _⟩ | ⟨g, e1, hg⟩
    · exact .inl ⟨e1, e2⟩
    · subst e1
      exact .inr ⟨_, rfl, fun i hi => by rw [Addr.add_lit, Nat.zero_add]; exact hg i hi⟩
  have CR := recsL a tot c (lg E) w2 (by omega) hf2 hbE
  obtain ⟨x0, x1, x2, _⟩ := HI.out w2 (Part.ofBelow b2)
  clear CH o2
  go_wp2_with fail
  refine CR.mono ?_
  rintro r w3 ⟨R, size, vr, A, C, rfl, hG, hPr, b3⟩
  obtain ⟨ag, cg, rfl⟩ : ∃ ag cg, vr = .slice ag R.length cg := by
    rcases hG.own.2 with ⟨rfl, h0⟩ | ⟨g, cap, cur, rfl, _⟩
    · rw [h0]; exact ⟨none, 0, rfl⟩
    · exact ⟨_, cap, rfl⟩
  have hst := hPr.1.le
  have hRl := hPr.1.len
  have hz3 := b3.size
  have hB3 : Below (w.alloc o).heap.size (w.alloc o) w3 := b2.trans (b3.mono hz2)
  obtain ⟨x0', x1', x2', t3, _, _⟩ := HI.out w3 (Part.ofBelow hB3)
  have CC := cleanL D n from_ sectors first tot size F e a c w3 (HS1.out.below hB3) hp n2 t3 (by rw [hE]; exact hf2.below b3 (Nat.le_refl _)) fs.1 fs.2.1 hst hle hff.1 hff.2 hs1 htb (by
    rcases fs.2.2 with ⟨_, e2, _⟩ | ⟨g, e1, _⟩
    · exact .inl e2
    · exact .inr ⟨g, e1⟩)
  clear CR t3 x0 x1 x2
  go_wp2_with fail
  refine CC.mono ?_
  rintro r w4 ⟨e', rfl, s4, hCl, p4⟩
  have hz4 := p4.size
  have hP4 : Part F (w.alloc o) w4 := (Part.ofBelow (F := F) hB3).trans p4 (fun _ _ h => h)
  obtain ⟨y0, y1, y2, _, hzw, hPw⟩ := HI.out w4 hP4
  obtain ⟨M, hM⟩ : ∃ M, max first 1 = M := ⟨_, rfl⟩
  have hM1 : 1 ≤ M := by omega
  have hM2 : M ≤ 4611686018427387904 := by have := hff.1; omega
  have hfs4 : Fst w4 a size c (lg E) := ⟨by have := fs.1; omega, fs.2.1, by
    rcases fs.2.2 with ⟨e1, e2, e3⟩ | ⟨g, e1, hg⟩
    · exact .inl ⟨e1, by omega, e3⟩
    · refine .inr ⟨g, e1, fun i hi => ?_⟩
      have h1 := hg i (by omega)
      have h2 : w3.cell? ⟨g, i, none⟩ = some (.int .u8 (lg E i)) := by rw [b3.cell (p := ⟨g, i, none⟩) (World.block_lt_of_cell? w2 _ h1)]; exact h1
      exact p4.cell (p := ⟨g, i, none⟩) (fun k => by have h9 : g < w.heap.size := hFl g k; have := (fg g e1).1; omega) h2⟩
  obtain ⟨OB, hOB⟩ : ∃ OB, Obj.cells #[.pointer (some ⟨D, 0, none⟩), .int .i64 (from_ : Int), .int .i64 (sectors : Int), .int .i64 (M : Int), .int .i64 ((M : Int) + (R.length : Int) - 1), .int .i64 0, .int .i64 0, .slice a size c] 76 = OB := ⟨_, rfl⟩
  have HSt : Hid (∀ W5 : World, W5.heap = (w4.alloc OB).heap → W5.os = w4.os → W5.tape = w4.tape → W5.output = w4.output → Calls Tryz.prog 34 #[.pointer (some ⟨w4.heap.size, 0, none⟩)] W5 fun r w' => r = .returned (.tuple #[]) ∧ Hid (∀ oL, oL = Obj.cells #[.pointer (some ⟨w4.heap.size, 0, none⟩)] 78 → Opened w (w'.alloc oL) D n from_ sectors F e w'.heap.size (.slice ag R.length cg) first tot size R)) := fun W5 e1 e2 e3 e4 => by
    have hT5 : W5.heap[w4.heap.size]? = some (.cells #[.pointer (some ⟨D, 0, none⟩), .int .i64 (from_ : Int), .int .i64 (sectors : Int), .int .i64 (M : Int), .int .i64 ((M + R.length - 1 : Nat) : Int), .int .i64 0, .int .i64 ((0 : Nat) : Int), .slice a size c] 76 (0, 0)) := by
      rw [e1, heap_alloc_at w4 OB _ rfl, ← hOB, show (M : Int) + (R.length : Int) - 1 = ((M + R.length - 1 : Nat) : Int) by omega]
      rfl
    have hs5 : W5.heap.size = w4.heap.size + 1 := by rw [e1]; simp
    have hb45 : Below w4.heap.size w4 W5 := ⟨e2, e3, e4, by omega, fun k hk => by rw [e1]; exact Below.heap_alloc _ _ _ hk⟩
    have hf5 : Fst W5 a size c (lg E) := ⟨hfs4.1, hfs4.2.1, hfs4.2.2.imp id fun ⟨g, e1, hg⟩ => ⟨g, e1, fun i hi => by
      have h1 := hg i hi
      rw [hb45.cell (p := ⟨g, i, none⟩) (World.block_lt_of_cell? w4 _ h1)]
      exact h1⟩⟩
    refine (settleL w4.heap.size (M + R.length - 1) 0 size c _ _ _ _ _ a (lg E) W5 hT5 hf5 (fun g eg => ?_) (by omega) (by omega) ⟨0, rfl⟩).mono ?_
    · have := (fg g eg).2
      omega
    · rintro r w6 ⟨v', rfl, hT6, o6, p6⟩
      have hs6 := p6.size
      refine ⟨rfl, fun oL hoL => ?_⟩
      subst hoL
      have hb6 : Below w6.heap.size w6 (w6.alloc (.cells #[.pointer (some ⟨w4.heap.size, 0, none⟩)] 78)) := (Below.refl _ w6).alloc (Nat.le_refl _) _
      obtain ⟨l1, l2⟩ := hG.lt
      have g4 : RecG w4 w2.heap.size (.slice ag R.length cg) R.length A (lenF R) C (bytF (lg E) R) := hG.part p4 (fun q hq => by have := hFl _ hq; omega)
      have g6 : RecG w6 w2.heap.size (.slice ag R.length cg) R.length A (lenF R) C (bytF (lg E) R) := (g4.below hb45).part2 p6 (fun q hq => by have := l1 q hq; omega) (fun j g hj eg => by have := l2 j g hj eg; omega)
      have s6 : Sd w6 D (fun k => F k ∨ (w3.heap.size ≤ k ∧ k < w4.heap.size)) n 0 e' := (s4.below hb45).part p6 (fun k hk => by
        rcases hk with hk | hk
        · have := hFl _ hk; omega
        · omega)
      refine ⟨hH, by rw [hE]; exact hPr, ⟨w4.heap.size, v', A, C, e', w3.heap.size, w4.heap.size, ⟨heap_alloc_at _ _ _ rfl, ?_⟩, ?_, s6.below hb6, hCl, ?_, l1, l2, by omega, by omega, by omega, Nat.le_refl _, by omega, fun k hk => ?_⟩, ?_⟩
      · rw [hb6.block _ (by omega), hM]
        rw [hT6]
        rw [Nat.zero_add]
      · rw [hE]
        exact (o6.below hb6 (Nat.le_refl _)).mono (by omega)
      · rw [hE]
        exact (g6.below hb6).mono (by omega)
      · have := World.ownsRow.lt o6 k hk
        omega
      · exact ((hPw.trans (Part.ofBelow (F := fun _ => False) hb45) (fun _ _ h => h.elim)).trans p6 (fun i hi hk => by omega)).alloc _
  have m1 : (first : Int) < 1 ∨ ¬ (first : Int) < 1 := by omega
  have hMv : Hid ((first : Int) < 1 → (M : Int) = 1) := fun h => by omega
  have hMw : Hid (¬ (first : Int) < 1 → (M : Int) = (first : Int)) := fun h => by omega
  have hsc : (size : Int) ≤ (c : Int) := by have := fs.1; omega
  have hRb : (R.length : Int) ≤ 1000000 := by omega
  have hRc : (0 : Int) ≤ (R.length : Int) := by omega
  have hMb : (M : Int) ≤ 4611686018427387904 := by omega
  have hMc : (1 : Int) ≤ (M : Int) := by omega
  clear CC hG hPr s4 hCl p4 hfs4 HI HS1 hff hH hM fs fg hf2 hst
  go_upto_region 9 with fail
  go_cut [10] (fun s10 wx => s10 = .int .i64 (M : Int) ∧ wx = w4)
  case first =>
    rcases m1 with m1 | m1
    · go_wp2_with fail
      go_meet
      exact ⟨by rw [hMv.out m1], rfl⟩
    · go_wp2_with fail
      go_meet
      exact ⟨by rw [hMw.out m1], rfl⟩
  case rest =>
    obtain ⟨rfl, rfl⟩ := hcut
    clear m1 hMv hMw
    go_wp2_with fail
    go_region
    all_goals
      go_wp2_with fail
      refine (HSt.out (wc.alloc OB).drew rfl rfl rfl rfl).mono ?_
      rintro r w6 ⟨rfl, H⟩
      go_wp2
      go_ret3
      exact ⟨_, _, first, tot, size, R, rfl, H.out _ rfl⟩
end Go.Proofs.YtnaobkpncfbnaaaGreatDoor
