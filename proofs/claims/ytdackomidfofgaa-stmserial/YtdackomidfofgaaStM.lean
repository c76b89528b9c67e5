/-
  The document's own New.
-/
import Derived.Test.YtdackomidfofgaaStL
namespace Go.Proofs.Ytdackomidfofgaa
open Go.RowKit Go.Maps
set_option linter.unusedVariables false
set_option maxRecDepth 100000
set_option maxHeartbeats 2000000

theorem Rz.below {B : Nat} {w w' : World} {X n : Nat} {p : Nat → Nat} {z : Nat → ByteArray} {hd : Nat → Bool} (h : Rz B w X n p z hd) (hb : Below w.heap.size w w') : Rz B w' X n p z hd := by
  obtain ⟨v, ck, hX, hrow⟩ := h.cel
  refine ⟨⟨v, ck, (hb.block _ (Array.getElem?_eq_some_iff.1 hX).1).trans hX, (Part.ofBelow (F := fun _ => False) hb).row hrow (fun _ _ h => h)⟩, fun j hj => ?_, h.low⟩
  obtain ⟨b, hb'⟩ := h.slo j hj
  exact ⟨b, (hb.block _ (Array.getElem?_eq_some_iff.1 hb').1).trans hb'⟩
theorem Rz.ext {B : Nat} {w : World} {X n : Nat} {p : Nat → Nat} {z z' : Nat → ByteArray} {hd hd' : Nat → Bool} (h : Rz B w X n p z hd) (h1 : ∀ j, j < n → z j = z' j) (h2 : ∀ j, j < n → hd j = hd' j) : Rz B w X n p z' hd' := by
  refine ⟨h.cel, fun j hj => ?_, h.low⟩
  obtain ⟨b, hb⟩ := h.slo j hj
  rw [h1 j hj, h2 j hj] at hb
  exact ⟨b, hb⟩
/-- A slot gets its bytes. -/
theorem Rz.got {B : Nat} {w : World} {X n : Nat} {p : Nat → Nat} {z : Nat → ByteArray} {hd : Nat → Bool} (h : Rz B w X n p z hd) (i : Nat) (hi : i < n) (hne : ∀ j, j < n → p j = p i → j = i) (v : Value) :
    Rz B ((w.setCell ⟨p i, 2, none⟩ v).setCell ⟨p i, 4, none⟩ (.bool true)) X n p z (fun j => if j = i then true else hd j) ∧ Below B w ((w.setCell ⟨p i, 2, none⟩ v).setCell ⟨p i, 4, none⟩ (.bool true)) := by
  obtain ⟨u, ck, hX, hrow⟩ := h.cel
  obtain ⟨b, hb⟩ := h.slo i hi
  have hXi : X ≠ p i := fun e => by
    rw [e, hb] at hX
    injection hX with hX
    injection hX with _ hX
    exact absurd hX (by decide)
  have hri : u.ownBlock ≠ some (p i) := fun e => by
    rcases hrow.2 with ⟨h1, _⟩ | ⟨g, cap', cur, h1, _, h3, _⟩
    · rw [h1] at e; cases e
    · rw [h1] at e
      have e : some g = some (p i) := e
      injection e with e
      rw [e, hb] at h3
      injection h3 with h3
      injection h3 with _ h3
      exact absurd h3 (by decide)
  have hb1 := heap_set_at (i := 2) hb v
  have hb2 := heap_set_at (i := 4) hb1 (.bool true)
  refine ⟨⟨⟨u, ck, (heap_set_other _ hXi 4 _).trans ((heap_set_other _ hXi 2 _).trans hX), row_set (row_set hrow hri 2 v) hri 4 _⟩, fun j hj => ?_, h.low⟩, ((Below.refl B w).setCell (p := ⟨p i, 2, none⟩) (h.low.2 i hi) v).setCell (p := ⟨p i, 4, none⟩) (h.low.2 i hi) _⟩
  by_cases e : j = i
  · subst e
    rw [if_pos rfl]
    exact ⟨v, hb2⟩
  · obtain ⟨b', hb'⟩ := h.slo j hj
    have hpp : p j ≠ p i := fun e' => e (hne j hj e')
    rw [if_neg e]
    exact ⟨b', (heap_set_other _ hpp 4 _).trans ((heap_set_other _ hpp 2 _).trans hb')⟩
theorem ks_inj {sm : Nat → ByteArray} {i j : Nat} (h : ks sm i = ks sm j) : sm i = sm j := by
  unfold ks at h
  have := Array.toList_inj.1 h
  cases e1 : sm i
  cases e2 : sm j
  rw [e1, e2] at this
  exact congrArg ByteArray.mk this
/-- What the document's New answers. -/
def Zed (w : World) (N : Nat) (sm : Nat → ByteArray) (e : Ending) (w' : World) : Prop :=
  Below w.heap.size w w' ∧ ((¬ Good sm N ∧ e = .returned (.tuple #[.pointer none, .int .i64 6])) ∨ (Good sm N ∧ Twice sm N ∧ e = .returned (.tuple #[.pointer none, .int .i64 1])) ∨ (Good sm N ∧ ¬ Twice sm N ∧ ∃ X, e = .returned (.tuple #[.pointer (some ⟨X, 0, none⟩), .int .i64 0])))
theorem z_new {w : World} {a0 : Option Addr} {N cap : Nat} {sm : Nat → ByteArray} {bl : Nat → Nat} (h : Sls w a0 N sm bl) (hN : N ≤ 3000000000000) :
    Calls Try.prog 22 #[.slice a0 N cap] w fun e w' => Hid (Zed w N sm e w') := by
  obtain ⟨w1, hw1⟩ : ∃ w1, w1 = w.alloc (.cells #[.slice none 0 0, .int .i64 0] 91) := ⟨_, rfl⟩
  have hs1 : w1.heap.size = w.heap.size + 1 := by rw [hw1]; simp
  have hB1 : Below w.heap.size w w1 := by rw [hw1]; exact (Below.refl _ w).alloc (Nat.le_refl _) _
  have hX1 : w1.heap[w.heap.size]? = some (.cells #[.slice none 0 0, .int .i64 0] 91 (0, 0)) := by rw [hw1]; exact World.alloc_heap_new w _
  have HS : Hid (Rz w.heap.size w1 w.heap.size 0 (fun _ => 0) sm (fun _ => true) ∧ Below w.heap.size w w1) := ⟨⟨⟨_, _, hX1, World.ownsRow_nil _ _ _ _⟩, fun j hj => by omega, Nat.le_refl _, fun j hj => by omega⟩, hB1⟩
  have h0 : Hid (Sls w a0 N sm bl) := h
  have h1 := h.below hB1
  rw [hw1] at HS h1
  clear hw1 hs1 hB1 hX1 h
  have h := h1
  clear h1
  go_enter Try.func22, Try.ntmps22
  go_wp2
  generalize (w.alloc (.cells #[.slice none 0 0, .int .i64 0] 91)) = w1 at *
  go_loopw [15] (fun s wr => ∃ k : Nat, k ≤ N ∧ s = .int .i64 (k : Int) ∧ Hid (∀ j, j < k → nm (sm j) = true) ∧ Below w1.heap.size w1 wr) (fun k _ => N - (intOf k).toNat)
  case atStart => exact ⟨0, Nat.zero_le _, rfl, fun j hj => absurd hj (by omega), Below.refl _ _⟩
  case round =>
    obtain ⟨k, hk, rfl, HJ, hB⟩ := hrel
    by_cases hlt : k < N
    · obtain ⟨b, off, rfl, v, a, c, f, hs⟩ := (h.below hB) k hlt
      have c0 := hs.c0
      have c1 := hs.c1
      have c2 := hs.c2
      have l1 : (k : Int) < (N : Int) := by omega
      have l2 : (0 : Int) ≤ (k : Int) := by omega
      obtain ⟨s, hsk⟩ : ∃ s, s = sm k := ⟨_, rfl⟩
      rw [← hsk] at c0
      have HB1 : Hid (∀ o, Below w1.heap.size w1 (wr.alloc o)) := fun o => hB.alloc hB.size o
      have HNs : ∀ wx, Calls Try.prog 23 #[.string s] wx fun e w' => e = .returned (.bool (nm s)) ∧ w' = wx := fun wx => z_isName s wx
      cases hn : nm s with
      | true =>
        have HF : Hid (∀ j, j < k + 1 → nm (sm j) = true) := fun j hj => by
          by_cases hjk : j < k
          · exact HJ.out j hjk
          · obtain rfl : j = k := by omega
            rw [← hsk]; exact hn
        rw [hn] at HNs
        clear hs hsk hn hB h HS
        go_wp2_with (go_at_call 23; refine (HNs _).mono ?_; rintro e w2 ⟨rfl, rfl⟩)
        go_roundw
        case rel => exact ⟨k + 1, by omega, by go_num, HF, HB1.out _⟩
        case measure => simp [intOf]; omega
      | false =>
        have HF : Hid (¬ Good sm N) := ((fun hg => by have hq := hg k hlt; rw [← hsk, hn] at hq; cases hq) : ¬ Good sm N)
        have HZ : Hid (∀ o, Zed w N sm (.returned (.tuple #[.pointer none, .int .i64 6])) (wr.alloc o)) := fun o => ⟨HS.out.2.trans ((HB1.out o).mono HS.out.2.size), .inl ⟨HF.out, rfl⟩⟩
        rw [hn] at HNs
        clear hs hsk hn hB h HS HF HB1
        go_wp2_with (go_at_call 23; refine (HNs _).mono ?_; rintro e w2 ⟨rfl, rfl⟩)
        go_ret2
        exact HZ.out _
    · obtain rfl : k = N := by omega
      have hg : Hid (Good sm k) := HJ
      clear HJ hlt
      rename World => wa
      have HS2 : Hid (Rz w.heap.size wa w.heap.size 0 (fun _ => 0) sm (fun _ => true) ∧ Below w.heap.size w wa) := ⟨HS.out.1.below hB, HS.out.2.trans (hB.mono HS.out.2.size)⟩
      clear hB HS h
      go_wp2
      go_loopw [26] (fun s wq => ∃ (i : Nat) (p : Nat → Nat), i ≤ k ∧ s = .int .i64 (i : Int) ∧ Hid (Rz w.heap.size wq w.heap.size i p sm (fun _ => true) ∧ (∀ x y, x < i → y < i → p x = p y → x = y) ∧ ¬ Twice sm i ∧ Below w.heap.size w wq)) (fun i _ => k - (intOf i).toNat)
      case atStart => exact ⟨0, _, Nat.zero_le _, rfl, HS2.out.1, fun x y hx => by omega, fun ⟨i, j, _, hj, _⟩ => by omega, HS2.out.2⟩
      case round =>
        clear HS2
        obtain ⟨i, p, hik, rfl, HI⟩ := hrel
        obtain ⟨hR, hpi, hone, hBr⟩ := HI.out
        have h := h0.out.below hBr
        by_cases hlt : i < k
        · obtain ⟨b, off, rfl, v, a, c, f, hs00⟩ := h0.out i hlt
          have hs := hs00.below hBr
          have hXlt : w.heap.size < wr.heap.size := by
            obtain ⟨_, _, hXe, _⟩ := hR.cel
            exact (Array.getElem?_eq_some_iff.1 hXe).1
          have c0 := hs.c0
          have c1 := hs.c1
          have c2 := hs.c2
          have l1 : (i : Int) < (k : Int) := by omega
          have l2 : (0 : Int) ≤ (i : Int) := by omega
          have hB1 : Below wr.heap.size wr (wr.alloc (.cells #[.string (sm i), .int .i64 v, .slice a (bl i) c] 44)) := (Below.refl _ wr).alloc (Nat.le_refl _) _
          have hbx : (wr.alloc (.cells #[.string (sm i), .int .i64 v, .slice a (bl i) c] 44)).heap[wr.heap.size]? = some (.cells #[.string (sm i), .int .i64 v, .slice a (bl i) c] 44 (0, 0)) := World.alloc_heap_new wr _
          have hR1 := hR.below hB1
          have hBw1 : Below w.heap.size w (wr.alloc (.cells #[.string (sm i), .int .i64 v, .slice a (bl i) c] 44)) := hBr.trans (hB1.mono hBr.size)
          have h1 := h.below hB1
          by_cases hd : ∃ j, j < i ∧ ks sm j = ks sm i
          · obtain ⟨j, hj, hje⟩ := hd
            have HF := z_find_yes hR1 (by omega) (sm i) j hj (ks_inj hje) (fun x hx e => hone ⟨x, j, hx, hj, by unfold ks; rw [e, ← ks_inj hje]⟩)
            obtain ⟨bb, hbb⟩ := hR1.slo j hj
            have c4 : (wr.alloc (.cells #[.string (sm i), .int .i64 v, .slice a (bl i) c] 44)).cell? ⟨p j, 4, none⟩ = some (.bool true) := by rw [cells_at hbb 4]; rfl
            have HE : Hid (Zed w k sm (.returned (.tuple #[.pointer none, .int .i64 1])) (wr.alloc (.cells #[.string (sm i), .int .i64 v, .slice a (bl i) c] 44))) := ⟨hBw1, .inr (.inl ⟨hg.out, ⟨j, i, hj, hlt, hje⟩, rfl⟩)⟩
            clear hs hR hR1 hBr hBw1 hB1 h h1 HI hbx hbb hje hpi hone
            go_wp2_with (go_at_call 42; refine HF.mono ?_; rintro e w2 ⟨rfl, rfl⟩)
            go_ret2
            exact HE.out
          · have hd' : ∀ j, j < i → ks sm j ≠ ks sm i := fun j hj e => hd ⟨j, hj, e⟩
            have HF := z_find_no hR1 hBw1.size (by omega) (sm i) (fun x hx e => hd' x hx (by unfold ks; rw [e]))
            have HA : ∀ w2 q, Hid (Rz w.heap.size w2 w.heap.size (i + 1) (fun j => if j < i then p j else q) (fun j => if j < i then sm j else sm i) (fun j => if j < i then true else false) ∧ Below w.heap.size (wr.alloc (.cells #[.string (sm i), .int .i64 v, .slice a (bl i) c] 44)) w2 ∧ (wr.alloc (.cells #[.string (sm i), .int .i64 v, .slice a (bl i) c] 44)).heap.size ≤ q ∧ ∀ b cs t, (wr.alloc (.cells #[.string (sm i), .int .i64 v, .slice a (bl i) c] 44)).heap[b]? = some (.cells cs t (0, 0)) → t ≠ 92 → b ≠ w.heap.size → w2.heap[b]? = some (.cells cs t (0, 0))) → w2.cell? ⟨q, 4, none⟩ = some (.bool false) ∧ w2.cell? ⟨wr.heap.size, 0, none⟩ = some (.string (sm i)) ∧ w2.cell? ⟨wr.heap.size, 2, none⟩ = some (.slice a (bl i) c) ∧ Calls Try.prog 42 #[.pointer (some ⟨w.heap.size, 0, none⟩), .string (sm i)] w2 (fun e w' => e = .returned (.pointer (some ⟨q, 0, none⟩)) ∧ w' = w2) ∧ Calls Try.prog 43 #[.slice a (bl i) c] w2 (fun e w' => ∃ v', e = .returned v' ∧ Own w' w2.heap.size v' (lst f (bl i)) ∧ Below w2.heap.size w2 w') ∧ Hid (Rz w.heap.size w2 w.heap.size (i + 1) (fun j => if j < i then p j else q) sm (fun j => if j < i then true else false) ∧ Below w.heap.size w w2 ∧ (∀ x, x < i → p x < q)) := by
              intro w2 q hh
              obtain ⟨r1, r2, r3, r4⟩ := hh.out
              obtain ⟨bb, hbb⟩ := r1.slo i (by omega)
              simp only [Nat.lt_irrefl, if_false] at hbb
              have hbx2 := r4 wr.heap.size _ _ hbx (by decide) (by have := hXlt; omega)
              have r5 : Rz w.heap.size w2 w.heap.size (i + 1) (fun j => if j < i then p j else q) sm (fun j => if j < i then true else false) := r1.ext (fun j hj => by
                by_cases hji : j < i
                · rw [if_pos hji]
                · obtain rfl : j = i := by omega
                  rw [if_neg hji]) (fun _ _ => rfl)
              have hBw2 := hBw1.trans r2
              have hf2 : From w2 a (bl i) f := by
                have := hs00.fb.below hBw2 (Nat.le_refl _)
                exact this
              have hfi := z_find_yes r5 (by omega) (sm i) i (by omega) rfl (fun x hx e => hd' x hx (by unfold ks; rw [e]))
              simp only [Nat.lt_irrefl, if_false] at hfi
              refine ⟨by rw [cells_at hbb 4]; rfl, by rw [cells_at hbx2 0]; rfl, by rw [cells_at hbx2 2]; rfl, hfi, z_copied a (bl i) c f w2 hs.nb hs.nc hf2, r5, hBw2, fun x hx => ?_⟩
              · obtain ⟨b', hb'⟩ := hR1.slo x hx
                have := (Array.getElem?_eq_some_iff.1 hb').1
                omega
            have HG : ∀ w2 q w3 v', Hid (Rz w.heap.size w2 w.heap.size (i + 1) (fun j => if j < i then p j else q) sm (fun j => if j < i then true else false) ∧ Below w.heap.size w w2 ∧ (∀ x, x < i → p x < q)) → Below w2.heap.size w2 w3 → w3.cell? ⟨q, 2, none⟩ = w3.cell? ⟨q, 2, none⟩ ∧ (∃ bb, w3.cell? ⟨q, 2, none⟩ = some bb) ∧ w3.frozen? ⟨q, 2, none⟩ = false ∧ (∃ bb, w3.cell? ⟨q, 4, none⟩ = some (.bool bb)) ∧ w3.frozen? ⟨q, 4, none⟩ = false ∧ Hid (∃ p', Rz w.heap.size ((w3.setCell ⟨q, 2, none⟩ v').setCell ⟨q, 4, none⟩ (.bool true)) w.heap.size (i + 1) p' sm (fun _ => true) ∧ (∀ x y, x < i + 1 → y < i + 1 → p' x = p' y → x = y) ∧ ¬ Twice sm (i + 1) ∧ Below w.heap.size w ((w3.setCell ⟨q, 2, none⟩ v').setCell ⟨q, 4, none⟩ (.bool true))) := by
              intro w2 q w3 v' hh hb3
              obtain ⟨r1, r2, r3⟩ := hh.out
              have r4 := r1.below hb3
              obtain ⟨bb, hbb⟩ := r4.slo i (by omega)
              simp only [Nat.lt_irrefl, if_false] at hbb
              have hinj : ∀ x y, x < i + 1 → y < i + 1 → (if x < i then p x else q) = (if y < i then p y else q) → x = y := fun x y hx hy e => by
                by_cases hxi : x < i <;> by_cases hyi : y < i
                · rw [if_pos hxi, if_pos hyi] at e; exact hpi x y hxi hyi e
                · rw [if_pos hxi, if_neg hyi] at e; have := r3 x hxi; omega
                · rw [if_neg hxi, if_pos hyi] at e; have := r3 y hyi; omega
                · omega
              have hgot := r4.got i (by omega) (fun j hj e => hinj j i hj (by omega) e) v'
              simp only [Nat.lt_irrefl, if_false] at hgot
              refine ⟨rfl, ⟨bb, by rw [cells_at hbb 2]; rfl⟩, cells_free hbb 2, ⟨false, by rw [cells_at hbb 4]; rfl⟩, cells_free hbb 4, _, hgot.1.ext (fun _ _ => rfl) (fun j hj => ?_), hinj, fun ⟨x, y, hxy, hy, e⟩ => ?_, (r2.trans (hb3.mono r2.size)).trans hgot.2⟩
              · by_cases hji : j = i
                · rw [if_pos hji]
                · rw [if_neg hji, if_pos (by omega)]
              · by_cases hyi : y = i
                · subst hyi; exact hd' x hxy e
                · exact hone ⟨x, y, hxy, by omega, e⟩
            clear hs hs00 hR hR1 hBr hBw1 hB1 h h1 HI hbx hpi hone hd hd'
            go_wp2_with (first | (go_at_call 42; refine HF.mono ?_; rintro e w2 ⟨q, rfl, hz⟩; obtain ⟨x1, x2, x3, HF2, HC, HR2⟩ := HA w2 q hz; clear HF hz) | (go_at_call 42; refine HF2.mono ?_; rintro e w2' ⟨rfl, rfl⟩) | (go_at_call 43; refine HC.mono ?_; rintro e w3 ⟨v', rfl, ho, hb3⟩; obtain ⟨_, ⟨bb2, y2⟩, f2, ⟨bb4, y4⟩, f4, HE⟩ := HG _ q w3 v' HR2 hb3; obtain ⟨av, cv, rfl⟩ := ho.slice; clear ho hb3))
            go_roundw
            case rel =>
              obtain ⟨p', hE⟩ := HE.out
              exact ⟨i + 1, p', by omega, by go_num, hE⟩
            case measure => simp [intOf]; omega
        · obtain rfl : i = k := by omega
          have HE : Hid (Zed w i sm (.returned (.tuple #[.pointer (some ⟨w.heap.size, 0, none⟩), .int .i64 0])) wr) := ⟨hBr, .inr (.inr ⟨hg.out, hone, _, rfl⟩)⟩
          clear hR HI h hBr hpi hone
          go_wp2
          go_ret2
          exact HE.out
end Go.Proofs.Ytdackomidfofgaa
