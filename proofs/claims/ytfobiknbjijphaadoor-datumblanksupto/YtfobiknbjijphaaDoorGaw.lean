/-
  The program's reader: all data of a text.
  The document's reader in memory; its least calls: fail, blank, blanks.
-/
import Derived.Test.YtfobiknbjijphaaDoorGav
import Derived.Test.YtfobiknbjijphaaDoorGan
import Derived.Test.YtfobiknbjijphaaDoorGap
namespace Go.Proofs.YtfobiknbjijphaaDoor
open Go.RowKit
set_option linter.unusedVariables false
set_option linter.unusedSimpArgs false

theorem al_end {f : Nat} {acc : List Dt} {l : List UInt8} (h : skB false l = []) : alL (f + 1) acc l = .ok acc [] := by simp only [alL, h]
def thenA (f : Dt → List UInt8 → Rs (List Dt)) (R : Rs Dt) : Rs (List Dt) := match R with | .bad k m => .bad k m | .ok x r => f x r
theorem al_item {f : Nat} {acc : List Dt} {l r : List UInt8} {c : UInt8} (h : skB false l = c :: r) : alL (f + 1) acc l = thenA (fun x r2 => alL f (acc ++ [x]) r2) (rdD 64 (c :: r)) := by
  simp only [alL, h]; rfl
/-- What is left to be read. -/
def Sta (R : Rs (List Dt)) (acc : List Dt) (l : List UInt8) : Prop := ∃ f, l.length < f ∧ R = alL f acc l
theorem Sta.skip {R : Rs (List Dt)} {acc : List Dt} {l : List UInt8} (h : Sta R acc l) : Sta R acc (skB false l) := by
  obtain ⟨f, h1, h2⟩ := h
  refine ⟨f, Nat.lt_of_le_of_lt (skB_len _ _) h1, ?_⟩
  rw [h2]
  cases f <;> simp only [alL, skB_idem]
  omega
theorem Sta.stop {R : Rs (List Dt)} {acc : List Dt} {l : List UInt8} (h : Sta R acc l) (e : skB false l = []) : R = .ok acc [] := by
  obtain ⟨f, h1, h2⟩ := h
  cases f with
  | zero => omega
  | succ f => rw [h2, al_end e]
theorem Sta.item {R : Rs (List Dt)} {acc : List Dt} {l r : List UInt8} {c : UInt8} (h : Sta R acc l) (e : skB false l = c :: r) :
    (∀ k m, rdD 64 (c :: r) = .bad k m → R = .bad k m) ∧ (∀ x r2, rdD 64 (c :: r) = .ok x r2 → Sta R (acc ++ [x]) r2) := by
  obtain ⟨f, g1, g2⟩ := h
  cases f with
  | zero => omega
  | succ f =>
    rw [al_item e] at g2
    refine ⟨fun k m he => by rw [g2, he]; rfl, fun x r2 he => ⟨f, ?_, by rw [g2, he]; rfl⟩⟩
    have := (rdD_gets 64 _ _ _ he).2.1
    have hs := skB_len false l
    rw [e] at hs
    omega
/-- A datum was read: it can be appended to a row. -/
theorem row_ready {b lo : Nat} {V w3 : World} {v : Value} {acc : List Dt} {x : Dt} {v0 v1 v2 v3 : Value} (h : DRow lo V v acc) (hb : b < lo) (hl : lo ≤ V.heap.size) (p : Pt b V w3) (ds : DS V.heap.size none w3 x (.agg #[v0, v1, v2, v3])) :
    DRow lo (w3.alloc (.cells #[v0, v1, v2, v3] 34)) v acc ∧ SS lo v.ownBlock (w3.alloc (.cells #[v0, v1, v2, v3] 34)) [x] (.slice (some ⟨w3.heap.size, 0, none⟩) 1 1) ∧ lo ≤ (w3.alloc (.cells #[v0, v1, v2, v3] 34)).heap.size := by
  have hp := p.size
  obtain ⟨W, hW⟩ : ∃ W, w3.alloc (.cells #[v0, v1, v2, v3] 34) = W := ⟨_, rfl⟩
  have hB : Below w3.heap.size w3 W := by rw [← hW]; exact (Below.refl _ w3).alloc (Nat.le_refl _) _
  have hT : W.heap[w3.heap.size]? = some (.cells #[v0, v1, v2, v3] 34 (0, 0)) := by rw [← hW]; exact heap_alloc_at _ _ _ rfl
  rw [hW]
  have hown : ∀ g, v.ownBlock = some g → g < V.heap.size := fun g hg => by
    obtain ⟨xs, o1, _⟩ := h
    exact (World.ownsRow.lt o1 g hg).2
  refine ⟨h.keep (fun k k1 k2 => (hB.block k (by omega)).trans (p.block k k2 (by omega))), ?_, by have := hB.size; omega⟩
  have h1 : DS V.heap.size v.ownBlock w3 x (.agg #[v0, v1, v2, v3]) := ds.nx fun k k1 k2 k3 => ⟨rfl, k1, fun e => by have := hown k e.symm; omega⟩
  have h2 := h1.nx (lo' := lo) (x' := v.ownBlock) (w' := w3) fun k k1 k2 k3 => ⟨rfl, by omega, k2⟩
  exact SS.one h2 hT (by omega) (fun e => by have := hown _ e.symm; omega) (fun k k1 k2 => hB.block k k2)
/-- It was. -/
theorem row_done {b lo o q : Nat} {s : ByteArray} {w V w3 w5 : World} {v : Value} {acc : List Dt} {o1 : Obj} (h : DRow lo V v acc) (hb : b < lo) (hlw : w.heap.size ≤ lo) (p : Pt b V w3) (pt : Pt b w V) (r : Rr b s q o w3) (hg : (w3.alloc o1).grownBy w5 v.ownBlock) : Pt b w w5 ∧ Rr b s q o w5 := by
  have hp := p.size
  obtain ⟨W, hW⟩ : ∃ W, w3.alloc o1 = W := ⟨_, rfl⟩
  have hB : Below w3.heap.size w3 W := by rw [← hW]; exact (Below.refl _ w3).alloc (Nat.le_refl _) _
  rw [hW] at hg
  have hown : ∀ g, v.ownBlock = some g → lo ≤ g := fun g hg => by
    obtain ⟨xs, o1, _⟩ := h
    exact (World.ownsRow.lt o1 g hg).1
  have hs := hB.size
  refine ⟨((pt.trans_ p).trans_ (Pt.ofB hB)).grown hg (fun k e1 e2 => by have := hown k e1; omega), ?_⟩
  obtain ⟨r0, x1, y1, e⟩ := r
  have hb3 := (Array.getElem?_eq_some_iff.1 e).1
  exact ⟨r0, x1, y1, ((hg.block b (by omega) (fun e => by have := hown b e.symm; omega)).trans (hB.block b hb3)).trans e⟩
/-- What all answers. -/
def AlO (b : Nat) (s : ByteArray) (w : World) (R : Rs (List Dt)) (e : Ending) (w' : World) : Prop :=
  (∃ l a c, e = .returned (.slice a l.length c) ∧ Hid (R = .ok l [] ∧ Pt b w w' ∧ SS w.heap.size none w' l (.slice a l.length c))) ∨
  (Pnc e ∧ Hid (∃ k m, R = .bad k m ∧ k ≤ s.size ∧ Flt b s k m w' ∧ Pt b w w'))
set_option maxHeartbeats 8000000 in
theorem rd_whole {b : Nat} {s : ByteArray} {w : World} (h : Rr b s 0 0 w) (F : Nat) (hF : s.size < F) : Calls Tryd.prog 18 #[.pointer (some ⟨b, 0, none⟩)] w fun e w' => AlO b s w (alL F [] s.data.toList) e w' := by
  obtain ⟨R, hR⟩ : ∃ R, alL F [] s.data.toList = R := ⟨_, rfl⟩
  have h0 : rst s 0 = s.data.toList := rfl
  have HSta : Hid (Sta R [] (rst s 0)) := hid ⟨F, by rw [rst_len]; exact hF, by rw [h0, hR]⟩
  have HK := hid (rd_skip h)
  have Hb := hid h.lt
  have HS := hid h.1.2.1
  rw [hR]
  clear h hR h0 hF
  go_enter Tryd.func18, Tryd.ntmps18
  go_wp2_with fail
  refine HK.out.mono ?_
  clear HK
  rintro e w1 ⟨rfl, HQ⟩
  have H0 : Hid (∃ q, Rr b s q 0 w1 ∧ Pt b w w1 ∧ Sta R [] (rst s q) ∧ skB false (rst s q) = rst s q) := hid (by
    obtain ⟨q, hq1, hq2, hq3⟩ := HQ.out
    exact ⟨q, hq1, hq3, by rw [hq2]; exact HSta.out.skip, by rw [hq2, skB_idem]⟩)
  clear HQ HSta
  go_wp2
  go_loopw [3] (fun v wr => ∃ q acc a c, v = .slice a acc.length c ∧ Hid (Rr b s q 0 wr ∧ Pt b w wr ∧ Sta R acc (rst s q) ∧ skB false (rst s q) = rst s q ∧ DRow w.heap.size wr (.slice a acc.length c) acc ∧ acc.length ≤ q)) (fun _ wr => s.size - posOf b wr)
  case atStart =>
    obtain ⟨q, hq1, hq2, hq3, hq4⟩ := H0.out
    exact ⟨q, [], none, 0, rfl, hq1, hq2, hq3, hq4, DRow.nil _ _, Nat.zero_le _⟩
  case round =>
    clear H0
    obtain ⟨q, acc, a, c, rfl, HQ⟩ := hrel
    have hq0 := hid HQ.out.1.pos
    have HE := hid (rd_ended HQ.out.1)
    go_wp2_with fail
    refine HE.out.mono ?_
    clear HE
    rintro e w2 ⟨rfl, hb2⟩
    have HQ2 : Hid (Rr b s q 0 w2 ∧ Pt b w w2 ∧ DRow w.heap.size w2 (.slice a acc.length c) acc) := hid ⟨HQ.out.1.under hb2.out, HQ.out.2.1.trans_ (Pt.ofB hb2.out), HQ.out.2.2.2.2.1.keep (fun k k1 k2 => hb2.out.block k k2)⟩
    by_cases hlt : s.size ≤ q
    · have hd : decide (s.size ≤ q) = true := decide_eq_true hlt
      have HF : Hid (AlO b s w R (.returned (.slice a acc.length c)) w2) := hid (.inl ⟨acc, a, c, rfl, hid ⟨HQ.out.2.2.1.stop (by rw [HQ.out.2.2.2.1]; exact rst_nil hlt), HQ2.out.2.1, HQ2.out.2.2.ss⟩⟩)
      rw [hd]
      clear HQ HQ2 hb2 hq0
      go_wp2
      go_ret
      exact HF.out
    · have hd : decide (s.size ≤ q) = false := decide_eq_false hlt
      have hqs : q < s.size := by omega
      have hcons : rst s q = s[q] :: rst s (q + 1) := rst_cons hqs
      have hit := HQ.out.2.2.1.item (by rw [HQ.out.2.2.2.1]; exact hcons)
      rw [← hcons] at hit
      have Hit := hid hit
      have HC := hid (rd_all 64 b s q 0 w2 HQ2.out.1 rfl)
      have Hl : Hid (acc.length ≤ q ∧ q < s.size) := hid ⟨HQ.out.2.2.2.2.2, hqs⟩
      rw [hd]
      clear HQ hb2 hcons hit hqs hlt
      go_wp2_with fail
      refine HC.out.mono ?_
      clear HC
      rintro e w3 (⟨d, a3, c3, a4, c4, q3, rfl, HX⟩ | ⟨⟨v, rfl⟩, HX⟩)
      · have HM := hid (row_ready HQ2.out.2.2 Hb.out HQ2.out.2.1.size HX.out.2.2.1 HX.out.2.2.2)
        have Hq3 : Hid (q < q3) := hid (by
          have h1 := (rdD_gets 64 _ _ _ HX.out.1).2.1
          rw [rst_len, rst_len] at h1
          omega)
        have HLe : Hid (acc.length + [d].length ≤ 1099511627776) := hid (by
          have h1 := Hl.out
          have h2 := HS.out
          simp
          omega)
        go_wp2_with (at_builtin; refine wpList_push rfl _ _ rfl w.heap.size (.slice a acc.length c) (.slice (some ⟨w3.heap.size, 0, none⟩) 1 1) acc [d] rfl rfl (by exact HM.out.1) (by exact HM.out.2.1) (by exact HLe.out) (by exact HM.out.2.2) ?_)
        intro a' c' w5 hr5 hg5
        have H5 := hid (row_done HQ2.out.2.2 Hb.out (Nat.le_refl _) HX.out.2.2.1 HQ2.out.2.1 HX.out.2.1 hg5)
        have HSk := hid (rd_skip H5.out.2)
        have HR5 := hid hr5
        clear hr5 hg5 HM
        go_wp2_with fail
        refine HSk.out.mono ?_
        clear HSk
        rintro e w6 ⟨rfl, HY⟩
        have HN : Hid (∃ q4, q < q4 ∧ q4 ≤ s.size ∧ Rr b s q4 0 w6 ∧ Pt b w w6 ∧ Sta R (acc ++ [d]) (rst s q4) ∧ skB false (rst s q4) = rst s q4 ∧ DRow w.heap.size w6 (.slice a' (acc ++ [d]).length c') (acc ++ [d]) ∧ (acc ++ [d]).length ≤ q4) := hid (by
          obtain ⟨q4, hq1, hq2, hq3⟩ := HY.out
          have hst := (Hit.out.2 _ _ HX.out.1).skip
          rw [← hq2] at hst
          have hq34 : q3 ≤ q4 := by
            have h1 := skB_len false (rst s q3)
            rw [← hq2, rst_len, rst_len] at h1
            have h2 := hq1.1.1
            have h3 := HX.out.2.1.1.1
            omega
          have h3 := Hq3.out
          have h4 := Hl.out
          refine ⟨q4, by omega, hq1.1.1, hq1, H5.out.1.trans_ hq3, hst, by rw [hq2, skB_idem], ?_, by simp; omega⟩
          have : (acc ++ [d]).length = acc.length + [d].length := List.length_append
          rw [this]
          exact HR5.out.keep (fun k k1 k2 => hq3.block k k2 (by have := Hb.out; omega)))
        clear HY HX HQ2 Hit Hq3 HLe H5 HR5
        go_wp2
        obtain ⟨q4, n1, n2, n3, n4⟩ := HN.out
        have Hn3 := hid n3
        have Hn4 := hid n4
        clear n3 n4 HN
        go_roundw
        case rel => exact ⟨q4, acc ++ [d], a', c', by simp, Hn3.out, Hn4⟩
        case measure =>
          have h1 := Hn3.out.pos
          have h2 := hq0.out
          rw [h1, h2]
          omega
      · have HF : Hid (AlO b s w R (.panicked [{ v := .iface 44 v, recovered := false }]) w3) := hid (by
          obtain ⟨k, m, g1, g2, g3, g4⟩ := HX.out
          exact .inr ⟨⟨v, rfl⟩, hid ⟨k, m, Hit.out.1 _ _ g1, g2, g3, HQ2.out.2.1.trans_ g4⟩⟩)
        clear HX HQ2 Hit
        go_wp2
        refine ⟨rfl, ?_⟩
        exact HF.out
end Go.Proofs.YtfobiknbjijphaaDoor

namespace Go.Proofs.YtfobiknbjijphaaDoor
open Go.RowKit
set_option linter.unusedVariables false
set_option linter.unusedSimpArgs false

/-- The document's reader at block b: where it stands; no fault. -/
def Zr (b : Nat) (s : ByteArray) (p : Nat) (w : World) : Prop := (p ≤ s.size ∧ s.size ≤ 1099511627776) ∧ w.heap[b]? = some (.cells #[.string s, .int .i64 (p : Int), .int .i64 (-1), .int .i64 0] 50 (0, 0))
/-- It has a fault. -/
def Zf (b : Nat) (s : ByteArray) (k n : Nat) (w : World) : Prop := k ≤ s.size ∧ ∃ p : Nat, p ≤ s.size + 1 ∧ s.size ≤ 1099511627776 ∧ w.heap[b]? = some (.cells #[.string s, .int .i64 (p : Int), .int .i64 ((s.size - k : Nat) : Int), .int .i64 (n : Int)] 50 (0, 0))
theorem Zr.lt {b : Nat} {s : ByteArray} {p : Nat} {w : World} (h : Zr b s p w) : b < w.heap.size := (Array.getElem?_eq_some_iff.1 h.2).1
theorem Zr.under {b : Nat} {s : ByteArray} {p : Nat} {w w' : World} (h : Zr b s p w) (hb : Below w.heap.size w w') : Zr b s p w' := ⟨h.1, (hb.block b h.lt).trans h.2⟩
theorem Zr.part {b : Nat} {s : ByteArray} {p : Nat} {F : Nat → Prop} {w w' : World} (h : Zr b s p w) (hb : Part F w w') (hB : ¬ F b) : Zr b s p w' := ⟨h.1, (hb.block b h.lt hB).trans h.2⟩
theorem Zf.part {b : Nat} {s : ByteArray} {k n : Nat} {F : Nat → Prop} {w w' : World} (h : Zf b s k n w) (hb : Part F w w') (hB : ¬ F b) : Zf b s k n w' := by
  obtain ⟨h1, p, h2, h3, h4⟩ := h
  exact ⟨h1, p, h2, h3, (hb.block b (Array.getElem?_eq_some_iff.1 h4).1 hB).trans h4⟩
theorem Zf.under {b : Nat} {s : ByteArray} {k n : Nat} {w w' : World} (h : Zf b s k n w) (hb : Below w.heap.size w w') : Zf b s k n w' := by
  obtain ⟨h1, p, h2, h3, h4⟩ := h
  exact ⟨h1, p, h2, h3, (hb.block b (Array.getElem?_eq_some_iff.1 h4).1).trans h4⟩
structure Zc (b : Nat) (s : ByteArray) (p : Nat) (w : World) : Prop where
  c0 : w.cell? ⟨b, 0, none⟩ = some (.string s)
  c1 : w.cell? ⟨b, 1, none⟩ = some (.int .i64 (p : Int))
  c2 : w.cell? ⟨b, 2, none⟩ = some (.int .i64 (-1))
  c3 : w.cell? ⟨b, 3, none⟩ = some (.int .i64 0)
  f1 : w.frozen? ⟨b, 1, none⟩ = false
  f2 : w.frozen? ⟨b, 2, none⟩ = false
  f3 : w.frozen? ⟨b, 3, none⟩ = false
theorem Zr.cells {b : Nat} {s : ByteArray} {p : Nat} {w : World} (h : Zr b s p w) : Zc b s p w := by
  have e := h.2
  exact ⟨by rw [cells_at e 0]; rfl, by rw [cells_at e 1]; rfl, by rw [cells_at e 2]; rfl, by rw [cells_at e 3]; rfl, cells_free e 1, cells_free e 2, cells_free e 3⟩
theorem Zr.at_ {b : Nat} {s : ByteArray} {p : Nat} {w : World} (h : Zr b s p w) (q : Nat) (hq : q ≤ s.size) : Zr b s q (w.setCell ⟨b, 1, none⟩ (.int .i64 (q : Int))) := ⟨⟨hq, h.1.2⟩, heap_set_at h.2 _⟩
noncomputable def zM (b : Nat) (n : Nat) (w : World) : Nat := if intOf ((w.cell? ⟨b, 2, none⟩).getD .nilIface) < 0 then n - posOf b w + 1 else 0
theorem Zr.pos {b : Nat} {s : ByteArray} {p : Nat} {w : World} (h : Zr b s p w) : posOf b w = p := by
  unfold posOf
  rw [h.cells.c1]
  simp [intOf]
theorem Zr.zM {b : Nat} {s : ByteArray} {p : Nat} {w : World} (h : Zr b s p w) : zM b s.size w = s.size - p + 1 := by
  unfold Proofs.YtfobiknbjijphaaDoor.zM
  rw [h.pos, h.cells.c2]
  simp [intOf]
theorem Zf.zM {b : Nat} {s : ByteArray} {k n : Nat} {w : World} (h : Zf b s k n w) : zM b s.size w = 0 := by
  obtain ⟨h1, p, h2, h3, h4⟩ := h
  have h6 : w.cell? ⟨b, 2, none⟩ = some (.int .i64 ((s.size - k : Nat) : Int)) := by rw [cells_at h4 2]; rfl
  have h5 : ¬ intOf ((w.cell? ⟨b, 2, none⟩).getD .nilIface) < 0 := by
    rw [h6]
    show ¬ ((s.size - k : Nat) : Int) < 0
    omega
  unfold Proofs.YtfobiknbjijphaaDoor.zM
  rw [if_neg h5]
theorem z_fail {b : Nat} {s : ByteArray} {p : Nat} {w : World} (h : Zr b s p w) (a : Nat) (n : Int) (ha : a ≤ s.size) : Calls Tryd.prog 32 #[.pointer (some ⟨b, 0, none⟩), .int .i64 (a : Int), .int .i64 n] w fun e w' => e = .returned (.tuple #[]) ∧ Hid ((∀ m : Nat, n = (m : Int) → Zf b s (s.size - a) m w') ∧ Pt b w w') := by
  obtain ⟨c0, c1, c2, c3, f1, f2, f3⟩ := h.cells
  have HF : Hid ((∀ m : Nat, n = (m : Int) → Zf b s (s.size - a) m ((w.setCell ⟨b, 2, none⟩ (.int .i64 (a : Int))).setCell ⟨b, 3, none⟩ (.int .i64 n))) ∧ Pt b w ((w.setCell ⟨b, 2, none⟩ (.int .i64 (a : Int))).setCell ⟨b, 3, none⟩ (.int .i64 n))) := hid ⟨fun m hm => by
    refine ⟨by omega, p, by have := h.1.1; omega, h.1.2, ?_⟩
    have := heap_set_at (heap_set_at h.2 (i := 2) (.int .i64 (a : Int))) (i := 3) (.int .i64 n)
    rw [this, hm]
    have e2 : s.size - (s.size - a) = a := by omega
    rw [e2]
    rfl, Pt.set (Pt.set (Part.refl _ w) 2 _) 3 _⟩
  clear h ha
  go_enter Tryd.func32, Tryd.ntmps32
  go_wp2
  refine bodyPost_end (results_none rfl _ _ _) rfl ?_
  exact ⟨rfl, HF⟩
theorem z_blank (c : UInt8) (w : World) : Calls Tryd.prog 31 #[.int .u8 (c.toNat : Int)] w fun e w' => e = .returned (.bool (blB c)) ∧ w' = w := by
  have q1 : ((c.toNat : Int) == 32) = decide (c = 32) := @u8b c 32 (by decide)
  have q2 : ((c.toNat : Int) == 9) = decide (c = 9) := @u8b c 9 (by decide)
  have q3 : ((c.toNat : Int) == 10) = decide (c = 10) := @u8b c 10 (by decide)
  have q4 : ((c.toNat : Int) == 13) = decide (c = 13) := @u8b c 13 (by decide)
  have HR : Hid (blB c = (decide (c = 32) || decide (c = 9) || decide (c = 10) || decide (c = 13))) := hid (by
    have hb : ∀ x : UInt8, (c == x) = decide (c = x) := fun x => by rw [Bool.eq_iff_iff, beq_iff_eq, decide_eq_true_iff]
    unfold blB
    rw [hb, hb, hb, hb])
  by_cases h1 : c = 32 <;> by_cases h2 : c = 9 <;> by_cases h3 : c = 10 <;> by_cases h4 : c = 13
  all_goals
    try rw [decide_eq_true h1] at q1 HR
    try rw [decide_eq_false h1] at q1 HR
    try rw [decide_eq_true h2] at q2 HR
    try rw [decide_eq_false h2] at q2 HR
    try rw [decide_eq_true h3] at q3 HR
    try rw [decide_eq_false h3] at q3 HR
    try rw [decide_eq_true h4] at q4 HR
    try rw [decide_eq_false h4] at q4 HR
    clear h1 h2 h3 h4
    go_enter Tryd.func31, Tryd.ntmps31
    go_wp2
    go_ret
    exact ⟨by rw [HR.out]; rfl, rfl⟩
theorem quiet_at {P : Program} {f : FuncId} {args : Array Value} {v : Value} (h : ∀ V, Calls P f args V fun e w' => e = .returned v ∧ w' = V) (w : World) (k n : Nat) : Calls P f args (w.drewN (k + n)) fun e w'' => e = .returned v ∧ ∃ m, w'' = w.drewN (k + m) :=
  (h _).mono fun _ _ ⟨he, hm⟩ => ⟨he, n, hm⟩
theorem skT_end {l : List UInt8} (h : l = [] ∨ ∃ r, l = 10 :: r) : skB true l = skB false l := by
  rcases h with rfl | ⟨r, rfl⟩
  · rfl
  · simp [skB, blB]
theorem skT_step {c : UInt8} {r : List UInt8} (h : c ≠ 10) : skB true (c :: r) = skB true r := by simp [skB, h]
theorem skF_blank {c : UInt8} {r : List UInt8} (h : blB c = true) : skB false (c :: r) = skB false r := by simp [skB, h]
theorem skF_stop {c : UInt8} {r : List UInt8} (h : blB c = false) (h2 : c ≠ 59) : skB false (c :: r) = c :: r := by simp [skB, h, h2]
set_option maxHeartbeats 4000000 in
theorem z_blanks {b : Nat} {s : ByteArray} {p : Nat} {w : World} (h : Zr b s p w) :
    Calls Tryd.prog 19 #[.pointer (some ⟨b, 0, none⟩)] w fun e w' => e = .returned (.tuple #[]) ∧ Hid (∃ q, Zr b s q w' ∧ rst s q = skB false (rst s p) ∧ Pt b w w') := by
  have HR : Hid (Zr b s p w) := h
  have HBl : Hid (∀ (c : UInt8) V, Calls Tryd.prog 31 #[.int .u8 (c.toNat : Int)] V fun e w' => e = .returned (.bool (blB c)) ∧ w' = V) := hid fun c V => z_blank c V
  have lM : (s.size : Int) ≤ 1099511627776 := by have := h.1.2; omega
  clear h
  go_enter Tryd.func19, Tryd.ntmps19
  go_wp2
  go_loopw [] (fun wr => ∃ q, Hid (Zr b s q wr ∧ skB false (rst s q) = skB false (rst s p) ∧ Pt b w wr)) (fun wr => s.size - posOf b wr)
  case atStart => exact ⟨p, HR.out, rfl, Part.refl _ _⟩
  case round =>
    obtain ⟨q, HQ⟩ := hrel
    obtain ⟨v0, rfl⟩ : ∃ v0, v0 = wr := ⟨_, rfl⟩
    clear HR
    have hq0 := hid HQ.out.1.pos
    obtain ⟨y0, y1, -, -, f1, -, -⟩ := HQ.out.1.cells
    have HV : Hid (∀ V, Below v0.heap.size v0 V → Zr b s q V ∧ Pt b w V) := hid fun V hV => ⟨HQ.out.1.under hV, HQ.out.2.2.trans_ (Pt.ofB hV)⟩
    by_cases hlt : q < s.size
    · have l0 : (0 : Int) ≤ (q : Int) := by omega
      have l1 : (q : Int) < (s.size : Int) := by omega
      obtain ⟨c, hc⟩ : ∃ c, s[q]'hlt = c := ⟨_, rfl⟩
      have hcons : rst s q = c :: rst s (q + 1) := by rw [rst_cons hlt, hc]
      by_cases h59 : c = 59
      · have q59 : ((c.toNat : Int) == 59) = true := by rw [h59]; rfl
        have HI : Hid (∀ V, Below v0.heap.size v0 V → Zr b s q V ∧ skB true (rst s q) = skB false (rst s p) ∧ Pt b w V) := hid fun V hV => ⟨(HV.out V hV).1, by rw [← skB_comment_step hlt hc h59 (by rw [h59]; rfl)]; exact HQ.out.2.1, (HV.out V hV).2⟩
        have Hc : Hid (∀ z (h : z < s.size), q ≤ z → s[z] = 10 → q < z) := hid fun z h1 h2 h3 => by
          rcases Nat.lt_or_ge q z with h | h
          · exact h
          · have : z = q := by omega
            subst this
            rw [hc, h59] at h3
            exact absurd h3 (by decide)
        clear HQ HV hcons h59
        go_wp2
        go_quiet (fail)
        go_wp2
        go_quiet (fail)
        go_wp2
        go_loopw [] (fun wr => ∃ z, q ≤ z ∧ Hid (Zr b s z wr ∧ skB true (rst s z) = skB false (rst s p) ∧ Pt b w wr)) (fun wr => s.size - posOf b wr)
        case atStart => exact ⟨q, Nat.le_refl _, HI.out _ (blw_drewN _ (blw_drewN _ (Below.refl _ _)))⟩
        case round =>
          obtain ⟨v1, rfl⟩ : ∃ v1, v1 = wr := ⟨_, rfl⟩
          obtain ⟨z, hz, HZ⟩ := hrel
          clear HI y0 y1 f1
          have hz0 := hid HZ.out.1.pos
          obtain ⟨y0, y1, -, -, f1, -, -⟩ := HZ.out.1.cells
          have HX : Hid (∀ V, Below v1.heap.size v1 V → Zr b s z V ∧ Pt b w V) := hid fun V hV => ⟨HZ.out.1.under hV, HZ.out.2.2.trans_ (Pt.ofB hV)⟩
          by_cases hzl : z < s.size
          · have m0 : (0 : Int) ≤ (z : Int) := by omega
            have m1 : (z : Int) < (s.size : Int) := by omega
            obtain ⟨x, hx⟩ : ∃ x, s[z]'hzl = x := ⟨_, rfl⟩
            have hzc : rst s z = x :: rst s (z + 1) := by rw [rst_cons hzl, hx]
            by_cases h10 : x = 10
            · have x10 : ((x.toNat : Int) != 10) = false := by rw [h10]; rfl
              have HN : Hid (∀ V, Below v1.heap.size v1 V → Zr b s z V ∧ skB false (rst s z) = skB false (rst s p) ∧ Pt b w V) := hid fun V hV => ⟨(HX.out V hV).1, by rw [← skT_end (.inr ⟨_, by rw [hzc, h10]⟩)]; exact HZ.out.2.1, (HX.out V hV).2⟩
              have hqz := hid (Hc.out z hzl hz (by rw [hx]; exact h10))
              clear HZ HX hzc h10
              go_wp2
              go_quiet (fail)
              go_wp2
              go_roundw
              case rel => exact ⟨z, HN.out _ (blw_drewN _ (Below.refl _ _))⟩
              case measure =>
                refine Nat.lt_of_le_of_lt (Nat.le_of_eq (congrArg (s.size - ·) (HN.out _ (blw_drewN _ (Below.refl _ _))).1.pos)) ?_
                rw [hq0.out]
                have h3 := hqz.out
                omega
            · have x10 : ((x.toNat : Int) != 10) = true := by
                have : ((x.toNat : Int) == 10) = decide (x = 10) := @u8b x 10 (by decide)
                rw [bne, this, decide_eq_false h10]; rfl
              have HN : Hid (∀ V, Below v1.heap.size v1 V → Zr b s (z + 1) (V.setCell ⟨b, 1, none⟩ (.int .i64 ((z : Int) + 1))) ∧ skB true (rst s (z + 1)) = skB false (rst s p) ∧ Pt b w (V.setCell ⟨b, 1, none⟩ (.int .i64 ((z : Int) + 1)))) := hid fun V hV => ⟨(HX.out V hV).1.at_ (z + 1) hzl, by rw [← HZ.out.2.1, hzc, skT_step h10], Pt.set (HX.out V hV).2 1 _⟩
              clear HZ HX hzc h10
              go_wp2
              go_quiet (fail)
              go_wp2
              go_roundw
              case rel => exact ⟨z + 1, by omega, HN.out _ (blw_drewN _ (Below.refl _ _))⟩
              case measure =>
                refine Nat.lt_of_le_of_lt (Nat.le_of_eq (congrArg (s.size - ·) (HN.out _ (blw_drewN _ (Below.refl _ _))).1.pos)) ?_
                rw [hz0.out]
                omega
          · have hze : z = s.size := by have := HZ.out.1.1.1; omega
            have m1 : ¬ (z : Int) < (s.size : Int) := by omega
            have m2 : decide (z < s.size) = false := decide_eq_false hzl
            have HN : Hid (∀ V, Below v1.heap.size v1 V → Zr b s z V ∧ skB false (rst s z) = skB false (rst s p) ∧ Pt b w V) := hid fun V hV => ⟨(HX.out V hV).1, by rw [← skT_end (.inl (rst_nil (by omega)))]; exact HZ.out.2.1, (HX.out V hV).2⟩
            have hqz : Hid (q < z) := hid (by omega)
            clear HZ HX hzl hze
            go_wp2
            go_quiet (fail)
            go_wp2
            go_roundw
            case rel => exact ⟨z, HN.out _ (blw_drewN _ (Below.refl _ _))⟩
            case measure =>
              refine Nat.lt_of_le_of_lt (Nat.le_of_eq (congrArg (s.size - ·) (HN.out _ (blw_drewN _ (Below.refl _ _))).1.pos)) ?_
              rw [hq0.out]
              have h3 := hqz.out
              omega
      · have q59 : ((c.toNat : Int) == 59) = false := by
          have : ((c.toNat : Int) == 59) = decide (c = 59) := @u8b c 59 (by decide)
          rw [this, decide_eq_false h59]
        rcases Bool.eq_false_or_eq_true (blB c) with hbl | hbl
        · have HN : Hid (∀ V, Below v0.heap.size v0 V → Zr b s (q + 1) (V.setCell ⟨b, 1, none⟩ (.int .i64 ((q : Int) + 1))) ∧ skB false (rst s (q + 1)) = skB false (rst s p) ∧ Pt b w (V.setCell ⟨b, 1, none⟩ (.int .i64 ((q : Int) + 1)))) := hid fun V hV => ⟨(HV.out V hV).1.at_ (q + 1) hlt, by rw [← HQ.out.2.1, hcons, skF_blank hbl], Pt.set (HV.out V hV).2 1 _⟩
          have HB : Hid (∀ V, Calls Tryd.prog 31 #[.int .u8 (c.toNat : Int)] V fun e w' => e = .returned (.bool true) ∧ w' = V) := hid fun V => by
            have := HBl.out c V
            rw [hbl] at this
            exact this
          clear HQ HV hcons h59 hbl HBl
          go_wp2
          go_quiet (fail)
          go_wp2
          go_quiet (fail)
          go_wp2
          go_quiet ((go_at_call 31; exact quiet_at HB.out _ _ _))
          go_wp2
          go_roundw
          case rel => exact ⟨q + 1, HN.out _ (blw_drewN _ (Below.refl _ _))⟩
          case measure =>
            refine Nat.lt_of_le_of_lt (Nat.le_of_eq (congrArg (s.size - ·) (HN.out _ (blw_drewN _ (Below.refl _ _))).1.pos)) ?_
            rw [hq0.out]
            omega
        · have HN : Hid (∀ V, Below v0.heap.size v0 V → Zr b s q V ∧ rst s q = skB false (rst s p) ∧ Pt b w V) := hid fun V hV => ⟨(HV.out V hV).1, by rw [← HQ.out.2.1, hcons, skF_stop hbl h59], (HV.out V hV).2⟩
          have HB : Hid (∀ V, Calls Tryd.prog 31 #[.int .u8 (c.toNat : Int)] V fun e w' => e = .returned (.bool false) ∧ w' = V) := hid fun V => by
            have := HBl.out c V
            rw [hbl] at this
            exact this
          clear HQ HV hcons h59 hbl HBl
          go_wp2
          go_quiet (fail)
          go_wp2
          go_quiet (fail)
          go_wp2
          go_quiet ((go_at_call 31; exact quiet_at HB.out _ _ _))
          go_wp2
          refine bodyPost_ret (results_none rfl _ _ _) rfl ?_
          exact ⟨rfl, q, HN.out _ (blw_drewN _ (blw_drewN _ (blw_drewN _ (Below.refl _ _))))⟩
    · have hqe : q = s.size := by have := HQ.out.1.1.1; omega
      have l1 : ¬ (q : Int) < (s.size : Int) := by omega
      have HN : Hid (∀ V, Below v0.heap.size v0 V → Zr b s q V ∧ rst s q = skB false (rst s p) ∧ Pt b w V) := hid fun V hV => ⟨(HV.out V hV).1, by
        have := HQ.out.2.1
        rw [rst_nil (by omega)] at this
        rw [rst_nil (by omega)]
        exact this, (HV.out V hV).2⟩
      clear HQ HV hlt hqe
      go_wp2
      go_quiet (fail)
      go_wp2
      refine bodyPost_end (results_none rfl _ _ _) rfl ?_
      exact ⟨rfl, q, HN.out _ (blw_drewN _ (Below.refl _ _))⟩
end Go.Proofs.YtfobiknbjijphaaDoor
