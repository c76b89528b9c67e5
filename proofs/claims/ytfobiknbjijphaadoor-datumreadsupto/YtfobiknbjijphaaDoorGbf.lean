/-
  The program's reader: all data of a text.
  The document's reader: what stands in its list's loop.
-/
import Derived.Test.YtfobiknbjijphaaDoorRdT
import Derived.Test.YtfobiknbjijphaaDoorGbe
namespace Go.Proofs.YtfobiknbjijphaaDoor
open Go.RowKit
set_option linter.unusedVariables false
set_option linter.unusedSimpArgs false

theorem al_end {f : Nat} {acc : List Dt} {l : List UInt8} (h : skB false l = []) : alL (f + 1) acc l = .ok acc [] := by simp only [alL, h]
def thenA (f : Dt → List UInt8 → Rs (List Dt)) (R : Rs Dt) : Rs (List Dt) := match R with | .bad k m => .bad k m | .ok x r => f x r
theorem al_item {f : Nat} {acc : List Dt} {l r : List UInt8} {c : UInt8} (h : skB false l = c :: r) : alL (f + 1) acc l = thenA (fun x r2 => alL f (acc ++ [x]) r2) (rdD 64 (c :: r)) := by
  simp only [alL, h]; rfl
/-- What is left to be read. -/
def Sta (R : Rs (List Dt)) (acc : List Dt) (l : List UInt8) : Prop := ∃ f, l.length < f ∧ R = alL f acc l
theorem Sta.skip {R : Rs (List Dt)} {acc : List Dt} {l : List UInt8} (h : Sta R acc l) : Sta R acc (skB false l) := by
  obtain ⟨f, h1, h2⟩ := h
  refine ⟨f, Nat.lt_of_le_of_lt (skB_len _ _) h1, ?_⟩
  rw [h2]
  cases f <;> simp only [alL, skB_idem]
  omega
theorem Sta.stop {R : Rs (List Dt)} {acc : List Dt} {l : List UInt8} (h : Sta R acc l) (e : skB false l = []) : R = .ok acc [] := by
  obtain ⟨f, h1, h2⟩ := h
  cases f with
  | zero => omega
  | succ f => rw [h2, al_end e]
theorem Sta.item {R : Rs (List Dt)} {acc : List Dt} {l r : List UInt8} {c : UInt8} (h : Sta R acc l) (e : skB false l = c :: r) :
    (∀ k m, rdD 64 (c :: r) = .bad k m → R = .bad k m) ∧ (∀ x r2, rdD 64 (c :: r) = .ok x r2 → Sta R (acc ++ [x]) r2) := by
  obtain ⟨f, g1, g2⟩ := h
  cases f with
  | zero => omega
  | succ f =>
    rw [al_item e] at g2
    refine ⟨fun k m he => by rw [g2, he]; rfl, fun x r2 he => ⟨f, ?_, by rw [g2, he]; rfl⟩⟩
    have := (rdD_gets 64 _ _ _ he).2.1
    have hs := skB_len false l
    rw [e] at hs
    omega
/-- A datum was read: it can be appended to a row. -/
theorem row_ready {b lo : Nat} {V w3 : World} {v : Value} {acc : List Dt} {x : Dt} {v0 v1 v2 v3 : Value} (h : DRow lo V v acc) (hb : b < lo) (hl : lo ≤ V.heap.size) (p : Pt b V w3) (ds : DS V.heap.size none w3 x (.agg #[v0, v1, v2, v3])) :
    DRow lo (w3.alloc (.cells #[v0, v1, v2, v3] 34)) v acc ∧ SS lo v.ownBlock (w3.alloc (.cells #[v0, v1, v2, v3] 34)) [x] (.slice (some ⟨w3.heap.size, 0, none⟩) 1 1) ∧ lo ≤ (w3.alloc (.cells #[v0, v1, v2, v3] 34)).heap.size := by
  have hp := p.size
  obtain ⟨W, hW⟩ : ∃ W, w3.alloc (.cells #[v0, v1, v2, v3] 34) = W := ⟨_, rfl⟩
  have hB : Below w3.heap.size w3 W := by rw [← hW]; exact (Below.refl _ w3).alloc (Nat.le_refl _) _
  have hT : W.heap[w3.heap.size]? = some (.cells #[v0, v1, v2, v3] 34 (0, 0)) := by rw [← hW]; exact heap_alloc_at _ _ _ rfl
  rw [hW]
  have hown : ∀ g, v.ownBlock = some g → g < V.heap.size := fun g hg => by
    obtain ⟨xs, o1, _⟩ := h
    exact (World.ownsRow.lt o1 g hg).2
  refine ⟨h.keep (fun k k1 k2 => (hB.block k (by omega)).trans (p.block k k2 (by omega))), ?_, by have := hB.size; omega⟩
  have h1 : DS V.heap.size v.ownBlock w3 x (.agg #[v0, v1, v2, v3]) := ds.nx fun k k1 k2 k3 => ⟨rfl, k1, fun e => by have := hown k e.symm; omega⟩
  have h2 := h1.nx (lo' := lo) (x' := v.ownBlock) (w' := w3) fun k k1 k2 k3 => ⟨rfl, by omega, k2⟩
  exact SS.one h2 hT (by omega) (fun e => by have := hown _ e.symm; omega) (fun k k1 k2 => hB.block k k2)
/-- It was. -/
theorem row_done {b lo o q : Nat} {s : ByteArray} {w V w3 w5 : World} {v : Value} {acc : List Dt} {o1 : Obj} (h : DRow lo V v acc) (hb : b < lo) (hlw : w.heap.size ≤ lo) (p : Pt b V w3) (pt : Pt b w V) (r : Rr b s q o w3) (hg : (w3.alloc o1).grownBy w5 v.ownBlock) : Pt b w w5 ∧ Rr b s q o w5 := by
  have hp := p.size
  obtain ⟨W, hW⟩ : ∃ W, w3.alloc o1 = W := ⟨_, rfl⟩
  have hB : Below w3.heap.size w3 W := by rw [← hW]; exact (Below.refl _ w3).alloc (Nat.le_refl _) _
  rw [hW] at hg
  have hown : ∀ g, v.ownBlock = some g → lo ≤ g := fun g hg => by
    obtain ⟨xs, o1, _⟩ := h
    exact (World.ownsRow.lt o1 g hg).1
  have hs := hB.size
  refine ⟨((pt.trans_ p).trans_ (Pt.ofB hB)).grown hg (fun k e1 e2 => by have := hown k e1; omega), ?_⟩
  obtain ⟨r0, x1, y1, e⟩ := r
  have hb3 := (Array.getElem?_eq_some_iff.1 e).1
  exact ⟨r0, x1, y1, ((hg.block b (by omega) (fun e => by have := hown b e.symm; omega)).trans (hB.block b hb3)).trans e⟩
/-- What all answers. -/
def AlO (b : Nat) (s : ByteArray) (w : World) (R : Rs (List Dt)) (e : Ending) (w' : World) : Prop :=
  (∃ l a c, e = .returned (.slice a l.length c) ∧ Hid (R = .ok l [] ∧ Pt b w w' ∧ SS w.heap.size none w' l (.slice a l.length c))) ∨
  (Pnc e ∧ Hid (∃ k m, R = .bad k m ∧ k ≤ s.size ∧ Flt b s k m w' ∧ Pt b w w'))
set_option maxHeartbeats 8000000 in
theorem rd_whole {b : Nat} {s : ByteArray} {w : World} (h : Rr b s 0 0 w) (F : Nat) (hF : s.size < F) : Calls Tryd.prog 18 #[.pointer (some ⟨b, 0, none⟩)] w fun e w' => AlO b s w (alL F [] s.data.toList) e w' := by
  obtain ⟨R, hR⟩ : ∃ R, alL F [] s.data.toList = R := ⟨_, rfl⟩
  have h0 : rst s 0 = s.data.toList := rfl
  have HSta : Hid (Sta R [] (rst s 0)) := hid ⟨F, by rw [rst_len]; exact hF, by rw [h0, hR]⟩
  have HK := hid (rd_skip h)
  have Hb := hid h.lt
  have HS := hid h.1.2.1
  rw [hR]
  clear h hR h0 hF
  go_enter Tryd.func18, Tryd.ntmps18
  go_wp2_with fail
  refine HK.out.mono ?_
  clear HK
  rintro e w1 ⟨rfl, HQ⟩
  have H0 : Hid (∃ q, Rr b s q 0 w1 ∧ Pt b w w1 ∧ Sta R [] (rst s q) ∧ skB false (rst s q) = rst s q) := hid (by
    obtain ⟨q, hq1, hq2, hq3⟩ := HQ.out
    exact ⟨q, hq1, hq3, by rw [hq2]; exact HSta.out.skip, by rw [hq2, skB_idem]⟩)
  clear HQ HSta
  go_wp2
  go_loopw [3] (fun v wr => ∃ q acc a c, v = .slice a acc.length c ∧ Hid (Rr b s q 0 wr ∧ Pt b w wr ∧ Sta R acc (rst s q) ∧ skB false (rst s q) = rst s q ∧ DRow w.heap.size wr (.slice a acc.length c) acc ∧ acc.length ≤ q)) (fun _ wr => s.size - posOf b wr)
  case atStart =>
    obtain ⟨q, hq1, hq2, hq3, hq4⟩ := H0.out
    exact ⟨q, [], none, 0, rfl, hq1, hq2, hq3, hq4, DRow.nil _ _, Nat.zero_le _⟩
  case round =>
    clear H0
    obtain ⟨q, acc, a, c, rfl, HQ⟩ := hrel
    have hq0 := hid HQ.out.1.pos
    have HE := hid (rd_ended HQ.out.1)
    go_wp2_with fail
    refine HE.out.mono ?_
    clear HE
    rintro e w2 ⟨rfl, hb2⟩
    have HQ2 : Hid (Rr b s q 0 w2 ∧ Pt b w w2 ∧ DRow w.heap.size w2 (.slice a acc.length c) acc) := hid ⟨HQ.out.1.under hb2.out, HQ.out.2.1.trans_ (Pt.ofB hb2.out), HQ.out.2.2.2.2.1.keep (fun k k1 k2 => hb2.out.block k k2)⟩
    by_cases hlt : s.size ≤ q
    · have hd : decide (s.size ≤ q) = true := decide_eq_true hlt
      have HF : Hid (AlO b s w R (.returned (.slice a acc.length c)) w2) := hid (.inl ⟨acc, a, c, rfl, hid ⟨HQ.out.2.2.1.stop (by rw [HQ.out.2.2.2.1]; exact rst_nil hlt), HQ2.out.2.1, HQ2.out.2.2.ss⟩⟩)
      rw [hd]
      clear HQ HQ2 hb2 hq0
      go_wp2
      go_ret
      exact HF.out
    · have hd : decide (s.size ≤ q) = false := decide_eq_false hlt
      have hqs : q < s.size := by omega
      have hcons : rst s q = s[q] :: rst s (q + 1) := rst_cons hqs
      have hit := HQ.out.2.2.1.item (by rw [HQ.out.2.2.2.1]; exact hcons)
      rw [← hcons] at hit
      have Hit := hid hit
      have HC := hid (rd_all 64 b s q 0 w2 HQ2.out.1 rfl)
      have Hl : Hid (acc.length ≤ q ∧ q < s.size) := hid ⟨HQ.out.2.2.2.2.2, hqs⟩
      rw [hd]
      clear HQ hb2 hcons hit hqs hlt
      go_wp2_with fail
      refine HC.out.mono ?_
      clear HC
      rintro e w3 (⟨d, a3, c3, a4, c4, q3, rfl, HX⟩ | ⟨⟨v, rfl⟩, HX⟩)
      · have HM := hid (row_ready HQ2.out.2.2 Hb.out HQ2.out.2.1.size HX.out.2.2.1 HX.out.2.2.2)
        have Hq3 : Hid (q < q3) := hid (by
          have h1 := (rdD_gets 64 _ _ _ HX.out.1).2.1
          rw [rst_len, rst_len] at h1
          omega)
        have HLe : Hid (acc.length + [d].length ≤ 1099511627776) := hid (by
          have h1 := Hl.out
          have h2 := HS.out
          simp
          omega)
        go_wp2_with (at_builtin; refine wpList_push rfl _ _ rfl w.heap.size (.slice a acc.length c) (.slice (some ⟨w3.heap.size, 0, none⟩) 1 1) acc [d] rfl rfl (by exact HM.out.1) (by exact HM.out.2.1) (by exact HLe.out) (by exact HM.out.2.2) ?_)
        intro a' c' w5 hr5 hg5
        have H5 := hid (row_done HQ2.out.2.2 Hb.out (Nat.le_refl _) HX.out.2.2.1 HQ2.out.2.1 HX.out.2.1 hg5)
        have HSk := hid (rd_skip H5.out.2)
        have HR5 := hid hr5
        clear hr5 hg5 HM
        go_wp2_with fail
        refine HSk.out.mono ?_
        clear HSk
        rintro e w6 ⟨rfl, HY⟩
        have HN : Hid (∃ q4, q < q4 ∧ q4 ≤ s.size ∧ Rr b s q4 0 w6 ∧ Pt b w w6 ∧ Sta R (acc ++ [d]) (rst s q4) ∧ skB false (rst s q4) = rst s q4 ∧ DRow w.heap.size w6 (.slice a' (acc ++ [d]).length c') (acc ++ [d]) ∧ (acc ++ [d]).length ≤ q4) := hid (by
          obtain ⟨q4, hq1, hq2, hq3⟩ := HY.out
          have hst := (Hit.out.2 _ _ HX.out.1).skip
          rw [← hq2] at hst
          have hq34 : q3 ≤ q4 := by
            have h1 := skB_len false (rst s q3)
            rw [← hq2, rst_len, rst_len] at h1
            have h2 := hq1.1.1
            have h3 := HX.out.2.1.1.1
            omega
          have h3 := Hq3.out
          have h4 := Hl.out
          refine ⟨q4, by omega, hq1.1.1, hq1, H5.out.1.trans_ hq3, hst, by rw [hq2, skB_idem], ?_, by simp; omega⟩
          have : (acc ++ [d]).length = acc.length + [d].length := List.length_append
          rw [this]
          exact HR5.out.keep (fun k k1 k2 => hq3.block k k2 (by have := Hb.out; omega)))
        clear HY HX HQ2 Hit Hq3 HLe H5 HR5
        go_wp2
        obtain ⟨q4, n1, n2, n3, n4⟩ := HN.out
        have Hn3 := hid n3
        have Hn4 := hid n4
        clear n3 n4 HN
        go_roundw
        case rel => exact ⟨q4, acc ++ [d], a', c', by simp, Hn3.out, Hn4⟩
        case measure =>
          have h1 := Hn3.out.pos
          have h2 := hq0.out
          rw [h1, h2]
          omega
      · have HF : Hid (AlO b s w R (.panicked [{ v := .iface 44 v, recovered := false }]) w3) := hid (by
          obtain ⟨k, m, g1, g2, g3, g4⟩ := HX.out
          exact .inr ⟨⟨v, rfl⟩, hid ⟨k, m, Hit.out.1 _ _ g1, g2, g3, HQ2.out.2.1.trans_ g4⟩⟩)
        clear HX HQ2 Hit
        go_wp2
        refine ⟨rfl, ?_⟩
        exact HF.out
end Go.Proofs.YtfobiknbjijphaaDoor

namespace Go.Proofs.YtfobiknbjijphaaDoor
open Go.RowKit
set_option linter.unusedVariables false
set_option linter.unusedSimpArgs false

/-- The document's reader reads data, where so many more may be open. -/
def ZD (n : Nat) : Prop := ∀ (b : Nat) (s : ByteArray) (p dp : Nat) (w : World), Zr b s p w → dp + n = 65 → Calls Tryd.prog 20 #[.pointer (some ⟨b, 0, none⟩), .int .i64 (dp : Int)] w fun e w' => ZdO b s w (rdD n (rst s p)) e w'
/-- A fault, with the place. -/
def Zfp (b : Nat) (s : ByteArray) (p k n : Nat) (w : World) : Prop := (k ≤ s.size ∧ p ≤ s.size + 1 ∧ s.size ≤ 1099511627776) ∧ w.heap[b]? = some (.cells #[.string s, .int .i64 (p : Int), .int .i64 ((s.size - k : Nat) : Int), .int .i64 (n : Int)] 50 (0, 0))
theorem Zfp.zf {b : Nat} {s : ByteArray} {p k n : Nat} {w : World} (h : Zfp b s p k n w) : Zf b s k n w := ⟨h.1.1, p, h.1.2.1, h.1.2.2, h.2⟩
theorem z_failP {b : Nat} {s : ByteArray} {p : Nat} {w : World} (h : Zr b s p w) (a : Nat) (ha : a ≤ s.size) : Calls Tryd.prog 32 #[.pointer (some ⟨b, 0, none⟩), .int .i64 (a : Int), .int .i64 100] w fun e w' => e = .returned (.tuple #[]) ∧ Hid (Zfp b s p (s.size - a) 100 w' ∧ Pt b w w') := by
  obtain ⟨c0, c1, c2, c3, f1, f2, f3⟩ := h.cells
  have HF : Hid (Zfp b s p (s.size - a) 100 ((w.setCell ⟨b, 2, none⟩ (.int .i64 (a : Int))).setCell ⟨b, 3, none⟩ (.int .i64 100)) ∧ Pt b w ((w.setCell ⟨b, 2, none⟩ (.int .i64 (a : Int))).setCell ⟨b, 3, none⟩ (.int .i64 100))) := hid ⟨by
    refine ⟨⟨by omega, by have := h.1.1; omega, h.1.2⟩, ?_⟩
    have := heap_set_at (heap_set_at h.2 (i := 2) (.int .i64 (a : Int))) (i := 3) (.int .i64 100)
    rw [this]
    have e2 : s.size - (s.size - a) = a := by omega
    rw [e2]
    rfl, Pt.set (Pt.set (Part.refl _ w) 2 _) 3 _⟩
  clear h ha
  go_enter Tryd.func32, Tryd.ntmps32
  go_wp2
  refine bodyPost_end (results_none rfl _ _ _) rfl ?_
  exact ⟨rfl, HF⟩
/-- A datum that is none is appended all the same. -/
theorem wpList_push0 {ops : Array Oper} {rest : List Oper} {o : Oper} {a : Act} {w : World} {Q : Exit → Act → World → Prop}
    (hg : o.guard = none) (s x : Operand) (hop : o.op = Op.call { callee := Callee.builtin Builtin.append, args := #[s, x], argTypes := #[22, 22] })
    (lo : Nat) (v ve : Value) (n m : Nat) (xs ys : List Value) (hs : a.eval s = v) (hx : a.eval x = ve) (hd : w.ownsRow lo 34 4 v n xs) (he : Srcs w ve m ys) (hn : n + m ≤ 1099511627776) (hlo : lo ≤ w.heap.size)
    (h : ∀ a' c' w', w'.ownsRow lo 34 4 (.slice a' (n + m) c') (n + m) (xs ++ ys) → w.grownBy w' v.ownBlock → wpList Tryd.prog ops Q rest (a.put o.dst (.slice a' (n + m) c')) w') : wpList Tryd.prog ops Q (o :: rest) a w := by
  refine wpList_plain hg fun K hK => ?_
  obtain ⟨a', c', w', hr, h2, h3, h4⟩ := run_push0 o.type hd he hn hlo
  unfold Oper.wp execOp
  simp only [hop, resolve, invoke, builtin, Sem.run_bind, Sem.run_pure, Result.andThen_ok, List.map_toArray, List.map_cons, List.map_nil, hs, hx, hr]
  exact hK _ _ (h a' c' w' h2 h3)
theorem srcs_lit {w : World} {k0 : Int} {t0 : ByteArray} {a a2 : Option Addr} {m c m2 c2 : Nat} : Srcs (w.alloc (.cells #[.int .i64 k0, .string t0, .slice a m c, .slice a2 m2 c2] 34)) (.slice (some ⟨w.heap.size, 0, none⟩) 1 1) 1 [.int .i64 k0, .string t0, .slice a m c, .slice a2 m2 c2] := by
  refine ⟨rfl, fun u hu => ?_, _, _, rfl, fun _ => ⟨w.heap.size, 0, rfl, fun j u hj => ?_⟩⟩
  · simp at hu
    rcases hu with rfl | rfl | rfl | rfl <;> rfl
  · have hT : (w.alloc (.cells #[.int .i64 k0, .string t0, .slice a m c, .slice a2 m2 c2] 34)).heap[w.heap.size]? = some (.cells #[.int .i64 k0, .string t0, .slice a m c, .slice a2 m2 c2] 34 (0, 0)) := heap_alloc_at _ _ _ rfl
    rw [Nat.zero_add, cells_at hT j]
    exact (by simpa using hj)
/-- Where the loop stands, whatever its mode. -/
structure Zb (b : Nat) (s : ByteArray) (w : World) (G q : Nat) (wr : World) : Prop where
  rr : Zr b s q wr
  pt : Pt b w wr
  g : D4 wr G (.int .i64 0) (.string ⟨#[]⟩) (.slice none 0 0) (.slice none 0 0)
  z : w.heap.size ≤ G ∧ b < G
theorem Zb.on {b : Nat} {s : ByteArray} {w : World} {G q q2 : Nat} {wr w' : World} (h : Zb b s w G q wr) (r : Zr b s q2 w') (p : Pt b wr w') : Zb b s w G q2 w' := ⟨r, h.pt.trans_ p, h.g.part p (fun e => by have := h.z; omega), h.z⟩
theorem Zb.under {b : Nat} {s : ByteArray} {w : World} {G q : Nat} {wr w' : World} (h : Zb b s w G q wr) (p : Below wr.heap.size wr w') : Zb b s w G q w' := h.on (h.rr.under p) (Pt.ofB p)
theorem Zb.lt {b : Nat} {s : ByteArray} {w : World} {G q : Nat} {wr : World} (h : Zb b s w G q wr) : G + 1 ≤ wr.heap.size := (Array.getElem?_eq_some_iff.1 h.g).1
/-- It has failed. -/
def Zg (b : Nat) (s : ByteArray) (w : World) (G : Nat) (R : Rs Dt) (wr : World) : Prop := ∃ k j, R = .bad k j ∧ Zf b s k j wr ∧ Pt b w wr ∧ D4 wr G (.int .i64 0) (.string ⟨#[]⟩) (.slice none 0 0) (.slice none 0 0)
/-- The row is as it was. -/
theorem row_on {b G : Nat} {wr w' : World} {v : Value} {acc : List Dt} (h : DRow (G + 1) wr v acc) (p : Pt b wr w') (hb : b < G) : DRow (G + 1) w' v acc := h.keep (fun k k1 k2 => p.block k k2 (by omega))
/-- Behind an append onto a row of one's own. -/
theorem Zb.grown {b : Nat} {s : ByteArray} {w : World} {G q q3 : Nat} {V w3 w5 : World} {v : Value} {acc : List Dt} {o1 : Obj} (h : Zb b s w G q V) (hr : DRow (G + 1) V v acc) (p : Pt b V w3) (r : Zr b s q3 w3) (hg : (w3.alloc o1).grownBy w5 v.ownBlock) : Zb b s w G q3 w5 := by
  have z := h.z
  have hl := h.lt
  have hp := p.size
  have hB : Below w3.heap.size w3 (w3.alloc o1) := (Below.refl _ w3).alloc (Nat.le_refl _) _
  have hs := hB.size
  have hown : ∀ k, v.ownBlock = some k → G + 1 ≤ k := fun k hk => by
    obtain ⟨xs, o1, _⟩ := hr
    exact (World.ownsRow.lt o1 k hk).1
  have hk : ∀ k, k < G + 1 → w5.heap[k]? = w3.heap[k]? := fun k k1 => (hg.block k (by omega) (fun e => by have := hown k e.symm; omega)).trans (hB.block k (by omega))
  refine ⟨⟨r.1, (hk b (by omega)).trans r.2⟩, ((h.pt.trans_ p).trans_ (Pt.ofB hB)).grown hg (fun k e1 e2 => by have := hown k e1; omega), ?_, z⟩
  exact (hk G (by omega)).trans (h.g.part p (fun e => by omega))
theorem Zg.grown {b : Nat} {s : ByteArray} {w : World} {G q : Nat} {R : Rs Dt} {V w3 w5 : World} {v : Value} {acc : List Dt} {o1 : Obj} {k j : Nat} (h : Zb b s w G q V) (hr : DRow (G + 1) V v acc) (p : Pt b V w3) (hR : R = .bad k j) (r : Zf b s k j w3) (hg : (w3.alloc o1).grownBy w5 v.ownBlock) : Zg b s w G R w5 := by
  have z := h.z
  have hl := h.lt
  have hp := p.size
  have hB : Below w3.heap.size w3 (w3.alloc o1) := (Below.refl _ w3).alloc (Nat.le_refl _) _
  have hs := hB.size
  have hown : ∀ k, v.ownBlock = some k → G + 1 ≤ k := fun k hk => by
    obtain ⟨xs, o1, _⟩ := hr
    exact (World.ownsRow.lt o1 k hk).1
  have hk : ∀ k, k < G + 1 → w5.heap[k]? = w3.heap[k]? := fun k k1 => (hg.block k (by omega) (fun e => by have := hown k e.symm; omega)).trans (hB.block k (by omega))
  obtain ⟨r1, p0, r2, r3, r4⟩ := r
  refine ⟨k, j, hR, ⟨r1, p0, r2, r3, (hk b (by omega)).trans r4⟩, ((h.pt.trans_ p).trans_ (Pt.ofB hB)).grown hg (fun k e1 e2 => by have := hown k e1; omega), ?_⟩
  exact (hk G (by omega)).trans (h.g.part p (fun e => by omega))
theorem dot_piece {s : ByteArray} {q : Nat} {c : UInt8} {r : List UInt8} (h : rst s q = c :: r) : ((s.extract q (q + pcL (rst s q))).toList == [46]) = decide (c = 46 ∧ pcL (c :: r) = 1) := by
  have hl : (s.extract q (q + pcL (rst s q))).toList = (rst s q).take (pcL (rst s q)) := by
    rw [list_eq, ext_list]; congr 1; omega
  rw [hl, h, Bool.eq_iff_iff, beq_iff_eq, decide_eq_true_iff]
  constructor
  · intro e
    have h1 := congrArg List.length e
    have h2 := pcL_le (c :: r)
    rw [List.length_take] at h1
    simp only [List.length_cons, List.length_nil] at h1 h2
    have h3 : pcL (c :: r) = 1 := by omega
    rw [h3] at e
    simp at e
    exact ⟨e, h3⟩
  · rintro ⟨rfl, h3⟩
    rw [h3]; rfl
theorem atL_dot : atL [46] = .bad 100 := by
  unfold atL
  rw [if_neg (by simp), if_neg (fun h => by have h1 := h.2.2.1; rw [list_eq] at h1; exact absurd h1 (by decide)), if_neg (fun h => by have := h.2 46 (by decide); revert this; decide)]
/-- A dot by itself is no datum. -/
theorem rdD_dot {n : Nat} {l r : List UInt8} {c : UInt8} (h : skB false l = c :: r) (hc : c = 46) (h1 : pcL (c :: r) = 1) : rdD n l = .bad (r.length + 1) 100 := by
  subst hc
  rw [rdD_pcR h (by decide) rfl]
  refine pcR_bad ?_
  rw [h1]
  exact atL_dot
end Go.Proofs.YtfobiknbjijphaaDoor
