/-
  The program's reader: vectors, given that data are read; what stands in a list's loop.
  The program's reader: vectors.
-/
import Derived.Test.YtfobiknbjijphaaDoorGat
namespace Go.Proofs.YtfobiknbjijphaaDoor
open Go.RowKit
set_option linter.unusedVariables false
set_option linter.unusedSimpArgs false

theorem itL_end {rd : List UInt8 → Rs Dt} {vec : Bool} {f : Nat} {acc : List Dt} {l : List UInt8} (h : skB false l = []) : itL rd vec (f + 1) acc l = .bad 0 100 := by simp only [itL, h]
theorem itL_close {rd : List UInt8 → Rs Dt} {vec : Bool} {f : Nat} {acc : List Dt} {l r : List UInt8} (h : skB false l = 41 :: r) : itL rd vec (f + 1) acc l = .ok (.node (if vec then 6 else 5) ⟨#[]⟩ acc []) r := by simp only [itL, h, if_true]
theorem itL_dot {rd : List UInt8 → Rs Dt} {f : Nat} {acc : List Dt} {l r : List UInt8} {c : UInt8} (h : skB false l = c :: r) (h1 : c ≠ 41) (h2 : acc ≠ []) (h3 : c = 46) (h4 : pcL (c :: r) = 1) : itL rd false (f + 1) acc l = dotR acc (rd r) := by
  have h5 : True ∧ acc ≠ [] ∧ c = 46 ∧ pcL (c :: r) = 1 := ⟨trivial, h2, h3, h4⟩
  simp only [itL, h]
  rw [if_neg h1, if_pos h5]
  rfl
def thenI (f : Dt → List UInt8 → Rs Dt) (R : Rs Dt) : Rs Dt := match R with | .bad k m => .bad k m | .ok x r => f x r
theorem itL_item {rd : List UInt8 → Rs Dt} {vec : Bool} {f : Nat} {acc : List Dt} {l r : List UInt8} {c : UInt8} (h : skB false l = c :: r) (h1 : c ≠ 41) (h2 : ¬ (vec = false ∧ acc ≠ [] ∧ c = 46 ∧ pcL (c :: r) = 1)) : itL rd vec (f + 1) acc l = thenI (fun x r2 => itL rd vec f (acc ++ [x]) r2) (rd (c :: r)) := by
  simp only [itL, h]
  rw [if_neg h1, if_neg h2]
  rfl
/-- What is left to be read, at a place. -/
def Std (rd : List UInt8 → Rs Dt) (vec : Bool) (R : Rs Dt) (acc : List Dt) (l : List UInt8) : Prop := ∃ f, l.length < f ∧ R = itL rd vec f acc l
theorem Std.stop {rd : List UInt8 → Rs Dt} {vec : Bool} {R : Rs Dt} {acc : List Dt} {l : List UInt8} (h : Std rd vec R acc l) (e : skB false l = []) : R = .bad 0 100 := by
  obtain ⟨f, h1, h2⟩ := h
  cases f with
  | zero => omega
  | succ f => rw [h2, itL_end e]
theorem Std.close {rd : List UInt8 → Rs Dt} {vec : Bool} {R : Rs Dt} {acc : List Dt} {l r : List UInt8} (h : Std rd vec R acc l) (e : skB false l = 41 :: r) : R = .ok (.node (if vec then 6 else 5) ⟨#[]⟩ acc []) r := by
  obtain ⟨f, h1, h2⟩ := h
  cases f with
  | zero => omega
  | succ f => rw [h2, itL_close e]
theorem Std.dot {rd : List UInt8 → Rs Dt} {R : Rs Dt} {acc : List Dt} {l r : List UInt8} {c : UInt8} (h : Std rd false R acc l) (e : skB false l = c :: r) (h1 : c ≠ 41) (h2 : acc ≠ []) (h3 : c = 46) (h4 : pcL (c :: r) = 1) : R = dotR acc (rd r) := by
  obtain ⟨f, g1, g2⟩ := h
  cases f with
  | zero => omega
  | succ f => rw [g2, itL_dot e h1 h2 h3 h4]
theorem Std.item {rd : List UInt8 → Rs Dt} {vec : Bool} {R : Rs Dt} {acc : List Dt} {l r : List UInt8} {c : UInt8} (hg : Gets rd) (h : Std rd vec R acc l) (e : skB false l = c :: r) (h1 : c ≠ 41) (h2 : ¬ (vec = false ∧ acc ≠ [] ∧ c = 46 ∧ pcL (c :: r) = 1)) :
    (∀ k m, rd (c :: r) = .bad k m → R = .bad k m) ∧ (∀ x r2, rd (c :: r) = .ok x r2 → Std rd vec R (acc ++ [x]) r2) := by
  obtain ⟨f, g1, g2⟩ := h
  cases f with
  | zero => omega
  | succ f =>
    rw [itL_item e h1 h2] at g2
    refine ⟨fun k m he => by rw [g2, he]; rfl, fun x r2 he => ⟨f, ?_, by rw [g2, he]; rfl⟩⟩
    have := (hg _ _ _ he).2.1
    have hs := skB_len false l
    rw [e] at hs
    omega
/-- Where a list's loop stands. -/
structure Lp (b : Nat) (s : ByteArray) (o : Nat) (w : World) (G D : Nat) (kd : Int) (q : Nat) (acc : List Dt) (a : Option Addr) (c : Nat) (wr : World) : Prop where
  rr : Rr b s q o wr
  pt : Pt b w wr
  g : D4 wr G (.int .i64 0) (.string ⟨#[]⟩) (.slice none 0 0) (.slice none 0 0)
  d : D4 wr D (.int .i64 kd) (.string ⟨#[]⟩) (.slice a acc.length c) (.slice none 0 0)
  row : DRow (D + 1) wr (.slice a acc.length c) acc
  le : acc.length ≤ q
  z : w.heap.size ≤ G ∧ b < G ∧ G < D
theorem Lp.on {b : Nat} {s : ByteArray} {o : Nat} {w : World} {G D : Nat} {kd : Int} {q : Nat} {acc : List Dt} {a : Option Addr} {c : Nat} {wr w' : World} (h : Lp b s o w G D kd q acc a c wr) {q2 : Nat} (r : Rr b s q2 o w') (p : Pt b wr w') (hq : q ≤ q2) : Lp b s o w G D kd q2 acc a c w' := by
  have z := h.z
  have hd := (Array.getElem?_eq_some_iff.1 h.d).1
  exact ⟨r, h.pt.trans_ p, h.g.part p (fun e => by omega), h.d.part p (fun e => by omega), h.row.keep (fun k k1 k2 => p.block k k2 (by omega)), Nat.le_trans h.le hq, z⟩
theorem Lp.under {b : Nat} {s : ByteArray} {o : Nat} {w : World} {G D : Nat} {kd : Int} {q : Nat} {acc : List Dt} {a : Option Addr} {c : Nat} {wr w' : World} (h : Lp b s o w G D kd q acc a c wr) (p : Below wr.heap.size wr w') : Lp b s o w G D kd q acc a c w' := h.on (h.rr.under p) (Pt.ofB p) (Nat.le_refl _)
/-- A datum was read: it can be appended. -/
theorem Lp.ready {b : Nat} {s : ByteArray} {o : Nat} {w : World} {G D : Nat} {kd : Int} {q : Nat} {acc : List Dt} {a : Option Addr} {c : Nat} {V w3 : World} {x : Dt} {v0 v1 v2 v3 : Value} (h : Lp b s o w G D kd q acc a c V) (p : Pt b V w3) (ds : DS V.heap.size none w3 x (.agg #[v0, v1, v2, v3])) :
    DRow (D + 1) (w3.alloc (.cells #[v0, v1, v2, v3] 34)) (.slice a acc.length c) acc ∧ SS (D + 1) (Value.slice a acc.length c).ownBlock (w3.alloc (.cells #[v0, v1, v2, v3] 34)) [x] (.slice (some ⟨w3.heap.size, 0, none⟩) 1 1) ∧ D + 1 ≤ (w3.alloc (.cells #[v0, v1, v2, v3] 34)).heap.size := by
  have z := h.z
  have hd := (Array.getElem?_eq_some_iff.1 h.d).1
  have hp := p.size
  obtain ⟨W, hW⟩ : ∃ W, w3.alloc (.cells #[v0, v1, v2, v3] 34) = W := ⟨_, rfl⟩
  have hb : Below w3.heap.size w3 W := by rw [← hW]; exact (Below.refl _ w3).alloc (Nat.le_refl _) _
  have hT : W.heap[w3.heap.size]? = some (.cells #[v0, v1, v2, v3] 34 (0, 0)) := by rw [← hW]; exact heap_alloc_at _ _ _ rfl
  rw [hW]
  have hown : ∀ g, (Value.slice a acc.length c).ownBlock = some g → g < V.heap.size := fun g hg => by
    obtain ⟨xs, o1, _⟩ := h.row
    exact (World.ownsRow.lt o1 g hg).2
  refine ⟨h.row.keep (fun k k1 k2 => (hb.block k (by omega)).trans (p.block k k2 (by omega))), ?_, by have := hb.size; omega⟩
  have h1 : DS V.heap.size (Value.slice a acc.length c).ownBlock w3 x (.agg #[v0, v1, v2, v3]) := ds.nx fun k k1 k2 k3 => ⟨rfl, k1, fun e => by have := hown k e.symm; omega⟩
  have h2 := h1.nx (lo' := D + 1) (x' := (Value.slice a acc.length c).ownBlock) (w' := w3) fun k k1 k2 k3 => ⟨rfl, by omega, k2⟩
  exact SS.one h2 hT (by omega) (fun e => by have := hown _ e.symm; omega) (fun k k1 k2 => hb.block k k2)
/-- It was appended. -/
theorem Lp.push {b : Nat} {s : ByteArray} {o : Nat} {w : World} {G D : Nat} {kd : Int} {q q3 : Nat} {acc : List Dt} {a a' : Option Addr} {c c' : Nat} {V w3 w5 : World} {x : Dt} {v0 v1 v2 v3 : Value} (h : Lp b s o w G D kd q acc a c V) (p : Pt b V w3) (r : Rr b s q3 o w3) (hq : q < q3)
    (hr : DRow (D + 1) w5 (.slice a' (acc.length + [x].length) c') (acc ++ [x])) (hg : (w3.alloc (.cells #[v0, v1, v2, v3] 34)).grownBy w5 (Value.slice a acc.length c).ownBlock) :
    C4 w5 D (.int .i64 kd) (.string ⟨#[]⟩) (.slice a acc.length c) (.slice none 0 0) ∧ Lp b s o w G D kd q3 (acc ++ [x]) a' c' (w5.setCell ⟨D, 2, none⟩ (.slice a' (acc.length + 1) c')) := by
  have z := h.z
  have hd := (Array.getElem?_eq_some_iff.1 h.d).1
  have hp := p.size
  obtain ⟨W, hW⟩ : ∃ W, w3.alloc (.cells #[v0, v1, v2, v3] 34) = W := ⟨_, rfl⟩
  have hb : Below w3.heap.size w3 W := by rw [← hW]; exact (Below.refl _ w3).alloc (Nat.le_refl _) _
  rw [hW] at hg
  have hown : ∀ g, (Value.slice a acc.length c).ownBlock = some g → D + 1 ≤ g ∧ g < V.heap.size := fun g hg => by
    obtain ⟨xs, o1, _⟩ := h.row
    exact World.ownsRow.lt o1 g hg
  have hs := hb.size
  have hk : ∀ k, k < w3.heap.size → some k ≠ (Value.slice a acc.length c).ownBlock → w5.heap[k]? = w3.heap[k]? := fun k k1 k2 => (hg.block k (by omega) k2).trans (hb.block k k1)
  have hD : D4 w5 D (.int .i64 kd) (.string ⟨#[]⟩) (.slice a acc.length c) (.slice none 0 0) := (hk D (by omega) (fun e => by have := hown D e.symm; omega)).trans (h.d.part p (fun e => by omega))
  have hG : D4 w5 G (.int .i64 0) (.string ⟨#[]⟩) (.slice none 0 0) (.slice none 0 0) := (hk G (by omega) (fun e => by have := hown G e.symm; omega)).trans (h.g.part p (fun e => by omega))
  have hp5 : Pt b w w5 := ((h.pt.trans_ p).trans_ (Pt.ofB hb)).grown hg (fun k e1 e2 => by have := hown k e1; omega)
  have hr5 : Rr b s q3 o w5 := by
    obtain ⟨r0, x1, y1, e⟩ := r
    exact ⟨r0, x1, y1, (hk b (Array.getElem?_eq_some_iff.1 e).1 (fun e => by have := hown b e.symm; omega)).trans e⟩
  refine ⟨hD.c4, ⟨?_, ?_, ?_, ?_, ?_, ?_, z⟩⟩
  · obtain ⟨r0, x1, y1, e⟩ := hr5
    exact ⟨r0, x1, y1, (heap_set_other w5 (show b ≠ D by omega) 2 _).trans e⟩
  · exact hp5.setCell (fun e => by have : D < w.heap.size := e; omega) _
  · exact (heap_set_other w5 (show G ≠ D by omega) 2 _).trans hG
  · rw [List.length_append]
    exact heap_set_at hD _
  · rw [List.length_append]
    exact hr.keep (fun k k1 k2 => heap_set_other w5 (show k ≠ D by omega) 2 _)
  · rw [List.length_append]
    have := h.le
    simp; omega
/-- At the end. -/
theorem Lp.fin {b : Nat} {s : ByteArray} {o : Nat} {w : World} {G D : Nat} {kd : Int} {q : Nat} {acc : List Dt} {a : Option Addr} {c : Nat} {wr : World} {R : Rs Dt} (h : Lp b s o w G D kd q acc a c wr) (hR : R = .ok (.node kd ⟨#[]⟩ acc []) (rst s q)) :
    D4 (set4 wr G (.int .i64 kd) (.string ⟨#[]⟩) (.slice a acc.length c) (.slice none 0 0)) G (.int .i64 kd) (.string ⟨#[]⟩) (.slice a acc.length c) (.slice none 0 0) ∧
    RdO b s o w R (.returned (.agg #[.int .i64 kd, .string ⟨#[]⟩, .slice a acc.length c, .slice none 0 0])) (set4 wr G (.int .i64 kd) (.string ⟨#[]⟩) (.slice a acc.length c) (.slice none 0 0)) := by
  have z := h.z
  refine ⟨h.g.set _ _ _ _, .inl ⟨.node kd ⟨#[]⟩ acc [], a, c, none, 0, q, rfl, hid ⟨hR, h.rr.part (set4_part wr G _ _ _ _) (fun e => by omega), Pt.set4_ h.pt z.1 _ _ _ _, ?_⟩⟩⟩
  have r1 := h.row.keep (w' := set4 wr G (.int .i64 kd) (.string ⟨#[]⟩) (.slice a acc.length c) (.slice none 0 0)) (fun k k1 k2 => set4_other wr (show k ≠ G by omega) _ _ _ _)
  exact ds_keep (DS.node r1.ss (SS.nil _ _ _ _ _ (by decide)) kd ⟨#[]⟩ (by decide)) (fun _ _ _ => rfl) (by omega)
end Go.Proofs.YtfobiknbjijphaaDoor

namespace Go.Proofs.YtfobiknbjijphaaDoor
open Go.RowKit
set_option linter.unusedVariables false
set_option linter.unusedSimpArgs false

set_option maxHeartbeats 8000000 in
theorem rd_vector {n b : Nat} {s : ByteArray} {p o : Nat} {w : World} (hRD : RD n) (h : Rr b s p o w) (hn : o + n = 64) (F : Nat) (hF : (rst s p).length < F) :
    Calls Tryd.prog 49 #[.pointer (some ⟨b, 0, none⟩)] w fun e w' => RdO b s o w (itL (rdD n) true F [] (rst s p)) e w' := by
  obtain ⟨G, hG⟩ : ∃ G, w.heap.size = G := ⟨_, rfl⟩
  obtain ⟨W1, hW⟩ : ∃ W1, w.alloc (.cells #[.int .i64 0, .string ⟨#[]⟩, .slice none 0 0, .slice none 0 0] 34) = W1 := ⟨_, rfl⟩
  obtain ⟨D, hD⟩ : ∃ D, W1.heap.size = D := ⟨_, rfl⟩
  obtain ⟨W2, hW2⟩ : ∃ W2, W1.alloc (.cells #[.int .i64 6, .string ⟨#[]⟩, .slice none 0 0, .slice none 0 0] 34) = W2 := ⟨_, rfl⟩
  have hB1 : Below w.heap.size w W1 := by rw [← hW]; exact (Below.refl _ w).alloc (Nat.le_refl _) _
  have hB2 : Below W1.heap.size W1 W2 := by rw [← hW2]; exact (Below.refl _ W1).alloc (Nat.le_refl _) _
  have d1 : D4 W1 G (.int .i64 0) (.string ⟨#[]⟩) (.slice none 0 0) (.slice none 0 0) := by rw [← hW]; exact heap_alloc_at _ _ _ hG.symm
  have d2 : D4 W2 D (.int .i64 6) (.string ⟨#[]⟩) (.slice none 0 0) (.slice none 0 0) := by rw [← hW2]; exact heap_alloc_at _ _ _ hD.symm
  have hbG : b < G := by rw [← hG]; exact h.lt
  have hGD : G < D := by
    have := (Array.getElem?_eq_some_iff.1 d1).1
    omega
  obtain ⟨R, hR⟩ : ∃ R, itL (rdD n) true F [] (rst s p) = R := ⟨_, rfl⟩
  have H0 : Hid (Lp b s o w G D 6 p [] none 0 W2 ∧ Std (rdD n) true R [] (rst s p)) := hid ⟨⟨(h.under hB1).under hB2, (Pt.ofB hB1).trans_ (Pt.ofB hB2), d1.under hB2, d2, DRow.nil _ _, Nat.zero_le _, by omega, hbG, hGD⟩, F, hF, hR.symm⟩
  have HRD := hid hRD
  have hn2 := hid hn
  have HW2 := hid hW2
  have hsz := h.1.2.1
  have HS := hid hsz
  rw [hR]
  clear hF h hRD hB1 hB2 d1 d2 hbG hGD hR hn hW2 hsz
  go_enter Tryd.func49, Tryd.ntmps49
  go_wp2
  try rw [hW]
  try rw [hG]
  try rw [HW2.out]
  go_loopw [] (fun wr => ∃ q acc a c, Hid (Lp b s o w G D 6 q acc a c wr ∧ Std (rdD n) true R acc (rst s q))) (fun wr => s.size - posOf b wr)
  case atStart => exact ⟨p, [], none, 0, H0⟩
  case round =>
    clear H0 HW2 hW
    obtain ⟨q, acc, a, c, HQ⟩ := hrel
    have hq0 := hid HQ.out.1.rr.pos
    have HC := hid (rd_closed HQ.out.1.rr)
    go_wp2_with fail
    refine HC.out.mono ?_
    clear HC
    rintro e w1 (⟨q2, rfl, HX⟩ | ⟨q2, rfl, HX⟩ | ⟨⟨v, rfl⟩, HX⟩)
    · have hqq : q ≤ q2 := by
        have h1 := skB_len false (rst s q)
        rw [HX.out.1] at h1
        simp only [List.length_cons, rst_len] at h1
        have h2 := HX.out.2.1.1.1
        omega
      have HL := hid (HQ.out.1.on HX.out.2.1 HX.out.2.2 hqq)
      have HRR : Hid (R = .ok (.node 6 ⟨#[]⟩ acc []) (rst s q2)) := hid (HQ.out.2.close HX.out.1)
      obtain ⟨e0, e1, e2, e3, -, -, -, -⟩ := HL.out.d.c4
      obtain ⟨i0, i1, i2, i3, f0, f1, f2, f3⟩ := HL.out.g.c4
      clear HX HQ hq0 HRD HS hqq
      go_wp2
      obtain ⟨k1, k2⟩ := HL.out.fin HRR.out
      exact bodyPost_ret (v := .agg #[.int .i64 6, .string ⟨#[]⟩, .slice a acc.length c, .slice none 0 0]) (res4 k1 Tryd.results49 rfl) rfl k2
    · obtain ⟨hx0, ⟨hx1, hx2⟩, hx3, hx4⟩ := HX.out
      have hqq : q ≤ q2 := by
        have h1 := skB_len false (rst s q)
        rw [hx0] at h1
        simp only [rst_len] at h1
        omega
      have hcons : rst s q2 = s[q2] :: rst s (q2 + 1) := rst_cons hx1
      have hst := HQ.out.2.item (rdD_gets n) (by rw [hx0]; exact hcons) hx2 (by simp)
      rw [← hcons] at hst
      have HL0 := hid (HQ.out.1.on hx3 hx4 hqq)
      have HL1 : Hid (∀ k, Lp b s o w G D 6 q2 acc a c (w1.drewN k)) := hid fun k => HL0.out.under (blw_drewN k (Below.refl _ _))
      have HC : Hid (∀ k, Calls Tryd.prog 30 #[.pointer (some ⟨b, 0, none⟩)] (w1.drewN k) fun e w' => RdO b s o (w1.drewN k) (rdD n (rst s q2)) e w') := hid fun k => HRD.out b s q2 o _ (HL1.out k).rr hn2.out
      have HPn : Hid (∀ k w3 v, Hid (∃ k' m, rdD n (rst s q2) = .bad k' m ∧ k' ≤ s.size ∧ Flt b s k' m w3 ∧ Pt b (w1.drewN k) w3) → RdO b s o w R (.panicked [{ v := .iface 44 v, recovered := false }]) w3) := hid fun k w3 v hh => by
        obtain ⟨k', m, g1, g2, g3, g4⟩ := hh.out
        exact .inr ⟨⟨v, rfl⟩, hid ⟨k', m, hst.1 k' m g1, g2, g3, (HL1.out k).pt.trans_ g4⟩⟩
      have HDc : Hid (∀ k w3, Pt b (w1.drewN k) w3 → C4 w3 D (.int .i64 6) (.string ⟨#[]⟩) (.slice a acc.length c) (.slice none 0 0) ∧ D < w3.heap.size) := hid fun k w3 hp => by
        have hd := (HL1.out k).d.part hp (fun e => by have := HL0.out.z; omega)
        exact ⟨hd.c4, (Array.getElem?_eq_some_iff.1 hd).1⟩
      have HNx : Hid (∀ d q3 V, rdD n (rst s q2) = .ok d (rst s q3) → Rr b s q3 o V → q2 < q3 ∧ Std (rdD n) true R (acc ++ [d]) (rst s q3)) := hid fun d q3 V e r => by
        have h1 := (rdD_gets n _ _ _ e).2.1
        rw [rst_len, rst_len] at h1
        exact ⟨by omega, hst.2 _ _ e⟩
      have HLe : Hid (∀ d : Dt, acc.length + [d].length ≤ 1099511627776) := hid fun d => by
        have h1 := HL0.out.le
        have h2 := HS.out
        simp
        omega
      have hms : Hid (q ≤ q2 ∧ q2 < s.size) := hid ⟨hqq, hx1⟩
      obtain ⟨e0, e1, e2, e3, -, -, -, -⟩ := HL0.out.d.c4
      clear hst hcons hx0 hx1 hx2 hx3 hx4 hqq HX HRD HQ HS
      go_wp2_with fail
      go_region_law (first | (go_simp; go_at_call 30; refine (HC.out _).mono ?_; rintro e w3 (⟨d, a3, c3, a4, c4, q3, rfl, HR⟩ | ⟨⟨v, rfl⟩, HR⟩); rotate_left; (exact ⟨rfl, HPn.out _ _ v HR⟩); obtain ⟨⟨e0, e1, e2, e3, f0, f1, f2, f3⟩, n5⟩ := HDc.out _ w3 HR.out.2.2.1; have HM2 := hid (HNx.out _ _ _ HR.out.1 HR.out.2.1); have HM := hid ((HL1.out _).ready HR.out.2.2.1 HR.out.2.2.2); obtain ⟨G3, hG3⟩ : ∃ G3, w3.heap.size = G3 := ⟨_, rfl⟩; have n6 : D < G3 := (by omega); rw [hG3] at HM) | (refine step_push rfl _ _ rfl (D + 1) (.slice a acc.length c) (.slice (some ⟨G3, 0, none⟩) 1 1) acc [d] (by go_simp) (by go_simp) (by exact HM.out.1) (by exact HM.out.2.1) (by exact HLe.out d) (by exact HM.out.2.2) ?_; intro a' c' w5 hr5 hg5; obtain ⟨⟨e0, e1, e2, e3, f0, f1, f2, f3⟩, HN2⟩ := (HL1.out _).push HR.out.2.2.1 HR.out.2.1 HM2.out.1 hr5 hg5; have HN3 := hid HN2; clear HN2))
      all_goals
        have HN4 := hid (show Lp b s o w G D 6 q3 (acc ++ [d]) a' c' (w5.setCell ⟨D, 2, none⟩ (.slice a' (acc.length + 1) c')) ∧ Std (rdD n) true R (acc ++ [d]) (rst s q3) from ⟨HN3.out, HM2.out.2⟩)
        have HN5 : Hid (q < q3) := hid (by have := HM2.out.1; have := hms.out; omega)
        clear HN3 HM2 HM HR HPn HDc HNx HLe HC HL1 HL0
        go_wp2
        go_roundw
        case rel => exact ⟨q3, acc ++ [d], a', c', HN4⟩
        case measure =>
          have h1 := HN4.out.1.rr.pos
          have h2 := HN5.out
          have h3 := hq0.out
          have h4 := hms.out
          rw [h1, h3]
          omega
    · have HF : Hid (RdO b s o w R (.panicked [{ v := .iface 44 v, recovered := false }]) w1) := hid (.inr ⟨⟨v, rfl⟩, hid ⟨0, 100, HQ.out.2.stop HX.out.1, Nat.zero_le _, HX.out.2.1, HQ.out.1.pt.trans_ HX.out.2.2⟩⟩)
      clear HX HQ hq0 HRD HS
      go_wp2
      refine ⟨rfl, ?_⟩
      exact HF.out
end Go.Proofs.YtfobiknbjijphaaDoor
