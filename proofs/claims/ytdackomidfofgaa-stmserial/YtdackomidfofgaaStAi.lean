/-
  StmSerial: the row of what is seen (Rw), the calls that are handed in (Dos), the state at the head of the law's loop (Lp).
-/
import Derived.Test.YtdackomidfofgaaStAh
namespace Go.Proofs.Ytdackomidfofgaa
open Go.RowKit Go.Maps
set_option linter.unusedVariables false
set_option maxRecDepth 100000
set_option maxHeartbeats 1000000

def ptr (b : Nat) : Value := .pointer (some ⟨b, 0, none⟩)
/-- A row of pointers, its own. -/
def Rw (w : World) (B : Nat) (v : Value) (bs : List Nat) : Prop := w.ownsRow B 36 1 v bs.length (bs.map ptr)
theorem Rw.part {F : Nat → Prop} {w w' : World} {B : Nat} {v : Value} {bs : List Nat} (h : Rw w B v bs) (p : Part F w w') (hF : ∀ b cs t z, F b → w.heap[b]? = some (.cells cs t z) → t ≠ 36) : Rw w' B v bs := p.row h (fun q hq hf => by
  obtain ⟨cur, hc, _⟩ := row_ty h hq
  exact hF q cur _ _ hf hc rfl)
theorem Rw.below {w w' : World} {B : Nat} {v : Value} {bs : List Nat} (h : Rw w B v bs) (hb : Below w.heap.size w w') : Rw w' B v bs := h.part (F := fun _ => False) (.ofBelow hb) (fun _ _ _ _ h => h.elim)
theorem Rw.turn {w w' : World} {B q : Nat} {v : Value} {bs : List Nat} (h : Rw w B v bs) (p : Part (fun b => b = q) w w') (hm : ∃ es c, w.heap[q]? = some (.map es c)) : Rw w' B v bs := h.part p (fun b cs t z hb hc => by
  obtain ⟨es, c, hm⟩ := hm
  exact absurd hb (map_not hm hc))
theorem Rw.slice {w : World} {B : Nat} {v : Value} {bs : List Nat} (h : Rw w B v bs) : ∃ a c, v = .slice a bs.length c := row_slice h
theorem Rw.at {w : World} {B : Nat} {v : Value} {bs : List Nat} (h : Rw w B v bs) {j b : Nat} (hj : bs[j]? = some b) : ∃ g cap, v = .slice (some ⟨g, 0, none⟩) bs.length cap ∧ w.cell? ⟨g, j, none⟩ = some (ptr b) := by
  have hlt : j < bs.length := (List.getElem?_eq_some_iff.1 hj).1
  rcases h.2 with ⟨h1, h2⟩ | ⟨g, cap, cur, h1, _, h2, _, _, h3, h4⟩
  · omega
  · refine ⟨g, cap, h1, ?_⟩
    rw [cells_at h2, ← Array.getElem?_toList]
    have h7 : (cur.toList.take (bs.length * 1))[j]? = cur.toList[j]? := List.getElem?_take_of_lt (by omega)
    rw [← h7, h4, List.getElem?_map, hj]
    rfl
/-- A call that is handed in. -/
structure DoA (w : World) (b off : Nat) (p q : Int) (s : ByteArray) (a : Option Addr) (l c : Nat) (f : Nat → Int) : Prop where
  c0 : w.cell? ⟨b, off, none⟩ = some (.int .i64 p)
  c1 : w.cell? ⟨b, off + 1, none⟩ = some (.int .i64 q)
  c2 : w.cell? ⟨b, off + 2, none⟩ = some (.string s)
  c3 : w.cell? ⟨b, off + 3, none⟩ = some (.slice a l c)
  fb : From w a l f
  nb : l ≤ 140737488355328
theorem DoA.below {w w' : World} {b off : Nat} {p q : Int} {s : ByteArray} {a : Option Addr} {l c : Nat} {f : Nat → Int} (h : DoA w b off p q s a l c f) (hb : Below w.heap.size w w') : DoA w' b off p q s a l c f := by
  have key : ∀ p v, w.cell? p = some v → w'.cell? p = some v := fun p v hp => by
    rw [hb.cell (p := p) (World.block_lt_of_cell? w _ hp)]; exact hp
  exact ⟨key _ _ h.c0, key _ _ h.c1, key _ _ h.c2, key _ _ h.c3, h.fb.below hb (Nat.le_refl _), h.nb⟩
def Dos (w : World) (a0 : Option Addr) (N : Nat) : Prop := ∀ r, r < N → ∃ b off, a0 = some ⟨b, off, none⟩ ∧ ∃ p q s a l c f, DoA w b (off + r * 4) p q s a l c f
/-- The state at the head of the loop. -/
structure Lp (w0 w : World) (i sp mb lb : Nat) (v : Value) (bs : List Nat) : Prop where
  ex : ∃ S Xs m lf, S.sp = sp ∧ Xs.map Xm.sn = bs.reverse ∧ Ser w0 w (2 * i) S Xs mb (i * 400) m m lb (i * 200000) lf
  row : Rw w w0.heap.size v bs
theorem Ser.lek {w0 w : World} {n : Nat} {S : Sm} {Xs : List Xm} {mb kk kk' : Nat} {mm m : Bf} {lb ll ll' : Nat} {lf : Lf} (h : Ser w0 w n S Xs mb kk mm m lb ll lf) (hk : kk ≤ kk') (hl : ll ≤ ll') : Ser w0 w n S Xs mb kk' mm m lb ll' lf :=
  ⟨h.sys, h.mod.le hk, h.las.le hl, h.syt, h.lin, h.lnb, h.xce, h.xpu, h.nod, h.low, h.ck, h.lsl, h.llk⟩
theorem Lp.below {w0 w w' : World} {i sp mb lb : Nat} {v : Value} {bs : List Nat} (h : Lp w0 w i sp mb lb v bs) (hb : Below w.heap.size w w') : Lp w0 w' i sp mb lb v bs := by
  obtain ⟨S, Xs, m, lf, e1, e2, hs⟩ := h.ex
  exact ⟨⟨S, Xs, m, lf, e1, e2, hs.below hb⟩, h.row.below hb⟩
theorem Lp.next {w0 w : World} {i sp mb lb : Nat} {v : Value} {bs : List Nat} (h : Lp w0 w i sp mb lb v bs) : Lp w0 w (i + 1) sp mb lb v bs := by
  obtain ⟨S, Xs, m, lf, e1, e2, hs⟩ := h.ex
  exact ⟨⟨S, Xs, m, lf, e1, e2, (hs.le (by omega)).lek (by omega) (by omega)⟩, h.row⟩
theorem Lp.B {w0 w : World} {i sp mb lb : Nat} {v : Value} {bs : List Nat} (h : Lp w0 w i sp mb lb v bs) : Below w0.heap.size w0 w := by
  obtain ⟨S, Xs, m, lf, e1, e2, hs⟩ := h.ex
  exact hs.sys.B
/-- bytesOf: what the slots have now. -/
theorem v_bytes {w0 w : World} {n : Nat} {S : Sm} {Xs : List Xm} {mb kk : Nat} {mm m : Bf} {lb ll : Nat} {lf : Lf} (h : Ser w0 w n S Xs mb kk mm m lb ll lf) (hn : n ≤ 300) :
    Calls Try.prog 9 #[.pointer (some ⟨S.sp, 0, none⟩)] w fun e w' => ∃ b, e = .returned (.map (some b)) ∧ Hid (∃ bg, (∀ k, bg k = m k) ∧ Bm w' S.slots.length b bg ∧ w.heap.size ≤ b ∧ Below w.heap.size w w') :=
  (l_bytes h.sys.spc (by have := h.lsl; omega) (fun x => (m (Es.ky x)).getD []) h.bs).mono fun e w' ⟨b, zs, ys, he, hh⟩ => ⟨b, he, by
    obtain ⟨h1, h2, h3, h4, h5⟩ := hh.out
    exact ⟨mzf zs, fun k => h.syt.bytes h.apS h1 h2 k, h3, h4, h5⟩⟩
/-- A transaction has begun, is noted, and stands in the row. -/
theorem v_noted {w0 w2 w4 w7 : World} {n : Nat} {S : Sm} {Xs : List Xm} {mb : Nat} {m : Bf} {lb : Nat} {lf : Lf} {t rd wr bb : Nat} {bg : Bf} {v v' : Value} {bs : List Nat} (h : Beg w0 w2 w2 (2 * n) S Xs mb (n * 400) m m lb (n * 200000) lf t rd wr) (hx : Xs.map Xm.sn = bs.reverse) (hR : Rw w2 w0.heap.size v bs)
    (hb4 : Below (w2.alloc (.map #[] 0)).heap.size (w2.alloc (.map #[] 0)) w4) (hg : ∀ k, bg k = m k) (hbb : Bm w4 S.slots.length bb bg) (hlb : (w2.alloc (.map #[] 0)).heap.size ≤ bb) (o : Obj)
    (ho : w7.ownsRow w0.heap.size 36 1 v' (bs.length + 1) (bs.map ptr ++ [ptr w4.heap.size])) (hg7 : ((w4.alloc (.cells #[.pointer (some ⟨t, 0, none⟩), .map (some w2.heap.size), .map (some bb)] 39)).alloc o).grownBy w7 v.ownBlock) :
    Lp w0 w7 (n + 1) S.sp mb lb v' (bs ++ [w4.heap.size]) := by
  have hb3 : Below w2.heap.size w2 (w2.alloc (.map #[] 0)) := (Below.refl _ w2).alloc (Nat.le_refl _) _
  have hb24 : Below w2.heap.size w2 w4 := hb3.trans (hb4.mono hb3.size)
  have hs3 : (w2.alloc (.map #[] 0)).heap.size = w2.heap.size + 1 := by simp
  have hb5 : Below w4.heap.size w4 (w4.alloc (.cells #[.pointer (some ⟨t, 0, none⟩), .map (some w2.heap.size), .map (some bb)] 39)) := (Below.refl _ w4).alloc (Nat.le_refl _) _
  have hb6 : Below w4.heap.size w4 ((w4.alloc (.cells #[.pointer (some ⟨t, 0, none⟩), .map (some w2.heap.size), .map (some bb)] 39)).alloc o) := hb5.alloc hb5.size o
  have hc : ((w4.alloc (.cells #[.pointer (some ⟨t, 0, none⟩), .map (some w2.heap.size), .map (some bb)] 39)).alloc o).heap[w4.heap.size]? = some (.cells #[.pointer (some ⟨t, 0, none⟩), .map (some w2.heap.size), .map (some bb)] 39 (0, 0)) := by
    have hn := World.alloc_heap_new w4 (.cells #[.pointer (some ⟨t, 0, none⟩), .map (some w2.heap.size), .map (some bb)] 39)
    exact (((Below.refl _ _).alloc (Nat.le_refl _) o : Below _ (w4.alloc (.cells #[.pointer (some ⟨t, 0, none⟩), .map (some w2.heap.size), .map (some bb)] 39)) _).block _ (Array.getElem?_eq_some_iff.1 hn).1).trans hn
  have hB := h.ser.sys.B.size
  have hS := (h.below (hb24.trans (hb6.mono hb24.size))).done (k := 0) hc (((Bm.made w2).below hb4).below hb6) (hbb.below hb6) hg (Nat.le_refl _) (by omega) (by omega) hB
  have hR6 := hR.below (hb24.trans (hb6.mono hb24.size))
  generalize ((w4.alloc (.cells #[.pointer (some ⟨t, 0, none⟩), .map (some w2.heap.size), .map (some bb)] 39)).alloc o) = w6 at *
  have hp : Part (fun b => v.ownBlock = some b) w6 w7 := (Part.refl _ w6).grown hg7 (fun k e _ => e)
  have hS7 := hS.keep hp (fun b hb => by
    obtain ⟨cur, h1, h2⟩ := row_ty hR6 hb
    exact ⟨h2, cur, _, _, h1, by decide, by decide, by decide, by decide⟩)
  refine ⟨⟨S, _, m, lf, rfl, ?_, (hS7.le (by omega)).lek (by omega) (by omega)⟩, ?_⟩
  · rw [List.map_cons, hx, List.reverse_append]
    rfl
  · unfold Rw
    rw [List.length_append, List.map_append]
    exact ho
theorem modW_ex (z : Int) (d : Nat) (hd : 0 < d) (hd2 : d ≤ 1000) : ∃ t : Nat, t < d ∧ IntKind.i64.wrap ((IntKind.u64.wrap z).tmod (d : Int)) = (t : Int) := by
  rw [IntKind.wrap_u64, IntKind.wrap_i64]
  refine ⟨(z % 18446744073709551616).toNat % d, Nat.mod_lt _ hd, ?_⟩
  have h0 : 0 ≤ z % 18446744073709551616 := Int.emod_nonneg _ (by omega)
  obtain ⟨y, hy⟩ := Int.eq_ofNat_of_zero_le h0
  rw [hy]
  have e : ((y : Int)).tmod (d : Int) = ((y % d : Nat) : Int) := by rw [Int.tmod_eq_emod_of_nonneg (by omega)]; omega
  rw [e]
  have : y % d < d := Nat.mod_lt _ hd
  simp only [Int.toNat_natCast]
  omega
end Go.Proofs.Ytdackomidfofgaa
