/-
  HeapChain: a list under the root through young collections.
-/
import Derived.Test.YtmpilcamnhlalaaDoorHpW
import Derived.Test.YtmpilcamnhlalaaDoorHpS
namespace Go.Proofs.YtmpilcamnhlalaaDoor
open Go.RowKit
set_option linter.unusedVariables false

/-- A word leads to a list of so many old pairs. -/
def OldLst (x : HV) : Option Nat → Nat → Prop
  | o, 0 => o = none
  | o, m + 1 => ∃ j o', o = some j ∧ j < x.no ∧ x.K j = 1 ∧ x.FL j = 2 ∧ x.FW j 0 = 2 * (m : Int) + 1 ∧ x.FW j 1 = kw o' ∧ OldLst x o' m
theorem OldLst.ext {x x' : HV} (hno : x.no ≤ x'.no) (h : ∀ j, j < x.no → x'.K j = x.K j ∧ x'.FL j = x.FL j ∧ ∀ q, x'.FW j q = x.FW j q) : ∀ {m : Nat} {o : Option Nat}, OldLst x o m → OldLst x' o m
  | 0, o, k => k
  | m + 1, o, ⟨j, o', h1, h2, h3, h4, h5, h6, h7⟩ => ⟨j, o', h1, by omega, by rw [(h j h2).1]; exact h3, by rw [(h j h2).2.1]; exact h4, by rw [(h j h2).2.2]; exact h5, by rw [(h j h2).2.2]; exact h6, OldLst.ext hno h h7⟩
theorem OldLst.lst {x : HV} : ∀ {m : Nat} {o : Option Nat}, OldLst x o m → Lst x o m
  | 0, o, k => k
  | m + 1, o, ⟨j, o', h1, h2, h3, h4, h5, h6, h7⟩ => ⟨j, o', h1, by omega, h3, h4, h5, h6, OldLst.lst h7⟩
/-- A list of m pairs under the root: the young ones ahead of the old ones. -/
structure GdAt (x : HV) (m t : Nat) (y : Nat → Nat) (oo : Option Nat) : Prop where
  c : Yc x t y oo
  v : ∀ s, s < t → x.FW (x.no + y s) 0 = 2 * ((m : Int) - 1 - (s : Int)) + 1
  o : OldLst x oo (m - t)
  tm : t ≤ m
  no : x.no = m - t
  oc : x.oc = 3 * x.no
theorem GdAt.lst {x : HV} {m t : Nat} {y : Nat → Nat} {oo : Option Nat} (h : GdAt x m t y oo) : Lst x x.r m := by
  have key : ∀ d s, s + d = t → Lst x (if s < t then some (x.no + y s) else oo) (m - s) := fun d => by
    induction d with
    | zero =>
      intro s hs
      rw [if_neg (by omega), show m - s = m - t by omega]
      exact h.o.lst
    | succ d ih =>
      intro s hs
      have tm := h.tm
      have ih2 := ih (s + 1) (by omega)
      rw [if_pos (by omega), show m - s = (m - (s + 1)) + 1 by omega]
      refine ⟨x.no + y s, _, rfl, by have := h.c.y1 s (by omega); omega, h.c.k s (by omega), h.c.fl s (by omega), ?_, h.c.f1 s (by omega), ih2⟩
      rw [h.v s (by omega)]
      omega
  have := key t 0 (by omega)
  rw [h.c.r]
  exact this
theorem GdAt.junk {x : HV} {m t : Nat} {y : Nat → Nat} {oo : Option Nat} (h : GdAt x m t y oo) (kd fb l : Nat) (f : Nat → Int) : GdAt (x.add kd fb l f) m t y oo := by
  have e : ∀ s, s < t → x.no + y s < x.no + x.ny := fun s hs => by have := h.c.y1 s hs; omega
  refine ⟨⟨fun s hs => by show y s < x.ny + 1; have := h.c.y1 s hs; omega, h.c.yi, fun s hs => (upd_old _ _ _ (e s hs)).trans (h.c.k s hs), fun s hs => (upd_old _ _ _ (e s hs)).trans (h.c.fl s hs), fun s hs => ?_, fun s hs => ?_, h.c.o1, h.c.r⟩, fun s hs => ?_, OldLst.ext (x := x) (x' := x.add kd fb l f) (Nat.le_refl _) (fun j hj => ⟨upd_old _ _ _ (by omega), upd_old _ _ _ (by omega), fun q => ?_⟩) h.o, h.tm, h.no, h.oc⟩
  · show ∃ a : Nat, _ ∧ upd x.FW _ _ (x.no + y s) 0 = _
    rw [upd_old _ _ _ (e s hs)]
    exact h.c.f0 s hs
  · show upd x.FW _ _ (x.no + y s) 1 = _
    rw [upd_old _ _ _ (e s hs)]
    exact h.c.f1 s hs
  · show upd x.FW _ _ (x.no + y s) 0 = _
    rw [upd_old _ _ _ (e s hs)]
    exact h.v s hs
  · show upd x.FW _ _ j q = _
    rw [upd_old _ _ _ (by omega)]
def ycons (n : Nat) (y : Nat → Nat) : Nat → Nat
  | 0 => n
  | s + 1 => y s
theorem GdAt.pair {x : HV} {m t : Nat} {y : Nat → Nat} {oo : Option Nat} (h : GdAt x m t y oo) (fb : Nat) (f : Nat → Int) (f0 : f 0 = 2 * (m : Int) + 1) (f1 : f 1 = kw x.r) (hm : m ≤ 1000000) : GdAt { (x.add 1 fb 2 f) with r := some (x.no + x.ny) } (m + 1) (t + 1) (ycons x.ny y) oo := by
  have hj := h.junk 1 fb 2 f
  have tm := h.tm
  refine ⟨⟨fun s hs => ?_, fun a b ha hb => ?_, fun s hs => ?_, fun s hs => ?_, fun s hs => ?_, fun s hs => ?_, h.c.o1, rfl⟩, fun s hs => ?_, ?_, by omega, ?_, h.oc⟩
  · cases s with
    | zero => show x.ny < x.ny + 1; omega
    | succ s => exact hj.c.y1 s (by omega)
  · cases a with
    | zero =>
      cases b with
      | zero => exact fun _ => rfl
      | succ b => intro e; have := h.c.y1 b (by omega); have e' : x.ny = y b := e; omega
    | succ a =>
      cases b with
      | zero => intro e; have := h.c.y1 a (by omega); have e' : y a = x.ny := e; omega
      | succ b => intro e; have := h.c.yi a b (by omega) (by omega) e; omega
  · cases s with
    | zero => exact upd_new _ _ _
    | succ s => exact hj.c.k s (by omega)
  · cases s with
    | zero => exact upd_new _ _ _
    | succ s => exact hj.c.fl s (by omega)
  · cases s with
    | zero =>
      refine ⟨m, hm, ?_⟩
      show upd x.FW (x.no + x.ny) f (x.no + x.ny) 0 = _
      rw [upd_new]; exact f0
    | succ s => exact hj.c.f0 s (by omega)
  · cases s with
    | zero =>
      show upd x.FW (x.no + x.ny) f (x.no + x.ny) 1 = kw (if 0 + 1 < t + 1 then some (x.no + y 0) else oo)
      rw [upd_new, f1, h.c.r]
      by_cases ht : 0 < t
      · rw [if_pos ht, if_pos (by omega)]
      · rw [if_neg ht, if_neg (by omega)]
    | succ s =>
      have := hj.c.f1 s (by omega)
      show (x.add 1 fb 2 f).FW (x.no + y s) 1 = kw (if s + 1 + 1 < t + 1 then some (x.no + y (s + 1)) else oo)
      rw [show (x.add 1 fb 2 f).FW (x.no + y s) 1 = _ from this]
      by_cases ht : s + 1 < t
      · rw [if_pos ht, if_pos (by omega)]; rfl
      · rw [if_neg ht, if_neg (by omega)]
  · cases s with
    | zero =>
      show upd x.FW (x.no + x.ny) f (x.no + x.ny) 0 = _
      rw [upd_new, f0]
      omega
    | succ s =>
      show (x.add 1 fb 2 f).FW (x.no + y s) 0 = _
      rw [show (x.add 1 fb 2 f).FW (x.no + y s) 0 = _ from hj.v s (by omega)]
      omega
  · rw [show m + 1 - (t + 1) = m - t by omega]
    exact OldLst.ext (x := x.add 1 fb 2 f) (x' := { (x.add 1 fb 2 f) with r := some (x.no + x.ny) }) (Nat.le_refl _) (fun j _ => ⟨rfl, rfl, fun _ => rfl⟩) hj.o
  · show x.no = m + 1 - (t + 1)
    have := h.no
    omega
theorem GdAt.col {x : HV} {m t : Nat} {y : Nat → Nat} {oo : Option Nat} (h : GdAt x m t y oo) : GdAt (x.col t y oo) m 0 y (x.col t y oo).r := by
  have tm := h.tm
  have hno := h.no
  have key : ∀ d s, s + d = t → OldLst (x.col t y oo) (if s < t then some (x.no + s) else oo) (m - s) := fun d => by
    induction d with
    | zero =>
      intro s hs
      rw [if_neg (by omega), show m - s = m - t by omega]
      refine OldLst.ext (by show x.no ≤ x.no + t; omega) (fun j hj => ⟨if_pos hj, if_pos hj, fun q => if_pos hj⟩) h.o
    | succ d ih =>
      intro s hs
      have ih2 := ih (s + 1) (by omega)
      rw [if_pos (by omega), show m - s = (m - (s + 1)) + 1 by omega]
      have e0 : x.no + s - x.no = s := by omega
      refine ⟨x.no + s, _, rfl, by show x.no + s < x.no + t; omega, ?_, ?_, ?_, ?_, ih2⟩
      · show mK x.K x.no y (x.no + s) = 1
        unfold mK
        rw [if_neg (by omega), e0]
        exact h.c.k s (by omega)
      · show mK x.FL x.no y (x.no + s) = 2
        unfold mK
        rw [if_neg (by omega), e0]
        exact h.c.fl s (by omega)
      · show (if x.no + s < x.no then _ else _) = _
        rw [if_neg (by omega), if_neg (by decide), e0, h.v s (by omega)]
        omega
      · show (if x.no + s < x.no then _ else _) = _
        rw [if_neg (by omega), if_pos rfl, e0]
  refine ⟨⟨fun s hs => by omega, fun a b ha => by omega, fun s hs => by omega, fun s hs => by omega, fun s hs => by omega, fun s hs => by omega, fun j hj => ?_, rfl⟩, fun s hs => by omega, ?_, Nat.zero_le _, ?_, ?_⟩
  · change (if 0 < t then some (x.no + 0) else oo) = some j at hj
    show j < x.no + t
    by_cases ht : 0 < t
    · rw [if_pos ht] at hj; cases hj; omega
    · rw [if_neg ht] at hj
      have := h.c.o1 j hj
      omega
  · exact key t 0 (by omega)
  · show x.no + t = m - 0
    omega
  · show x.oc + 3 * t = 3 * (x.no + t)
    have := h.oc
    omega
/-- What holds of a heap's numbers while HeapChain goes on, with c calls of Make still to come. -/
structure Bd (x : HV) (c : Nat) : Prop where
  y1 : x.yc ≤ 32
  y2 : x.ny ≤ x.yc
  y3 : x.ny = 0 → x.yc = 0
  s : x.sft + 600 * c ≤ 4000000
  m : x.mi + c ≤ 1000000
/-- add, with a collection or without. -/
theorem h_add_any {w : World} {h : Nat} {P : Nat → Prop} {x : HV} {i c t : Nat} {y : Nat → Nat} {oo : Option Nat} (k : Hp w h P x) (g : GdAt x i t y oo) (hi : i ≤ 200) (b : Bd x (c + 1)) (kd fb m : Nat) (f : Nat → Int) (hf : w.heap[fb]? = some (.cells (wrow f m) 28 (0, 0))) (hfP : ¬ P fb) (l1 : 1 ≤ m) (l2 : m ≤ 2) (kf1 : f (m - 1) = kw x.r) (kf0 : ∀ q, q + 1 < m → Sk x.no (f q)) :
    Calls Tryd.prog 25 #[.pointer (some ⟨h, 0, none⟩), .agg #[.int .i64 (kd : Int), .slice (some ⟨fb, 0, none⟩) m m, .string ⟨#[]⟩, .bool false]] w fun r w' => ∃ x2 t2 y2 oo2 f2, r = .returned (.tuple #[.int .i64 (tw x2.sft (some (x2.no + x2.ny))), .int .i64 0]) ∧ Hp w' h (more P fb w w') (x2.add kd fb m f2) ∧ Part (fun q => P q ∨ q = fb) w w' ∧ GdAt x2 i t2 y2 oo2 ∧ Bd (x2.add kd fb m f2) c ∧ f2 (m - 1) = kw x2.r ∧ ∀ q, q + 1 < m → f2 q = f q := by
  have n1 := k.n1
  have n2 := k.n2
  have tm := g.tm
  have hno := g.no
  have hoc := g.oc
  have b1 := b.y1
  have b2 := b.y2
  have b3 := b.y3
  have b4 := b.s
  have b5 := b.m
  by_cases hfit : x.yc + (1 + m) ≤ 32
  · refine (h_add_fit k kd fb m f hf hfP (by omega) (by omega) hfit).mono ?_
    rintro r w' ⟨rfl, HA⟩
    exact ⟨x, t, y, oo, f, rfl, HA.out.1, HA.out.2, g, ⟨hfit, by show x.ny + 1 ≤ x.yc + (1 + m); omega, fun e => by have e' : x.ny + 1 = 0 := e; omega, by show x.sft + 600 * c ≤ _; omega, by show x.mi + c ≤ _; omega⟩, kf1, fun _ _ => rfl⟩
  · refine (h_add_col k g.c kd fb m f hf hfP l1 l2 kf1 kf0 (by omega) b1 (by omega) (by omega) (by omega) (by omega) (by omega)).mono ?_
    rintro r w' ⟨rfl, HA⟩
    refine ⟨x.col t y oo, 0, y, _, _, rfl, HA.out.1, HA.out.2, g.col, ⟨by show 0 + (1 + m) ≤ 32; omega, by show 0 + 1 ≤ 0 + (1 + m); omega, fun e => by have e' : 0 + 1 = 0 := e; omega, by show x.sft + 2 * (x.no + x.ny) + 600 * c ≤ _; omega, by show x.mi + 1 + c ≤ _; omega⟩, if_pos (by omega), fun q hq => if_neg (by omega)⟩
def Sg (w : World) (h n J i q : Nat) (wr : World) : Prop := ∃ x P t y oo, Hp wr h P x ∧ GdAt x i t y oo ∧ Bd x ((J + 1) * (n - i) + q) ∧ Below w.heap.size w wr ∧ (∀ k, P k → w.heap.size ≤ k) ∧ i ≤ 200
theorem gen_pair {w : World} {h n J : Nat} (hw : w.cell? ⟨0, 1, none⟩ = some (.int .i64 2)) (i : Nat) (wr : World) (hi : i < n) (hn : n < 200) (hS : Sg w h n J i 0 wr) : ∃ t, Hid (Calls Tryd.prog 8 #[.pointer (some ⟨h, 0, none⟩), .int .i64 0] wr fun r w1 => r = .returned (.int .i64 t) ∧ w1 = wr) ∧ Hid (Calls Tryd.prog 7 #[.pointer (some ⟨h, 0, none⟩), .int .i64 1, .slice (some ⟨wr.heap.size, 0, none⟩) 2 2] (wr.alloc (.cells #[.int .i64 (2 * (i : Int) + 1), .int .i64 t] 28)) fun r w2 => ∃ z, r = .returned (.tuple #[.int .i64 z, .int .i64 0]) ∧ Hid (Calls Tryd.prog 9 #[.pointer (some ⟨h, 0, none⟩), .int .i64 0, .int .i64 z] w2 fun r w3 => r = .returned (.int .i64 0) ∧ Hid (Sg w h n J (i + 1) J w3))) := by
  obtain ⟨x, P, t, y, oo, k, g, bd, b, lo, hi2⟩ := hS
  have n1 := k.n1
  have n2 := k.n2
  have s1 := k.s1
  have ebd : (J + 1) * (n - i) + 0 = (J + 1) * (n - (i + 1)) + J + 1 := by
    have e1 : n - i = (n - (i + 1)) + 1 := by omega
    rw [e1, Nat.mul_add, Nat.mul_one]
    omega
  rw [ebd] at bd
  refine ⟨tw x.sft x.r, h_root k, ?_⟩
  obtain ⟨l, hl⟩ : ∃ l, Obj.cells #[.int .i64 (2 * (i : Int) + 1), .int .i64 (tw x.sft x.r)] 28 = l := ⟨_, rfl⟩
  rw [hl]
  have bl : Below wr.heap.size wr (wr.alloc l) := (Below.refl _ wr).alloc (Nat.le_refl _) l
  have hbox : (wr.alloc l).heap[wr.heap.size]? = some (.cells #[.int .i64 (2 * (i : Int) + 1), .int .i64 (tw x.sft x.r)] 28 (0, 0)) := by rw [← hl]; exact heap_alloc_at _ _ _ rfl
  have kq := k.below bl
  have sW : (wr.alloc l).heap.size = wr.heap.size + 1 := by simp
  have hwd := wd_below hw (b.trans (bl.mono b.size))
  refine (h_make2 kq wr.heap.size (kf2 (2 * (i : Int) + 1) (tw x.sft x.r)) (kf2 (2 * (i : Int) + 1) (kw x.r)) (fun q hq => ?_) hwd (fun q hq wq hwq => ?_) (fun z e w' => e = 0 ∧ ∃ x2 t2 y2 oo2 f2 P', z = tw x2.sft (some (x2.no + x2.ny)) ∧ Hp w' h P' (x2.add 1 (wr.alloc l).heap.size 2 f2) ∧ GdAt x2 i t2 y2 oo2 ∧ Bd (x2.add 1 (wr.alloc l).heap.size 2 f2) ((J + 1) * (n - (i + 1)) + J) ∧ f2 0 = 2 * (i : Int) + 1 ∧ f2 1 = kw x2.r ∧ (∀ q, P' q → w.heap.size ≤ q) ∧ Below w.heap.size w w') (fun W bW hf => ?_)).mono ?_
  · rw [cells_at hbox q]
    match q, hq with
    | 0, _ => rfl
    | 1, _ => rfl
  · match q, hq with
    | 0, _ => exact h_kept_odd i (by omega)
    | 1, _ =>
      obtain ⟨so, sy, sr, l1, l2, l3, _⟩ := (kq.below hwq).lay
      obtain ⟨_, _, rfl⟩ := row_slice l2
      obtain ⟨_, _, rfl⟩ := row_slice l3
      exact h_kept (sft := x.sft) l1 (by omega) (by omega) x.r k.rt (by omega) k.s2
  · have sB := bW.size
    refine (h_add_any (kq.below bW) g hi2 bd 1 (wr.alloc l).heap.size 2 (kf2 (2 * (i : Int) + 1) (kw x.r)) hf (fun hP => by have := kq.lt _ hP; omega) (by decide) (by decide) rfl (fun q hq => .inl ⟨i, by omega, by obtain rfl : q = 0 := (by omega); rfl⟩)).mono ?_
    rintro r w' ⟨x2, t2, y2, oo2, f2, rfl, a1, a2, a3, a4, a5, a6⟩
    have sW2 := a2.size
    refine ⟨_, _, rfl, rfl, x2, t2, y2, oo2, f2, _, rfl, a1, a3, a4, a6 0 (by decide), a5, fun q hq => ?_, ?_⟩
    · have := b.size
      rcases hq with q1 | q1 | q1
      · exact lo q q1
      · omega
      · omega
    · have b1 : Below w.heap.size w W := (b.trans (bl.mono b.size)).trans (bW.mono (by have := b.size; omega))
      exact b1.trans (a2.below (fun q hq => by
        have := b.size
        rcases hq with q1 | q1
        · exact lo q q1
        · omega) b1.size)
  · rintro r w2 ⟨z, e, rfl, rfl, x2, t2, y2, oo2, f2, P', rfl, kP, gP, bP, f20, f21, loP, blP⟩
    refine ⟨_, rfl, ?_⟩
    refine (h_setRoot kP (x2.no + x2.ny) (by show x2.no + x2.ny < x2.no + (x2.ny + 1); omega)).mono ?_
    rintro r w3 ⟨rfl, HR⟩
    obtain ⟨r1, r2⟩ := HR.out
    exact ⟨rfl, _, _, _, _, _, r1, gP.pair _ f2 f20 f21 (by omega), ⟨bP.y1, bP.y2, bP.y3, bP.s, bP.m⟩, blP.trans (r2.below loP blP.size), loP, by omega⟩
theorem gen_junk {w : World} {h n J : Nat} (hw : w.cell? ⟨0, 1, none⟩ = some (.int .i64 2)) (i q : Nat) (wr : World) (hS : Sg w h n J i (q + 1) wr) : ∃ t, Hid (Calls Tryd.prog 8 #[.pointer (some ⟨h, 0, none⟩), .int .i64 0] wr fun r w1 => r = .returned (.int .i64 t) ∧ w1 = wr) ∧ Hid (Calls Tryd.prog 7 #[.pointer (some ⟨h, 0, none⟩), .int .i64 2, .slice (some ⟨wr.heap.size, 0, none⟩) 1 1] (wr.alloc (.cells #[.int .i64 t] 28)) fun r w2 => ∃ z, r = .returned (.tuple #[.int .i64 z, .int .i64 0]) ∧ Hid (Sg w h n J i q w2)) := by
  obtain ⟨x, P, t, y, oo, k, g, bd, b, lo, hi2⟩ := hS
  have n1 := k.n1
  have n2 := k.n2
  have s1 := k.s1
  refine ⟨tw x.sft x.r, h_root k, ?_⟩
  obtain ⟨l, hl⟩ : ∃ l, Obj.cells #[.int .i64 (tw x.sft x.r)] 28 = l := ⟨_, rfl⟩
  rw [hl]
  have bl : Below wr.heap.size wr (wr.alloc l) := (Below.refl _ wr).alloc (Nat.le_refl _) l
  have hbox : (wr.alloc l).heap[wr.heap.size]? = some (.cells #[.int .i64 (tw x.sft x.r)] 28 (0, 0)) := by rw [← hl]; exact heap_alloc_at _ _ _ rfl
  have kq := k.below bl
  have sW : (wr.alloc l).heap.size = wr.heap.size + 1 := by simp
  have hwd := wd_below hw (b.trans (bl.mono b.size))
  refine (h_make1 kq wr.heap.size (fun _ => tw x.sft x.r) (fun _ => kw x.r) (fun q hq => ?_) hwd (fun q hq wq hwq => ?_) (fun z e w' => e = 0 ∧ ∃ x2 t2 y2 oo2 f2 P', Hp w' h P' (x2.add 2 (wr.alloc l).heap.size 1 f2) ∧ GdAt x2 i t2 y2 oo2 ∧ Bd (x2.add 2 (wr.alloc l).heap.size 1 f2) ((J + 1) * (n - i) + q) ∧ (∀ q, P' q → w.heap.size ≤ q) ∧ Below w.heap.size w w') (fun W bW hf => ?_)).mono ?_
  · rw [cells_at hbox q]
    match q, hq with
    | 0, _ => rfl
  · obtain ⟨so, sy, sr, l1, l2, l3, _⟩ := (kq.below hwq).lay
    obtain ⟨_, _, rfl⟩ := row_slice l2
    obtain ⟨_, _, rfl⟩ := row_slice l3
    exact h_kept (sft := x.sft) l1 (by omega) (by omega) x.r k.rt (by omega) k.s2
  · have sB := bW.size
    refine (h_add_any (kq.below bW) g hi2 bd 2 (wr.alloc l).heap.size 1 (fun _ => kw x.r) hf (fun hP => by have := kq.lt _ hP; omega) (by decide) (by decide) rfl (fun q hq => by omega)).mono ?_
    rintro r w' ⟨x2, t2, y2, oo2, f2, rfl, a1, a2, a3, a4, a5, a6⟩
    have sW2 := a2.size
    refine ⟨_, _, rfl, rfl, x2, t2, y2, oo2, f2, _, a1, a3, a4, fun q hq => ?_, ?_⟩
    · have := b.size
      rcases hq with q1 | q1 | q1
      · exact lo q q1
      · omega
      · omega
    · have b1 : Below w.heap.size w W := (b.trans (bl.mono b.size)).trans (bW.mono (by have := b.size; omega))
      exact b1.trans (a2.below (fun q hq => by
        have := b.size
        rcases hq with q1 | q1
        · exact lo q q1
        · omega) b1.size)
  · rintro r w2 ⟨z, e, rfl, rfl, x2, t2, y2, oo2, f2, P', kP, gP, bP, loP, blP⟩
    exact ⟨_, rfl, _, _, _, _, _, kP, gP.junk _ _ _ _, bP, blP, loP, hi2⟩
theorem gen_start (w : World) (n J : Nat) (hn : n < 200) (hJ : J < 20) : Hid (Calls Tryd.prog 5 #[.int .i64 32, .int .i64 1000] w fun r w1 => r = .returned (.tuple #[.pointer (some ⟨w.heap.size, 0, none⟩), .int .i64 0]) ∧ Hid (Calls Tryd.prog 6 #[.pointer (some ⟨w.heap.size, 0, none⟩), .int .i64 0] w1 fun r w2 => r = .returned (.int .i64 0) ∧ Hid (Sg w w.heap.size n J 0 0 w2))) := by
  refine (h_new w).mono ?_
  rintro r w1 ⟨rfl, h1, b1⟩
  refine ⟨rfl, (h_push0 h1).mono ?_⟩
  rintro r w2 ⟨rfl, HP⟩
  have s1 := b1.size
  have hc : (J + 1) * (n - 0) + 0 ≤ 4000 := by
    have := Nat.mul_le_mul (show J + 1 ≤ 20 by omega) (show n - 0 ≤ 200 by omega)
    omega
  refine ⟨rfl, HV0, _, 0, fun _ => 0, none, HP.out.1, ⟨⟨fun s hs => by omega, fun a b ha => by omega, fun s hs => by omega, fun s hs => by omega, fun s hs => by omega, fun s hs => by omega, fun j hj => (by cases hj), rfl⟩, fun s hs => by omega, rfl, Nat.le_refl _, rfl, rfl⟩, ⟨by decide, Nat.le_refl _, fun _ => rfl, by show 0 + 600 * _ ≤ _; omega, by show 0 + _ ≤ _; omega⟩, b1.trans (HP.out.2.below (fun q hq => by omega) s1), fun q hq => ?_, by omega⟩
  rcases hq with rfl | hq
  · exact Nat.le_refl _
  · omega
/-- HeapChain. -/
theorem chain_all (z1 z2 : Int) (w : World) (hw : w.cell? ⟨0, 1, none⟩ = some (.int .i64 2)) : Calls Tryd.prog 3 #[.int .i64 z1, .int .i64 z2] w fun r w' => r = .returned (.bool true) ∧ Below w.heap.size w w' := by
  obtain ⟨n, hn, e1⟩ := modW_ex z1 200 (by decide) (by decide)
  obtain ⟨J, hJ, e2⟩ := modW_ex z2 20 (by decide) (by decide)
  refine chain_walk n J z1 z2 e1 e2 hn hJ w (Sg w w.heap.size n J) w.heap.size (gen_start w n J hn hJ) (fun i q wr hS => ?_) (fun i wr hi hS => gen_pair hw i wr hi hn hS) (fun i q wr hS => gen_junk hw i q wr hS) (fun wr hS => ?_)
  · obtain ⟨x, P, t, y, oo, _, _, _, b, _⟩ := hS
    exact b
  · obtain ⟨x, P, t, y, oo, k, g, _, _, _, h2⟩ := hS
    exact ⟨tw x.sft x.r, h_root k, x, P, x.r, k, rfl, g.lst, h2⟩
end Go.Proofs.YtmpilcamnhlalaaDoor
