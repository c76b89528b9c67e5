/-
  A transaction that goes alone: the stages of StmAlone, one call behind the other.
-/
import Derived.Test.YtdackomidfofgaaStM
namespace Go.Proofs.Ytdackomidfofgaa
open Go.RowKit Go.Maps
set_option linter.unusedVariables false
set_option maxRecDepth 100000
set_option maxHeartbeats 2000000

/-- Blocks that are no rows of bytes. -/
def NoB (w : World) (b : Nat) : Prop := ∃ o, w.heap[b]? = some o ∧ ∀ cs z, o ≠ .cells cs 5 z
theorem Mp.nob {w : World} {b : Nat} {L : List Kv} (h : Mp w b L) : NoB w b := by
  obtain ⟨es, c, ho⟩ := h.obj
  exact ⟨_, ho, fun _ _ e => by cases e⟩
theorem Spc.nob {w : World} {S : Sm} (h : Spc w S) : NoB w S.sp ∧ NoB w S.sl ∧ NoB w S.lk := ⟨⟨_, h.cel, fun _ _ e => by injection e with _ e; exact absurd e (by decide)⟩, h.slo.nob, h.loc.nob⟩
theorem Txc.nob {w : World} {S : Sm} {T : Tm} (h : Txc w S T) : NoB w T.t ∧ NoB w T.rd ∧ NoB w T.wr := ⟨⟨_, h.cel, fun _ _ e => by injection e with _ e; exact absurd e (by decide)⟩, h.red.nob, h.wri.nob⟩
theorem Own.keep {F : Nat → Prop} {w w' : World} {B : Nat} {v : Value} {xs : List Int} (h : Own w B v xs) (hp : Part F w w') (hF : ∀ b, F b → NoB w b) : Own w' B v xs :=
  hp.row h (fun q hq f => by
    obtain ⟨o, ho, hno⟩ := hF q f
    rcases h.2 with ⟨h1, _⟩ | ⟨g, cap, cur, h1, _, h2, _⟩
    · rw [h1] at hq; cases hq
    · rw [h1] at hq
      have hq : some g = some q := hq
      injection hq with hq
      rw [hq, ho] at h2
      injection h2 with h2
      exact hno _ _ h2)
theorem From.keep {F : Nat → Prop} {w w' : World} {a : Option Addr} {n : Nat} {f : Nat → Int} (h : From w a n f) (hb : Below w.heap.size w w') : From w' a n f := h.below hb (Nat.le_refl _)

section
variable (w : World) (sp sl lk : Nat) (slots : List Es) (s : ByteArray) (f : Nat → Int) (n : Nat)
abbrev S0 : Sm := ⟨sp, sl, lk, 0, slots, []⟩
/-- A space, and nothing else. -/
structure G1 (w' : World) : Prop where
  S : Spc w' (S0 sp sl lk slots)
  B : Below w.heap.size w w'
  len : slots.length ≤ 3000000000000
  low : w.heap.size ≤ sp ∧ w.heap.size ≤ sl ∧ w.heap.size ≤ lk
/-- It has begun. -/
structure G2 (t rd wr : Nat) (w' : World) : Prop where
  g : G1 w sp sl lk slots w'
  T : Txc w' (S0 sp sl lk slots) ⟨t, rd, wr, 0, [], [], 0⟩
  low : w.heap.size ≤ t ∧ w.heap.size ≤ rd ∧ w.heap.size ≤ wr
/-- It wrote the name. -/
structure G3 (t rd wr : Nat) (x : Eb) (w' : World) : Prop where
  g : G1 w sp sl lk slots w'
  T : Txc w' (S0 sp sl lk slots) ⟨t, rd, wr, 0, [], [x], 0⟩
  low : w.heap.size ≤ t ∧ w.heap.size ≤ rd ∧ w.heap.size ≤ wr
  ky : x.ky = s.data.toList
  own : Own w' w.heap.size x.vl (lst f n)
  len : x.1.2.2.1 = n
variable {w sp sl lk slots s f n}
theorem G1.below {w1 w2 : World} (h : G1 w sp sl lk slots w1) (hb : Below w1.heap.size w1 w2) : G1 w sp sl lk slots w2 := ⟨h.S.below hb, h.B.trans (hb.mono h.B.size), h.len, h.low⟩
theorem G3.below {t rd wr : Nat} {x : Eb} {w1 w2 : World} (h : G3 w sp sl lk slots s f n t rd wr x w1) (hb : Below w1.heap.size w1 w2) : G3 w sp sl lk slots s f n t rd wr x w2 := ⟨h.g.below hb, h.T.below hb, h.low, h.ky, h.own.below hb (Nat.le_refl _), h.len⟩
theorem g_begin {w1 : World} (h : G1 w sp sl lk slots w1) : Calls Try.prog 8 #[.pointer (some ⟨sp, 0, none⟩)] w1 fun e w' => ∃ t, e = .returned (.tuple #[.pointer (some ⟨t, 0, none⟩), .int .i64 0]) ∧ Hid (∃ rd wr, G2 w sp sl lk slots t rd wr w') :=
  (s_begin h.S).mono fun e w' ⟨t, he, hh⟩ => ⟨t, he, by
    obtain ⟨rd, wr, hT, hb, l1, l2, l3⟩ := hh.out
    have := h.B.size
    exact ⟨rd, wr, h.below hb, hT, by omega, by omega, by omega⟩⟩
theorem g_put_no {t rd wr : Nat} {w1 : World} (h : G2 w sp sl lk slots t rd wr w1) (v : Value) (hs : nm s = false) : Calls Try.prog 16 #[.pointer (some ⟨t, 0, none⟩), .string s, v] w1 fun e w' => e = .returned (.int .i64 6) ∧ Below w.heap.size w w' := by
  have hr : rn 0 s = 6 := by unfold rn; rw [if_pos rfl, hs]; rfl
  refine (t_put_no h.T s v (by show rn 0 s ≠ 0; rw [hr]; decide)).mono fun e w' ⟨he, hb⟩ => ⟨he.trans (by show Ending.returned (.int .i64 (rn 0 s)) = _; rw [hr]), h.g.B.trans (hb.mono h.g.B.size)⟩
theorem g_put {t rd wr : Nat} {w1 : World} (h : G2 w sp sl lk slots t rd wr w1) (b0 : Option Addr) (c : Nat) (hf : From w b0 n f) (hn : n ≤ 140737488355328) (hs : nm s = true) : Calls Try.prog 16 #[.pointer (some ⟨t, 0, none⟩), .string s, .slice b0 n c] w1 fun e w' => e = .returned (.int .i64 0) ∧ Hid (∃ x, G3 w sp sl lk slots s f n t rd wr x w') := by
  have hr : rn 0 s = 0 := by unfold rn; rw [if_pos rfl, hs]; rfl
  have hsz : s.size ≤ maxLen := by unfold nm at hs; have := (Bool.and_eq_true_iff.1 hs).2; have := of_decide_eq_true this; unfold maxLen; omega
  refine (t_put h.g.S h.T s hsz b0 n c f (hf.below h.g.B (Nat.le_refl _)) hn (by show 0 ≤ _; omega) hr).mono fun e w' ⟨he, hh⟩ => ⟨he, ?_⟩
  obtain ⟨x, k1, k2, k3, k4, k5, k6⟩ := hh.out
  have hb : Below w.heap.size w1 w' := k6.below (fun b hb => by have hb : b = wr := hb; rw [hb]; exact h.low.2.2) h.g.B.size
  exact ⟨x, ⟨k2, h.g.B.trans hb, h.g.len, h.g.low⟩, k3, h.low, k1, k4.mono h.g.B.size, by rw [k5, lst_length]⟩
theorem x_from {w' : World} {B : Nat} {x : Eb} (h : Own w' B x.vl (lst f n)) (hl : x.1.2.2.1 = n) : From w' x.1.2.1 x.1.2.2.1 (fn (lst f n)) := by
  obtain ⟨ao, c, hv, hf, _⟩ := h.open
  have hv : Value.slice x.1.2.1 x.1.2.2.1 x.1.2.2.2 = .slice ao (lst f n).length c := hv
  injection hv with h1 h2 h3
  rw [h1, h2]
  exact hf
theorem lst_same : lst (fn (lst f n)) n = lst f n := by
  have := lst_fn (lst f n)
  rw [lst_length] at this
  exact this
theorem g_get {t rd wr : Nat} {x : Eb} {w1 : World} (h : G3 w sp sl lk slots s f n t rd wr x w1) (hn : n ≤ 140737488355328) (hs : nm s = true) : Calls Try.prog 14 #[.pointer (some ⟨t, 0, none⟩), .string s] w1 fun e w' => ∃ v, e = .returned (.tuple #[v, .int .i64 0]) ∧ Own w' w.heap.size v (lst f n) ∧ Hid (G3 w sp sl lk slots s f n t rd wr x w') := by
  have hr : rn 0 s = 0 := by unfold rn; rw [if_pos rfl, hs]; rfl
  have hsz : s.size ≤ maxLen := by unfold nm at hs; have := (Bool.and_eq_true_iff.1 hs).2; have := of_decide_eq_true this; unfold maxLen; omega
  have hx : fnd Eb.ky [x] s.data.toList = some x := by unfold fnd; simp [h.ky]
  refine (t_get_own h.T s hsz hr x hx _ (x_from h.own h.len) (by rw [h.len]; exact hn)).mono fun e w' ⟨v, he, ho, hb⟩ => ⟨v, he, ?_, h.below hb⟩
  rw [h.len, lst_same] at ho
  exact ho.mono h.g.B.size
/-- It has locked the name. -/
structure G4 (w : World) (sp sl lk : Nat) (slots : List Es) (s : ByteArray) (f : Nat → Int) (n : Nat) (ph : Int) (t rd wr : Nat) (x : Eb) (L : List El) (w' : World) : Prop where
  S : Spc w' ⟨sp, sl, lk, 0, slots, L⟩
  T : Txc w' ⟨sp, sl, lk, 0, slots, L⟩ ⟨t, rd, wr, 0, [], [x], ph⟩
  lkd : Lkd [] t [x] L
  B : Below w.heap.size w w'
  len : slots.length ≤ 3000000000000
  low : (w.heap.size ≤ sp ∧ w.heap.size ≤ sl ∧ w.heap.size ≤ lk) ∧ w.heap.size ≤ t ∧ w.heap.size ≤ rd ∧ w.heap.size ≤ wr
  ky : x.ky = s.data.toList
  own : Own w' w.heap.size x.vl (lst f n)
  xl : x.1.2.2.1 = n
theorem g_lock {t rd wr : Nat} {x : Eb} {w1 : World} (h : G3 w sp sl lk slots s f n t rd wr x w1) : Calls Try.prog 17 #[.pointer (some ⟨t, 0, none⟩)] w1 fun e w' => e = .returned (.int .i64 0) ∧ Hid (∃ L, G4 w sp sl lk slots s f n 1 t rd wr x L w') := by
  have htk : tks (S0 sp sl lk slots) ⟨t, rd, wr, 0, [], [x], 0⟩ = false := rfl
  refine (t_lock h.g.S h.T (by simp) (by simp) rfl).mono fun e w' ⟨_, hh⟩ => ?_
  obtain ⟨he, hh⟩ := hh htk
  refine ⟨he, ?_⟩
  obtain ⟨L, k1, k2, k3, k4⟩ := hh.out
  have hb : Below w.heap.size w1 w' := k4.below (fun b hb => hb.elim (fun e => by rw [e]; exact h.g.low.2.2) (fun e => by rw [e]; exact h.low.1)) h.g.B.size
  exact ⟨L, k2, k3, k1, h.g.B.trans hb, h.g.len, ⟨h.g.low, h.low⟩, h.ky, h.own.keep k4 (fun b hb => hb.elim (fun e => by rw [e]; exact h.g.S.nob.2.2) (fun e => by rw [e]; exact h.T.nob.1)), h.len⟩
theorem g_check {t rd wr : Nat} {x : Eb} {L : List El} {w1 : World} (h : G4 w sp sl lk slots s f n 1 t rd wr x L w1) : Calls Try.prog 19 #[.pointer (some ⟨t, 0, none⟩)] w1 fun e w' => e = .returned (.int .i64 0) ∧ Hid (G4 w sp sl lk slots s f n 2 t rd wr x L w') := by
  refine (t_check h.S h.T (by simp) (by simp) (by simp)).mono fun e w' ⟨_, hh⟩ => ?_
  obtain ⟨he, hh⟩ := hh rfl
  refine ⟨he, ?_⟩
  obtain ⟨k2, k3, k4⟩ := hh.out
  have hb : Below w.heap.size w1 w' := k4.below (fun b hb => by have hb : b = t := hb; rw [hb]; exact h.low.2.1) h.B.size
  exact ⟨k2, k3, h.lkd, h.B.trans hb, h.len, h.low, h.ky, h.own.keep k4 (fun b hb => by have hb : b = t := hb; rw [hb]; exact h.T.nob.1), h.xl⟩
/-- It is published. -/
structure G6 (w : World) (sp sl lk : Nat) (s : ByteArray) (f : Nat → Int) (n : Nat) (t rd wr : Nat) (x : Eb) (SL : List Es) (L : List El) (w' : World) : Prop where
  S : Spc w' ⟨sp, sl, lk, 1, SL, L⟩
  T : Txc w' ⟨sp, sl, lk, 1, SL, L⟩ ⟨t, rd, wr, 0, [], [x], 3⟩
  fS : ∃ y, fnd Es.ky SL s.data.toList = some y ∧ y.1.2 = (1, x.1.2)
  fL : fnd El.ky L s.data.toList = none
  B : Below w.heap.size w w'
  low : (w.heap.size ≤ sp ∧ w.heap.size ≤ sl ∧ w.heap.size ≤ lk) ∧ w.heap.size ≤ t ∧ w.heap.size ≤ rd ∧ w.heap.size ≤ wr
  own : Own w' w.heap.size x.vl (lst f n)
  xl : x.1.2.2.1 = n
theorem g_publish {t rd wr : Nat} {x : Eb} {L : List El} {w1 : World} (h : G4 w sp sl lk slots s f n 2 t rd wr x L w1) : Calls Try.prog 20 #[.pointer (some ⟨t, 0, none⟩)] w1 fun e w' => e = .returned (.int .i64 0) ∧ Hid (∃ SL L', G6 w sp sl lk s f n t rd wr x SL L' w') := by
  refine (t_publish h.S h.T (by simp) (by simp) (by have := h.len; show slots.length ≤ _; omega) (by simp) (by simp) rfl).mono fun e w' ⟨_, hh⟩ => ?_
  obtain ⟨he, hh⟩ := hh rfl
  refine ⟨he, ?_⟩
  obtain ⟨SL, L', k1, k2, k3, k4, k5, k6⟩ := hh.out
  have hb : Below w.heap.size w1 w' := k6.below (fun b hb => by
    rcases hb with (e | e | e) | e
    · rw [e]; exact h.low.1.1
    · rw [e]; exact h.low.1.2.1
    · rw [e]; exact h.low.1.2.2
    · rw [e]; exact h.low.2.1) h.B.size
  refine ⟨SL, L', k4, k5, ?_, ?_, h.B.trans hb, h.low, h.own.keep k6 (fun b hb => ?_), h.xl⟩
  · obtain ⟨u, hu, eu, y, hy, ey⟩ := (k1.1 s.data.toList).1 ⟨x, List.mem_singleton.2 rfl, h.ky⟩
    obtain rfl : u = x := List.mem_singleton.1 hu
    exact ⟨y, hy, ey⟩
  · refine (k3 s.data.toList).1 ⟨x, List.mem_singleton.2 rfl, h.ky⟩ ?_
    exact (h.lkd.1 s.data.toList).1 ⟨x, List.mem_singleton.2 rfl, h.ky⟩
  · rcases hb with (e | e | e) | e
    · rw [e]; exact h.S.nob.1
    · rw [e]; exact h.S.nob.2.1
    · rw [e]; exact h.S.nob.2.2
    · rw [e]; exact h.T.nob.1
/-- Another one has begun, and perhaps read. -/
structure G7 (w : World) (sp sl lk : Nat) (s : ByteArray) (f : Nat → Int) (n : Nat) (t rd wr u ud ur : Nat) (x : Eb) (SL : List Es) (L : List El) (R : List Eu) (w' : World) : Prop where
  g : G6 w sp sl lk s f n t rd wr x SL L w'
  U : Txc w' ⟨sp, sl, lk, 1, SL, L⟩ ⟨u, ud, ur, 1, R, [], 0⟩
  ne : u ≠ t ∧ u ≠ rd ∧ u ≠ wr ∧ ud ≠ t ∧ ud ≠ rd ∧ ud ≠ wr
  low : w.heap.size ≤ u ∧ w.heap.size ≤ ud ∧ w.heap.size ≤ ur
theorem g_begin2 {t rd wr : Nat} {x : Eb} {SL : List Es} {L : List El} {w1 : World} (h : G6 w sp sl lk s f n t rd wr x SL L w1) : Calls Try.prog 8 #[.pointer (some ⟨sp, 0, none⟩)] w1 fun e w' => ∃ u, e = .returned (.tuple #[.pointer (some ⟨u, 0, none⟩), .int .i64 0]) ∧ Hid (∃ ud ur, G7 w sp sl lk s f n t rd wr u ud ur x SL L [] w') :=
  (s_begin h.S).mono fun e w' ⟨u, he, hh⟩ => ⟨u, he, by
    obtain ⟨ud, ur, hT, hb, l1, l2, l3⟩ := hh.out
    have hB := h.B.size
    have ht := h.T.lts
    obtain ⟨t1, t2, t3⟩ := ht
    have t1 : t < w1.heap.size := t1
    have t2 : rd < w1.heap.size := t2
    have t3 : wr < w1.heap.size := t3
    exact ⟨ud, ur, ⟨h.S.below hb, h.T.below hb, h.fS, h.fL, h.B.trans (hb.mono hB), h.low, h.own.below hb (Nat.le_refl _), h.xl⟩, hT, ⟨by omega, by omega, by omega, by omega, by omega, by omega⟩, by omega, by omega, by omega⟩⟩
theorem g_get2 {t rd wr u ud ur : Nat} {x : Eb} {SL : List Es} {L : List El} {w1 : World} (h : G7 w sp sl lk s f n t rd wr u ud ur x SL L [] w1) (hn : n ≤ 140737488355328) (hs : nm s = true) : Calls Try.prog 14 #[.pointer (some ⟨u, 0, none⟩), .string s] w1 fun e w' => ∃ v, e = .returned (.tuple #[v, .int .i64 0]) ∧ Own w' w.heap.size v (lst f n) ∧ Hid (∃ R, G7 w sp sl lk s f n t rd wr u ud ur x SL L R w') := by
  have hr : rn 0 s = 0 := by unfold rn; rw [if_pos rfl, hs]; rfl
  have hsz : s.size ≤ maxLen := by unfold nm at hs; have := (Bool.and_eq_true_iff.1 hs).2; have := of_decide_eq_true this; unfold maxLen; omega
  obtain ⟨y, hy, ey⟩ := h.g.fS
  have hsl : slt ⟨sp, sl, lk, 1, SL, L⟩ s.data.toList = (1, x.1.2) := by unfold slt; rw [hy]; exact ey
  have hst : sty ⟨sp, sl, lk, 1, SL, L⟩ ⟨u, ud, ur, 1, [], [], 0⟩ s.data.toList = false := by
    unfold sty tkn
    rw [h.g.fL, hsl]
    rfl
  have hf := x_from h.g.own h.g.xl
  refine (t_get h.g.S h.U s hsz (by simp) hr rfl hst (fn (lst f n)) (by rw [hsl]; exact hf) (by rw [hsl]; show x.1.2.2.1 ≤ _; rw [h.g.xl]; exact hn)).mono fun e w' ⟨v, he, ho, hh⟩ => ⟨v, he, ?_, ?_⟩
  · rw [hsl] at ho
    have ho : Own w' w1.heap.size v (lst (fn (lst f n)) x.1.2.2.1) := ho
    rw [h.g.xl, lst_same] at ho
    exact ho.mono h.g.B.size
  · obtain ⟨r, k1, k2, k3, k4⟩ := hh.out
    have hb : Below w.heap.size w1 w' := k4.below (fun b hb => by have hb : b = ud := hb; rw [hb]; exact h.low.2.1) h.g.B.size
    have n1 := h.ne
    exact ⟨_, ⟨k2, h.g.T.part k4 ⟨fun e => n1.2.2.2.1 e.symm, fun e => n1.2.2.2.2.1 e.symm, fun e => n1.2.2.2.2.2 e.symm⟩, h.g.fS, h.g.fL, h.g.B.trans hb, h.g.low, h.g.own.keep k4 (fun b hb => by have hb : b = ud := hb; rw [hb]; exact h.U.nob.2.1), h.g.xl⟩, k3, h.ne, h.low⟩
theorem g_abort {t rd wr u ud ur : Nat} {x : Eb} {SL : List Es} {L : List El} {R : List Eu} {w1 : World} (h : G7 w sp sl lk s f n t rd wr u ud ur x SL L R w1) : Calls Try.prog 25 #[.pointer (some ⟨u, 0, none⟩)] w1 fun e w' => e = .returned (.int .i64 0) ∧ Hid (∃ L', Spc w' ⟨sp, sl, lk, 1, SL, L'⟩ ∧ Txc w' ⟨sp, sl, lk, 1, SL, L'⟩ ⟨t, rd, wr, 0, [], [x], 3⟩ ∧ Below w.heap.size w w') := by
  refine (t_abort h.g.S h.U (by simp)).mono fun e w' ⟨hh, _⟩ => ?_
  obtain ⟨he, hh⟩ := hh (by simp)
  refine ⟨he, ?_⟩
  obtain ⟨L', k1, k2, k3, k4, k5⟩ := hh.out
  have hb : Below w.heap.size w1 w' := k5.below (fun b hb => hb.elim (fun e => by rw [e]; exact h.g.low.1.2.2) (fun e => by rw [e]; exact h.low.1)) h.g.B.size
  obtain ⟨a3, a4, a5, a6, a7⟩ := Txc.apart h.g.S h.g.T
  have n1 := h.ne
  have hT' := h.g.T.part k5 ⟨fun h' => h'.elim a4 (fun e => n1.1 e.symm), fun h' => h'.elim h.g.T.ne.2.2.1 (fun e => n1.2.1 e.symm), fun h' => h'.elim h.g.T.ne.2.2.2.2 (fun e => n1.2.2.1 e.symm)⟩
  exact ⟨L', k3, ⟨hT'.cel, hT'.red, hT'.wri, hT'.ne⟩, h.g.B.trans hb⟩
theorem g_abort2 {t rd wr : Nat} {x : Eb} {SL : List Es} {L : List El} {w1 : World} (hS : Spc w1 ⟨sp, sl, lk, 1, SL, L⟩) (hT : Txc w1 ⟨sp, sl, lk, 1, SL, L⟩ ⟨t, rd, wr, 0, [], [x], 3⟩) (hB : Below w.heap.size w w1) : Calls Try.prog 25 #[.pointer (some ⟨t, 0, none⟩)] w1 fun e w' => e = .returned (.int .i64 3) ∧ Below w.heap.size w w' :=
  (t_abort hS hT (by simp)).mono fun e w' ⟨_, hh⟩ => by
    obtain ⟨he, hb⟩ := hh (by simp)
    exact ⟨he, hB.trans (hb.mono hB.size)⟩
end
end Go.Proofs.Ytdackomidfofgaa
