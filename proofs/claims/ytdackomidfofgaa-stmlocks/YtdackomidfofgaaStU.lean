/-
  StmLocks' walk.
-/
import Derived.Test.YtdackomidfofgaaStT
namespace Go.Proofs.Ytdackomidfofgaa
open Go.RowKit Go.Maps
set_option linter.unusedVariables false
set_option maxRecDepth 100000
set_option maxHeartbeats 4000000

theorem len_sub {α : Type} : ∀ (L' L : List α), L'.Pairwise (fun a b => a ≠ b) → (∀ x ∈ L', x ∈ L) → L'.length ≤ L.length
  | [], L, _, _ => Nat.zero_le _
  | x :: r, L, hp, hs => by
    obtain ⟨s, t, rfl⟩ := List.append_of_mem (hs x (List.mem_cons_self ..))
    rw [List.pairwise_cons] at hp
    have h1 := len_sub r (s ++ t) hp.2 (fun y hy => by
      have := hs y (List.mem_cons_of_mem _ hy)
      rcases List.mem_append.1 this with h | h
      · exact List.mem_append_left _ h
      · rcases List.mem_cons.1 h with h | h
        · exact absurd h.symm (hp.1 y hy)
        · exact List.mem_append_right _ h)
    rw [List.length_append] at h1
    rw [List.length_cons, List.length_append, List.length_cons]
    omega
theorem locks_len {w : World} {S : Sm} {L : List El} (h : Spc w S) (hs : ∀ x ∈ S.locks, x ∈ L) : S.locks.length ≤ L.length :=
  len_sub _ _ ((List.pairwise_map.1 h.loc.keys).imp fun h e => h (congrArg El.ky e)) hs
def ka : ByteArray := ⟨#[97]⟩
def kb : ByteArray := ⟨#[98]⟩
/-- Of the locks: t holds a; nobody holds b. -/
structure Hld (t : Nat) (L : List El) : Prop where
  a : ∃ y, fnd El.ky L ka.data.toList = some y ∧ y.1.2 = t
  b : fnd El.ky L kb.data.toList = none
  len : L.length ≤ 1
theorem Hld.of {t : Nat} {x : Eb} {L : List El} (h : Lkd [] t [x] L) (hx : x.ky = ka.data.toList) : Hld t L :=
  ⟨(h.1 ka.data.toList).1 ⟨x, List.mem_singleton.2 rfl, hx⟩, (h.1 kb.data.toList).2 (fun ⟨z, hz, e⟩ => by
    obtain rfl : z = x := List.mem_singleton.1 hz
    rw [hx] at e
    exact absurd e (by decide)), h.2.2⟩
theorem Hld.other {t u : Nat} {L L' : List El} {W : List Eb} (h : Hld t L) (hf : Fr L u W L') (hu : t ≠ u) (hl : L'.length ≤ 1) : Hld t L' := by
  obtain ⟨y, hy, ey⟩ := h.a
  refine ⟨⟨y, ?_, ey⟩, ?_, hl⟩
  · rw [(hf ka.data.toList).2 (fun ⟨_, z, hz, ez⟩ => by rw [hy] at hz; cases hz; exact hu (ey.symm.trans ez))]
    exact hy
  · rw [(hf kb.data.toList).2 (fun ⟨_, z, hz, ez⟩ => by rw [h.b] at hz; cases hz)]
    exact h.b
theorem Hld.gone {t : Nat} {L L' : List El} {x : Eb} (h : Hld t L) (hf : Fr L t [x] L') (hx : x.ky = ka.data.toList) : fnd El.ky L' ka.data.toList = none :=
  (hf ka.data.toList).1 ⟨x, List.mem_singleton.2 rfl, hx⟩ h.a
theorem tkn_a {sp sl lk : Nat} {ck : Int} {SL : List Es} {t : Nat} {L : List El} {U : Tm} (h : Hld t L) (hu : t ≠ U.t) : tkn ⟨sp, sl, lk, ck, SL, L⟩ U ka.data.toList = true := by
  obtain ⟨y, hy, ey⟩ := h.a
  unfold tkn
  rw [hy]
  show decide (y.1.2 ≠ U.t) = true
  rw [ey]
  exact decide_eq_true hu
theorem nm_a : nm ka = true := by decide
theorem nm_b : nm kb = true := by decide
theorem rn_a : rn 0 ka = 0 := by decide
theorem rn_b : rn 0 kb = 0 := by decide

/-- The slots that StmLocks begins with. -/
def ab (j : Nat) : ByteArray := if j = 0 then ka else kb
theorem ab_in (w : World) : Sls (w.alloc (.cells #[.string ka, .int .i64 0, .slice none 0 0, .string kb, .int .i64 0, .slice none 0 0] 44)) (some ⟨w.heap.size, 0, none⟩) 2 ab (fun _ => 0) := by
  have hb := World.alloc_heap_new w (.cells #[.string ka, .int .i64 0, .slice none 0 0, .string kb, .int .i64 0, .slice none 0 0] 44)
  intro r hr
  refine ⟨w.heap.size, 0, rfl, 0, none, 0, fun _ => 0, ?_⟩
  rcases (by omega : r = 0 ∨ r = 1) with rfl | rfl
  · exact ⟨by rw [cells_at hb]; rfl, by rw [cells_at hb]; rfl, by rw [cells_at hb]; rfl, .inl ⟨rfl, rfl⟩, Nat.zero_le _, by decide, fun _ => rfl⟩
  · exact ⟨by rw [cells_at hb]; rfl, by rw [cells_at hb]; rfl, by rw [cells_at hb]; rfl, .inl ⟨rfl, rfl⟩, Nat.zero_le _, by decide, fun _ => rfl⟩
theorem ab_good : Good ab 2 := fun j hj => by
  rcases (by omega : j = 0 ∨ j = 1) with rfl | rfl
  · exact nm_a
  · exact nm_b
theorem ab_once : ¬ Twice ab 2 := fun ⟨i, j, hij, hj, e⟩ => by
  obtain rfl : i = 0 := by omega
  obtain rfl : j = 1 := by omega
  exact absurd e (by decide)
theorem G1.sys {w w' : World} {sp sl lk : Nat} {slots : List Es} (h : G1 w sp sl lk slots w') : Sys w w' (S0 sp sl lk slots) [] := ⟨h.S, fun _ h => (by cases h), List.Pairwise.nil, h.B, h.low, fun _ h => (by cases h)⟩
theorem sz_a : ka.size ≤ maxLen := by decide
theorem sz_b : kb.size ≤ maxLen := by decide

/-- Slots that New made, without bytes. -/
structure Zv (SL : List Es) : Prop where
  ver : ∀ x ∈ SL, x.1.2.1 = 0
  emp : ∀ x ∈ SL, x.1.2.2.2.1 = 0
  len : SL.length ≤ 3000000000000
theorem Zv.slt {SL : List Es} (h : Zv SL) {sp sl lk : Nat} {ck : Int} {L : List El} (k : List UInt8) : (slt ⟨sp, sl, lk, ck, SL, L⟩ k).1 = 0 ∧ (Go.Proofs.Ytdackomidfofgaa.slt ⟨sp, sl, lk, ck, SL, L⟩ k).2.2.1 = 0 := by
  unfold Go.Proofs.Ytdackomidfofgaa.slt
  cases e : fnd Es.ky SL k with
  | none => exact ⟨rfl, rfl⟩
  | some x => exact ⟨h.ver x (fnd_some e).2, h.emp x (fnd_some e).2⟩
theorem from_nil (w : World) (a : Option Addr) {n : Nat} (hn : n = 0) : From w a n (fun _ => 0) := by
  cases a with
  | none => exact .inl ⟨rfl, hn⟩
  | some x => exact .inr ⟨x, rfl, fun i hi => absurd hi (by omega)⟩
section
variable {z : World} {sp sl lk : Nat} {t rd wr : Nat} {x : Eb} {L : List El} {SL0 : List Es}
theorem l_begin {w1 : World} {Ts : List Tm} (h : Sys z w1 ⟨sp, sl, lk, 0, SL0, L⟩ Ts) : Calls Try.prog 8 #[.pointer (some ⟨sp, 0, none⟩)] w1 fun e w' => ∃ t, e = .returned (.tuple #[.pointer (some ⟨t, 0, none⟩), .int .i64 0]) ∧ Hid (∃ rd wr, Sys z w' ⟨sp, sl, lk, 0, SL0, L⟩ (⟨t, rd, wr, 0, [], [], 0⟩ :: Ts)) := k_begin h
theorem l_tput {w1 : World} (h : Sys z w1 ⟨sp, sl, lk, 0, SL0, []⟩ [⟨t, rd, wr, 0, [], [], 0⟩]) (b0 : Option Addr) (n c : Nat) (f : Nat → Int) (hf : From z b0 n f) (hn : n ≤ 140737488355328) :
    Calls Try.prog 16 #[.pointer (some ⟨t, 0, none⟩), .string ka, .slice b0 n c] w1 fun e w' => e = .returned (.int .i64 0) ∧ Hid (∃ x : Eb, x.ky = ka.data.toList ∧ Sys z w' ⟨sp, sl, lk, 0, SL0, []⟩ [⟨t, rd, wr, 0, [], [x], 0⟩]) :=
  (k_put (A := []) (C := []) h ka sz_a b0 n c f hf hn (by simp) rn_a).mono fun e w' ⟨he, hh⟩ => ⟨he, hh⟩
theorem l_tlock {w1 : World} (h : Sys z w1 ⟨sp, sl, lk, 0, SL0, []⟩ [⟨t, rd, wr, 0, [], [x], 0⟩]) (hx : x.ky = ka.data.toList) :
    Calls Try.prog 17 #[.pointer (some ⟨t, 0, none⟩)] w1 fun e w' => e = .returned (.int .i64 0) ∧ Hid (∃ L, Hld t L ∧ Sys z w' ⟨sp, sl, lk, 0, SL0, L⟩ [⟨t, rd, wr, 0, [], [x], 1⟩]) :=
  (k_lock (A := []) (C := []) h (by simp) (by simp) rfl).mono fun e w' ⟨_, h2⟩ => by
    obtain ⟨he, hh⟩ := h2 rfl
    obtain ⟨L, k1, k2⟩ := hh.out
    exact ⟨he, L, Hld.of k1 hx, k2⟩
/-- All four are there. -/
theorem l_uget {w1 : World} {U V W : Tm} (h : Sys z w1 ⟨sp, sl, lk, 0, SL0, L⟩ [W, V, U, ⟨t, rd, wr, 0, [], [x], 1⟩]) (hL : Hld t L) (hU : U.time = 0 ∧ U.reads = [] ∧ U.writes = [] ∧ U.ph = 0) :
    Calls Try.prog 14 #[.pointer (some ⟨U.t, 0, none⟩), .string ka] w1 fun e w' => e = .returned (.tuple #[.slice none 0 0, .int .i64 180]) ∧ Hid (∃ L', Hld t L' ∧ Sys z w' ⟨sp, sl, lk, 0, SL0, L'⟩ [W, V, { U with ph := 4 }, ⟨t, rd, wr, 0, [], [x], 1⟩]) := by
  have hd : t ≠ U.t := by
    have := h.dis
    rw [List.pairwise_cons, List.pairwise_cons, List.pairwise_cons] at this
    exact fun e => (this.2.2.1 _ (List.mem_singleton.2 rfl)).1 e.symm
  have hst : sty ⟨sp, sl, lk, 0, SL0, L⟩ U ka.data.toList = true := by unfold sty; rw [tkn_a hL hd]; rfl
  refine (k_get_clash (A := [W, V]) (C := [⟨t, rd, wr, 0, [], [x], 1⟩]) h ka sz_a (by rw [hU.2.2.1]; decide) (by rw [hU.2.2.2]; exact rn_a) (by rw [hU.2.2.1]; rfl) hst).mono fun e w' ⟨he, hh⟩ => ⟨he, ?_⟩
  obtain ⟨L', k1, k2, k3⟩ := hh.out
  exact ⟨L', hL.other k2 hd (Nat.le_trans (locks_len k3.spc k1) hL.len), k3⟩
theorem l_vget {w1 : World} {U V W : Tm} (h : Sys z w1 ⟨sp, sl, lk, 0, SL0, L⟩ [W, V, U, ⟨t, rd, wr, 0, [], [x], 1⟩]) (hL : Hld t L) (hz : Zv SL0) (hV : V.time = 0 ∧ V.reads = [] ∧ V.writes = [] ∧ V.ph = 0) :
    Calls Try.prog 14 #[.pointer (some ⟨V.t, 0, none⟩), .string kb] w1 fun e w' => ∃ v, e = .returned (.tuple #[v, .int .i64 0]) ∧ Hid (∃ R, R.length ≤ 1 ∧ Sys z w' ⟨sp, sl, lk, 0, SL0, L⟩ [W, { V with reads := R }, U, ⟨t, rd, wr, 0, [], [x], 1⟩]) := by
  have hst : sty ⟨sp, sl, lk, 0, SL0, L⟩ V kb.data.toList = false := by
    unfold sty tkn
    rw [hL.b, hV.1, (hz.slt _).1]
    rfl
  refine (k_get (A := [W]) (C := [U, ⟨t, rd, wr, 0, [], [x], 1⟩]) h kb sz_b (by rw [hV.2.1]; decide) (by rw [hV.2.2.2]; exact rn_b) (by rw [hV.2.2.1]; rfl) hst (fun _ => 0) (from_nil _ _ (hz.slt _).2) (by rw [(hz.slt _).2]; omega)).mono fun e w' ⟨v, he, ho, hh⟩ => ⟨v, he, ?_⟩
  obtain ⟨y, k1, k3⟩ := hh.out
  exact ⟨_, by rw [hV.2.1]; exact Nat.le_refl 1, k3⟩
theorem l_wput {w1 : World} {U V W : Tm} (h : Sys z w1 ⟨sp, sl, lk, 0, SL0, L⟩ [W, V, U, ⟨t, rd, wr, 0, [], [x], 1⟩]) (b0 : Option Addr) (n c : Nat) (f : Nat → Int) (hf : From z b0 n f) (hn : n ≤ 140737488355328) (hW : W.time = 0 ∧ W.reads = [] ∧ W.writes = [] ∧ W.ph = 0) :
    Calls Try.prog 16 #[.pointer (some ⟨W.t, 0, none⟩), .string ka, .slice b0 n c] w1 fun e w' => e = .returned (.int .i64 0) ∧ Hid (∃ x2 : Eb, x2.ky = ka.data.toList ∧ Sys z w' ⟨sp, sl, lk, 0, SL0, L⟩ [{ W with writes := [x2] }, V, U, ⟨t, rd, wr, 0, [], [x], 1⟩]) := by
  refine (k_put (A := []) (C := [V, U, ⟨t, rd, wr, 0, [], [x], 1⟩]) h ka sz_a b0 n c f hf hn (by rw [hW.2.2.1]; decide) (by rw [hW.2.2.2]; exact rn_a)).mono fun e w' ⟨he, hh⟩ => ⟨he, ?_⟩
  obtain ⟨x2, k1, k2⟩ := hh.out
  rw [hW.2.2.1] at k2
  exact ⟨x2, k1, k2⟩
theorem l_wlock {w1 : World} {U V W : Tm} {x2 : Eb} (h : Sys z w1 ⟨sp, sl, lk, 0, SL0, L⟩ [{ W with writes := [x2] }, V, U, ⟨t, rd, wr, 0, [], [x], 1⟩]) (hL : Hld t L) (hx2 : x2.ky = ka.data.toList) (hW : W.ph = 0) :
    Calls Try.prog 17 #[.pointer (some ⟨W.t, 0, none⟩)] w1 fun e w' => e = .returned (.int .i64 180) ∧ Hid (∃ L', Hld t L' ∧ Sys z w' ⟨sp, sl, lk, 0, SL0, L'⟩ [{ W with writes := [x2], ph := 4 }, V, U, ⟨t, rd, wr, 0, [], [x], 1⟩]) := by
  have hd : t ≠ W.t := by
    have := h.dis
    rw [List.pairwise_cons] at this
    exact fun e => (this.1 ⟨t, rd, wr, 0, [], [x], 1⟩ (by simp)).1 e.symm
  have htk : tks ⟨sp, sl, lk, 0, SL0, L⟩ { W with writes := [x2] } = true := by
    unfold tks
    show (tkn _ _ x2.ky || false) = true
    rw [hx2, tkn_a (U := { W with writes := [x2] }) hL hd]
    rfl
  refine (k_lock (A := []) (C := [V, U, ⟨t, rd, wr, 0, [], [x], 1⟩]) h (by simp) (by have := hL.len; show L.length ≤ _; omega) hW).mono fun e w' ⟨h1, _⟩ => ?_
  obtain ⟨he, hh⟩ := h1 htk
  refine ⟨he, ?_⟩
  obtain ⟨L', k1, k2, k3⟩ := hh.out
  exact ⟨L', hL.other k2 hd (Nat.le_trans (locks_len k3.spc k1) hL.len), k3⟩
/-- It is over: a is free again. -/
theorem l_tabort {w1 : World} {U V W : Tm} (h : Sys z w1 ⟨sp, sl, lk, 0, SL0, L⟩ [W, V, U, ⟨t, rd, wr, 0, [], [x], 1⟩]) (hL : Hld t L) (hx : x.ky = ka.data.toList) :
    Calls Try.prog 25 #[.pointer (some ⟨t, 0, none⟩)] w1 fun e w' => e = .returned (.int .i64 0) ∧ Hid (∃ L', fnd El.ky L' ka.data.toList = none ∧ Sys z w' ⟨sp, sl, lk, 0, SL0, L'⟩ [W, V, U, ⟨t, rd, wr, 0, [], [x], 4⟩]) := by
  refine (k_abort (A := [W, V, U]) (C := []) h (by simp) (by simp)).mono fun e w' ⟨he, hh⟩ => ⟨he, ?_⟩
  obtain ⟨L', k1, k2, k3⟩ := hh.out
  exact ⟨L', hL.gone k2 hx, k3⟩
theorem l_vget2 {w1 : World} {U V W T : Tm} (h : Sys z w1 ⟨sp, sl, lk, 0, SL0, L⟩ [W, V, U, T]) (hL : fnd El.ky L ka.data.toList = none) (hz : Zv SL0) (hV : V.time = 0 ∧ V.reads.length ≤ 1 ∧ V.writes = [] ∧ V.ph = 0) :
    Calls Try.prog 14 #[.pointer (some ⟨V.t, 0, none⟩), .string ka] w1 fun e w' => ∃ a c, e = .returned (.tuple #[.slice a 0 c, .int .i64 0]) ∧ Below z.heap.size z w' := by
  have hst : sty ⟨sp, sl, lk, 0, SL0, L⟩ V ka.data.toList = false := by
    unfold sty tkn
    rw [hL, hV.1, (hz.slt _).1]
    rfl
  refine (k_get (A := [W]) (C := [U, T]) h ka sz_a (by have := hV.2.1; omega) (by rw [hV.2.2.2]; exact rn_a) (by rw [hV.2.2.1]; rfl) hst (fun _ => 0) (from_nil _ _ (hz.slt _).2) (by rw [(hz.slt _).2]; omega)).mono fun e w' ⟨v, he, ho, hh⟩ => ?_
  obtain ⟨y, k1, k3⟩ := hh.out
  rw [(hz.slt _).2] at ho
  obtain ⟨a, c, rfl⟩ := ho.slice
  exact ⟨a, c, he, k3.B⟩
theorem l_tcheck {w1 : World} {U V W : Tm} (h : Sys z w1 ⟨sp, sl, lk, 0, SL0, L⟩ [W, V, U, ⟨t, rd, wr, 0, [], [x], 1⟩]) :
    Calls Try.prog 19 #[.pointer (some ⟨t, 0, none⟩)] w1 fun e w' => e = .returned (.int .i64 0) ∧ Hid (Sys z w' ⟨sp, sl, lk, 0, SL0, L⟩ [W, V, U, ⟨t, rd, wr, 0, [], [x], 2⟩]) :=
  (k_check (A := [W, V, U]) (C := []) h (by simp) (by simp) (by simp)).mono fun e w' ⟨_, h2⟩ => h2 rfl
theorem l_tpublish {w1 : World} {U V W : Tm} (h : Sys z w1 ⟨sp, sl, lk, 0, SL0, L⟩ [W, V, U, ⟨t, rd, wr, 0, [], [x], 2⟩]) (hL : Hld t L) (hz : Zv SL0) (hx : x.ky = ka.data.toList) :
    Calls Try.prog 20 #[.pointer (some ⟨t, 0, none⟩)] w1 fun e w' => e = .returned (.int .i64 0) ∧ Hid (∃ SL L', (slt ⟨sp, sl, lk, 1, SL, L'⟩ ka.data.toList).1 = 1 ∧ Sys z w' ⟨sp, sl, lk, 1, SL, L'⟩ [W, V, U, ⟨t, rd, wr, 0, [], [x], 3⟩]) := by
  refine (k_publish (A := [W, V, U]) (C := []) h (by simp) (by simp) (by have := hz.len; show SL0.length ≤ _; omega) (by simp) (by simp) rfl).mono fun e w' ⟨_, h2⟩ => ?_
  obtain ⟨he, hh⟩ := h2 rfl
  refine ⟨he, ?_⟩
  obtain ⟨SL, L', k1, k2, k3, k4⟩ := hh.out
  refine ⟨SL, L', ?_, k4⟩
  obtain ⟨u, hu, eu, y, hy, ey⟩ := (k1.1 ka.data.toList).1 ⟨x, List.mem_singleton.2 rfl, hx⟩
  unfold slt
  rw [hy]
  show y.1.2.1 = 1
  rw [ey]
  rfl
theorem l_vget3 {w1 : World} {U V W T : Tm} {SL : List Es} (h : Sys z w1 ⟨sp, sl, lk, 1, SL, L⟩ [W, V, U, T]) (hs : (slt ⟨sp, sl, lk, 1, SL, L⟩ ka.data.toList).1 = 1) (hV : V.time = 0 ∧ V.reads.length ≤ 1 ∧ V.writes = [] ∧ V.ph = 0) :
    Calls Try.prog 14 #[.pointer (some ⟨V.t, 0, none⟩), .string ka] w1 fun e w' => e = .returned (.tuple #[.slice none 0 0, .int .i64 180]) ∧ Hid (∃ L', Sys z w' ⟨sp, sl, lk, 1, SL, L'⟩ [W, { V with ph := 4 }, U, T]) := by
  have hst : sty ⟨sp, sl, lk, 1, SL, L⟩ V ka.data.toList = true := by
    unfold sty
    rw [hs, hV.1]
    simp
  refine (k_get_clash (A := [W]) (C := [U, T]) h ka sz_a (by rw [hV.2.2.1]; decide) (by rw [hV.2.2.2]; exact rn_a) (by rw [hV.2.2.1]; rfl) hst).mono fun e w' ⟨he, hh⟩ => ⟨he, ?_⟩
  obtain ⟨L', k1, k2, k3⟩ := hh.out
  exact ⟨L', k3⟩
end
theorem stm_locks {w : World} (b0 : Option Addr) (n c : Nat) (f : Nat → Int) (hf : From w b0 n f) (hn : n ≤ 140737488355328) (over : Bool) :
    Calls Try.prog 6 #[.slice b0 n c, .bool over] w fun e w' => e = .returned (.bool true) ∧ Below w.heap.size w w' := by
  obtain ⟨z, hz⟩ : ∃ z, z = w.alloc (.cells #[.string ka, .int .i64 0, .slice none 0 0, .string kb, .int .i64 0, .slice none 0 0] 44) := ⟨_, rfl⟩
  have hBz : Below w.heap.size w z := by rw [hz]; exact (Below.refl _ w).alloc (Nat.le_refl _) _
  have hfz : From z b0 n f := hf.below hBz (Nat.le_refl _)
  have HN : Calls Try.prog 7 #[.slice (some ⟨w.heap.size, 0, none⟩) 2 2] z fun e w' => ∃ sp, e = .returned (.tuple #[.pointer (some ⟨sp, 0, none⟩), .int .i64 0]) ∧ Hid (∃ sl lk SL0, Zv SL0 ∧ Sys z w' ⟨sp, sl, lk, 0, SL0, []⟩ []) := by
    rw [hz]
    refine (new_good (ab_in w) (by omega) ab_good ab_once).mono fun e w' ⟨sp, he, hh⟩ => ⟨sp, he, ?_⟩
    obtain ⟨sl, lk, slots, h1, h2, h3⟩ := hh.out
    exact ⟨sl, lk, slots, ⟨h2, h3 (fun _ => rfl), h1.len⟩, h1.sys⟩
  have HBz : Hid (Below w.heap.size w z) := hBz
  have HFz : Hid (From z b0 n f) := hfz
  have HN2 : Calls Try.prog 7 #[.slice (some ⟨w.heap.size, 0, none⟩) 2 2] (w.alloc (.cells #[.string ⟨#[97]⟩, .int .i64 0, .slice none 0 0, .string ⟨#[98]⟩, .int .i64 0, .slice none 0 0] 44)) fun e w' => ∃ sp, e = .returned (.tuple #[.pointer (some ⟨sp, 0, none⟩), .int .i64 0]) ∧ Hid (∃ sl lk SL0, Zv SL0 ∧ Sys z w' ⟨sp, sl, lk, 0, SL0, []⟩ []) := by
    unfold ka kb at hz
    rw [← hz]
    exact HN
  clear hBz hfz hf HN hz
  cases over with
  | true =>
    go_enter Try.func6, Try.ntmps6
    go_wp2_with (first
      | (go_at_call 7; refine HN2.mono ?_; clear HN2; rintro e w1 ⟨sp, rfl, hh⟩; obtain ⟨sl, lk, SL0, hz0, h1⟩ := hh.out; clear hh; have HZ : Hid (Zv SL0) := hz0; have HBt := l_begin h1; clear h1 hz0)
      | (go_at_call 8; refine HBt.mono ?_; clear HBt; rintro e w2 ⟨t, rfl, hh⟩; obtain ⟨rd, wr, h2⟩ := hh.out; clear hh; have HPt := l_tput h2 b0 n c f HFz.out hn; clear h2)
      | (go_at_call 16; refine HPt.mono ?_; clear HPt; rintro e w3 ⟨rfl, hh⟩; obtain ⟨x, hx, h3⟩ := hh.out; clear hh; have Hx : Hid (x.ky = ka.data.toList) := hx; have HLt := l_tlock h3 hx; clear h3 hx)
      | (go_at_call 17; refine HLt.mono ?_; clear HLt; rintro e w4 ⟨rfl, hh⟩; obtain ⟨L4, g4, h4⟩ := hh.out; clear hh; have G4 : Hid (Hld t L4) := g4; have HBu := l_begin h4; clear h4 g4)
      | (go_at_call 8; refine HBu.mono ?_; clear HBu; rintro e w5 ⟨u, rfl, hh⟩; obtain ⟨ud, ur, h5⟩ := hh.out; clear hh; have HBv := l_begin h5; clear h5)
      | (go_at_call 8; refine HBv.mono ?_; clear HBv; rintro e w6 ⟨v, rfl, hh⟩; obtain ⟨vd, vr, h6⟩ := hh.out; clear hh; have HBw := l_begin h6; clear h6)
      | (go_at_call 8; refine HBw.mono ?_; clear HBw; rintro e w7 ⟨q, rfl, hh⟩; obtain ⟨qd, qr, h7⟩ := hh.out; clear hh; have HGu := l_uget h7 G4.out ⟨rfl, rfl, rfl, rfl⟩; clear h7 G4)
      | (go_at_call 14; refine HGu.mono ?_; clear HGu; rintro e w8 ⟨rfl, hh⟩; obtain ⟨L8, g8, h8⟩ := hh.out; clear hh; have G8 : Hid (Hld t L8) := g8; have HGv := l_vget h8 g8 HZ.out ⟨rfl, rfl, rfl, rfl⟩; clear h8 g8)
      | (go_at_call 14; refine HGv.mono ?_; clear HGv; rintro e w9 ⟨vv, rfl, hh⟩; obtain ⟨R, hR, h9⟩ := hh.out; clear hh; have HR : Hid (R.length ≤ 1) := hR; have HPw := l_wput h9 b0 n c f HFz.out hn ⟨rfl, rfl, rfl, rfl⟩; clear h9 hR)
      | (go_at_call 16; refine HPw.mono ?_; clear HPw; rintro e w10 ⟨rfl, hh⟩; obtain ⟨x2, hx2, h10⟩ := hh.out; clear hh; have HLw := l_wlock (W := ⟨q, qd, qr, 0, [], [], 0⟩) h10 G8.out hx2 rfl; clear h10 G8 hx2)
      | (go_at_call 17; refine HLw.mono ?_; clear HLw; rintro e w11 ⟨rfl, hh⟩; obtain ⟨L11, g11, h11⟩ := hh.out; clear hh; have PU := t_phase (h11.txc _ (List.mem_cons_of_mem _ (List.mem_cons_of_mem _ (List.mem_cons_self ..)))); have PV := t_phase (h11.txc _ (List.mem_cons_of_mem _ (List.mem_cons_self ..))); have PW := t_phase (h11.txc _ (List.mem_cons_self ..)); have HAt := l_tabort h11 g11 Hx.out; clear h11 g11)
      | (go_at_call 18; refine PU.mono ?_; clear PU; rintro e w12 ⟨rfl, rfl⟩)
      | (go_at_call 18; refine PV.mono ?_; clear PV; rintro e w12 ⟨rfl, rfl⟩)
      | (go_at_call 18; refine PW.mono ?_; clear PW; rintro e w12 ⟨rfl, rfl⟩)
      | (go_at_call 25; refine HAt.mono ?_; clear HAt; rintro e w13 ⟨rfl, hh⟩; obtain ⟨L13, g13, h13⟩ := hh.out; clear hh; have HGe := l_vget2 h13 g13 HZ.out ⟨rfl, HR.out, rfl, rfl⟩; clear h13 g13)
      | (go_at_call 14; refine HGe.mono ?_; clear HGe; rintro e w14 ⟨ax, cx, rfl, b14⟩))
    go_ret
    exact ⟨rfl, HBz.out.trans (b14.mono HBz.out.size)⟩
  | false =>
    go_enter Try.func6, Try.ntmps6
    go_wp2_with (first
      | (go_at_call 7; refine HN2.mono ?_; clear HN2; rintro e w1 ⟨sp, rfl, hh⟩; obtain ⟨sl, lk, SL0, hz0, h1⟩ := hh.out; clear hh; have HZ : Hid (Zv SL0) := hz0; have HBt := l_begin h1; clear h1 hz0)
      | (go_at_call 8; refine HBt.mono ?_; clear HBt; rintro e w2 ⟨t, rfl, hh⟩; obtain ⟨rd, wr, h2⟩ := hh.out; clear hh; have HPt := l_tput h2 b0 n c f HFz.out hn; clear h2)
      | (go_at_call 16; refine HPt.mono ?_; clear HPt; rintro e w3 ⟨rfl, hh⟩; obtain ⟨x, hx, h3⟩ := hh.out; clear hh; have Hx : Hid (x.ky = ka.data.toList) := hx; have HLt := l_tlock h3 hx; clear h3 hx)
      | (go_at_call 17; refine HLt.mono ?_; clear HLt; rintro e w4 ⟨rfl, hh⟩; obtain ⟨L4, g4, h4⟩ := hh.out; clear hh; have G4 : Hid (Hld t L4) := g4; have HBu := l_begin h4; clear h4 g4)
      | (go_at_call 8; refine HBu.mono ?_; clear HBu; rintro e w5 ⟨u, rfl, hh⟩; obtain ⟨ud, ur, h5⟩ := hh.out; clear hh; have HBv := l_begin h5; clear h5)
      | (go_at_call 8; refine HBv.mono ?_; clear HBv; rintro e w6 ⟨v, rfl, hh⟩; obtain ⟨vd, vr, h6⟩ := hh.out; clear hh; have HBw := l_begin h6; clear h6)
      | (go_at_call 8; refine HBw.mono ?_; clear HBw; rintro e w7 ⟨q, rfl, hh⟩; obtain ⟨qd, qr, h7⟩ := hh.out; clear hh; have HGu := l_uget h7 G4.out ⟨rfl, rfl, rfl, rfl⟩; clear h7 G4)
      | (go_at_call 14; refine HGu.mono ?_; clear HGu; rintro e w8 ⟨rfl, hh⟩; obtain ⟨L8, g8, h8⟩ := hh.out; clear hh; have G8 : Hid (Hld t L8) := g8; have HGv := l_vget h8 g8 HZ.out ⟨rfl, rfl, rfl, rfl⟩; clear h8 g8)
      | (go_at_call 14; refine HGv.mono ?_; clear HGv; rintro e w9 ⟨vv, rfl, hh⟩; obtain ⟨R, hR, h9⟩ := hh.out; clear hh; have HR : Hid (R.length ≤ 1) := hR; have HPw := l_wput h9 b0 n c f HFz.out hn ⟨rfl, rfl, rfl, rfl⟩; clear h9 hR)
      | (go_at_call 16; refine HPw.mono ?_; clear HPw; rintro e w10 ⟨rfl, hh⟩; obtain ⟨x2, hx2, h10⟩ := hh.out; clear hh; have HLw := l_wlock (W := ⟨q, qd, qr, 0, [], [], 0⟩) h10 G8.out hx2 rfl; clear h10 G8 hx2)
      | (go_at_call 17; refine HLw.mono ?_; clear HLw; rintro e w11 ⟨rfl, hh⟩; obtain ⟨L11, g11, h11⟩ := hh.out; clear hh; have PU := t_phase (h11.txc _ (List.mem_cons_of_mem _ (List.mem_cons_of_mem _ (List.mem_cons_self ..)))); have PV := t_phase (h11.txc _ (List.mem_cons_of_mem _ (List.mem_cons_self ..))); have PW := t_phase (h11.txc _ (List.mem_cons_self ..)); have G11 : Hid (Hld t L11) := g11; have HCt := l_tcheck h11; clear h11 g11)
      | (go_at_call 18; refine PU.mono ?_; clear PU; rintro e w12 ⟨rfl, rfl⟩)
      | (go_at_call 18; refine PV.mono ?_; clear PV; rintro e w12 ⟨rfl, rfl⟩)
      | (go_at_call 18; refine PW.mono ?_; clear PW; rintro e w12 ⟨rfl, rfl⟩)
      | (go_at_call 19; refine HCt.mono ?_; clear HCt; rintro e w13 ⟨rfl, hh⟩; have h13 := hh.out; clear hh; have HPb := l_tpublish h13 G11.out HZ.out Hx.out; clear h13 G11)
      | (go_at_call 20; refine HPb.mono ?_; clear HPb; rintro e w14 ⟨rfl, hh⟩; obtain ⟨SL14, L14, g14, h14⟩ := hh.out; clear hh; have HGe := l_vget3 h14 g14 ⟨rfl, HR.out, rfl, rfl⟩; clear h14 g14)
      | (go_at_call 14; refine HGe.mono ?_; clear HGe; rintro e w15 ⟨rfl, hh⟩; obtain ⟨L15, h15⟩ := hh.out; clear hh; have PV2 := t_phase (h15.txc _ (List.mem_cons_of_mem _ (List.mem_cons_self ..))); have B15 : Hid (Below z.heap.size z w15) := h15.B; clear h15)
      | (go_at_call 18; refine PV2.mono ?_; clear PV2; rintro e w16 ⟨rfl, rfl⟩))
    go_ret
    exact ⟨rfl, HBz.out.trans (B15.out.mono HBz.out.size)⟩
end Go.Proofs.Ytdackomidfofgaa
