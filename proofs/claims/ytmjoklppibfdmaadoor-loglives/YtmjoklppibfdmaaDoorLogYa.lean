/-
  A log of the program and one of the document, each over its disk, told by one state: contracts of Append, Force, Reset, Open and of the getters on either. Conditions: at most 4096 sectors; the library's table of sums is as it starts.
-/
import Derived.Test.YtmjoklppibfdmaaDoorGh
import Derived.Test.YtmjoklppibfdmaaDoorLogZk
namespace Go.Proofs.YtmjoklppibfdmaaDoor
open Go.RowKit
set_option linter.unusedVariables false

/-- What a log knows: its records' numbers, its bytes, how many of these are forced. -/
structure St where
  first : Nat
  last : Nat
  forced : Nat
  tot : Nat
  done : Nat
  s : Nat → Int
structure Okx (from_ sectors n : Nat) (x : St) : Prop where
  hp : from_ + sectors ≤ n
  hs : 1 ≤ sectors
  hn : n ≤ 4096
  dt : x.done ≤ x.tot
  ts : x.tot ≤ sectors * 112
  fl : x.forced ≠ x.last → x.done < x.tot
  f2 : x.first ≤ 4611686018427387904
  l2 : x.last ≤ 4611686018428000000
  by_ : ∀ i, 0 ≤ x.s i ∧ x.s i ≤ 255
def more (P : Nat → Prop) (w w' : World) : Nat → Prop := fun k => P k ∨ (w.heap.size ≤ k ∧ k < w'.heap.size)

/-- What Append answers and leaves. -/
def appE (sectors m : Nat) (x : St) : Nat := if m = 0 then 1 else if 2000 < m then 12 else if sectors * 112 - x.tot < (putB m).length + m ∨ 4611686018427387904 ≤ x.last then 4 else 0
def appN (sectors m : Nat) (x : St) : Nat := if appE sectors m x = 0 then x.last + 1 else 0
def appX (sectors m : Nat) (x : St) (g : Nat → Int) : St := if appE sectors m x = 0 then { x with last := x.last + 1, tot := x.tot + (putB m).length + m, s := addR x.s x.tot m g } else x
theorem appE_0 {sectors m : Nat} {x : St} (h : m = 0) : appE sectors m x = 1 := if_pos h
theorem appE_l {sectors m : Nat} {x : St} (h : 2000 < m) : appE sectors m x = 12 := by unfold appE; rw [if_neg (by omega), if_pos h]
theorem appE_f {sectors m : Nat} {x : St} (h0 : ¬ m = 0) (h1 : ¬ 2000 < m) (h : sectors * 112 - x.tot < (putB m).length + m ∨ 4611686018427387904 ≤ x.last) : appE sectors m x = 4 := by unfold appE; rw [if_neg h0, if_neg h1, if_pos h]
theorem appE_ok {sectors m : Nat} {x : St} (h0 : ¬ m = 0) (h1 : ¬ 2000 < m) (h : ¬ (sectors * 112 - x.tot < (putB m).length + m ∨ 4611686018427387904 ≤ x.last)) : appE sectors m x = 0 := by unfold appE; rw [if_neg h0, if_neg h1, if_neg h]
theorem appX_no {sectors m : Nat} {x : St} {g : Nat → Int} (h : ¬ appE sectors m x = 0) : appX sectors m x g = x := if_neg h
theorem appN_no {sectors m : Nat} {x : St} (h : ¬ appE sectors m x = 0) : appN sectors m x = 0 := if_neg h
theorem appX_yes {sectors m : Nat} {x : St} {g : Nat → Int} (h : appE sectors m x = 0) : appX sectors m x g = { x with last := x.last + 1, tot := x.tot + (putB m).length + m, s := addR x.s x.tot m g } := if_pos h
theorem appN_yes {sectors m : Nat} {x : St} (h : appE sectors m x = 0) : appN sectors m x = x.last + 1 := if_pos h
theorem Okx.app {from_ sectors n : Nat} {x : St} (h : Okx from_ sectors n x) (m : Nat) {g : Nat → Int} (hg : ∀ i, 0 ≤ g i ∧ g i ≤ 255) : Okx from_ sectors n (appX sectors m x g) := by
  by_cases h0 : m = 0
  · rw [appX_no (by rw [appE_0 h0]; decide)]; exact h
  by_cases h1 : 2000 < m
  · rw [appX_no (by rw [appE_l h1]; decide)]; exact h
  by_cases h2 : sectors * 112 - x.tot < (putB m).length + m ∨ 4611686018427387904 ≤ x.last
  · rw [appX_no (by rw [appE_f h0 h1 h2]; decide)]; exact h
  rw [appX_yes (appE_ok h0 h1 h2)]
  have a1 := h.dt
  have a2 := h.ts
  have a3 := h.l2
  exact ⟨h.hp, h.hs, h.hn, by show x.done ≤ x.tot + _ + m; omega, by show x.tot + _ + m ≤ _; omega, fun _ => by show x.done < x.tot + _ + m; omega, h.f2, by show x.last + 1 ≤ _; omega, addR_by h.by_ hg (by omega)⟩

/-- What Force leaves. -/
def frcX (x : St) : St := { x with forced := x.last, done := if x.forced = x.last then x.done else x.tot }
def frcE (from_ : Nat) (e : Nat → Int) (x : St) : Nat → Int := if x.forced = x.last then e else svs e from_ (x.done / 112) x.first (ckL (x.tot - x.done / 112 * 112)) (fun k => sh (sh x.s (x.done / 112 * 112)) (k * 112)) ((x.tot - x.done / 112 * 112 + 111) / 112)
theorem frcX_same {x : St} (h : x.forced = x.last) : frcX x = x := by
  obtain ⟨f, l, o, t, d, s⟩ := x
  have h' : o = l := h
  subst h'
  simp [frcX]
theorem Okx.frc {from_ sectors n : Nat} {x : St} (h : Okx from_ sectors n x) : Okx from_ sectors n (frcX x) := by
  have a1 := h.dt
  refine ⟨h.hp, h.hs, h.hn, ?_, h.ts, fun k => absurd rfl k, h.f2, h.l2, h.by_⟩
  show (if x.forced = x.last then x.done else x.tot) ≤ x.tot
  split <;> omega

/-- What Reset answers and leaves. -/
def rstA (x : St) : Nat := if 4611686018427387904 ≤ x.last then 4 else 0
def rstX (x : St) : St := if 4611686018427387904 ≤ x.last then x else { x with first := x.last + 1, forced := x.last, tot := 0, done := 0 }
def rstE (from_ : Nat) (e : Nat → Int) (x : St) : Nat → Int := if 4611686018427387904 ≤ x.last then e else svs e from_ 0 (x.last + 1) (fun _ => 0) (fun _ _ => 0) 1
theorem Okx.rst {from_ sectors n : Nat} {x : St} (h : Okx from_ sectors n x) : Okx from_ sectors n (rstX x) := by
  unfold rstX
  split
  · exact h
  · exact ⟨h.hp, h.hs, h.hn, Nat.le_refl _, Nat.zero_le _, fun k => absurd rfl k, by show x.last + 1 ≤ _; omega, h.l2, h.by_⟩

/-- A log over its disk, all of it in P's blocks. -/
structure Pg (w : World) (P : Nat → Prop) (D L n from_ sectors : Nat) (e : Nat → Int) (x : St) : Prop where
  lay : ∃ T F vt q, LogW w L T D from_ sectors x.first x.last x.forced (x.done / 112) vt ∧ Own w q vt (lst (sh x.s (x.done / 112 * 112)) (x.tot - x.done / 112 * 112)) ∧ q ≤ w.heap.size ∧ Sd w D F n 0 e ∧ L ≠ T ∧ ¬ F L ∧ ¬ F T ∧ (∀ k, vt.ownBlock = some k → ¬ F k) ∧ (∀ k, F k → P k) ∧ P L ∧ P T ∧ ∀ k, vt.ownBlock = some k → P k
  lt : ∀ k, P k → k < w.heap.size
theorem Pg.part {w w' : World} {P G : Nat → Prop} {D L n from_ sectors : Nat} {e : Nat → Int} {x : St} (h : Pg w P D L n from_ sectors e x) (hp : Part G w w') (hn : ∀ k, P k → ¬ G k) : Pg w' P D L n from_ sectors e x := by
  obtain ⟨T, F, vt, q, h1, h2, h3, h4, h5, h6, h7, h8, h9, h10, h11, h12⟩ := h.lay
  have hs := hp.size
  exact ⟨⟨T, F, vt, q, h1.part hp (hn _ h10) (hn _ h11), hp.row h2 (fun k hk => hn _ (h12 k hk)), by omega, h4.part hp (fun k hk => hn _ (h9 k hk)), h5, h6, h7, h8, h9, h10, h11, h12⟩, fun k hk => by have := h.lt k hk; omega⟩
theorem Pg.below {w w' : World} {P : Nat → Prop} {D L n from_ sectors : Nat} {e : Nat → Int} {x : St} (h : Pg w P D L n from_ sectors e x) (hb : Below w.heap.size w w') : Pg w' P D L n from_ sectors e x := h.part (Part.ofBelow (F := fun _ => False) hb) (fun _ _ h => h)
theorem Pg.grow {w : World} {P Q : Nat → Prop} {D L n from_ sectors : Nat} {e : Nat → Int} {x : St} (h : Pg w P D L n from_ sectors e x) (h1 : ∀ k, P k → Q k) (h2 : ∀ k, Q k → k < w.heap.size) : Pg w Q D L n from_ sectors e x := by
  obtain ⟨T, F, vt, q, k1, k2, k3, k4, k5, k6, k7, k8, k9, k10, k11, k12⟩ := h.lay
  exact ⟨⟨T, F, vt, q, k1, k2, k3, k4, k5, k6, k7, k8, fun k hk => h1 _ (k9 k hk), h1 _ k10, h1 _ k11, fun k hk => h1 _ (k12 k hk)⟩, h2⟩
theorem more_lt {P : Nat → Prop} {w w' : World} (h : ∀ k, P k → k < w.heap.size) (hs : w.heap.size ≤ w'.heap.size) : ∀ k, more P w w' k → k < w'.heap.size := fun k hk => by
  rcases hk with a | a
  · have := h k a; omega
  · exact a.2
theorem Pg.same {w w' : World} {P : Nat → Prop} {D L n from_ sectors : Nat} {e : Nat → Int} {x : St} (h : Pg w P D L n from_ sectors e x) (hb : Below w.heap.size w w') : Pg w' (more P w w') D L n from_ sectors e x ∧ Part P w w' :=
  ⟨(h.below hb).grow (fun _ h => .inl h) (more_lt h.lt hb.size), Part.ofBelow hb⟩

theorem pg_append {w : World} {P : Nat → Prop} {D L n from_ sectors : Nat} {e : Nat → Int} {x : St} (h : Pg w P D L n from_ sectors e x) (ok : Okx from_ sectors n x) (a0 : Option Addr) (m c : Nat) (g : Nat → Int) (hF : From w a0 m g) (hP : ∀ y, a0 = some y → 0 < m → ¬ P y.block) (hc0 : a0 = none → c = 0) :
    Calls Tryd.prog 27 #[.pointer (some ⟨L, 0, none⟩), .slice a0 m c] w fun r w' => r = .returned (.tuple #[.int .i64 (appN sectors m x : Int), .int .i64 (appE sectors m x : Int)]) ∧ Hid (Pg w' (more P w w') D L n from_ sectors e (appX sectors m x g) ∧ Part P w w') := by
  obtain ⟨T, F, vt, q, h1, h2, h3, h4, h5, h6, h7, h8, h9, h10, h11, h12⟩ := h.lay
  have a1 := ok.dt
  have a2 := ok.ts
  have a3 := ok.hp
  have a4 := ok.hn
  have hxl : (lst (sh x.s (x.done / 112 * 112)) (x.tot - x.done / 112 * 112)).length = x.tot - x.done / 112 * 112 := lst_length _ _
  by_cases m0 : m = 0
  · have hE := appE_0 (sectors := sectors) (x := x) m0
    rw [appN_no (by rw [hE]; decide), appX_no (by rw [hE]; decide), hE]
    subst m0
    exact (appL_empty L T c a0 w h1.l0).mono fun r w' ⟨hr, hw⟩ => ⟨hr, by rw [hw]; exact h.same (Below.refl _ _)⟩
  by_cases m1 : 2000 < m
  · have hE := appE_l (sectors := sectors) (x := x) m1
    rw [appN_no (by rw [hE]; decide), appX_no (by rw [hE]; decide), hE]
    exact (appL_long L T m c a0 w h1.l0 m1).mono fun r w' ⟨hr, hw⟩ => ⟨hr, by rw [hw]; exact h.same (Below.refl _ _)⟩
  by_cases m2 : sectors * 112 - x.tot < (putB m).length + m ∨ 4611686018427387904 ≤ x.last
  · have hE := appE_f (x := x) m0 m1 m2
    rw [appN_no (by rw [hE]; decide), appX_no (by rw [hE]; decide), hE]
    exact (appL_full L T D from_ sectors x.first _ _ (x.done / 112) q m c vt _ a0 w h1 h2 (by omega) (by omega) (by omega) (by omega) (by omega)).mono fun r w' ⟨hr, hb⟩ => ⟨hr, h.same hb⟩
  have hE := appE_ok (x := x) m0 m1 m2
  rw [appN_yes hE, appX_yes hE, hE]
  refine (appL_ok L T D from_ sectors x.first _ _ (x.done / 112) q m c vt _ a0 g w h1 h5 h2 h3 (by omega) (by omega) (by omega) (by omega) (by omega) (fun w5 hp => hF.partG hp (fun y hy h0 hk => hP y hy h0 (h12 _ hk.symm))) hc0).mono ?_
  rintro r w' ⟨rfl, v', k1, k2, k3, k4⟩
  have hs := k3.size
  refine ⟨rfl, ⟨⟨T, F, v', q, k1, ?_, by omega, ?_, h5, h6, h7, ?_, fun k hk => .inl (h9 k hk), .inl h10, .inl h11, fun k hk => ?_⟩, more_lt h.lt hs⟩, k3.mono (fun k hk hG => ?_)⟩
  · show Own w' q v' (lst (sh (addR x.s x.tot m g) (x.done / 112 * 112)) (x.tot + (putB m).length + m - x.done / 112 * 112))
    rw [← addR_list x.s x.tot (x.done / 112 * 112) m g (by omega)]
    exact k2
  · exact h4.part k3 (fun k hk hG => by
      rcases hG with rfl | hG
      · exact h7 hk
      · exact h8 k hG.symm hk)
  · intro k hk hFk
    rcases k4 k hk with a | a
    · exact h8 k a.symm hFk
    · have := h4.lt k hFk
      omega
  · rcases k4 k hk with a | a
    · exact .inl (h12 k a.symm)
    · exact .inr ⟨a, (World.ownsRow.lt k2 k hk).2⟩
  · rcases hG with rfl | hG
    · exact h11
    · exact h12 k hG.symm

theorem pg_force {w : World} {P : Nat → Prop} {D L n from_ sectors : Nat} {e : Nat → Int} {x : St} (h : Pg w P D L n from_ sectors e x) (ok : Okx from_ sectors n x) (ht : Tab w) (htb : ¬ P 1) :
    Calls Tryd.prog 14 #[.pointer (some ⟨L, 0, none⟩)] w fun r w' => r = .returned (.int .i64 0) ∧ Hid (Pg w' (more P w w') D L n from_ sectors (frcE from_ e x) (frcX x) ∧ Part P w w') := by
  obtain ⟨T, F, vt, q, h1, h2, h3, h4, h5, h6, h7, h8, h9, h10, h11, h12⟩ := h.lay
  have a1 := ok.dt
  have a2 := ok.ts
  have a3 := ok.hp
  have a4 := ok.hn
  have a5 := ok.f2
  by_cases hall : x.forced = x.last
  · rw [frcX_same hall, frcE, if_pos hall]
    rw [hall] at h1
    refine (force_same L T D from_ sectors x.first _ _ vt w h1).mono ?_
    rintro r w' ⟨rfl, q', rfl⟩
    exact ⟨rfl, h.same (blw_drewN q' (Below.refl _ _))⟩
  · have hlt := ok.fl hall
    obtain ⟨tl, htl⟩ : ∃ tl, x.tot - x.done / 112 * 112 = tl := ⟨_, rfl⟩
    rw [frcE, if_neg hall]
    rw [htl] at h2 ⊢
    obtain ⟨a, c, rfl, ⟨f5, f6, f7⟩, f8⟩ := h2.fst
    obtain ⟨g, rfl, hgc⟩ : ∃ g, a = some ⟨g, 0, none⟩ ∧ ∀ i, i < tl → w.cell? ⟨g, i, none⟩ = some (.int .u8 (sh x.s (x.done / 112 * 112) i)) := by
      rcases f7 with ⟨_, e0, _⟩ | h
      · omega
      · exact h
    have hgb : (Value.slice (some ⟨g, 0, none⟩) tl c).ownBlock = some g := rfl
    have hgT : g ≠ T := fun e => h2.ne h1.hT (by decide) (by rw [hgb, e])
    refine (forceL L T D n from_ sectors x.first _ _ (x.done / 112) g tl c ((tl + 111) / 112) F e (sh x.s (x.done / 112 * 112)) w h1 h5 hall h4 h6 h7 (h8 g hgb) hgT (f8 g rfl).2 hgc f5 f6 (fun i => ok.by_ _) (by omega) (by omega) (by omega) (by omega) (by omega) ht (fun k => htb (h9 _ k))).mono ?_
    rintro r w' ⟨rfl, q', v', k1, k2, k3, k4, k5⟩
    have hs := k4.size
    rw [sh_sh] at k2
    have hd : (frcX x).done = x.tot := if_neg hall
    refine ⟨rfl, ⟨⟨T, _, v', w.heap.size, ?_, ?_, hs, k3, h5, ?_, ?_, ?_, fun k hk => ?_, .inl h10, .inl h11, fun k hk => ?_⟩, more_lt h.lt hs⟩, k4.mono (fun k hk hG => ?_)⟩
    · rw [hd, show x.tot / 112 = x.done / 112 + tl / 112 by omega]
      exact k1
    · rw [hd]
      show Own w' w.heap.size v' (lst (sh x.s (x.tot / 112 * 112)) (x.tot - x.tot / 112 * 112))
      rw [show x.tot / 112 * 112 = x.done / 112 * 112 + tl / 112 * 112 by omega, show x.tot - (x.done / 112 * 112 + tl / 112 * 112) = tl - tl / 112 * 112 by omega]
      exact k2.mono k5
    · rintro (a | a)
      · exact h6 a
      · have := h.lt _ h10; omega
    · rintro (a | a)
      · exact h7 a
      · have := h.lt _ h11; omega
    · intro k hk
      have hl := (World.ownsRow.lt k2 k hk).1
      rintro (a | a)
      · have := h4.lt k a; omega
      · omega
    · rcases hk with hk | hk
      · exact .inl (h9 k hk)
      · exact .inr ⟨hk.1, k3.lt k (.inr hk)⟩
    · have hl := World.ownsRow.lt k2 k hk
      exact .inr ⟨by omega, hl.2⟩
    · rcases hG with hG | rfl
      · exact h9 k hG
      · exact h11

theorem pg_reset {w : World} {P : Nat → Prop} {D L n from_ sectors : Nat} {e : Nat → Int} {x : St} (h : Pg w P D L n from_ sectors e x) (ok : Okx from_ sectors n x) (ht : Tab w) (htb : ¬ P 1) :
    Calls Tryd.prog 25 #[.pointer (some ⟨L, 0, none⟩)] w fun r w' => r = .returned (.int .i64 (rstA x : Int)) ∧ Hid (Pg w' (more P w w') D L n from_ sectors (rstE from_ e x) (rstX x) ∧ Part P w w') := by
  obtain ⟨T, F, vt, q, h1, h2, h3, h4, h5, h6, h7, h8, h9, h10, h11, h12⟩ := h.lay
  have a3 := ok.hp
  have a4 := ok.hs
  by_cases hl : 4611686018427387904 ≤ x.last
  · rw [rstA, rstE, rstX, if_pos hl, if_pos hl, if_pos hl]
    exact (reset_full L T D from_ sectors x.first _ _ _ vt w h1 hl).mono fun r w' ⟨hr, hw⟩ => ⟨hr, by rw [hw]; exact h.same (Below.refl _ _)⟩
  rw [rstA, rstE, rstX, if_neg hl, if_neg hl, if_neg hl]
  refine (resetL L T D n from_ sectors x.first _ _ (x.done / 112) vt F e w h1 h5 h4 h6 h7 (by omega) ht (fun k => htb (h9 _ k)) (by omega)).mono ?_
  rintro r w' ⟨rfl, q', v', k1, k2, k3, k4, k5⟩
  have hs := k4.size
  refine ⟨rfl, ⟨⟨T, _, v', w.heap.size, ?_, ?_, hs, k3, h5, ?_, ?_, ?_, fun k hk => ?_, .inl h10, .inl h11, fun k hk => ?_⟩, more_lt h.lt hs⟩, k4.mono (fun k hk hG => ?_)⟩
  · show LogW w' L T D from_ sectors (x.last + 1) x.last x.last (0 / 112) v'
    rw [Nat.zero_div]
    exact k1
  · show Own w' w.heap.size v' (lst (sh x.s (0 / 112 * 112)) (0 - 0 / 112 * 112))
    rw [Nat.zero_div, Nat.zero_mul]
    exact k2.mono k5
  · rintro (a | a)
    · exact h6 a
    · have := h.lt _ h10; omega
  · rintro (a | a)
    · exact h7 a
    · have := h.lt _ h11; omega
  · intro k hk
    have hl := (World.ownsRow.lt k2 k hk).1
    rintro (a | a)
    · have := h4.lt k a; omega
    · omega
  · rcases hk with hk | hk
    · exact .inl (h9 k hk)
    · exact .inr ⟨hk.1, k3.lt k (.inr hk)⟩
  · have hl := World.ownsRow.lt k2 k hk
    exact .inr ⟨by omega, hl.2⟩
  · rcases hG with hG | rfl
    · exact h9 k hG
    · exact h11

theorem pg_last {w : World} {P : Nat → Prop} {D L n from_ sectors : Nat} {e : Nat → Int} {x : St} (h : Pg w P D L n from_ sectors e x) : Calls Tryd.prog 16 #[.pointer (some ⟨L, 0, none⟩)] w fun r w' => r = .returned (.int .i64 (x.last : Int)) ∧ w' = w := by
  obtain ⟨T, F, vt, q, h1, _⟩ := h.lay
  exact lLast L T _ w h1.l0 (by rw [cells_at h1.hT 4]; rfl)
theorem pg_first {w : World} {P : Nat → Prop} {D L n from_ sectors : Nat} {e : Nat → Int} {x : St} (h : Pg w P D L n from_ sectors e x) : Calls Tryd.prog 26 #[.pointer (some ⟨L, 0, none⟩)] w fun r w' => r = .returned (.int .i64 (x.first : Int)) ∧ w' = w := by
  obtain ⟨T, F, vt, q, h1, _⟩ := h.lay
  exact lFirst L T _ w h1.l0 (by rw [cells_at h1.hT 3]; rfl)
theorem pg_forced {w : World} {P : Nat → Prop} {D L n from_ sectors : Nat} {e : Nat → Int} {x : St} (h : Pg w P D L n from_ sectors e x) : Calls Tryd.prog 15 #[.pointer (some ⟨L, 0, none⟩)] w fun r w' => r = .returned (.int .i64 (x.forced : Int)) ∧ w' = w := by
  obtain ⟨T, F, vt, q, h1, _⟩ := h.lay
  exact lForced L T _ w h1.l0 (by rw [cells_at h1.hT 5]; rfl)
theorem pg_room {w : World} {P : Nat → Prop} {D L n from_ sectors : Nat} {e : Nat → Int} {x : St} (h : Pg w P D L n from_ sectors e x) (ok : Okx from_ sectors n x) : Calls Tryd.prog 28 #[.pointer (some ⟨L, 0, none⟩)] w fun r w' => r = .returned (.int .i64 ((sectors * 112 - x.tot : Nat) : Int)) ∧ ∃ q, w' = w.drewN q := by
  obtain ⟨T, F, vt, q, h1, h2, _⟩ := h.lay
  have a1 := ok.dt
  have a2 := ok.ts
  have a3 := ok.hp
  have a4 := ok.hn
  have := lwRoom h1 h2 (by omega) (by rw [lst_length]; omega)
  rw [lst_length, show sectors * 112 - x.done / 112 * 112 - (x.tot - x.done / 112 * 112) = sectors * 112 - x.tot by omega] at this
  exact this

/-- The state that Open finds. -/
def opnX (e : Nat → Int) (from_ first size k : Nat) : St := ⟨max first 1, max first 1 + k - 1, max first 1 + k - 1, size, size, lg (from0 e from_)⟩
theorem pg_opened {w w' : World} {P F : Nat → Prop} {D n from_ sectors : Nat} {e : Nat → Int} {L : Nat} {v : Value} {first tot size : Nat} {R : List (Nat × Nat)} (h : Opened w w' D n from_ sectors F e L v first tot size R) (hF : ∀ k, F k → P k) (hP : ∀ k, P k → k < w.heap.size) : ∃ e', Pg w' (more P w w') D L n from_ sectors e' (opnX e from_ first size R.length) ∧ Cleaned e e' from_ sectors first tot size ∧ ∃ A C, RecG w' w.heap.size v R.length A (lenF R) C (bytF (lg (from0 e from_)) R) := by
  obtain ⟨hH, hp, ⟨T, vt, A, C, e', p, q, k1, k2, k3, k4, k5, k6, k7, k8, k9, k10, k11, k12, k13⟩, hpt⟩ := h
  have hs := hpt.size
  have hL : L < w'.heap.size := (Array.getElem?_eq_some_iff.1 k1.hL).1
  have hT : T < w'.heap.size := (Array.getElem?_eq_some_iff.1 k1.hT).1
  have hFl : ∀ k, F k → k < w.heap.size := fun k hk => hP k (hF k hk)
  refine ⟨e', ⟨⟨T, _, vt, q, k1, k2, by omega, k3, k12, ?_, ?_, fun k hk => ?_, fun k hk => hk.imp (hF k) (fun h => ⟨by omega, by omega⟩), .inr ⟨by omega, hL⟩, .inr ⟨by omega, hT⟩, fun k hk => ?_⟩, more_lt hP hs⟩, k4, A, C, k5⟩
  · rintro (a | a)
    · have := hFl _ a; omega
    · omega
  · rintro (a | a)
    · have := hFl _ a; omega
    · omega
  · have hl := (World.ownsRow.lt k2 k hk).1
    rintro (a | a)
    · have := hFl _ a; omega
    · omega
  · have hl := World.ownsRow.lt k2 k hk
    exact .inr ⟨by omega, hl.2⟩
theorem Cleaned.uniq {e e1 e2 : Nat → Int} {from_ sectors first tot size : Nat} (h1 : Cleaned e e1 from_ sectors first tot size) (h2 : Cleaned e e2 from_ sectors first tot size) : e1 = e2 := by
  funext j
  by_cases hj : j < from_ * 128 ∨ (from_ + sectors) * 128 ≤ j
  · rw [h1.2 j hj, h2.2 j hj]
  · have a := h1.1 (j / 128 - from_) (by omega) (j % 128) (Nat.mod_lt _ (by decide))
    have b := h2.1 (j / 128 - from_) (by omega) (j % 128) (Nat.mod_lt _ (by decide))
    rw [show (from_ + (j / 128 - from_)) * 128 + j % 128 = j by omega] at a b
    rw [a, b]

/-- A log of the document over its disk, all of it in P's blocks. -/
structure Dg (w : World) (P : Nat → Prop) (X M n from_ sectors : Nat) (e : Nat → Int) (x : St) : Prop where
  lay : ∃ F a0 cs, Zl w M X from_ sectors x.first x.last x.forced (.slice a0 x.tot cs) x.done ∧ (a0 = none ∧ cs = 0 ∨ ∃ g, a0 = some ⟨g, 0, none⟩ ∧ ¬ F g ∧ P g ∧ g ≠ M) ∧ From w a0 x.tot x.s ∧ x.tot ≤ cs ∧ cs ≤ 9223372036854775807 ∧ Sx w X F n 0 e ∧ ¬ F M ∧ (∀ k, F k → P k) ∧ P M
  lt : ∀ k, P k → k < w.heap.size
theorem Dg.part {w w' : World} {P G : Nat → Prop} {X M n from_ sectors : Nat} {e : Nat → Int} {x : St} (h : Dg w P X M n from_ sectors e x) (hp : Part G w w') (hn : ∀ k, P k → ¬ G k) : Dg w' P X M n from_ sectors e x := by
  obtain ⟨F, a0, cs, h1, h2, h3, h4, h5, h6, h7, h8, h9⟩ := h.lay
  have hs := hp.size
  refine ⟨⟨F, a0, cs, h1.part hp (hn _ h9), h2, h3.partG hp (fun y hy _ => ?_), h4, h5, h6.part hp (fun k hk => hn _ (h8 k hk)), h7, h8, h9⟩, fun k hk => by have := h.lt k hk; omega⟩
  rcases h2 with ⟨rfl, _⟩ | ⟨g, rfl, _, hg, _⟩
  · cases hy
  · cases hy; exact hn _ hg
theorem Dg.below {w w' : World} {P : Nat → Prop} {X M n from_ sectors : Nat} {e : Nat → Int} {x : St} (h : Dg w P X M n from_ sectors e x) (hb : Below w.heap.size w w') : Dg w' P X M n from_ sectors e x := h.part (Part.ofBelow (F := fun _ => False) hb) (fun _ _ h => h)
theorem Dg.grow {w : World} {P Q : Nat → Prop} {X M n from_ sectors : Nat} {e : Nat → Int} {x : St} (h : Dg w P X M n from_ sectors e x) (h1 : ∀ k, P k → Q k) (h2 : ∀ k, Q k → k < w.heap.size) : Dg w Q X M n from_ sectors e x := by
  obtain ⟨F, a0, cs, k1, k2, k3, k4, k5, k6, k7, k8, k9⟩ := h.lay
  exact ⟨⟨F, a0, cs, k1, k2.imp id (fun ⟨g, a, b, c, d⟩ => ⟨g, a, b, h1 _ c, d⟩), k3, k4, k5, k6, k7, fun k hk => h1 _ (k8 k hk), h1 _ k9⟩, h2⟩
theorem Dg.same {w w' : World} {P : Nat → Prop} {X M n from_ sectors : Nat} {e : Nat → Int} {x : St} (h : Dg w P X M n from_ sectors e x) (hb : Below w.heap.size w w') : Dg w' (more P w w') X M n from_ sectors e x ∧ Part P w w' :=
  ⟨(h.below hb).grow (fun _ h => .inl h) (more_lt h.lt hb.size), Part.ofBelow hb⟩

theorem dg_append {w : World} {P : Nat → Prop} {X M n from_ sectors : Nat} {e : Nat → Int} {x : St} (h : Dg w P X M n from_ sectors e x) (ok : Okx from_ sectors n x) (a0 : Option Addr) (m c : Nat) (g : Nat → Int) (hF : From w a0 m g) (hg : ∀ i, 0 ≤ g i ∧ g i ≤ 255) :
    Calls Tryd.prog 35 #[.pointer (some ⟨M, 0, none⟩), .slice a0 m c] w fun r w' => r = .returned (.tuple #[.int .i64 (appN sectors m x : Int), .int .i64 (appE sectors m x : Int)]) ∧ Hid (Dg w' (more P w w') X M n from_ sectors e (appX sectors m x g) ∧ Part P w w') := by
  obtain ⟨F, b0, cs, h1, h2, h3, h4, h5, h6, h7, h8, h9⟩ := h.lay
  have a1 := ok.dt
  have a2 := ok.ts
  have a3 := ok.hp
  have a4 := ok.hn
  by_cases m0 : m = 0
  · have hE := appE_0 (sectors := sectors) (x := x) m0
    rw [appN_no (by rw [hE]; decide), appX_no (by rw [hE]; decide), hE]
    subst m0
    exact zApp_empty.mono fun r w' ⟨hr, hw⟩ => ⟨hr, by rw [hw]; exact h.same (Below.refl _ _)⟩
  by_cases m1 : 2000 < m
  · have hE := appE_l (sectors := sectors) (x := x) m1
    rw [appN_no (by rw [hE]; decide), appX_no (by rw [hE]; decide), hE]
    exact (zApp_long m1).mono fun r w' ⟨hr, hw⟩ => ⟨hr, by rw [hw]; exact h.same (Below.refl _ _)⟩
  by_cases m2 : sectors * 112 - x.tot < (putB m).length + m ∨ 4611686018427387904 ≤ x.last
  · have hE := appE_f (x := x) m0 m1 m2
    rw [appN_no (by rw [hE]; decide), appX_no (by rw [hE]; decide), hE]
    exact (zApp_full h1 (by omega) a2 a0 m c g hF hg (by omega) (by omega) m2).mono fun r w' ⟨hr, hb⟩ => ⟨hr, h.same hb⟩
  have hE := appE_ok (x := x) m0 m1 m2
  rw [appN_yes hE, appX_yes hE, hE]
  refine (zApp_ok h1 (by omega) h3 (fun k => by rcases h2 with ⟨_, h⟩ | ⟨g, h, _⟩; exact h; rw [h] at k; cases k) a0 m c g hF hg (by omega) (by omega) (by omega) (by omega)).mono ?_
  rintro r w' ⟨rfl, HZ⟩
  obtain ⟨a, c', k1, k2, k3, k4, k5, k6, k7⟩ := HZ.out
  have hs := k7.size
  have hM := h.lt _ h9
  refine ⟨rfl, ⟨⟨F, some ⟨a, 0, none⟩, c', k1, .inr ⟨a, rfl, fun hk => ?_, .inr ⟨k3, k4⟩, by omega⟩, k2, k5, k6, h6.part k7 (fun k hk hG => ?_), h7, fun k hk => .inl (h8 k hk), .inl h9⟩, more_lt h.lt hs⟩, k7.mono (fun k _ hG => ?_)⟩
  · have := h6.lt _ hk; omega
  · cases hG; exact h7 hk
  · cases hG; exact h9

theorem dg_force {w : World} {P : Nat → Prop} {X M n from_ sectors : Nat} {e : Nat → Int} {x : St} (h : Dg w P X M n from_ sectors e x) (ok : Okx from_ sectors n x) :
    Calls Tryd.prog 37 #[.pointer (some ⟨M, 0, none⟩)] w fun r w' => r = .returned (.int .i64 0) ∧ Hid (Dg w' (more P w w') X M n from_ sectors (frcE from_ e x) (frcX x) ∧ Part P w w') := by
  obtain ⟨F, b0, cs, h1, h2, h3, h4, h5, h6, h7, h8, h9⟩ := h.lay
  have a1 := ok.dt
  have a2 := ok.ts
  have a3 := ok.hp
  have a4 := ok.hn
  have a5 := ok.f2
  by_cases hall : x.forced = x.last
  · rw [frcX_same hall, frcE, if_pos hall]
    rw [hall] at h1
    refine (zForce_same h1).mono ?_
    rintro r w' ⟨rfl, q', rfl⟩
    exact ⟨rfl, h.same (blw_drewN q' (Below.refl _ _))⟩
  have hlt := ok.fl hall
  rcases h2 with ⟨_, rfl⟩ | ⟨g, rfl, hgF, hgP, hgM⟩
  · omega
  rw [frcE, if_neg hall]
  refine (zForce (N := (x.tot - x.done / 112 * 112 + 111) / 112) h1 h6 h7 hgF h3 ok.by_ h4 h5 hall a1 (by omega) (by omega) (by omega) (by omega) (by omega)).mono ?_
  rintro r w' ⟨rfl, HK⟩
  obtain ⟨k1, k2, k3⟩ := HK.out
  have hs := k3.size
  have hd : (frcX x).done = x.tot := if_neg hall
  refine ⟨rfl, ⟨⟨_, some ⟨g, 0, none⟩, cs, by rw [hd]; exact k1, .inr ⟨g, rfl, ?_, .inl hgP, hgM⟩, h3.partG k3 (fun y hy _ => ?_), h4, h5, k2, ?_, fun k hk => hk.imp (h8 k) id, .inl h9⟩, more_lt h.lt hs⟩, k3.mono (fun k _ hG => ?_)⟩
  · rintro (a | a)
    · exact hgF a
    · have := h.lt _ hgP; omega
  · cases hy
    rintro (a | a)
    · exact hgF a
    · exact hgM a
  · rintro (a | a)
    · exact h7 a
    · have := h.lt _ h9; omega
  · rcases hG with hG | rfl
    · exact h8 k hG
    · exact h9

theorem dg_reset {w : World} {P : Nat → Prop} {X M n from_ sectors : Nat} {e : Nat → Int} {x : St} (h : Dg w P X M n from_ sectors e x) (ok : Okx from_ sectors n x) :
    Calls Tryd.prog 38 #[.pointer (some ⟨M, 0, none⟩)] w fun r w' => r = .returned (.int .i64 (rstA x : Int)) ∧ Hid (Dg w' (more P w w') X M n from_ sectors (rstE from_ e x) (rstX x) ∧ Part P w w') := by
  obtain ⟨F, b0, cs, h1, h2, h3, h4, h5, h6, h7, h8, h9⟩ := h.lay
  have a3 := ok.hp
  have a4 := ok.hs
  by_cases hl : 4611686018427387904 ≤ x.last
  · rw [rstA, rstE, rstX, if_pos hl, if_pos hl, if_pos hl]
    exact (zReset_full h1 hl).mono fun r w' ⟨hr, hw⟩ => ⟨hr, by rw [hw]; exact h.same (Below.refl _ _)⟩
  rw [rstA, rstE, rstX, if_neg hl, if_neg hl, if_neg hl]
  refine (zReset h1 h6 h7 (by omega) (by omega)).mono ?_
  rintro r w' ⟨rfl, HK⟩
  obtain ⟨k1, k2, k3⟩ := HK.out
  have hs := k3.size
  refine ⟨rfl, ⟨⟨_, none, 0, k1, .inl ⟨rfl, rfl⟩, .inl ⟨rfl, rfl⟩, Nat.le_refl _, by decide, k2, ?_, fun k hk => hk.imp (h8 k) id, .inl h9⟩, more_lt h.lt hs⟩, k3.mono (fun k _ hG => ?_)⟩
  · rintro (a | a)
    · exact h7 a
    · have := h.lt _ h9; omega
  · rcases hG with hG | rfl
    · exact h8 k hG
    · exact h9

theorem dg_last {w : World} {P : Nat → Prop} {X M n from_ sectors : Nat} {e : Nat → Int} {x : St} (h : Dg w P X M n from_ sectors e x) : Calls Tryd.prog 40 #[.pointer (some ⟨M, 0, none⟩)] w fun r w' => r = .returned (.int .i64 (x.last : Int)) ∧ w' = w := by
  obtain ⟨F, a0, cs, h1, _⟩ := h.lay
  exact zLast h1
theorem dg_first {w : World} {P : Nat → Prop} {X M n from_ sectors : Nat} {e : Nat → Int} {x : St} (h : Dg w P X M n from_ sectors e x) : Calls Tryd.prog 39 #[.pointer (some ⟨M, 0, none⟩)] w fun r w' => r = .returned (.int .i64 (x.first : Int)) ∧ w' = w := by
  obtain ⟨F, a0, cs, h1, _⟩ := h.lay
  exact zFirst h1
theorem dg_forced {w : World} {P : Nat → Prop} {X M n from_ sectors : Nat} {e : Nat → Int} {x : St} (h : Dg w P X M n from_ sectors e x) : Calls Tryd.prog 41 #[.pointer (some ⟨M, 0, none⟩)] w fun r w' => r = .returned (.int .i64 (x.forced : Int)) ∧ w' = w := by
  obtain ⟨F, a0, cs, h1, _⟩ := h.lay
  exact zForced h1
theorem dg_room {w : World} {P : Nat → Prop} {X M n from_ sectors : Nat} {e : Nat → Int} {x : St} (h : Dg w P X M n from_ sectors e x) (ok : Okx from_ sectors n x) : Calls Tryd.prog 42 #[.pointer (some ⟨M, 0, none⟩)] w fun r w' => r = .returned (.int .i64 ((sectors * 112 - x.tot : Nat) : Int)) ∧ ∃ q, w' = w.drewN q := by
  obtain ⟨F, a0, cs, h1, _⟩ := h.lay
  have a2 := ok.ts
  have a3 := ok.hp
  have a4 := ok.hn
  exact zRoom h1 (by omega) a2
theorem dg_opened {w w' : World} {P F : Nat → Prop} {X n from_ sectors : Nat} {e : Nat → Int} {M : Nat} {v : Value} {first tot size : Nat} {R : List (Nat × Nat)} (h : ZOpened w w' X n from_ sectors F e M v first tot size R) (hF : ∀ k, F k → P k) (hP : ∀ k, P k → k < w.heap.size) : ∃ e', Dg w' (more P w w') X M n from_ sectors e' (opnX e from_ first size R.length) ∧ Cleaned e e' from_ sectors first tot size ∧ ∃ A C, RecG w' w.heap.size v R.length A (lenF R) C (bytF (lg (from0 e from_)) R) := by
  obtain ⟨hH, hp, ⟨a0, cs, A, C, e', p, k1, k2, k3, k4, k5, k6, k7, k8, k9, k10, k11⟩, hpt⟩ := h
  have hs := hpt.size
  have hFl : ∀ k, F k → k < w.heap.size := fun k hk => hP k (hF k hk)
  have hM : M < w'.heap.size := (Array.getElem?_eq_some_iff.1 k1).1
  refine ⟨e', ⟨⟨_, a0, cs, k1, ?_, k3, k4, k5, k6, ?_, fun k hk => hk.imp (hF k) (fun h => ⟨by omega, by omega⟩), .inr ⟨k9, hM⟩⟩, more_lt hP hs⟩, k7, A, C, k8⟩
  · rcases k2 with k2 | ⟨g, rfl, g1, g2, g3⟩
    · exact .inl k2
    · refine .inr ⟨g, rfl, ?_, .inr ⟨g1, ?_⟩, g3⟩
      · rintro (a | a)
        · have := hFl _ a; omega
        · omega
      · omega
  · rintro (a | a)
    · have := hFl _ a; omega
    · omega
end Go.Proofs.YtmjoklppibfdmaaDoor
