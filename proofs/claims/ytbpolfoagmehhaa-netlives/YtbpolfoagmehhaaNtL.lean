/-
  The program's net beside the document's (Lv, St): each call of both, one behind the other.
-/
import Derived.Test.YtbpolfoagmehhaaNtK
namespace Go.Proofs.Ytbpolfoagmehhaa
open Go.RowKit
set_option linter.unusedVariables false
set_option maxRecDepth 100000
set_option maxHeartbeats 2000000

structure Lv (w0 w : World) (b d : Nat) (v vx : Value) (zs zx : List Ms) : Prop where
  n1 : Nt w w0.heap.size true b v zs
  n2 : Nt w w0.heap.size false d vx zx
  sep : ∀ k, v.ownBlock = some k → vx.ownBlock ≠ some k
  bel : Below w0.heap.size w0 w
theorem Lv.ne {w0 w : World} {b d : Nat} {v vx : Value} {zs zx : List Ms} (h : Lv w0 w b d v vx zs zx) : b ≠ d := fun e => by
  subst e
  exact tyne h.n1.hb h.n2.hb (by decide)
theorem Nt.foot {w : World} {B b : Nat} {s : Bool} {v : Value} {zs : List Ms} (h : Nt w B s b v zs) {k : Nat} (hf : Foot b v k) : B ≤ k := by
  rcases hf with rfl | hf
  · exact h.lo
  · exact (h.q.vty hf).1
theorem Lv.went1 {w0 w w1 : World} {b d : Nat} {v vx v1 : Value} {zs zx zs1 : List Ms} (h : Lv w0 w b d v vx zs zx) (hn : Nt w1 w0.heap.size true b v1 zs1) (hw : Went w w1 b v v1) : Lv w0 w1 b d v1 vx zs1 zx :=
  ⟨hn, h.n2.other h.n1 hw.part (Ne.symm h.ne) (fun k hk hv => h.sep k hv hk), fun k hk hx => by
    rcases hw.row k hk with e | e
    · exact h.sep k e hx
    · have := (World.ownsRow.lt h.n2.q.row k hx).2
      omega, h.bel.trans (hw.part.below (fun k hk => h.n1.foot hk) h.bel.size)⟩
theorem Lv.went2 {w0 w w1 : World} {b d : Nat} {v vx v1 : Value} {zs zx zs1 : List Ms} (h : Lv w0 w b d v vx zs zx) (hn : Nt w1 w0.heap.size false d v1 zs1) (hw : Went w w1 d vx v1) : Lv w0 w1 b d v v1 zs zs1 :=
  ⟨h.n1.other h.n2 hw.part h.ne h.sep, hn, fun k hk hx => by
    rcases hw.row k hx with e | e
    · exact h.sep k hk e
    · have := (World.ownsRow.lt h.n1.q.row k hk).2
      omega, h.bel.trans (hw.part.below (fun k hk => h.n2.foot hk) h.bel.size)⟩
theorem Lv.below {w0 w w1 : World} {b d : Nat} {v vx : Value} {zs zx : List Ms} (h : Lv w0 w b d v vx zs zx) (hb : Below w.heap.size w w1) : Lv w0 w1 b d v vx zs zx :=
  ⟨h.n1.below hb, h.n2.below hb, h.sep, h.bel.trans (hb.mono h.bel.size)⟩
/-- Bytes of the call's own are written over. -/
theorem Lv.spoil {w0 w w1 : World} {b d B' : Nat} {v vx u : Value} {zs zx : List Ms} {xs : List Int} (h : Lv w0 w b d v vx zs zx) (ho : Own w B' u xs) (p : Part (fun q => u.ownBlock = some q) w w1) (hB : w0.heap.size ≤ B') (h1 : ∀ z ∈ zs, ∀ k, z.1.ownBlock = some k → u.ownBlock ≠ some k) (h2 : ∀ z ∈ zx, ∀ k, z.1.ownBlock = some k → u.ownBlock ≠ some k) : Lv w0 w1 b d v vx zs zx := by
  have t : ∀ k, u.ownBlock = some k → B' ≤ k ∧ ∃ cur, w.heap[k]? = some (.cells cur 5 (0, 0)) := fun k hk => by
    obtain ⟨cur, e1, e2⟩ := row_ty ho hk
    exact ⟨e2, cur, e1⟩
  refine ⟨h.n1.kept p (fun hf => ?_) (fun k hk hf => ?_) h1, h.n2.kept p (fun hf => ?_) (fun k hk hf => ?_) h2, h.sep, h.bel.trans (p.below (fun k hk => Nat.le_trans hB (t k hk).1) h.bel.size)⟩
  · obtain ⟨_, cur, e⟩ := t _ hf
    exact tyne h.n1.hb e (by decide)
  · obtain ⟨_, cur, e⟩ := t _ hf
    obtain ⟨_, cur2, e2⟩ := h.n1.q.vty hk
    exact tyne e e2 (by decide)
  · obtain ⟨_, cur, e⟩ := t _ hf
    exact tyne h.n2.hb e (by decide)
  · obtain ⟨_, cur, e⟩ := t _ hf
    obtain ⟨_, cur2, e2⟩ := h.n2.q.vty hk
    exact tyne e e2 (by decide)
/-- Both nets have the messages ms. -/
def St (w0 w : World) (b d : Nat) (ms : List (List Int)) : Prop := ∃ v vx zs zx, Lv w0 w b d v vx zs zx ∧ zs.map Prod.snd = ms ∧ zx.map Prod.snd = ms
theorem St.below {w0 w w1 : World} {b d : Nat} {ms : List (List Int)} (h : St w0 w b d ms) (hb : Below w.heap.size w w1) : St w0 w1 b d ms := by
  obtain ⟨v, vx, zs, zx, h1, h2⟩ := h
  exact ⟨v, vx, zs, zx, h1.below hb, h2⟩
theorem St.bel {w0 w : World} {b d : Nat} {ms : List (List Int)} (h : St w0 w b d ms) : Below w0.heap.size w0 w := by
  obtain ⟨v, vx, zs, zx, h1, h2⟩ := h
  exact h1.bel
/-- The box of the call that is to be done. -/
structure Bk (w : World) (kb : Nat) (z0 z1 : Int) (a : Option Addr) (l c : Nat) : Prop where
  h : w.heap[kb]? = some (.cells #[.int .i64 z0, .int .i64 z1, .slice a l c] 31 (0, 0))
theorem Bk.c {w : World} {kb : Nat} {z0 z1 : Int} {a : Option Addr} {l c : Nat} (h : Bk w kb z0 z1 a l c) : w.cell? ⟨kb, 0, none⟩ = some (.int .i64 z0) ∧ w.cell? ⟨kb, 1, none⟩ = some (.int .i64 z1) ∧ w.cell? ⟨kb, 2, none⟩ = some (.slice a l c) ∧ kb < w.heap.size :=
  ⟨cells_at h.h 0, cells_at h.h 1, cells_at h.h 2, (Array.getElem?_eq_some_iff.1 h.h).1⟩
theorem Bk.went {w w1 : World} {kb b B : Nat} {s : Bool} {v v1 : Value} {zs : List Ms} {z0 z1 : Int} {a : Option Addr} {l c : Nat} (h : Bk w kb z0 z1 a l c) (hn : Nt w B s b v zs) (hw : Went w w1 b v v1) : Bk w1 kb z0 z1 a l c := by
  refine ⟨(hw.part.block kb h.c.2.2.2 (fun hf => ?_)).trans h.h⟩
  rcases hf with hf | hf
  · subst hf
    have hb := hn.hb
    cases s <;> exact tyne hb h.h (by decide)
  · obtain ⟨_, cur, e⟩ := hn.q.vty hf
    exact tyne h.h e (by decide)
theorem Bk.below {w w1 : World} {kb : Nat} {z0 z1 : Int} {a : Option Addr} {l c : Nat} (h : Bk w kb z0 z1 a l c) (hb : Below w.heap.size w w1) : Bk w1 kb z0 z1 a l c := ⟨(hb.block kb h.c.2.2.2).trans h.h⟩

theorem a_drop {w0 w : World} {b d kb l c : Nat} {ms : List (List Int)} {z0 z1 : Int} {a : Option Addr} (h : St w0 w b d ms) (hk : Bk w kb z0 z1 a l c) (i : Int) :
    Calls Try.prog 12 #[.pointer (some ⟨b, 0, none⟩), .int .i64 i] w fun e w2 => e = .returned (.int .i64 (dE ms i)) ∧ Hid (Bk w2 kb z0 z1 a l c) ∧ Hid (Calls Try.prog 13 #[.pointer (some ⟨d, 0, none⟩), .int .i64 i] w2 fun e w3 => e = .returned (.int .i64 (dE ms i)) ∧ Hid (St w0 w3 b d (dM ms i))) := by
  obtain ⟨v, vx, zs, zx, hL, rfl, e2⟩ := h
  refine (n_dropA hL.n1 i).mono ?_
  rintro e w2 ⟨rfl, v1, zs1, hn, hw, hm, _⟩
  refine ⟨rfl, hk.went hL.n1 hw, ?_⟩
  have hL2 := hL.went1 hn hw
  have h9 := y_dropA hL2.n2 i
  rw [e2] at h9
  refine h9.mono ?_
  rintro e w3 ⟨rfl, v2, zs2, hn2, hw2, hm2, _⟩
  exact ⟨rfl, v1, v2, zs1, zs2, hL2.went2 hn2 hw2, hm, hm2⟩
theorem a_twice {w0 w : World} {b d kb l c : Nat} {ms : List (List Int)} {z0 z1 : Int} {a : Option Addr} (h : St w0 w b d ms) (hk : Bk w kb z0 z1 a l c) (i : Int) :
    Calls Try.prog 14 #[.pointer (some ⟨b, 0, none⟩), .int .i64 i] w fun e w2 => e = .returned (.int .i64 (tE ms i)) ∧ Hid (Bk w2 kb z0 z1 a l c) ∧ Hid (Calls Try.prog 15 #[.pointer (some ⟨d, 0, none⟩), .int .i64 i] w2 fun e w3 => e = .returned (.int .i64 (tE ms i)) ∧ Hid (St w0 w3 b d (tM ms i))) := by
  obtain ⟨v, vx, zs, zx, hL, rfl, e2⟩ := h
  refine (n_twiceA hL.n1 i).mono ?_
  rintro e w2 ⟨rfl, v1, zs1, hn, hw, hm, _⟩
  refine ⟨rfl, hk.went hL.n1 hw, ?_⟩
  have hL2 := hL.went1 hn hw
  have h9 := y_twiceA hL2.n2 i
  rw [e2] at h9
  refine h9.mono ?_
  rintro e w3 ⟨rfl, v2, zs2, hn2, hw2, hm2, _⟩
  exact ⟨rfl, v1, v2, zs1, zs2, hL2.went2 hn2 hw2, hm, hm2⟩
theorem eq_own {w : World} {B1 B2 : Nat} {u1 u2 : Value} {xs : List Int} (h1 : Own w B1 u1 xs) (h2 : Own w B2 u2 xs) : Calls Try.prog 10 #[u1, u2] w fun e w' => e = .returned (.bool true) ∧ w' = w := by
  obtain ⟨a1, c1, e1, f1, _⟩ := h1.open
  obtain ⟨a2, c2, e2, f2, _⟩ := h2.open
  rw [e1, e2]
  exact equal_yes a1 a2 xs.length c1 xs.length c2 (fn xs) (fn xs) w f1 f2 rfl
theorem a_take {w0 w : World} {b d kb l c : Nat} {ms : List (List Int)} {z0 z1 : Int} {a : Option Addr} (h : St w0 w b d ms) (hk : Bk w kb z0 z1 a l c) (i : Int) :
    Calls Try.prog 16 #[.pointer (some ⟨b, 0, none⟩), .int .i64 i] w fun e w2 => ∃ a1 n1 c1, e = .returned (.tuple #[.slice a1 n1 c1, .int .i64 (dE ms i)]) ∧ Hid (Bk w2 kb z0 z1 a l c) ∧ Hid (Calls Try.prog 17 #[.pointer (some ⟨d, 0, none⟩), .int .i64 i] w2 fun e w3 => ∃ a2 n2 c2, e = .returned (.tuple #[.slice a2 n2 c2, .int .i64 (dE ms i)]) ∧ Hid (Calls Try.prog 10 #[.slice a1 n1 c1, .slice a2 n2 c2] w3 fun e w' => e = .returned (.bool true) ∧ w' = w3) ∧ Hid (St w0 w3 b d (dM ms i))) := by
  obtain ⟨v, vx, zs, zx, hL, rfl, e2⟩ := h
  refine (n_takeA hL.n1 i).mono ?_
  rintro e w2 ⟨u, rfl, ho, v1, zs1, hn, hw, hm, _⟩
  obtain ⟨a1, c1, hu⟩ := ho.slice
  subst hu
  refine ⟨_, _, _, rfl, hk.went hL.n1 hw, ?_⟩
  have hL2 := hL.went1 hn hw
  have h9 := y_takeA hL2.n2 i
  rw [e2] at h9
  refine h9.mono ?_
  rintro e w3 ⟨u2, rfl, ho2, v2, zs2, hn2, hw2, hm2, _⟩
  obtain ⟨a2, c2, hu2⟩ := ho2.slice
  subst hu2
  exact ⟨_, _, _, rfl, eq_own (ho.gone hL2.n2 hw2) ho2, v1, v2, zs1, zs2, hL2.went2 hn2 hw2, hm, hm2⟩
/-- The slices of old messages lie below. -/
theorem Mq.low {w : World} {B : Nat} {v : Value} {zs : List Ms} (h : Mq w B v zs) {z : Ms} (hz : z ∈ zs) {k : Nat} (hk : z.1.ownBlock = some k) : k < w.heap.size := (World.ownsRow.lt (h.own z hz) k hk).2
theorem a_look {w0 w : World} {b d kb l c : Nat} {ms : List (List Int)} {z0 z1 : Int} {a : Option Addr} (h : St w0 w b d ms) (hk : Bk w kb z0 z1 a l c) (i : Int) :
    Calls Try.prog 18 #[.pointer (some ⟨b, 0, none⟩), .int .i64 i] w fun e w2 => ∃ a1 n1 c1, e = .returned (.tuple #[.slice a1 n1 c1, .int .i64 (dE ms i)]) ∧ Hid (Bk w2 kb z0 z1 a l c) ∧ Hid (Calls Try.prog 19 #[.pointer (some ⟨d, 0, none⟩), .int .i64 i] w2 fun e w3 => ∃ a2 n2 c2, e = .returned (.tuple #[.slice a2 n2 c2, .int .i64 (dE ms i)]) ∧ Hid (Calls Try.prog 10 #[.slice a1 n1 c1, .slice a2 n2 c2] w3 fun e w' => e = .returned (.bool true) ∧ w' = w3) ∧ Hid (Calls Try.prog 11 #[.slice a1 n1 c1] w3 fun e w4 => e = .returned (.tuple #[]) ∧ Hid (St w0 w4 b d ms))) := by
  obtain ⟨v, vx, zs, zx, hL, rfl, e2⟩ := h
  have hx : (lX (zs.map Prod.snd) i).length ≤ 140737488355328 := by
    unfold lX
    cases hq : inQ (zs.map Prod.snd) i with
    | true =>
      obtain ⟨k, _, hk, hx⟩ := inQ_yes hq
      rw [hx]
      have := hL.n1.by_ zs[k] (List.getElem_mem hk)
      simp; omega
    | false => simp
  refine (n_lookA hL.n1 i).mono ?_
  rintro e w2 ⟨u, rfl, ho, hb⟩
  obtain ⟨a1, c1, hu⟩ := ho.slice
  subst hu
  refine ⟨_, _, _, rfl, hk.below hb, ?_⟩
  have hL2 := hL.below hb
  have h9 := y_lookA hL2.n2 i
  rw [e2] at h9
  refine h9.mono ?_
  rintro e w3 ⟨u2, rfl, ho2, hb2⟩
  obtain ⟨a2, c2, hu2⟩ := ho2.slice
  subst hu2
  have ho' := ho.below hb2 (Nat.le_refl _)
  refine ⟨_, _, _, rfl, eq_own ho' ho2, (spoilO _ _ _ w3 ho' hx).mono ?_⟩
  rintro e w4 ⟨rfl, p⟩
  have hL3 := hL2.below hb2
  refine ⟨rfl, v, vx, zs, zx, hL3.spoil ho' p hL.bel.size (fun z hz k hk hf => ?_) (fun z hz k hk hf => ?_), rfl, e2⟩
  · have h1 := hL.n1.q.low hz hk
    have h2 := (row_ty ho' hf).choose_spec.2
    omega
  · have h1 := hL.n2.q.low hz hk
    have h2 := (row_ty ho' hf).choose_spec.2
    omega
theorem a_send {w0 wb w : World} {b d kb l c : Nat} {ms : List (List Int)} {z0 z1 : Int} {a : Option Addr} {u : Value} {f : Nat → Int} (h : St w0 wb b d ms) (hk : Bk w kb z0 z1 a l c) (hb : Below wb.heap.size wb w) (hu : Own w wb.heap.size u (lst f l)) (hf : From w0 a l f) (hl : l ≤ 140737488355328) (hc : a = none → c = 0) :
    ∃ ag cg, u = .slice ag l cg ∧ Calls Try.prog 8 #[.pointer (some ⟨b, 0, none⟩), .slice ag l cg] w fun e w2 => e = .returned (.int .i64 (sE ms l)) ∧ Hid (Bk w2 kb z0 z1 a l c) ∧ Hid (Calls Try.prog 9 #[.pointer (some ⟨d, 0, none⟩), .slice a l c] w2 fun e w3 => e = .returned (.int .i64 (sE ms l)) ∧ Hid (Bk w3 kb z0 z1 a l c) ∧ Hid (Calls Try.prog 10 #[.slice ag l cg, .slice a l c] w3 fun e w' => e = .returned (.bool true) ∧ w' = w3) ∧ Hid (Calls Try.prog 11 #[.slice ag l cg] w3 fun e w4 => e = .returned (.tuple #[]) ∧ Hid (St w0 w4 b d (sM ms (lst f l))))) := by
  obtain ⟨v, vx, zs, zx, hL0, rfl, e2⟩ := h
  have hL := hL0.below hb
  obtain ⟨ag, cg, hg, hfu, _⟩ := hu.openF
  subst hg
  refine ⟨ag, cg, rfl, (n_sendA hL.n1 ag l cg f hfu).mono ?_⟩
  rintro e w2 ⟨rfl, v1, zs1, hn, hw, hm, ho1⟩
  have hk2 := hk.went hL.n1 hw
  have hL2 := hL.went1 hn hw
  have hu2 := hu.gone hL.n1 hw
  refine ⟨rfl, hk2, ?_⟩
  have h9 := y_sendA hL2.n2 a l c f (hf.below hL2.bel (Nat.le_refl _)) hc
  rw [e2] at h9
  refine h9.mono ?_
  rintro e w3 ⟨rfl, v2, zs2, hn2, hw2, hm2, ho2⟩
  have hu3 := hu2.gone hL2.n2 hw2
  have hL3 := hL2.went2 hn2 hw2
  have hs1 : w.heap.size ≤ w2.heap.size := hw.part.size
  refine ⟨rfl, hk2.went hL2.n2 hw2, ?_, (spoilO _ _ _ w3 hu3 (by rw [lst_length]; exact hl)).mono ?_⟩
  · obtain ⟨a5, c5, h5, f5, _⟩ := hu3.openF
    injection h5 with h5 _ h6
    subst h5
    exact equal_yes ag a l cg l c f f w3 f5 (hf.below hL3.bel (Nat.le_refl _)) rfl
  · rintro e w4 ⟨rfl, p⟩
    refine ⟨rfl, v1, v2, zs1, zs2, hL3.spoil hu3 p hL0.bel.size (fun z hz k hk hf => ?_) (fun z hz k hk hf => ?_), hm, hm2⟩
    · have h2 := (row_ty hu hf).choose_spec.2
      have h3 := (World.ownsRow.lt hu k hf).2
      rcases ho1 z hz with h1 | h1
      · have := hL0.n1.q.low h1 hk; omega
      · have := h1 k hk; omega
    · have h2 := (row_ty hu hf).choose_spec.2
      have h3 := (World.ownsRow.lt hu k hf).2
      rcases ho2 z hz with h1 | h1
      · have := hL0.n2.q.low h1 hk; omega
      · have := h1 k hk; omega
/-- At the round's end: all messages of both are told, and are the same. -/
theorem a_same {w0 w : World} {b d : Nat} {ms : List (List Int)} (h : St w0 w b d ms) :
    ∃ ax nx cx, w.cell? ⟨d, 0, none⟩ = some (.slice ax nx cx) ∧ d < w.heap.size ∧ Calls Try.prog 21 #[.pointer (some ⟨b, 0, none⟩)] w fun e w2 => ∃ a1 n1 c1, e = .returned (.slice a1 n1 c1) ∧ Hid (w2.cell? ⟨d, 0, none⟩ = some (.slice ax nx cx)) ∧ Hid (Calls Try.prog 20 #[.slice a1 n1 c1, .slice ax nx cx] w2 fun e w' => e = .returned (.bool true) ∧ w' = w2) ∧ Hid (St w0 w2 b d ms) := by
  obtain ⟨v, vx, zs, zx, hL, rfl, e2⟩ := h
  obtain ⟨ax, cx, hx, _⟩ := row_slice hL.n2.q.row
  have c0 := hL.n2.cell0.1
  subst hx
  refine ⟨ax, _, cx, c0, hL.n2.lt, (n_list hL.n1).mono ?_⟩
  rintro e w2 ⟨u, ys, rfl, hq, hy, hb⟩
  obtain ⟨a1, c1, hu, _⟩ := row_slice hq.row
  subst hu
  have hL2 := hL.below hb
  have hn := hL.n1.n
  have hyl : ys.length = zs.length := by have := congrArg List.length hy; simpa using this
  refine ⟨a1, _, c1, rfl, hL2.n2.cell0.1, sameQ hq hL2.n2.q (hy.trans e2.symm) (by omega), _, _, zs, zx, hL2, rfl, e2⟩
end Go.Proofs.Ytbpolfoagmehhaa
