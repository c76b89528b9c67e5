/-
  A transaction's last update is struck.
  takeBack: what one round's calls find and leave.
  state.takeBack.
-/
import Derived.Test.YthfokciijcmhbaaGreatDoorGbn
namespace Go.Proofs.YthfokciijcmhbaaGreatDoor
open Go.RowKit
set_option linter.unusedVariables false

variable {B0 : Nat} {A : Ax} {P P' : Nat → Prop} {w w' w1 w2 : World} {Z S D L bf n M la fo lt N Q : Nat} {g : Int} {X : Nat → Bf} {e : Nat → Int} {ln : Nat → Nat} {lo : Nat → Nat → Int} {T : Nat → Tr}
theorem usL_length (no : Nat) : ∀ l : List Up, (usL no l).length = l.length * 8
  | [] => rfl
  | u :: r => by
    have := usL_length no r
    unfold usL at this ⊢
    rw [List.map_cons, List.flatten_cons, List.length_append, this]
    show 8 + _ = (r.length + 1) * 8
    omega
theorem row_less {no m : Nat} {a : Option Addr} {c : Nat} {l : List Up} {u : Up} (hm : l.length = m) (h : w.ownsRow B0 163 8 (.slice a (m + 1) c) (m + 1) (usL no (l ++ [u]))) : w.ownsRow B0 163 8 (.slice a m c) m (usL no l) := by
  refine ⟨by rw [usL_length, hm], ?_⟩
  rcases h.2 with ⟨_, e⟩ | ⟨gg, cap, cur, e1, e2, e3, e4, e5, e6, e7⟩
  · omega
  · injection e1 with e1 _ e1c
    subst e1 e1c
    refine .inr ⟨gg, _, cur, rfl, e2, e3, by omega, e5, e6, ?_⟩
    have hl := usL_length no l
    rw [← usL_snoc] at e7
    have e8 := congrArg (List.take (m * 8)) e7
    rw [List.take_take, Nat.min_eq_left (by omega), List.take_append_of_le_length (by omega), List.take_of_length_le (l := usL no l) (by omega)] at e8
    exact e8
set_option maxRecDepth 100000 in
theorem Mt.dropUpd (k : Mt B0 P w Z S L g lt N T) (hlt : ∀ b, P b → b < w.heap.size) (i : Nat) (hi : i < N) (l : List Up) (u : Up) (hu : (T i).us = l ++ [u]) (a : Option Addr) (m c : Nat) (hm : l.length = m) (hv : (T i).uv = .slice a (m + 1) c) :
    (w.cell? ⟨(T i).b, 2, none⟩ = some (.slice a (m + 1) c) ∧ w.frozen? ⟨(T i).b, 2, none⟩ = false) ∧ Hid (Mt B0 P (w.setCell ⟨(T i).b, 2, none⟩ (.slice a m c)) Z S L g lt N (updT T i ⟨(T i).b, (T i).no, (T i).pv, (T i).ps, .slice a m c, l⟩) ∧ Part (Ours B0 P w) w (w.setCell ⟨(T i).b, 2, none⟩ (.slice a m c))) := by
  have ht := k.tr i hi
  have hr := k.ur i hi
  have hl : (l ++ [u]).length = m + 1 := by rw [List.length_append, hm]; rfl
  rw [hv, hu, hl] at hr
  have hr2 := row_less hm hr
  have sm := k.sm i hi
  rw [hu, hl] at sm
  refine ⟨⟨by rw [cells_at ht 2, ← hv]; rfl, cells_free ht 2⟩, ?_⟩
  have p2 : Part (TrB (T i)) w (w.setCell ⟨(T i).b, 2, none⟩ (.slice a m c)) := (Part.refl _ w).setCell (p := ⟨(T i).b, 2, none⟩) (fun _ => .inl rfl) _
  refine k.newT hlt i hi ⟨(T i).b, (T i).no, (T i).pv, (T i).ps, .slice a m c, l⟩ rfl rfl p2 (by rw [heap_set_at ht]; rfl) (row_set (k.pr i hi) (fun e => ?_) 2 _) ?_ (fun q e => .inl e) (fun q e => .inl ?_) ⟨sm.1, by show l.length ≤ 1000; omega⟩
  · obtain ⟨cur, e2⟩ := row_block (k.pr i hi) e
    exact absurd (ty_same e2 ht) (by decide)
  · show (w.setCell _ _).ownsRow B0 163 8 (.slice a m c) l.length (usL (T i).no l)
    rw [hm]
    refine row_set hr2 (fun e => ?_) 2 _
    obtain ⟨cur, e2⟩ := row_block hr2 e
    exact absurd (ty_same e2 ht) (by decide)
  · rw [hv]
    cases a <;> exact e
end Go.Proofs.YthfokciijcmhbaaGreatDoor

namespace Go.Proofs.YthfokciijcmhbaaGreatDoor
open Go.RowKit
set_option linter.unusedVariables false

variable {B0 : Nat} {A : Ax} {P P' : Nat → Prop} {w w' w1 w2 : World} {Z S D L bf n M la fo lt N Q : Nat} {g : Int} {X : Nat → Bf} {e : Nat → Int} {ln : Nat → Nat} {lo : Nat → Nat → Int} {T : Nat → Tr}
/-- A manager under way since a world. -/
def Sb (B0 : Nat) (A : Ax) (w : World) (P : Nat → Prop) (Z S : Nat) (g : Int) (D L bf M la : Nat) (ln : Nat → Nat) (lo : Nat → Nat → Int) (lt N : Nat) (T : Nat → Tr) (w' : World) : Prop := ∃ n e fo X P', Mg B0 A w' P' Z S g D L bf n X M e la fo ln lo lt N T ∧ Part (Fm B0 P w) w w' ∧ ∀ b, P' b → P b ∨ w.heap.size ≤ b
theorem usL_last (no : Nat) (l : List Up) (u : Up) (j : Nat) : (usL no (l ++ [u]))[l.length * 8 + j]? = (upL no u)[j]? := by
  rw [← usL_snoc, List.getElem?_append_right (by rw [usL_length]; omega), usL_length, Nat.add_sub_cancel_left]
set_option maxRecDepth 100000 in
set_option maxHeartbeats 2000000 in
theorem tb_round {w0 : World} {P0 : Nat → Prop} (h : Sb B0 A w0 P0 Z S g D L bf M la ln lo lt N T w) (i : Nat) (hi : i < N) (l : List Up) (u : Up) (hu : (T i).us = l ++ [u]) (hpg : u.pg < 6) (hoff : u.off + u.ah.size ≤ 112) (hah : 0 < u.ah.size) (hnum : u.num ≤ 1000000) (hla : la ≤ 1000000) (hM : M ≤ 900000) (hbf : 0 < bf) (R : List Int) (hR : encB 2 (T i).no u.pg u.off ByteArray.empty u.ah u.num = R) (hA : A.u + (putB R.length).length + R.length ≤ 4480) :
    ∃ gu c, (T i).uv = .slice (some ⟨gu, 0, none⟩) (l.length + 1) c ∧ (∀ wq, Below w.heap.size w wq → wq.cell? ⟨(T i).b, 2, none⟩ = some (.slice (some ⟨gu, 0, none⟩) (l.length + 1) c) ∧ ∀ j v, (upL (T i).no u)[j]? = some v → wq.cell? ⟨gu, l.length * 8 + j, none⟩ = some v) ∧
    ∀ V1 B1 cs, V1.heap[B1]? = some (.cells cs 163 (0, 0)) → B1 = w.heap.size → Below w.heap.size w V1 →
      (∀ wq, Below V1.heap.size V1 wq → wq.cell? ⟨Z, 2, none⟩ = some (.pointer (some ⟨S + 1, 0, none⟩))) ∧
      ∀ wq, Below V1.heap.size V1 wq → Calls Tryz.prog 61 #[.pointer (some ⟨S + 1, 0, none⟩), .int .i64 (u.pg : Int)] wq fun r w' => ∃ gl cl, r = .returned (.tuple #[.slice (some ⟨gl, 0, none⟩) 112 cl, .int .i64 (ln u.pg : Int), .int .i64 0]) ∧ Hid ((∀ wq, Below w'.heap.size w' wq → wq.cell? ⟨(T i).b, 0, none⟩ = some (.int .i64 ((T i).no : Int)) ∧ wq.heap[B1]? = some (.cells cs 163 (0, 0)) ∧ wq.cell? ⟨Z, 2, none⟩ = some (.pointer (some ⟨S + 1, 0, none⟩))) ∧
        ∀ V2, Below w'.heap.size w' V2 → Calls Tryz.prog 54 #[.pointer (some ⟨Z, 0, none⟩), .slice (some ⟨gl, 0, none⟩) 112 cl, .agg #[.int .i64 2, .int .i64 ((T i).no : Int), .int .i64 (u.pg : Int), .int .i64 (u.off : Int), .string ByteArray.empty, .string u.ah, .int .i64 (u.num : Int)]] V2 fun r w'' => r = .returned (.tuple #[.int .i64 ((la + 1 : Nat) : Int), .int .i64 0]) ∧ (w''.cell? ⟨(T i).b, 2, none⟩ = some (.slice (some ⟨gu, 0, none⟩) (l.length + 1) c) ∧ w''.frozen? ⟨(T i).b, 2, none⟩ = false) ∧ Hid (Sb B0 ⟨A.al, A.u + (putB R.length).length + R.length⟩ w0 P0 Z S g D L bf (M + 2) (la + 1) (upd ln u.pg (la + 1)) (upd lo u.pg (ov (lo u.pg) u.off u.ah.size (fn (strL u.ah)))) (max lt (T i).no) N (updT T i ⟨(T i).b, (T i).no, (T i).pv, (T i).ps, .slice (some ⟨gu, 0, none⟩) l.length c, l⟩) (w''.setCell ⟨(T i).b, 2, none⟩ (.slice (some ⟨gu, 0, none⟩) l.length c)))) := by
  obtain ⟨n, e, fo, X, P, k, k2, k3⟩ := h
  have hul : (T i).us.length = l.length + 1 := by rw [hu, List.length_append]; rfl
  have hno := (k.mt.sm i hi).2.2
  obtain ⟨gu, c, hv⟩ : ∃ gu c, (T i).uv = .slice (some ⟨gu, 0, none⟩) (l.length + 1) c := by
    rcases (k.mt.ur i hi).2 with ⟨_, e2⟩ | ⟨gg, cap, cur, e, _⟩
    · omega
    · exact ⟨gg, cap, by rw [e, hul]⟩
  have hl := encB_len (k := 2) (t := (T i).no) (p := u.pg) (o := u.off) (ah := ByteArray.empty) (be := u.ah) (nm := u.num) (by decide) hno (by omega) (by omega) (by decide) (by omega) (by omega)
  rw [hR, if_neg (by decide), if_pos rfl] at hl
  have hRb : ∀ x ∈ R, 0 ≤ x ∧ x ≤ 255 := by
    rw [← hR]
    exact encB_by (by decide) hno (by omega) (by omega) (by decide) (by omega) (by omega)
  have s2 := k2.size
  refine ⟨gu, c, hv, fun wq hb => ⟨?_, fun j v hj => ?_⟩, fun V1 B1 cs h1 hB1 hb1 => ⟨fun wq hb => ?_, fun wq hb => ?_⟩⟩
  · have := (k.mt.below hb).tr i hi
    rw [cells_at this 2, ← hv]
    rfl
  · have hr := (k.mt.below hb).ur i hi
    rw [hv, hu] at hr
    have := World.ownsRow.cells (g := gu) hr rfl (l.length * 8 + j) v (by rw [usL_last]; exact hj)
    rw [Addr.add_lit, Nat.zero_add] at this
    exact this
  · obtain ⟨a9, c9, ⟨_, z2, _⟩, _⟩ := ((k.below hb1).below hb).mt.cells
    exact z2
  · have kq := (k.below hb1).below hb
    have s1 := hb1.size
    have sb := hb.size
    have hBl := (Array.getElem?_eq_some_iff.1 h1).1
    have hqB := (hb.block B1 hBl).trans h1
    refine (p_getF kq.pw u.pg hpg (by omega) hbf).mono fun r w' ⟨gl, cl, hr, HE⟩ => ⟨gl, cl, hr, ?_⟩
    obtain ⟨n', X', P1, e', fo', j1, j2, j3, j4, j5, j6, j7, j8⟩ := HE.out
    have m1 := kq.mt.called j3 j4
    have sj := j3.size
    have nB : ¬ Fw B0 P wq B1 := fun hf => by
      rcases hf with hf | ⟨_, cs', t', fz, e9, h9⟩
      · have := k.pw.lt B1 hf; omega
      · rw [hqB] at e9
        injection e9 with e9
        injection e9 with _ e9
        subst e9
        rcases h9 with h9 | h9 <;> exact absurd h9 (by decide)
    have h3B := (j3.block B1 (Array.getElem?_eq_some_iff.1 hqB).1 nB).trans hqB
    have f1 : Part (Fm B0 P0 w0) w0 wq := Fm.trans (Fm.trans k2 k3 (Part.ofBelow hb1)) k3 (Part.ofBelow hb)
    have f2 : Part (Fm B0 P0 w0) w0 w' := Fm.trans f1 k3 (Fm.pool j3)
    have b1 : ∀ b, P1 b → P0 b ∨ w0.heap.size ≤ b := fun b h => by
      rcases j4 b h with h | h
      · exact k3 b h
      · exact .inr (by omega)
    refine ⟨fun wr hbr => ⟨?_, (hbr.block B1 (Array.getElem?_eq_some_iff.1 h3B).1).trans h3B, by obtain ⟨a9, c9, ⟨_, z2, _⟩, _⟩ := (m1.below hbr).cells; exact z2⟩, fun V2 hb2 => ?_⟩
    · have := (m1.below hbr).tr i hi
      rw [cells_at this 0]
      rfl
    · have kV : Mg B0 A V2 P1 Z S g D L bf n' X' (M + 1) e' la fo' ln lo lt N T := ⟨j1.below hb2, m1.below hb2⟩
      have hRg : Rg B0 A V2 P1 gl (fun b => b = gl) Z S g D L bf n' X' (M + 1) e' la fo' ln lo lt N T V2 := ⟨P1, kV, Part.refl _ _, fun b h => .inl h, fun b hb => by rw [hb]; exact j6⟩
      have f3 : Part (Fm B0 P0 w0) w0 V2 := Fm.trans f2 b1 (Part.ofBelow hb2)
      have sb2 := hb2.size
      refine (m_changeG hRg j8 hla (by omega) hbf 2 (u.num : Int) (T i).no u.pg u.off ByteArray.empty u.ah hno hpg hoff hah R hl.1 (by omega) hRb hA cl (lo u.pg) (j7.below hb2 (Nat.le_refl _)) (kV.pw.by_ u.pg) (fun wr => by
        have := c_enc2 (T i).no u.pg u.off u.num ByteArray.empty u.ah wr hno (by omega) (by omega) (by decide) (by omega) (by omega)
        rw [hR] at this
        exact this)).mono fun r w'' ⟨a1, a2⟩ => ⟨a1, ?_⟩
      obtain ⟨n2, X2, e2, fo2, ⟨P2, i1, i2, i3⟩, i4⟩ := a2.out
      obtain ⟨d1, d2⟩ := i1.mt.dropUpd i1.pw.lt i hi l u hu (some ⟨gu, 0, none⟩) l.length c rfl hv
      have f4 : Part (Fm B0 P0 w0) w0 w'' := Fm.ofG f3 b1 (by omega) i2
      have b2 : ∀ b, P2 b → P0 b ∨ w0.heap.size ≤ b := fun b h => by
        rcases i3 b h with h | h
        · exact b1 b h
        · exact .inr (by omega)
      exact ⟨d1, n2, e2, fo2, X2, P2, ⟨i1.pw.ours d2.out.2 (fun b h => h), d2.out.1⟩, Fm.trans f4 b2 (Fm.ours d2.out.2 (fun b h => h)), b2⟩
end Go.Proofs.YthfokciijcmhbaaGreatDoor

namespace Go.Proofs.YthfokciijcmhbaaGreatDoor
open Go.RowKit
set_option linter.unusedVariables false

variable {B0 : Nat} {A : Ax} {P P' : Nat → Prop} {w w' w1 w2 : World} {Z S D L bf n M la fo lt N Q : Nat} {g : Int} {X : Nat → Bf} {e : Nat → Int} {ln : Nat → Nat} {lo : Nat → Nat → Int} {T : Nat → Tr}
/-- Where taking back stands: bytes of the log taken, the disk's loads, the last record, the pages, the greatest number. -/
structure Ts where
  u : Nat
  M : Nat
  la : Nat
  ln : Nat → Nat
  lo : Nat → Nat → Int
  lt : Nat
def bkR (no : Nat) (x : Up) : List Int := encB 2 no x.pg x.off ByteArray.empty x.ah x.num
def Ts.step (no : Nat) (x : Up) (s : Ts) : Ts := ⟨s.u + (putB (bkR no x).length).length + (bkR no x).length, s.M + 2, s.la + 1, upd s.ln x.pg (s.la + 1), upd s.lo x.pg (ov (s.lo x.pg) x.off x.ah.size (fn (strL x.ah))), max s.lt no⟩
/-- Where it stands when these are taken back, the first one first. -/
def Ts.fin (no : Nat) : List Up → Ts → Ts
  | [], s => s
  | x :: r, s => Ts.fin no r (Ts.step no x s)
/-- An update that can be taken back. -/
def Okb (x : Up) : Prop := x.pg < 6 ∧ x.off + x.ah.size ≤ 112 ∧ 0 < x.ah.size ∧ x.num ≤ 1000000
/-- A manager that takes back: these updates are left, the first one first. -/
def Tk (B0 : Nat) (al : Prop) (w0 : World) (P0 : Nat → Prop) (Z S : Nat) (g : Int) (D L bf N : Nat) (T : Nat → Tr) (i : Nat) (rs : List Up) (s : Ts) (w : World) : Prop := ∃ T', T' = updT T i (T' i) ∧ (T' i).b = (T i).b ∧ (T' i).no = (T i).no ∧ (T' i).ps = (T i).ps ∧ (T' i).us = rs.reverse ∧ Sb B0 ⟨al, s.u⟩ w0 P0 Z S g D L bf s.M s.la s.ln s.lo s.lt N T' w
theorem putB_one {xs : List Int} (h : xs.length ≤ 127) : (putB xs.length).length = 1 := by rw [putB_small _ (by omega)]; rfl
/-- No update is left. -/
theorem Tk.empty {al : Prop} {w0 : World} {P0 : Nat → Prop} {i : Nat} {s : Ts} (h : Tk B0 al w0 P0 Z S g D L bf N T i [] s w) (hi : i < N) : ∃ a c, ∀ wq, Below w.heap.size w wq → wq.cell? ⟨(T i).b, 2, none⟩ = some (.slice a 0 c) ∧ wq.cell? ⟨(T i).b, 0, none⟩ = some (.int .i64 ((T i).no : Int)) := by
  obtain ⟨T', h1, h2, h3, h4, h5, n, e, fo, X, P, k, k2, k3⟩ := h
  have hl : (T' i).us.length = 0 := by rw [h5]; rfl
  obtain ⟨a, c, hv⟩ : ∃ a c, (T' i).uv = .slice a 0 c := by
    rcases (k.mt.ur i hi).2 with ⟨e, e2⟩ | ⟨gg, cap, cur, e, _⟩
    · exact ⟨none, 0, e⟩
    · exact ⟨_, cap, by rw [e, hl]⟩
  refine ⟨a, c, fun wq hb => ?_⟩
  have := (k.mt.below hb).tr i hi
  rw [← h2, ← h3, ← hv]
  exact ⟨by rw [cells_at this 2]; rfl, by rw [cells_at this 0]; rfl⟩
set_option maxRecDepth 100000 in
/-- One round. -/
theorem Tk.round {al : Prop} {w0 : World} {P0 : Nat → Prop} {i : Nat} {s : Ts} {x : Up} {r : List Up} (h : Tk B0 al w0 P0 Z S g D L bf N T i (x :: r) s w) (hi : i < N) (hx : Okb x) (hla : s.la ≤ 1000000) (hM : s.M ≤ 900000) (hbf : 0 < bf) (hA : s.u + (putB (bkR (T i).no x).length).length + (bkR (T i).no x).length ≤ 4480) :
    ∃ gu c, (∀ wq, Below w.heap.size w wq → wq.cell? ⟨(T i).b, 2, none⟩ = some (.slice (some ⟨gu, 0, none⟩) (r.length + 1) c) ∧ ∀ j v, (upL (T i).no x)[j]? = some v → wq.cell? ⟨gu, r.length * 8 + j, none⟩ = some v) ∧
    ∀ V1 B1 cs, V1.heap[B1]? = some (.cells cs 163 (0, 0)) → B1 = w.heap.size → Below w.heap.size w V1 →
      (∀ wq, Below V1.heap.size V1 wq → wq.cell? ⟨Z, 2, none⟩ = some (.pointer (some ⟨S + 1, 0, none⟩))) ∧
      ∀ wq, Below V1.heap.size V1 wq → Calls Tryz.prog 61 #[.pointer (some ⟨S + 1, 0, none⟩), .int .i64 (x.pg : Int)] wq fun r9 w' => ∃ gl cl, r9 = .returned (.tuple #[.slice (some ⟨gl, 0, none⟩) 112 cl, .int .i64 (s.ln x.pg : Int), .int .i64 0]) ∧ Hid ((∀ wq, Below w'.heap.size w' wq → wq.cell? ⟨(T i).b, 0, none⟩ = some (.int .i64 ((T i).no : Int)) ∧ wq.heap[B1]? = some (.cells cs 163 (0, 0)) ∧ wq.cell? ⟨Z, 2, none⟩ = some (.pointer (some ⟨S + 1, 0, none⟩))) ∧
        ∀ V2, Below w'.heap.size w' V2 → Calls Tryz.prog 54 #[.pointer (some ⟨Z, 0, none⟩), .slice (some ⟨gl, 0, none⟩) 112 cl, .agg #[.int .i64 2, .int .i64 ((T i).no : Int), .int .i64 (x.pg : Int), .int .i64 (x.off : Int), .string ByteArray.empty, .string x.ah, .int .i64 (x.num : Int)]] V2 fun r9 w'' => r9 = .returned (.tuple #[.int .i64 ((s.la + 1 : Nat) : Int), .int .i64 0]) ∧ (w''.cell? ⟨(T i).b, 2, none⟩ = some (.slice (some ⟨gu, 0, none⟩) (r.length + 1) c) ∧ w''.frozen? ⟨(T i).b, 2, none⟩ = false) ∧ Hid (Tk B0 al w0 P0 Z S g D L bf N T i r (Ts.step (T i).no x s) (w''.setCell ⟨(T i).b, 2, none⟩ (.slice (some ⟨gu, 0, none⟩) r.length c)))) := by
  obtain ⟨T', h1, h2, h3, h4, h5, h6⟩ := h
  rw [List.reverse_cons] at h5
  obtain ⟨gu, c, hv, q1, q2⟩ := tb_round h6 i hi r.reverse x h5 hx.1 hx.2.1 hx.2.2.1 hx.2.2.2 hla hM hbf (bkR (T i).no x) (by rw [h3]; rfl) hA
  rw [List.length_reverse, h2, h3] at q1
  rw [List.length_reverse] at hv
  refine ⟨gu, c, q1, fun V1 B1 cs a1 a2 a3 => ?_⟩
  obtain ⟨d1, d2⟩ := q2 V1 B1 cs a1 a2 a3
  refine ⟨d1, fun wq hb => (d2 wq hb).mono fun r9 w' ⟨gl, cl, e1, e2⟩ => ⟨gl, cl, e1, ?_⟩⟩
  have e3 := e2.out.1
  have e4 := e2.out.2
  rw [h2, h3] at e3
  refine ⟨e3, fun V2 hb2 => ?_⟩
  have e5 := e4 V2 hb2
  rw [List.length_reverse, h2, h3] at e5
  refine e5.mono fun r9 w'' ⟨f1, f2, f3⟩ => ⟨f1, f2, ?_⟩
  refine ⟨_, ?_, ?_, ?_, ?_, ?_, f3.out⟩
  · funext j
    by_cases hj : j = i
    · rw [hj]
      simp only [updT_same]
    · have := congrFun h1 j
      rw [updT_other T _ hj] at this
      rw [updT_other T' _ hj, updT_other T _ hj, this]
  · rw [updT_same]
  · rw [updT_same]
  · rw [updT_same]; exact h4
  · rw [updT_same]
end Go.Proofs.YthfokciijcmhbaaGreatDoor
