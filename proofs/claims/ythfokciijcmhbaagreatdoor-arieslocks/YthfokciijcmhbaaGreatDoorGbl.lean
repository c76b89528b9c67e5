/-
  The log's room, told of a pool.
  state.write of bytes that change nothing, and where the page is locked.
  A manager's state with one more transaction; state.begin.
-/
import Derived.Test.YthfokciijcmhbaaGreatDoorGbi
import Derived.Test.YthfokciijcmhbaaGreatDoorGbk
namespace Go.Proofs.YthfokciijcmhbaaGreatDoor
open Go.RowKit
set_option linter.unusedVariables false

variable {B0 : Nat} {A : Ax} {P P' : Nat → Prop} {w w' w1 w2 : World} {Z S D L bf n M la fo lt N : Nat} {g : Int} {X : Nat → Bf} {e : Nat → Int} {ln : Nat → Nat} {lo : Nat → Nat → Int} {T : Nat → Tr}
theorem pw_room {m : Int} (k : Pw B0 A w P S m D L bf n X M e la fo ln lo) : Calls Tryz.prog 51 #[.pointer (some ⟨L, 0, none⟩)] w fun r w' => ∃ nr : Nat, r = .returned (.int .i64 (nr : Int)) ∧ 4480 ≤ nr + A.u ∧ nr ≤ 4480 ∧ Below w.heap.size w w' := by
  obtain ⟨T0, F, vt, s1, s2, _⟩ := k.lay
  obtain ⟨q0, place, tl, f0, g1, g2, g3, g4, g4', g5⟩ := s2.lay
  have xl : (lst f0 tl).length = tl := lst_length f0 tl
  refine (lwRoom g1 (g2.mono (Nat.zero_le _)) (by decide) (by rw [xl]; omega)).mono fun r w' ⟨hr, q, hw⟩ => ⟨_, hr, by rw [xl]; omega, by rw [xl]; omega, ?_⟩
  rw [hw]
  exact blw_drewN q (Below.refl _ _)
theorem Fm.ofG {gl : Nat} (h : Part (Fm B0 P w) w w1) (hP : ∀ b, P' b → P b ∨ w.heap.size ≤ b) (hg : w.heap.size ≤ gl) (h' : Part (FmG B0 P' gl w1) w1 w2) : Part (Fm B0 P w) w w2 := h.trans h' (fun i hi hf => by
  rcases hf with hf | hf
  · exact Fm.back h hP i hi hf
  · omega)
/-- What a write that changes something leaves. -/
def Wrt (B0 : Nat) (A : Ax) (w : World) (P : Nat → Prop) (Z S : Nat) (g : Int) (D L bf M la fo : Nat) (ln : Nat → Nat) (lo : Nat → Nat → Int) (lt N : Nat) (T : Nat → Tr) (i : Nat) (u : Up) (w' : World) : Prop := ∃ n' X' e' fo' P' pv uv, Mg B0 A w' P' Z S g D L bf n' X' M e' la fo' ln lo lt N (updT T i ⟨(T i).b, (T i).no, pv, if Ci (T i).ps (u.pg : Int) then (T i).ps else (T i).ps ++ [u.pg], uv, (T i).us ++ [u]⟩) ∧ Part (Fm B0 P w) w w' ∧ (∀ b, P' b → P b ∨ w.heap.size ≤ b) ∧ fo ≤ fo'
end Go.Proofs.YthfokciijcmhbaaGreatDoor

namespace Go.Proofs.YthfokciijcmhbaaGreatDoor
open Go.RowKit
set_option linter.unusedVariables false

variable {B0 : Nat} {A : Ax} {P P' : Nat → Prop} {w w' w1 w2 : World} {Z S D L bf n M la fo lt N : Nat} {g : Int} {X : Nat → Bf} {e : Nat → Int} {ln : Nat → Nat} {lo : Nat → Nat → Int} {T : Nat → Tr}
set_option maxRecDepth 100000 in
set_option maxHeartbeats 4000000 in
theorem m_write_same (k : Mg B0 A w P Z S g D L bf n X M e la fo ln lo lt N T) (i : Nat) (hi : i < N) (z : Nat) (hz : z < 6) (hM : M ≤ 900000) (hbf : 0 < bf) (hla : la ≤ 1000000) (hB0 : B0 ≤ w.heap.size) (hL : ¬ Lkd T N i (z : Int)) (off nb : Nat) (hnb : 0 < nb) (ho : off + nb ≤ 112) (gb ob cb : Nat) (fb : Nat → Int) (hF : From w (some ⟨gb, ob, none⟩) nb fb) (hgb : ¬ Fm B0 P w gb) (hby : ∀ j, 0 ≤ fb j ∧ fb j ≤ 255) (ah be : ByteArray) (hah : strF (fun j => lo z (off + j)) nb = ah) (hbe : strF fb nb = be) (heq : ah = be) :
    Calls Tryz.prog 34 #[.pointer (some ⟨Z, 0, none⟩), .pointer (some ⟨(T i).b, 0, none⟩), .int .i64 (z : Int), .int .i64 (off : Int), .slice (some ⟨gb, ob, none⟩) nb cb] w fun r w' => r = .returned (.int .i64 0) ∧ Hid (Chg B0 A w P Z S g D L bf (M + 1) la fo ln lo lt N T w') := by
  have ha9 : ah.size = nb := by rw [← hah]; exact strF_len _ _
  have hb9 : be.size = nb := by rw [← hbe]; exact strF_len _ _
  have hno := (k.mt.sm i hi).2.2
  obtain ⟨q, hq⟩ : ∃ q, (T i).b = q := ⟨_, rfl⟩
  obtain ⟨no, hno'⟩ : ∃ no, (T i).no = no := ⟨_, rfl⟩
  have HRd : Hid (Calls Tryz.prog 38 #[.pointer (some ⟨Z, 0, none⟩), .pointer (some ⟨q, 0, none⟩), .int .i64 (z : Int)] w fun r w' => ∃ gl c, r = .returned (.tuple #[.slice (some ⟨gl, 0, none⟩) 112 c, .int .i64 0]) ∧ (112 ≤ c ∧ c ≤ 9223372036854775807) ∧ Hid ((∀ wq, Below w'.heap.size w' wq → wq.cell? ⟨q, 0, none⟩ = some (.int .i64 (no : Int)) ∧ (∀ cc, (convert 47 9 (.slice (some ⟨gl, off, none⟩) nb cc)).run Tryz.prog wq = .ok (.string ah) wq) ∧ (convert 47 9 (.slice (some ⟨gb, ob, none⟩) nb cb)).run Tryz.prog wq = .ok (.string be) wq) ∧ Rdd B0 A w P Z S g D L bf (M + 1) la fo ln lo lt N T z gl c w')) := by
    rw [← hq]
    refine (m_read k i hi z hz (by omega) hbf hL).mono fun r w' ⟨gl, c, hr, HE⟩ => ?_
    obtain ⟨n', X', e', fo', ⟨P', j1, j2, j3, j4⟩, j5, j6, j7, j8⟩ := HE.out
    have hc : 112 ≤ c ∧ c ≤ 9223372036854775807 := by
      obtain ⟨g9, c9, e9, _, _, _, h1, h2⟩ := own_some j7 (by decide)
      injection e9 with _ _ e9
      subst e9
      exact ⟨h1, h2⟩
    refine ⟨gl, c, hr, hc, fun wq hb => ⟨?_, fun cc => ?_, ?_⟩, HE.out⟩
    · have := (j1.mt.below hb).tr i hi
      rw [← hno', cells_at this 0]
      rfl
    · rw [← hah]
      have ho' := j7.below hb (Nat.le_refl _)
      refine conv_from cc (.inr ⟨_, rfl, fun j hj => ?_⟩)
      have := World.ownsRow.cells (g := gl) ho' rfl (off + j) (.int .u8 (lo z (off + j))) (by rw [List.getElem?_map, lst_get _ 112 (off + j) (by omega)]; rfl)
      rw [Addr.add_lit, Nat.zero_add] at this
      rw [Addr.add_lit]
      exact this
    · rw [← hbe]
      exact conv_from cb (From.below (B := w'.heap.size) (j2.from hF hgb) hb (Nat.le_refl _))
  have l1 : ((nb : Int) == 0) = false := by simp; omega
  have l2 : ¬ (off : Int) < 0 := by omega
  have l3 : ¬ (112 : Int) - (off : Int) < (nb : Int) := by omega
  have l4 : (0 : Int) ≤ (off : Int) := by omega
  have l5 : (off : Int) ≤ (off : Int) + (nb : Int) := by omega
  have l6 : (off : Int) + (nb : Int) ≤ 112 := by omega
  have l7 : (0 : Int) ≤ (off : Int) + (nb : Int) := by omega
  have l8 : off ≤ off + nb := by omega
  have hne2 : (ah.toList == be.toList) = true := by
    rw [heq]
    simp
  rw [hq]
  clear k
  go_enter Tryz.func34, Tryz.ntmps34
  go_wp2_with fail
  refine HRd.out.mono ?_
  rintro r v1 ⟨gl, c, rfl, ⟨hc1, hc2⟩, HV⟩
  obtain ⟨x0, x1, x2⟩ := HV.out.1 v1 (Below.refl _ _)
  obtain ⟨y0, y1, y2⟩ := HV.out.1 v1.drew (blw_drewN 1 (Below.refl _ _))
  have l9 : (off : Int) + (nb : Int) ≤ (c : Int) := by omega
  have l10 : (c = off) = False := eq_false (by omega)
  go_wp2_with fail
  have d1 : decide ((off : Int) < 0) = false := decide_eq_false (by omega)
  have d2 : decide ((112 : Int) - (off : Int) < (nb : Int)) = false := decide_eq_false (by omega)
  have HW : Hid (∀ wq, Below v1.heap.size v1 wq → Chg B0 A w P Z S g D L bf (M + 1) la fo ln lo lt N T wq) := fun wq hb => by
    obtain ⟨n', X', e', fo', ⟨P', j1, j2, j3, j4⟩, j5, _⟩ := HV.out.2
    exact ⟨n', X', e', fo', ⟨P', j1.below hb, Fm.trans j2 j3 (Part.ofBelow hb), j3⟩, j5⟩
  go_region
  go_wp2
  go_ret
  exact ⟨rfl, HW.out _ (blw_drewN 1 (Below.refl _ _))⟩
set_option maxRecDepth 100000 in
set_option maxHeartbeats 4000000 in
theorem m_write_no (k : Mt B0 P w Z S L g lt N T) (i : Nat) (hi : i < N) (z : Nat) (hz : z < 6) (hL : Lkd T N i (z : Int)) (off nb gb ob cb : Nat) : Calls Tryz.prog 34 #[.pointer (some ⟨Z, 0, none⟩), .pointer (some ⟨(T i).b, 0, none⟩), .int .i64 (z : Int), .int .i64 (off : Int), .slice (some ⟨gb, ob, none⟩) nb cb] w fun r w' => r = .returned (.int .i64 61) ∧ w' = w := by
  have HRd : Hid (Calls Tryz.prog 38 #[.pointer (some ⟨Z, 0, none⟩), .pointer (some ⟨(T i).b, 0, none⟩), .int .i64 (z : Int)] w fun r w' => r = .returned (.tuple #[.slice none 0 0, .int .i64 61]) ∧ w' = w) := m_read_no k i hi z hz hL
  generalize (T i).b = q at HRd ⊢
  clear k hL
  go_enter Tryz.func34, Tryz.ntmps34
  go_wp2_with fail
  refine HRd.out.mono ?_
  rintro r v1 ⟨rfl, hw⟩
  obtain rfl : w = v1 := hw.symm
  clear hw
  go_wp2
  go_ret
  exact ⟨rfl, rfl⟩
end Go.Proofs.YthfokciijcmhbaaGreatDoor

namespace Go.Proofs.YthfokciijcmhbaaGreatDoor
open Go.RowKit
set_option linter.unusedVariables false

variable {B0 : Nat} {A : Ax} {P P' : Nat → Prop} {w w' w1 w2 : World} {Z S D L bf n M la fo lt N : Nat} {g : Int} {X : Nat → Bf} {e : Nat → Int} {ln : Nat → Nat} {lo : Nat → Nat → Int} {T : Nat → Tr}
theorem infoTxP : (Tryz.prog.info? 92).map (fun i => (i.zero, i.size, i.bytes)) = some (some (.pointer none), 1, 8) := by kernel_rfl
/-- A transaction that just began. -/
def freshTr (q no : Nat) : Tr := ⟨q, no, .slice none 0 0, [], .slice none 0 0, []⟩
set_option maxRecDepth 100000 in
theorem Mt.addTx (k : Mt B0 P w Z S L g lt N T) (hlt : ∀ b, P b → b < w.heap.size) (hB0 : B0 ≤ w.heap.size) (hN : N < 16) (no : Nat) (hno : no ≤ 1099511627776) (wq : World) (o2 : Obj) (hq : Below w.heap.size w wq) (ov : Value) (hZ : w.heap[Z]? = some (mgO g S L lt ov)) (hov : Tx.Rw B0 w ov N (fun j => (T j).b)) (hoP : ∀ b, ov.ownBlock = some b → ¬ P b) (q : Nat) (hqs : w.heap.size ≤ q) (hqo : wq.heap[q]? = some (trO (freshTr q no))) (gg cap : Nat) (w2 : World) (h2 : w2.ownsRow B0 92 1 (.slice (some ⟨gg, 0, none⟩) (N + 1) cap) (N + 1) (rowL (fun j => (T j).b) N ++ [ptr q])) (hg : (wq.alloc o2).grownBy w2 ov.ownBlock) (ha : ov.ownBlock = some gg ∨ gg = (wq.alloc o2).heap.size) :
    (w2.cell? ⟨Z, 6, none⟩ = some ov ∧ w2.frozen? ⟨Z, 6, none⟩ = false) ∧ Hid (∀ v, v.heap = (w2.setCell ⟨Z, 6, none⟩ (.slice (some ⟨gg, 0, none⟩) (N + 1) cap)).heap → v.os = w2.os → v.tape = w2.tape → v.output = w2.output → Mt B0 P v Z S L g lt (N + 1) (updT T N (freshTr q no)) ∧ Part (Ours B0 P w) w v) := by
  have hb2 : Below w.heap.size w (wq.alloc o2) := hq.alloc hq.size o2
  have hs2 := hb2.size
  have hZl := k.lt
  have oP : ∀ b, ov.ownBlock = some b → ∃ cur, w.heap[b]? = some (.cells cur 92 (0, 0)) := fun b hb => row_block hov hb
  have nZ : ov.ownBlock ≠ some Z := fun e => by
    obtain ⟨cur, e2⟩ := oP _ e
    exact absurd (ty_same e2 hZ) (by decide)
  have eZ : w2.heap[Z]? = some (mgO g S L lt ov) := (hg.block _ (by omega) (fun e => nZ e.symm)).trans ((hb2.block _ hZl).trans hZ)
  have pg : Part (fun b => ov.ownBlock = some b) w w2 := (Part.ofBelow hb2).grown hg (fun b e _ => e)
  have hql := (Array.getElem?_eq_some_iff.1 hqo).1
  have eq2 : w2.heap[q]? = some (trO (freshTr q no)) := by
    have h1 : (wq.alloc o2).heap[q]? = some (trO (freshTr q no)) := by rw [Below.heap_alloc _ _ _ hql]; exact hqo
    refine (hg.block _ (by rw [World.size_alloc]; omega) (fun e => ?_)).trans h1
    have := (World.ownsRow.lt hov q e.symm).2
    omega
  refine ⟨⟨by rw [cells_at eZ 6]; rfl, cells_free eZ 6⟩, fun v hv h1 h3 h4 => ?_⟩
  obtain ⟨nv, hnv⟩ : ∃ nv, Value.slice (some ⟨gg, 0, none⟩) (N + 1) cap = nv := ⟨_, rfl⟩
  have gr := grew_at ha (N + 1) cap
  rw [hnv] at hv h2 gr
  have gB : ∀ b, nv.ownBlock = some b → ov.ownBlock = some b ∨ w.heap.size ≤ b := fun b e => (gr b e).imp id (fun h => by omega)
  have nv9 : nv.ownBlock ≠ some Z := fun e => by
    rcases gB _ e with e | e
    · exact nZ e
    · omega
  have p2 : Part (fun b => b = Z ∨ ov.ownBlock = some b) w v := by
    have a1 : Part (fun b => b = Z ∨ ov.ownBlock = some b) w (w2.setCell ⟨Z, 6, none⟩ nv) := (pg.mono fun b _ h => .inr h).setCell (p := ⟨Z, 6, none⟩) (fun _ => .inl rfl) _
    exact a1.heap hv h1 h3 h4
  have off : ∀ b cs t, w.heap[b]? = some (.cells cs t (0, 0)) → t ≠ 88 → t ≠ 92 → ¬ (b = Z ∨ ov.ownBlock = some b) := fun b cs t e a1 a2 h => by
    rcases h with h | h
    · exact a1 (ty_same e (by rw [h]; exact hZ))
    · obtain ⟨cur, e2⟩ := oP _ h
      exact a2 (ty_same e e2)
  have sN : updT T N (freshTr q no) N = freshTr q no := updT_same T N _
  have sO : ∀ j, j < N → updT T N (freshTr q no) j = T j := fun j hj => updT_other T _ (by omega)
  have qne : ∀ j, j < N → (T j).b ≠ q := fun j hj e => by
    have := (Array.getElem?_eq_some_iff.1 (k.tr j hj)).1
    omega
  have eqv : v.heap[q]? = some (trO (freshTr q no)) := by
    rw [hv]
    have := (Part.refl (fun b => b = Z) w2).setCell (p := ⟨Z, 6, none⟩) (fun _ => rfl) nv
    exact (this.block q (Array.getElem?_eq_some_iff.1 eq2).1 (fun e => by have e : q = Z := e; omega)).trans eq2
  have cs : ∀ j, j < N + 1 → j < N ∨ j = N := fun j hj => by omega
  refine ⟨⟨⟨nv, by rw [hv, heap_set_at eZ]; rfl, ?_, fun b hb => ?_⟩, fun j hj => ?_, fun j hj => ?_, fun j hj => ?_, fun a c ha hc e => ?_, fun a c b ha hc e1 e2 => ?_, fun a c b ha hc e1 e2 => ?_, ⟨k.out.1, fun j hj => ?_, fun j b hj hb => ?_, fun j b hj hb => ?_⟩, ⟨k.low.1, fun j hj => ?_⟩, by omega, fun j hj => ?_, k.la_⟩, p2.mono fun b _ h => ?_⟩
  · have h2' := row_heap (row_set h2 nv9 6 nv) hv
    unfold Tx.Rw
    rw [← rowL_snoc, sN, rowL_ext (f := fun j => (updT T N (freshTr q no) j).b) (g := fun j => (T j).b) (fun j hj => by show (updT T N (freshTr q no) j).b = _; rw [sO j hj])]
    exact h2'
  · rcases gB b hb with h | h
    · exact hoP b h
    · exact fun hp => by have := hlt b hp; omega
  · rcases cs j hj with h | rfl
    · rw [sO j h]
      exact (p2.block _ (Array.getElem?_eq_some_iff.1 (k.tr j h)).1 (off _ _ _ (k.tr j h) (by decide) (by decide))).trans (k.tr j h)
    · rw [sN]; exact eqv
  · rcases cs j hj with h | rfl
    · rw [sO j h]
      exact p2.row (k.pr j h) (fun b e => by obtain ⟨cur, e2⟩ := row_block (k.pr j h) e; exact off _ _ _ e2 (by decide) (by decide))
    · rw [sN]; exact World.ownsRow_nil _ _ _ _
  · rcases cs j hj with h | rfl
    · rw [sO j h]
      exact p2.row (k.ur j h) (fun b e => by obtain ⟨cur, e2⟩ := row_block (k.ur j h) e; exact off _ _ _ e2 (by decide) (by decide))
    · rw [sN]; exact World.ownsRow_nil _ _ _ _
  · rcases cs a ha with h | rfl
    · rcases cs c hc with h' | rfl
      · rw [sO a h, sO c h'] at e; exact k.ap a c h h' e
      · rw [sO a h, sN] at e; exact absurd e (qne a h)
    · rcases cs c hc with h' | rfl
      · rw [sN, sO c h'] at e; exact absurd e.symm (qne c h')
      · rfl
  · rcases cs a ha with h | rfl
    · rcases cs c hc with h' | rfl
      · rw [sO a h] at e1; rw [sO c h'] at e2; exact k.pp a c b h h' e1 e2
      · rw [sN] at e2; cases e2
    · rw [sN] at e1; cases e1
  · rcases cs a ha with h | rfl
    · rcases cs c hc with h' | rfl
      · rw [sO a h] at e1; rw [sO c h'] at e2; exact k.uu a c b h h' e1 e2
      · rw [sN] at e2; cases e2
    · rw [sN] at e1; cases e1
  · rcases cs j hj with h | rfl
    · rw [sO j h]; exact k.out.2.1 j h
    · rw [sN]; exact fun hp => by have := hlt q hp; omega
  · rcases cs j hj with h | rfl
    · rw [sO j h] at hb; exact k.out.2.2.1 j b h hb
    · rw [sN] at hb; cases hb
  · rcases cs j hj with h | rfl
    · rw [sO j h] at hb; exact k.out.2.2.2 j b h hb
    · rw [sN] at hb; cases hb
  · rcases cs j hj with h | rfl
    · rw [sO j h]; exact k.low.2 j h
    · rw [sN]; show B0 ≤ q; omega
  · rcases cs j hj with h | rfl
    · rw [sO j h]; exact k.sm j h
    · rw [sN]; exact ⟨Nat.zero_le _, Nat.zero_le _, hno⟩
  · rcases h with rfl | h
    · exact k.oursZ
    · obtain ⟨cur, e2⟩ := oP b h
      exact ⟨(World.ownsRow.lt hov b h).1, hoP b h, _, _, e2, .inr (.inr (.inl rfl))⟩
end Go.Proofs.YthfokciijcmhbaaGreatDoor
