/-
  state.write of bytes that change the page.
  A manager's calls, told of what a law keeps beside it: Write, Commit, Abort.
  What recovery does over no record: decode, redo, takenBack; slices.Sort of none. (Printed by tools/mkas.py.)
-/
import Derived.Test.YthfokciijcmhbaaGreatDoorGbl
import Derived.Test.YthfokciijcmhbaaGreatDoorGbq
import Derived.Test.YthfokciijcmhbaaGreatDoorGaq
namespace Go.Proofs.YthfokciijcmhbaaGreatDoor
open Go.RowKit
set_option linter.unusedVariables false

variable {B0 : Nat} {A : Ax} {P P' : Nat → Prop} {w w' w1 w2 : World} {Z S D L bf n M la fo lt N : Nat} {g : Int} {X : Nat → Bf} {e : Nat → Int} {ln : Nat → Nat} {lo : Nat → Nat → Int} {T : Nat → Tr}
set_option maxRecDepth 100000 in
set_option maxHeartbeats 4000000 in
theorem m_write (k : Mg B0 A w P Z S g D L bf n X M e la fo ln lo lt N T) (i : Nat) (hi : i < N) (z : Nat) (hz : z < 6) (hM : M ≤ 900000) (hbf : 0 < bf) (hla : la ≤ 1000000) (hB0 : B0 ≤ w.heap.size) (hL : ¬ Lkd T N i (z : Int)) (off nb : Nat) (hnb : 0 < nb) (ho : off + nb ≤ 112) (gb ob cb : Nat) (fb : Nat → Int) (hF : From w (some ⟨gb, ob, none⟩) nb fb) (hgb : ¬ Fm B0 P w gb) (hby : ∀ j, 0 ≤ fb j ∧ fb j ≤ 255) (ah be : ByteArray) (hah : strF (fun j => lo z (off + j)) nb = ah) (hbe : strF fb nb = be) (hne : ah ≠ be) (hps : (T i).ps.length < 1000) (hus : (T i).us.length < 1000) (R : List Int) (hR : encB 1 (T i).no z off ah be 0 = R) (hu : A.u + (putB R.length).length + R.length + rsv T N + 160 ≤ 4480) :
    Calls Tryz.prog 34 #[.pointer (some ⟨Z, 0, none⟩), .pointer (some ⟨(T i).b, 0, none⟩), .int .i64 (z : Int), .int .i64 (off : Int), .slice (some ⟨gb, ob, none⟩) nb cb] w fun r w' => r = .returned (.int .i64 0) ∧ Hid (Wrt B0 ⟨A.al, A.u + (putB R.length).length + R.length⟩ w P Z S g D L bf (M + 2) (la + 1) fo (upd ln z (la + 1)) (upd lo z (ov (lo z) off nb (fn (strL be)))) (max lt (T i).no) N T i ⟨la + 1, z, off, ah, be⟩ w') := by
  have ha9 : ah.size = nb := by rw [← hah]; exact strF_len _ _
  have hb9 : be.size = nb := by rw [← hbe]; exact strF_len _ _
  have hno := (k.mt.sm i hi).2.2
  obtain ⟨q, hq⟩ : ∃ q, (T i).b = q := ⟨_, rfl⟩
  obtain ⟨no, hno'⟩ : ∃ no, (T i).no = no := ⟨_, rfl⟩
  have HRd : Hid (Calls Tryz.prog 38 #[.pointer (some ⟨Z, 0, none⟩), .pointer (some ⟨q, 0, none⟩), .int .i64 (z : Int)] w fun r w' => ∃ gl c, r = .returned (.tuple #[.slice (some ⟨gl, 0, none⟩) 112 c, .int .i64 0]) ∧ (112 ≤ c ∧ c ≤ 9223372036854775807) ∧ Hid ((∀ wq, Below w'.heap.size w' wq → wq.cell? ⟨q, 0, none⟩ = some (.int .i64 (no : Int)) ∧ (∀ cc, (convert 47 9 (.slice (some ⟨gl, off, none⟩) nb cc)).run Tryz.prog wq = .ok (.string ah) wq) ∧ (convert 47 9 (.slice (some ⟨gb, ob, none⟩) nb cb)).run Tryz.prog wq = .ok (.string be) wq) ∧ Rdd B0 A w P Z S g D L bf (M + 1) la fo ln lo lt N T z gl c w')) := by
    rw [← hq]
    refine (m_read k i hi z hz (by omega) hbf hL).mono fun r w' ⟨gl, c, hr, HE⟩ => ?_
    obtain ⟨n', X', e', fo', ⟨P', j1, j2, j3, j4⟩, j5, j6, j7, j8⟩ := HE.out
    have hc : 112 ≤ c ∧ c ≤ 9223372036854775807 := by
      obtain ⟨g9, c9, e9, _, _, _, h1, h2⟩ := own_some j7 (by decide)
      injection e9 with _ _ e9
      subst e9
      exact ⟨h1, h2⟩
    refine ⟨gl, c, hr, hc, fun wq hb => ⟨?_, fun cc => ?_, ?_⟩, HE.out⟩
    · have := (j1.mt.below hb).tr i hi
      rw [← hno', cells_at this 0]
      rfl
    · rw [← hah]
      have ho' := j7.below hb (Nat.le_refl _)
      refine conv_from cc (.inr ⟨_, rfl, fun j hj => ?_⟩)
      have := World.ownsRow.cells (g := gl) ho' rfl (off + j) (.int .u8 (lo z (off + j))) (by rw [List.getElem?_map, lst_get _ 112 (off + j) (by omega)]; rfl)
      rw [Addr.add_lit, Nat.zero_add] at this
      rw [Addr.add_lit]
      exact this
    · rw [← hbe]
      exact conv_from cb (From.below (B := w'.heap.size) (j2.from hF hgb) hb (Nat.le_refl _))
  have HBc : Hid (∀ (B : Nat) (wq : World), wq.heap[B]? = some (.cells #[.int .i64 1, .int .i64 (no : Int), .int .i64 (z : Int), .int .i64 (off : Int), .string ah, .string be, .int .i64 0] 114 (0, 0)) → wq.cell? ⟨B, 0, none⟩ = some (.int .i64 1) ∧ wq.cell? ⟨B, 1, none⟩ = some (.int .i64 (no : Int)) ∧ wq.cell? ⟨B, 2, none⟩ = some (.int .i64 (z : Int)) ∧ wq.cell? ⟨B, 3, none⟩ = some (.int .i64 (off : Int)) ∧ wq.cell? ⟨B, 4, none⟩ = some (.string ah) ∧ wq.cell? ⟨B, 5, none⟩ = some (.string be) ∧ wq.cell? ⟨B, 6, none⟩ = some (.int .i64 0)) := fun B wq e9 => ⟨by rw [cells_at e9 0]; rfl, by rw [cells_at e9 1]; rfl, by rw [cells_at e9 2]; rfl, by rw [cells_at e9 3]; rfl, by rw [cells_at e9 4]; rfl, by rw [cells_at e9 5]; rfl, by rw [cells_at e9 6]; rfl⟩
  have h1R : 0 < R.length ∧ R.length ≤ 300 := by
    have := encB_len (k := 1) (t := (T i).no) (p := z) (o := off) (ah := ah) (be := be) (nm := 0) (by decide) hno (by omega) (by omega) (by omega) (by omega) (by decide)
    rw [if_pos rfl, hR] at this
    omega
  have hRb : ∀ x ∈ R, 0 ≤ x ∧ x ≤ 255 := by
    rw [← hR]
    exact encB_by (by decide) hno (by omega) (by omega) (by omega) (by omega) (by decide)
  obtain ⟨sz, hsz⟩ : ∃ sz, (putB R.length).length + R.length = sz := ⟨_, rfl⟩
  obtain ⟨rv, hrv⟩ : ∃ rv, rsv T N = rv := ⟨_, rfl⟩
  -- behind the record's box
  have HQ : Hid (∀ v1 gl c, 112 ≤ c → Rdd B0 A w P Z S g D L bf (M + 1) la fo ln lo lt N T z gl c v1 → ∀ V B, B = v1.heap.size → V.heap[B]? = some (.cells #[.int .i64 1, .int .i64 (no : Int), .int .i64 (z : Int), .int .i64 (off : Int), .string ah, .string be, .int .i64 0] 114 (0, 0)) → Below v1.heap.size v1 V →
      (∀ wq, Below V.heap.size V wq → wq.cell? ⟨Z, 3, none⟩ = some (.pointer (some ⟨L, 0, none⟩)) ∧ wq.cell? ⟨B, 0, none⟩ = some (.int .i64 1) ∧ wq.cell? ⟨B, 1, none⟩ = some (.int .i64 (no : Int)) ∧ wq.cell? ⟨B, 2, none⟩ = some (.int .i64 (z : Int)) ∧ wq.cell? ⟨B, 3, none⟩ = some (.int .i64 (off : Int)) ∧ wq.cell? ⟨B, 4, none⟩ = some (.string ah) ∧ wq.cell? ⟨B, 5, none⟩ = some (.string be) ∧ wq.cell? ⟨B, 6, none⟩ = some (.int .i64 0)) ∧
      Hid (∀ wq, Below V.heap.size V wq → Calls Tryz.prog 51 #[.pointer (some ⟨L, 0, none⟩)] wq fun r w' => ∃ nr : Nat, r = .returned (.int .i64 (nr : Int)) ∧ (4480 ≤ (nr : Int) + A.u ∧ (nr : Int) ≤ 4480) ∧ Below V.heap.size V w') ∧
      Hid (∀ wq, Below V.heap.size V wq → Calls Tryz.prog 52 #[.agg #[.int .i64 1, .int .i64 (no : Int), .int .i64 (z : Int), .int .i64 (off : Int), .string ah, .string be, .int .i64 0]] wq fun r w' => r = .returned (.int .i64 (sz : Int)) ∧ Below V.heap.size V w') ∧
      Hid (∀ wq, Below V.heap.size V wq → Calls Tryz.prog 53 #[.pointer (some ⟨Z, 0, none⟩)] wq fun r w' => r = .returned (.int .i64 (rv : Int)) ∧ Below V.heap.size V w') ∧
      Hid (∀ wq, Below V.heap.size V wq → Calls Tryz.prog 54 #[.pointer (some ⟨Z, 0, none⟩), .slice (some ⟨gl, 0, none⟩) 112 c, .agg #[.int .i64 1, .int .i64 (no : Int), .int .i64 (z : Int), .int .i64 (off : Int), .string ah, .string be, .int .i64 0]] wq fun r w' => r = .returned (.tuple #[.int .i64 ((la + 1 : Nat) : Int), .int .i64 0]) ∧ Hid (∀ wq, Below w'.heap.size w' wq → (wq.cell? ⟨B, 0, none⟩ = some (.int .i64 1) ∧ wq.cell? ⟨B, 1, none⟩ = some (.int .i64 (no : Int)) ∧ wq.cell? ⟨B, 2, none⟩ = some (.int .i64 (z : Int)) ∧ wq.cell? ⟨B, 3, none⟩ = some (.int .i64 (off : Int)) ∧ wq.cell? ⟨B, 4, none⟩ = some (.string ah) ∧ wq.cell? ⟨B, 5, none⟩ = some (.string be) ∧ wq.cell? ⟨B, 6, none⟩ = some (.int .i64 0)) ∧ Hid (Calls Tryz.prog 55 #[.pointer (some ⟨q, 0, none⟩), .int .i64 ((la + 1 : Nat) : Int), .agg #[.int .i64 1, .int .i64 (no : Int), .int .i64 (z : Int), .int .i64 (off : Int), .string ah, .string be, .int .i64 0]] wq fun r w' => r = .returned (.tuple #[]) ∧ Hid (Wrt B0 ⟨A.al, A.u + (putB R.length).length + R.length⟩ w P Z S g D L bf (M + 2) (la + 1) fo (upd ln z (la + 1)) (upd lo z (ov (lo z) off nb (fn (strL be)))) (max lt no) N T i ⟨la + 1, z, off, ah, be⟩ w'))))) := fun v1 gl c hc ⟨n', X', e', fo', ⟨P', j1, j2, j3, j4⟩, j5, j6, j7, j8⟩ V B hBv hVB hbV => by
    have kV := j1.below hbV
    have hs1 := hbV.size
    have hs2 := j2.size
    have hBl := (Array.getElem?_eq_some_iff.1 hVB).1
    obtain ⟨cg, hge⟩ := row_block j7 (k := gl) rfl
    have hgl := (Array.getElem?_eq_some_iff.1 hge).1
    refine ⟨fun wq hb => ?_, fun wq hb => ?_, fun wq hb => ?_, fun wq hb => ?_, fun wq hb => ?_⟩
    · obtain ⟨a9, c9, ⟨_, _, z3, _⟩, _⟩ := (kV.below hb).mt.cells
      exact ⟨z3, HBc.out B wq ((hb.block B hBl).trans hVB)⟩
    · exact (pw_room (kV.below hb).pw).mono fun r w' ⟨nr, h1, h2, h3, h4⟩ => ⟨nr, h1, ⟨by omega, by omega⟩, hb.trans (h4.mono hb.size)⟩
    · have := c_size1 (T i).no z off 0 ah be wq hno (by omega) (by omega) (by omega) (by omega) (by decide)
      rw [hR, hsz, hno'] at this
      exact this.mono fun r w' ⟨h1, h2⟩ => ⟨h1, hb.trans (h2.mono hb.size)⟩
    · have := m_reserve (kV.below hb).mt
      rw [hrv] at this
      exact this.mono fun r w' ⟨h1, h2⟩ => ⟨h1, by rw [h2]; exact hb⟩
    · have kq := kV.below hb
      have hq0 : Below v1.heap.size v1 wq := hbV.trans (hb.mono hs1)
      have hRg : Rg B0 A wq P' gl (fun b => b = gl) Z S g D L bf n' X' (M + 1) e' la fo' ln lo lt N T wq := ⟨P', kq, Part.refl _ _, fun b h => .inl h, j4⟩
      have hch := m_changeG hRg j8 hla (by omega) hbf 1 0 (T i).no z off ah be hno hz (by omega) (by omega) R h1R.1 (by omega) hRb (by omega) c (lo z) (j7.below hq0 (Nat.le_refl _)) (kq.pw.by_ z) (fun wr => by
        have := c_enc1 (T i).no z off 0 ah be wr hno (by omega) (by omega) (by omega) (by omega) (by decide)
        rw [hR] at this
        exact this)
      rw [hno', hb9] at hch
      refine hch.mono fun r w' ⟨h1, h2⟩ => ⟨h1, fun wr hbr => ?_⟩
      obtain ⟨n2, X2, e2, fo2, ⟨P2, i1, i2, i3⟩, i4⟩ := h2.out
      have hqB := (hb.block B hBl).trans hVB
      have nB : ¬ FmG B0 P' gl wq B := fun hf => by
        rcases hf with hf | hf
        · exact free5 (fun h => by have := j1.pw.lt B h; omega) hqB ⟨by decide, by decide, by decide, by decide, by decide, by decide, by decide⟩ hf
        · omega
      have h3B := (i2.block B (Array.getElem?_eq_some_iff.1 hqB).1 nB).trans hqB
      have h4B := (hbr.block B (Array.getElem?_eq_some_iff.1 h3B).1).trans h3B
      refine ⟨HBc.out B wr h4B, ?_⟩
      have kr := i1.below hbr
      have si2 := i2.size
      have sir := hbr.size
      have sq0 := hq0.size
      have had := m_add kr.mt kr.pw.lt (by omega) i hi (la + 1) z off ah be hps hus
      rw [hq, hno'] at had
      refine had.mono fun r w'' ⟨h5, h6⟩ => ⟨h5, ?_⟩
      obtain ⟨pv, uv, m1, m2⟩ := h6.out
      have f1 : Part (Fm B0 P w) w wq := Fm.trans j2 j3 (Part.ofBelow hq0)
      have f2 : Part (Fm B0 P w) w w' := Fm.ofG f1 j3 j6 i2
      have b2 : ∀ b, P2 b → P b ∨ w.heap.size ≤ b := fun b h => by
        rcases i3 b h with h | h
        · exact j3 b h
        · exact .inr (by omega)
      have f3 : Part (Fm B0 P w) w wr := Fm.trans f2 b2 (Part.ofBelow hbr)
      exact ⟨n2, X2, e2, fo2, P2, pv, uv, ⟨kr.pw.ours m2 (fun b h => h), m1⟩, Fm.trans f3 b2 (Fm.ours m2 (fun b h => h)), b2, by omega⟩
  have l1 : ((nb : Int) == 0) = false := by simp; omega
  have l2 : ¬ (off : Int) < 0 := by omega
  have l3 : ¬ (112 : Int) - (off : Int) < (nb : Int) := by omega
  have l4 : (0 : Int) ≤ (off : Int) := by omega
  have l5 : (off : Int) ≤ (off : Int) + (nb : Int) := by omega
  have l6 : (off : Int) + (nb : Int) ≤ 112 := by omega
  have l7 : (0 : Int) ≤ (off : Int) + (nb : Int) := by omega
  have l8 : off ≤ off + nb := by omega
  have hne2 : (ah.toList == be.toList) = false := by
    rw [beq_eq_false_iff_ne]
    intro e9
    rw [ByteArray.toList_eq, ByteArray.toList_eq] at e9
    exact hne (ByteArray.ext (Array.toList_inj.1 e9))
  rw [hq, hno']
  clear k
  go_enter Tryz.func34, Tryz.ntmps34
  go_wp2_with fail
  refine HRd.out.mono ?_
  rintro r v1 ⟨gl, c, rfl, ⟨hc1, hc2⟩, HV⟩
  obtain ⟨x0, x1, x2⟩ := HV.out.1 v1 (Below.refl _ _)
  obtain ⟨y0, y1, y2⟩ := HV.out.1 v1.drew (blw_drewN 1 (Below.refl _ _))
  have l9 : (off : Int) + (nb : Int) ≤ (c : Int) := by omega
  have l10 : (c = off) = False := eq_false (by omega)
  go_wp2_with fail
  have d1 : decide ((off : Int) < 0) = false := decide_eq_false (by omega)
  have d2 : decide ((112 : Int) - (off : Int) < (nb : Int)) = false := decide_eq_false (by omega)
  go_region
  go_wp2_with fail
  obtain ⟨ob9, hO9⟩ : ∃ ob9, Obj.cells #[.int .i64 1, .int .i64 (no : Int), .int .i64 (z : Int), .int .i64 (off : Int), .string ah, .string be, .int .i64 0] 114 = ob9 := ⟨_, rfl⟩
  have hVB : (v1.alloc ob9).drew.heap[v1.heap.size]? = some (.cells #[.int .i64 1, .int .i64 (no : Int), .int .i64 (z : Int), .int .i64 (off : Int), .string ah, .string be, .int .i64 0] 114 (0, 0)) := by rw [← hO9]; exact heap_alloc_at _ _ _ rfl
  have hVb : Below v1.heap.size v1 (v1.alloc ob9).drew := blw_drewN 1 ((Below.refl _ v1).alloc (Nat.le_refl _) ob9)
  rw [hO9]
  generalize (v1.alloc ob9).drew = V at hVB hVb ⊢
  obtain ⟨B, hB⟩ : ∃ B, v1.heap.size = B := ⟨_, rfl⟩
  obtain ⟨HS, HRo, HSz, HRv, HCh⟩ := HQ.out v1 gl c hc1 HV.out.2 V B hB.symm (by rw [← hB]; exact hVB) hVb
  have HS : Hid (∀ wq, Below V.heap.size V wq → wq.cell? ⟨Z, 3, none⟩ = some (.pointer (some ⟨L, 0, none⟩)) ∧ wq.cell? ⟨B, 0, none⟩ = some (.int .i64 1) ∧ wq.cell? ⟨B, 1, none⟩ = some (.int .i64 (no : Int)) ∧ wq.cell? ⟨B, 2, none⟩ = some (.int .i64 (z : Int)) ∧ wq.cell? ⟨B, 3, none⟩ = some (.int .i64 (off : Int)) ∧ wq.cell? ⟨B, 4, none⟩ = some (.string ah) ∧ wq.cell? ⟨B, 5, none⟩ = some (.string be) ∧ wq.cell? ⟨B, 6, none⟩ = some (.int .i64 0)) := HS
  rw [hB]
  have hu9 : (A.u : Int) + (sz : Int) + (rv : Int) + 160 ≤ 4480 := by omega
  have b0 : Below V.heap.size V V := Below.refl _ _
  obtain ⟨t3, y0, y1, y2, y3, y4, y5, y6⟩ := HS.out V b0
  clear HQ HV HRd HBc x0 x1 x2 hVB hVb hO9 hne hne2 hah hbe hF hgb hby hRb h1R hR hu hsz hrv hps hus hno hno' ha9 hb9 hq hL d1 d2 l1 l2 l3 l4 l5 l6 l7 l8 l9 l10 hB
  try rename_i x1_1
  go_region_held2 (fun wq => wq.cell? ⟨Z, 3, none⟩ = some (.pointer (some ⟨L, 0, none⟩)) ∧ wq.cell? ⟨B, 0, none⟩ = some (.int .i64 1) ∧ wq.cell? ⟨B, 1, none⟩ = some (.int .i64 (no : Int)) ∧ wq.cell? ⟨B, 2, none⟩ = some (.int .i64 (z : Int)) ∧ wq.cell? ⟨B, 3, none⟩ = some (.int .i64 (off : Int)) ∧ wq.cell? ⟨B, 4, none⟩ = some (.string ah) ∧ wq.cell? ⟨B, 5, none⟩ = some (.string be) ∧ wq.cell? ⟨B, 6, none⟩ = some (.int .i64 0))
    (first | assumption | exact HS.out _ (by assumption) | exact HS.out _ (blw_drewN 1 (by assumption)) | go_keep)
    (first
      | (go_at_call 51; refine (HRo.out _ (by first | assumption | exact blw_drewN 1 (by assumption))).mono ?_; rintro e' v2 ⟨nr, rfl, ⟨hn1, hn2⟩, k2⟩)
      | (go_at_call 52; refine (HSz.out _ (by first | assumption | exact blw_drewN 1 (by assumption))).mono ?_; rintro e' v3 ⟨rfl, k3⟩)
      | (go_at_call 53; refine (HRv.out _ (by first | assumption | exact blw_drewN 1 (by assumption))).mono ?_; rintro e' v4 ⟨rfl, k4⟩; have hlt9 : decide ((nr : Int) - (sz : Int) < (rv : Int) + 160) = false := decide_eq_false (by omega); have hlt8 : (rv : Int) + 160 ≤ (nr : Int) - (sz : Int) := by omega))
  obtain ⟨_, c0, c1, c2, c3, c4, c5, c6⟩ := HS.out v4 k4
  have HC4 := HCh.out v4 k4
  clear HCh HS HRo HSz HRv y0 y1 y2 y3 y4 y5 y6 t3 b0 k2 k3 k4
  have e9a : IntKind.i64.wrap ((nr : Int) - (sz : Int)) = (nr : Int) - (sz : Int) := by rw [IntKind.wrap_i64]; omega
  have e9b : IntKind.i64.wrap ((rv : Int) + 160) = (rv : Int) + 160 := by rw [IntKind.wrap_i64]; omega
  go_wp2_with fail
  refine HC4.mono ?_
  rintro r v5 ⟨rfl, H5⟩
  obtain ⟨⟨z0, z1, z2, z3, z4, z5, z6⟩, HAd⟩ := H5.out v5 (Below.refl _ _)
  clear c0 c1 c2 c3 c4 c5 c6 HC4 H5
  go_wp2_with fail
  refine HAd.out.mono ?_
  rintro r v6 ⟨rfl, HE⟩
  go_wp2
  go_ret
  exact ⟨rfl, HE⟩
end Go.Proofs.YthfokciijcmhbaaGreatDoor

namespace Go.Proofs.YthfokciijcmhbaaGreatDoor
open Go.RowKit
set_option linter.unusedVariables false

variable {B0 : Nat} {A A' : Ax} {P P' K K' : Nat → Prop} {w w0 w' w1 w2 : World} {Z S D L bf n M la fo lt N Q M' la' lt' N' : Nat} {g : Int} {X : Nat → Bf} {e : Nat → Int} {ln ln' : Nat → Nat} {lo lo' : Nat → Nat → Int} {T T' : Nat → Tr}
set_option maxRecDepth 100000 in
/-- Write of bytes that change the page. -/
theorem W_write (h : Ws B0 A K Q Z S D L bf M la ln lo lt N T w) (hd : Sole T N) (i : Nat) (hi : i < N) (z : Nat) (hz : z < 6) (hM : M ≤ 900000) (hbf : 0 < bf) (hla : la ≤ 1000000) (hL : ¬ Lkd T N i (z : Int)) (off nb : Nat) (hnb : 0 < nb) (ho : off + nb ≤ 112) (gb ob cb : Nat) (fb : Nat → Int) (hF : From w (some ⟨gb, ob, none⟩) nb fb) (hgb : K gb) (hby : ∀ j, 0 ≤ fb j ∧ fb j ≤ 255) (ah be : ByteArray) (hah : strF (fun j => lo z (off + j)) nb = ah) (hbe : strF fb nb = be) (hne : ah ≠ be) (hps : (T i).ps.length < 1000) (hus : (T i).us.length < 1000) (R : List Int) (hR : encB 1 (T i).no z off ah be 0 = R) (hu : A.u + (putB R.length).length + R.length + rsv T N + 160 ≤ 4480) :
    Calls Tryz.prog 15 #[.pointer (some ⟨Q, 0, none⟩), .int .i64 ((T i).no : Int), .int .i64 (z : Int), .int .i64 (off : Int), .slice (some ⟨gb, ob, none⟩) nb cb] w fun r w' => r = .returned (.int .i64 0) ∧ Hid (∃ pv uv, Wk B0 ⟨A.al, A.u + (putB R.length).length + R.length⟩ K Q Z S D L bf (M + 2) (la + 1) (upd ln z (la + 1)) (upd lo z (ov (lo z) off nb (fn (strL be)))) (max lt (T i).no) N (updT T i ⟨(T i).b, (T i).no, pv, if Ci (T i).ps (z : Int) then (T i).ps else (T i).ps ++ [z], uv, (T i).us ++ [⟨la + 1, z, off, ah, be⟩]⟩) w w') := by
  obtain ⟨n, e, fo, X, P, k, hQ, h1, h2, h3⟩ := h
  refine (M_write k hQ ((T i).no : Int) (z : Int) (off : Int) 0 (.pointer (some ⟨(T i).b, 0, none⟩)) (.slice (some ⟨gb, ob, none⟩) nb cb) (fun w' => ∃ pv uv, At B0 ⟨A.al, A.u + (putB R.length).length + R.length⟩ w P Z S 1 Q D L bf (M + 2) (la + 1) (upd ln z (la + 1)) (upd lo z (ov (lo z) off nb (fn (strL be)))) (max lt (T i).no) N (updT T i ⟨(T i).b, (T i).no, pv, if Ci (T i).ps (z : Int) then (T i).ps else (T i).ps ++ [z], uv, (T i).us ++ [⟨la + 1, z, off, ah, be⟩]⟩) w') (fun w' => ∃ pv uv, At B0 ⟨A.al, A.u + (putB R.length).length + R.length⟩ w P Z S 0 Q D L bf (M + 2) (la + 1) (upd ln z (la + 1)) (upd lo z (ov (lo z) off nb (fn (strL be)))) (max lt (T i).no) N (updT T i ⟨(T i).b, (T i).no, pv, if Ci (T i).ps (z : Int) then (T i).ps else (T i).ps ++ [z], uv, (T i).us ++ [⟨la + 1, z, off, ah, be⟩]⟩) w') (fun wq kq => m_found kq.mt hd i hi) (fun wq kq pq qq => ?_) (fun w1 ⟨pv, uv, h⟩ => (At.lets w1 h).mono fun e' u' w' ⟨a1, a2, a3⟩ => ⟨a1, a2, pv, uv, a3.out⟩)).mono fun r w' ⟨a1, a2⟩ => ⟨a1, ?_⟩
  · have hgw := (h3 gb hgb).off h1
    have hgq := ((h3 gb hgb).part h1 pq (fun b h => .inl h)).off h1
    have sq := pq.size
    refine (m_write kq i hi z hz hM hbf hla (by omega) hL off nb hnb ho gb ob cb fb (pq.from hF hgw) hgq hby ah be hah hbe hne hps hus R hR hu).mono fun r w' ⟨b1, b2⟩ => ⟨b1, ?_⟩
    obtain ⟨n', X', e', fo', P1, pv, uv, j1, j2, j3, j4⟩ := b2.out
    have q1 := qq.part j2 j3
    exact ⟨q1.cell, fun wr hb => ⟨pv, uv, ((Mg.at q1 j1 j2 j3).after pq).belowW hb⟩⟩
  · obtain ⟨pv, uv, a3⟩ := a2.out
    exact ⟨pv, uv, a3.wk h1 h2 h3⟩
set_option maxRecDepth 100000 in
/-- Write of bytes that are there already. -/
theorem W_write_same (h : Ws B0 A K Q Z S D L bf M la ln lo lt N T w) (hd : Sole T N) (i : Nat) (hi : i < N) (z : Nat) (hz : z < 6) (hM : M ≤ 900000) (hbf : 0 < bf) (hla : la ≤ 1000000) (hL : ¬ Lkd T N i (z : Int)) (off nb : Nat) (hnb : 0 < nb) (ho : off + nb ≤ 112) (gb ob cb : Nat) (fb : Nat → Int) (hF : From w (some ⟨gb, ob, none⟩) nb fb) (hgb : K gb) (hby : ∀ j, 0 ≤ fb j ∧ fb j ≤ 255) (ah be : ByteArray) (hah : strF (fun j => lo z (off + j)) nb = ah) (hbe : strF fb nb = be) (heq : ah = be) :
    Calls Tryz.prog 15 #[.pointer (some ⟨Q, 0, none⟩), .int .i64 ((T i).no : Int), .int .i64 (z : Int), .int .i64 (off : Int), .slice (some ⟨gb, ob, none⟩) nb cb] w fun r w' => r = .returned (.int .i64 0) ∧ Hid (Wk B0 A K Q Z S D L bf (M + 1) la ln lo lt N T w w') := by
  obtain ⟨n, e, fo, X, P, k, hQ, h1, h2, h3⟩ := h
  refine (M_write k hQ ((T i).no : Int) (z : Int) (off : Int) 0 (.pointer (some ⟨(T i).b, 0, none⟩)) (.slice (some ⟨gb, ob, none⟩) nb cb) (At B0 A w P Z S 1 Q D L bf (M + 1) la ln lo lt N T) (At B0 A w P Z S 0 Q D L bf (M + 1) la ln lo lt N T) (fun wq kq => m_found kq.mt hd i hi) (fun wq kq pq qq => ?_) At.lets).mono fun r w' ⟨a1, a2⟩ => ⟨a1, a2.out.wk h1 h2 h3⟩
  have hgw := (h3 gb hgb).off h1
  have hgq := ((h3 gb hgb).part h1 pq (fun b h => .inl h)).off h1
  have sq := pq.size
  refine (m_write_same kq i hi z hz hM hbf hla (by omega) hL off nb hnb ho gb ob cb fb (pq.from hF hgw) hgq hby ah be hah hbe heq).mono fun r w' ⟨b1, b2⟩ => ⟨b1, ?_⟩
  obtain ⟨n', X', e', fo', ⟨P1, j1, j2, j3⟩, j4⟩ := b2.out
  have q1 := qq.part j2 j3
  exact ⟨q1.cell, fun wr hb => ((Mg.at q1 j1 j2 j3).after pq).belowW hb⟩
set_option maxRecDepth 100000 in
/-- Write to a page that another transaction changed. -/
theorem W_write_no (h : Ws B0 A K Q Z S D L bf M la ln lo lt N T w) (hd : Sole T N) (i : Nat) (hi : i < N) (z : Nat) (hz : z < 6) (hL : Lkd T N i (z : Int)) (off nb gb ob cb : Nat) : Calls Tryz.prog 15 #[.pointer (some ⟨Q, 0, none⟩), .int .i64 ((T i).no : Int), .int .i64 (z : Int), .int .i64 (off : Int), .slice (some ⟨gb, ob, none⟩) nb cb] w fun r w' => r = .returned (.int .i64 61) ∧ Hid (Wk B0 A K Q Z S D L bf M la ln lo lt N T w w') := by
  obtain ⟨n, e, fo, X, P, k, hQ, h1, h2, h3⟩ := h
  refine (M_write k hQ ((T i).no : Int) (z : Int) (off : Int) 61 (.pointer (some ⟨(T i).b, 0, none⟩)) (.slice (some ⟨gb, ob, none⟩) nb cb) (At B0 A w P Z S 1 Q D L bf M la ln lo lt N T) (At B0 A w P Z S 0 Q D L bf M la ln lo lt N T) (fun wq kq => m_found kq.mt hd i hi) (fun wq kq pq qq => ?_) At.lets).mono fun r w' ⟨a1, a2⟩ => ⟨a1, a2.out.wk h1 h2 h3⟩
  refine (m_write_no kq.mt i hi z hz hL off nb gb ob cb).mono fun r w' ⟨b1, b2⟩ => ⟨b1, ?_⟩
  subst b2
  exact ⟨qq.cell, fun wr hb => (Mg.at qq kq pq (fun b h => .inl h)).belowW hb⟩
/-- Commit of a transaction that changed something. -/
theorem W_commit (h : Ws B0 A K Q Z S D L bf M la ln lo lt N T w) (hd : Sole T N) (i : Nat) (hi : i < N) (hp : 0 < (T i).ps.length) (hla : la ≤ 1000000) (hM : M ≤ 1000000) (hu : A.u + 12 ≤ 4480) (R : List Int) (hR : encB 3 (T i).no 0 0 ByteArray.empty ByteArray.empty 0 = R) : Calls Tryz.prog 20 #[.pointer (some ⟨Q, 0, none⟩), .int .i64 ((T i).no : Int)] w fun r w' => r = .returned (.int .i64 0) ∧ Hid (Wk B0 ⟨A.al, A.u + (putB R.length).length + R.length⟩ K Q Z S D L bf M (la + 1) ln lo (max lt (T i).no) (N - 1) (dropT T i) w w') := by
  obtain ⟨n, e, fo, X, P, k, hQ, h1, h2, h3⟩ := h
  refine (M_commit k hQ ((T i).no : Int) 0 (At B0 ⟨A.al, A.u + (putB R.length).length + R.length⟩ w P Z S 1 Q D L bf M (la + 1) ln lo (max lt (T i).no) (N - 1) (dropT T i)) (At B0 ⟨A.al, A.u + (putB R.length).length + R.length⟩ w P Z S 0 Q D L bf M (la + 1) ln lo (max lt (T i).no) (N - 1) (dropT T i)) (fun wq kq pq qq => ?_) At.lets).mono fun r w' ⟨a1, a2⟩ => ⟨a1, a2.out.wk h1 h2 h3⟩
  refine (m_commit kq hd i hi hp hla hM hu R hR).mono fun r w' ⟨b1, b2⟩ => ⟨b1, ?_⟩
  obtain ⟨P1, e', j1, j2, j3⟩ := b2.out
  exact (Mg.at (qq.part j2 j3) j1 j2 j3).after pq
theorem Mg.ours {w1 : World} (k : Mg B0 A w P Z S g D L bf n X M e la fo ln lo lt N T) (h : Mt B0 P w1 Z S L g lt' N' T' ∧ Part (Ours B0 P w) w w1) : Mg B0 A w1 P Z S g D L bf n X M e la fo ln lo lt' N' T' ∧ Part (Fm B0 P w) w w1 := ⟨⟨k.pw.ours h.2 (fun b h => h), h.1⟩, Fm.ours h.2 (fun b h => h)⟩
/-- Commit of one that changed nothing. -/
theorem W_commit_none (h : Ws B0 A K Q Z S D L bf M la ln lo lt N T w) (hd : Sole T N) (i : Nat) (hi : i < N) (hp : (T i).ps = []) : Calls Tryz.prog 20 #[.pointer (some ⟨Q, 0, none⟩), .int .i64 ((T i).no : Int)] w fun r w' => r = .returned (.int .i64 0) ∧ Hid (Wk B0 A K Q Z S D L bf M la ln lo lt (N - 1) (dropT T i) w w') := by
  obtain ⟨n, e, fo, X, P, k, hQ, h1, h2, h3⟩ := h
  refine (M_commit k hQ ((T i).no : Int) 0 (At B0 A w P Z S 1 Q D L bf M la ln lo lt (N - 1) (dropT T i)) (At B0 A w P Z S 0 Q D L bf M la ln lo lt (N - 1) (dropT T i)) (fun wq kq pq qq => ?_) At.lets).mono fun r w' ⟨a1, a2⟩ => ⟨a1, a2.out.wk h1 h2 h3⟩
  refine (m_commit_none kq.mt hd i hi hp).mono fun r w' ⟨b1, b2⟩ => ⟨b1, ?_⟩
  obtain ⟨j1, j2⟩ := kq.ours b2.out
  exact (Mg.at (qq.part j2 (fun b h => .inl h)) j1 j2 (fun b h => .inl h)).after pq
/-- Commit of one that is not open. -/
theorem W_commit_no (h : Ws B0 A K Q Z S D L bf M la ln lo lt N T w) (z : Int) (hz : ∀ j, j < N → ((T j).no : Int) ≠ z) : Calls Tryz.prog 20 #[.pointer (some ⟨Q, 0, none⟩), .int .i64 z] w fun r w' => r = .returned (.int .i64 60) ∧ Hid (Wk B0 A K Q Z S D L bf M la ln lo lt N T w w') := by
  obtain ⟨n, e, fo, X, P, k, hQ, h1, h2, h3⟩ := h
  refine (M_commit k hQ z 60 (At B0 A w P Z S 1 Q D L bf M la ln lo lt N T) (At B0 A w P Z S 0 Q D L bf M la ln lo lt N T) (fun wq kq pq qq => ?_) At.lets).mono fun r w' ⟨a1, a2⟩ => ⟨a1, a2.out.wk h1 h2 h3⟩
  refine (m_commit_no kq.mt z hz).mono fun r w' ⟨b1, b2⟩ => ⟨b1, ?_⟩
  subst b2
  exact Mg.at qq kq pq (fun b h => .inl h)
/-- Abort of one that changed something. -/
theorem W_abort (h : Ws B0 A K Q Z S D L bf M la ln lo lt N T w) (hd : Sole T N) (i : Nat) (hi : i < N) (hp : 0 < (T i).ps.length) (hbf : 0 < bf) (ho : ∀ x ∈ (T i).us, Okb x) (hla : la + (T i).us.length ≤ 1000000) (hM : M + 2 * (T i).us.length ≤ 900000) (hu : A.u + 160 * (T i).us.length + 12 ≤ 4480) (F : Ts) (hF : Ts.fin (T i).no (T i).us.reverse ⟨A.u, M, la, ln, lo, lt⟩ = F) : Calls Tryz.prog 16 #[.pointer (some ⟨Q, 0, none⟩), .int .i64 ((T i).no : Int)] w fun r w' => r = .returned (.int .i64 0) ∧ Hid (Wk B0 ⟨A.al, F.u + endN (T i).no⟩ K Q Z S D L bf F.M (F.la + 1) F.ln F.lo (max F.lt (T i).no) (N - 1) (dropT T i) w w') := by
  obtain ⟨n, e, fo, X, P, k, hQ, h1, h2, h3⟩ := h
  refine (M_abort k hQ ((T i).no : Int) 0 (At B0 ⟨A.al, F.u + endN (T i).no⟩ w P Z S 1 Q D L bf F.M (F.la + 1) F.ln F.lo (max F.lt (T i).no) (N - 1) (dropT T i)) (At B0 ⟨A.al, F.u + endN (T i).no⟩ w P Z S 0 Q D L bf F.M (F.la + 1) F.ln F.lo (max F.lt (T i).no) (N - 1) (dropT T i)) (fun wq kq pq qq => ?_) At.lets).mono fun r w' ⟨a1, a2⟩ => ⟨a1, a2.out.wk h1 h2 h3⟩
  exact (m_abort kq hd i hi hp hbf ho hla hM hu F hF).mono fun r w' ⟨b1, b2⟩ => ⟨b1, (b2.out.at qq).after pq⟩
/-- Abort of one that changed nothing. -/
theorem W_abort_none (h : Ws B0 A K Q Z S D L bf M la ln lo lt N T w) (hd : Sole T N) (i : Nat) (hi : i < N) (hp : (T i).ps = []) : Calls Tryz.prog 16 #[.pointer (some ⟨Q, 0, none⟩), .int .i64 ((T i).no : Int)] w fun r w' => r = .returned (.int .i64 0) ∧ Hid (Wk B0 A K Q Z S D L bf M la ln lo lt (N - 1) (dropT T i) w w') := by
  obtain ⟨n, e, fo, X, P, k, hQ, h1, h2, h3⟩ := h
  refine (M_abort k hQ ((T i).no : Int) 0 (At B0 A w P Z S 1 Q D L bf M la ln lo lt (N - 1) (dropT T i)) (At B0 A w P Z S 0 Q D L bf M la ln lo lt (N - 1) (dropT T i)) (fun wq kq pq qq => ?_) At.lets).mono fun r w' ⟨a1, a2⟩ => ⟨a1, a2.out.wk h1 h2 h3⟩
  refine (m_abort_none kq.mt hd i hi hp).mono fun r w' ⟨b1, b2⟩ => ⟨b1, ?_⟩
  obtain ⟨j1, j2⟩ := kq.ours b2.out
  exact (Mg.at (qq.part j2 (fun b h => .inl h)) j1 j2 (fun b h => .inl h)).after pq
end Go.Proofs.YthfokciijcmhbaaGreatDoor

namespace Go.Proofs.YthfokciijcmhbaaGreatDoor
open Go.RowKit
set_option linter.unusedVariables false
set_option maxRecDepth 100000
set_option maxHeartbeats 2000000

theorem decZ (s : Value) (a0 : Option Addr) (c0 : Nat) (w : World) : Calls Tryz.prog 71 #[s, .slice a0 0 c0] w fun e w' => e = .returned (.tuple #[.slice none 0 0, .bool true]) ∧ w' = w := by
  go_enter Tryz.func71, Tryz.ntmps71
  go_wp2
  go_loopw [6, 13] (fun a i wr => a = .slice none 0 0 ∧ i = .int .i64 0 ∧ wr = w) (fun _ _ _ => 0)
  case atStart => exact ⟨rfl, rfl, rfl⟩
  case round =>
    obtain ⟨rfl, rfl, rfl⟩ := hrel
    go_wp2
    go_ret2
    exact ⟨rfl, rfl⟩
theorem redZ (s : Value) (w : World) : Calls Tryz.prog 72 #[s, .slice none 0 0] w fun e w' => e = .returned (.int .i64 0) ∧ w' = w := by
  go_enter Tryz.func72, Tryz.ntmps72
  go_wp2
  go_loopw [14] (fun i wr => i = .int .i64 0 ∧ wr = w) (fun _ _ => 0)
  case atStart => exact ⟨rfl, rfl⟩
  case round =>
    obtain ⟨rfl, rfl⟩ := hrel
    go_wp2
    go_ret
    exact ⟨rfl, rfl⟩
theorem infoB4 : (Tryz.prog.info? 4).map (fun i => (i.zero, i.size, i.bytes)) = some (some (.bool false), 1, 1) := by kernel_rfl
theorem takZ (s : Value) (w : World) : Calls Tryz.prog 109 #[s, .slice none 0 0] w fun e w' => ∃ v, e = .returned v ∧ Below w.heap.size w w' := by
  have hmi : ∀ w : World, (Instr.makeSlice 72 (.int .i64 0) (.int .i64 0)).run Tryz.prog w = .ok (.slice (some ⟨w.heap.size, 0, none⟩) 0 0) (w.alloc (.cells (madeCells #[.bool false] 0) 4)) := fun w => run_make_row' (P := Tryz.prog) 72 4 (.bool false) 1 Tryz.underlying72 infoB4 rfl .i64 .i64 0 (by omega) (by omega) w
  have HB : Hid (∀ o, Below w.heap.size w (w.alloc o)) := fun o => (Below.refl _ w).alloc (Nat.le_refl _) o
  go_enter Tryz.func109, Tryz.ntmps109
  go_wp2
  go_loopw [14] (fun i wr => i = .int .i64 0 ∧ ∃ o, wr = w.alloc o) (fun _ _ => 0)
  case atStart => exact ⟨rfl, _, rfl⟩
  case round =>
    obtain ⟨rfl, o, rfl⟩ := hrel
    go_wp2
    go_ret
    exact ⟨_, rfl, HB.out _⟩
theorem k_len64' (w : World) : Calls Tryz.prog 183 #[.int .u64 0] w fun r w' => r = .returned (.int .i64 0) ∧ w' = w := by
  go_enter Tryz.func183, Tryz.ntmps183
  go_wp2
  go_ret
  refine ⟨?_, rfl⟩
  first
    | (decide; done)
    | (simp [wrap64]; done)
    | (simp [wrap64]; decide)
    | kernel_rfl
theorem k_len (w : World) : Calls Tryz.prog 167 #[.int .u64 0] w fun r w' => r = .returned (.int .i64 0) ∧ w' = w := by
  go_enter Tryz.func167, Tryz.ntmps167
  go_wp2_with first
    | (go_at_call 183; refine (k_len64' w).mono ?_; rintro r w1 ⟨rfl, hw⟩; rw [hw]; clear hw)
  go_ret
  exact ⟨rfl, rfl⟩
theorem k_ins (w : World) : Calls Tryz.prog 173 #[.slice none 0 0, .int .i64 0, .int .i64 0] w fun r w' => r = .returned (.tuple #[]) ∧ w' = w := by
  go_enter Tryz.func173, Tryz.ntmps173
  go_wp2
  go_loopw [6] (fun s wr => s = .int .i64 1 ∧ wr = w) (fun _ _ => 0)
  case atStart => exact ⟨by go_num, rfl⟩
  case round =>
    obtain ⟨rfl, rfl⟩ := hrel
    go_wp2
    go_end0
    exact ⟨rfl, rfl⟩
theorem k_pdq (w : World) : Calls Tryz.prog 166 #[.slice none 0 0, .int .i64 0, .int .i64 0, .int .i64 0] w fun r w' => r = .returned (.tuple #[]) ∧ w' = w := by
  go_enter Tryz.func166, Tryz.ntmps166
  go_wp2
  go_loopw [1, 2] (fun a b wr => a = .int .i64 0 ∧ b = .int .i64 0 ∧ wr = w) (fun _ _ _ => 0)
  case atStart => exact ⟨rfl, rfl, rfl⟩
  case round =>
    obtain ⟨rfl, rfl, rfl⟩ := hrel
    go_wp2_with fail
    refine (k_ins _).mono ?_
    rintro r w1 ⟨rfl, rfl⟩
    go_wp2
    refine bodyPost_ret (results_none rfl _ _ _) rfl ?_
    exact ⟨rfl, rfl⟩
theorem k_sort (w : World) : Calls Tryz.prog 148 #[.slice none 0 0] w fun r w' => r = .returned (.tuple #[]) ∧ w' = w := by
  go_enter Tryz.func148, Tryz.ntmps148
  go_wp2_with first
    | (go_at_call 167; refine (k_len w).mono ?_; rintro r w1 ⟨rfl, hw⟩; rw [hw]; clear hw)
    | (go_at_call 166; refine (k_pdq w).mono ?_; rintro r w1 ⟨rfl, hw⟩; rw [hw]; clear hw)
  go_end0
  exact ⟨rfl, rfl⟩
end Go.Proofs.YthfokciijcmhbaaGreatDoor
