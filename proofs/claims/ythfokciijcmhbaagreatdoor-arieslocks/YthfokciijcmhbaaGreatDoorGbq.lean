/-
  state.abort.
  Manager's calls: Write, Read, of what the state's calls do.
  A manager's calls, told of what a law keeps beside it: Begin, Read, Write, Commit, Abort.
-/
import Derived.Test.YthfokciijcmhbaaGreatDoorGbp
import Derived.Test.YthfokciijcmhbaaGreatDoorGbn
namespace Go.Proofs.YthfokciijcmhbaaGreatDoor
open Go.RowKit
set_option linter.unusedVariables false

variable {B0 : Nat} {A : Ax} {P P' : Nat → Prop} {w w' w1 w2 : World} {Z S D L bf n M la fo lt N Q : Nat} {g : Int} {X : Nat → Bf} {e : Nat → Int} {ln : Nat → Nat} {lo : Nat → Nat → Int} {T : Nat → Tr}
theorem Fm.low (hP : ∀ b, P b → B0 ≤ b) : ∀ b, Fm B0 P w b → B0 ≤ b := fun b h => by
  rcases h with (h | h) | h
  · exact hP b h
  · exact h.1
  · exact h.1
theorem Mg.sb (k : Mg B0 A w P Z S g D L bf n X M e la fo ln lo lt N T) : Sb B0 A w P Z S g D L bf M la ln lo lt N T w := ⟨n, e, fo, X, P, k, Part.refl _ _, fun b h => .inl h⟩
theorem dropT_of {T T' : Nat → Tr} {i : Nat} (h : T' = updT T i (T' i)) : dropT T' i = dropT T i := by
  funext j
  unfold dropT
  rw [congrFun h (sk i j)]
  exact updT_other T _ (by unfold sk; split <;> omega)
/-- Abort of a transaction that changed nothing. -/
theorem m_abort_none (k : Mt B0 P w Z S L g lt N T) (hd : Sole T N) (i : Nat) (hi : i < N) (hp : (T i).ps = []) : Calls Tryz.prog 36 #[.pointer (some ⟨Z, 0, none⟩), .int .i64 ((T i).no : Int)] w fun r w' => r = .returned (.int .i64 0) ∧ Hid (Mt B0 P w' Z S L g lt (N - 1) (dropT T i) ∧ Part (Ours B0 P w) w w') := by
  have HF : Hid (Calls Tryz.prog 35 #[.pointer (some ⟨Z, 0, none⟩), .int .i64 ((T i).no : Int)] w fun r w' => r = .returned (.pointer (some ⟨(T i).b, 0, none⟩)) ∧ w' = w) := m_found k hd i hi
  have HL : Hid (Calls Tryz.prog 57 #[.pointer (some ⟨Z, 0, none⟩), .pointer (some ⟨(T i).b, 0, none⟩)] w fun r w' => r = .returned (.tuple #[]) ∧ Hid (Mt B0 P w' Z S L g lt (N - 1) (dropT T i) ∧ Part (Ours B0 P w) w w')) := m_leave k i hi
  obtain ⟨pa, pc, hpv⟩ : ∃ a c, (T i).pv = .slice a 0 c := by
    rcases (k.pr i hi).2 with ⟨e, e2⟩ | ⟨gg, cap, cur, e, _⟩
    · exact ⟨none, 0, e⟩
    · exact ⟨_, cap, by rw [e, hp]; rfl⟩
  have c1 : w.cell? ⟨(T i).b, 1, none⟩ = some (.slice pa 0 pc) := by rw [← hpv, cells_at (k.tr i hi) 1]; rfl
  generalize (T i).b = q at *
  generalize ((T i).no : Int) = z at *
  clear k hd hi hp hpv
  go_enter Tryz.func36, Tryz.ntmps36
  go_wp2_with fail
  refine HF.out.mono ?_
  rintro r v1 ⟨rfl, hw⟩
  obtain rfl : w = v1 := hw.symm
  clear hw HF
  go_wp2_with fail
  refine HL.out.mono ?_
  rintro r v1 ⟨rfl, HE⟩
  go_wp2
  go_ret
  exact ⟨rfl, HE⟩
/-- Bytes of the log that the end's record takes. -/
def endN (no : Nat) : Nat := (putB (encB 4 no 0 0 ByteArray.empty ByteArray.empty 0).length).length + (encB 4 no 0 0 ByteArray.empty ByteArray.empty 0).length
set_option maxRecDepth 100000 in
set_option maxHeartbeats 4000000 in
theorem m_abort (k : Mg B0 A w P Z S g D L bf n X M e la fo ln lo lt N T) (hd : Sole T N) (i : Nat) (hi : i < N) (hp : 0 < (T i).ps.length) (hbf : 0 < bf) (ho : ∀ x ∈ (T i).us, Okb x) (hla : la + (T i).us.length ≤ 1000000) (hM : M + 2 * (T i).us.length ≤ 900000) (hu : A.u + 160 * (T i).us.length + 12 ≤ 4480) (F : Ts) (hF : Ts.fin (T i).no (T i).us.reverse ⟨A.u, M, la, ln, lo, lt⟩ = F) : Calls Tryz.prog 36 #[.pointer (some ⟨Z, 0, none⟩), .int .i64 ((T i).no : Int)] w fun r w' => r = .returned (.int .i64 0) ∧ Hid (Sb B0 ⟨A.al, F.u + endN (T i).no⟩ w P Z S g D L bf F.M (F.la + 1) F.ln F.lo (max F.lt (T i).no) (N - 1) (dropT T i) w') := by
  have HF : Hid (Calls Tryz.prog 35 #[.pointer (some ⟨Z, 0, none⟩), .int .i64 ((T i).no : Int)] w fun r w' => r = .returned (.pointer (some ⟨(T i).b, 0, none⟩)) ∧ w' = w) := m_found k.mt hd i hi
  obtain ⟨m, hm⟩ : ∃ m, (T i).ps.length = m := ⟨_, rfl⟩
  obtain ⟨pa, pc, hpv⟩ : ∃ a c, (T i).pv = .slice a m c := by
    rcases (k.mt.pr i hi).2 with ⟨e, e2⟩ | ⟨gg, cap, cur, e, _⟩
    · exact ⟨none, 0, by rw [e, ← hm, e2]⟩
    · exact ⟨_, cap, by rw [e, hm]⟩
  have c1 : w.cell? ⟨(T i).b, 1, none⟩ = some (.slice pa m pc) := by rw [← hpv, cells_at (k.mt.tr i hi) 1]; rfl
  have hno := (k.mt.sm i hi).2.2
  have ht : Tkl B0 A.al w P Z S g D L bf N T i F (T i).us.reverse ⟨A.u, M, la, ln, lo, lt⟩ w := by
    refine ⟨⟨T, (updT_self T i).symm, rfl, rfl, rfl, by rw [List.reverse_reverse], k.sb⟩, hF, fun x hx => ho x (List.mem_reverse.1 hx), ?_, ?_, ?_⟩
    · rw [List.length_reverse]; exact hla
    · rw [List.length_reverse]; exact hM
    · rw [List.length_reverse]; exact hu
  have HN : Hid (Calls Tryz.prog 56 #[.pointer (some ⟨Z, 0, none⟩), .pointer (some ⟨(T i).b, 0, none⟩)] w fun r w' => r = .returned (.int .i64 0) ∧ Hid (Calls Tryz.prog 57 #[.pointer (some ⟨Z, 0, none⟩), .pointer (some ⟨(T i).b, 0, none⟩)] w' fun r w3 => r = .returned (.tuple #[]) ∧ Hid (Sb B0 ⟨A.al, F.u + endN (T i).no⟩ w P Z S g D L bf F.M (F.la + 1) F.ln F.lo (max F.lt (T i).no) (N - 1) (dropT T i) w3))) := by
    refine (m_takeBack ht hi hbf hno).mono fun r w' ⟨h1, h2⟩ => ⟨h1, ?_⟩
    obtain ⟨T', g1, g2, g3, g4, g5, n', e', fo', X', P', j1, j2, j3⟩ := h2.out
    have h3 := m_leave j1.mt i hi
    rw [g2] at h3
    refine h3.mono fun r w3 ⟨h4, h5⟩ => ⟨h4, ?_⟩
    have h6 := h5.out.1
    rw [dropT_of g1] at h6
    refine ⟨n', e', fo', X', P', ⟨?_, h6⟩, Fm.trans j2 j3 (Fm.ours h5.out.2 (fun b h => h)), j3⟩
    have h7 := j1.pw.ours h5.out.2 (fun b h => h)
    rw [Nat.add_assoc] at h7
    exact h7
  have hm0 : (0 : Int) < (m : Int) := by omega
  generalize hqq : (T i).b = q at HF HN c1
  generalize hzz : ((T i).no : Int) = z at HF ⊢
  clear k hd hi hp hpv hm hu hno hqq hzz ht ho hla hM hF
  go_enter Tryz.func36, Tryz.ntmps36
  go_wp2_with fail
  refine HF.out.mono ?_
  rintro r v1 ⟨rfl, hw⟩
  obtain rfl : w = v1 := hw.symm
  clear hw HF
  go_wp2_with fail
  refine HN.out.mono ?_
  rintro r v1 ⟨rfl, H1⟩
  clear HN c1
  go_wp2_with fail
  refine H1.out.mono ?_
  rintro r v3 ⟨rfl, HE⟩
  go_wp2
  go_ret
  exact ⟨rfl, HE⟩
end Go.Proofs.YthfokciijcmhbaaGreatDoor

namespace Go.Proofs.YthfokciijcmhbaaGreatDoor
open Go.RowKit
set_option linter.unusedVariables false

variable {B0 : Nat} {A : Ax} {P P' : Nat → Prop} {w w' w1 w2 : World} {Z S D L bf n M la fo lt N Q : Nat} {g : Int} {X : Nat → Bf} {e : Nat → Int} {ln : Nat → Nat} {lo : Nat → Nat → Int} {T : Nat → Tr}
set_option maxRecDepth 100000 in
set_option maxHeartbeats 2000000 in
theorem M_write (k : Mg B0 A w P Z S 0 D L bf n X M e la fo ln lo lt N T) (hq : Mk w P Q Z) (z pg off rc : Int) (tv sv : Value) (Q1 Q0 : World → Prop) (hF : ∀ wq, Mg B0 A wq P Z S 1 D L bf n X M e la fo ln lo lt N T → Calls Tryz.prog 35 #[.pointer (some ⟨Z, 0, none⟩), .int .i64 z] wq fun r w' => r = .returned tv ∧ w' = wq) (hC : ∀ wq, Mg B0 A wq P Z S 1 D L bf n X M e la fo ln lo lt N T → Part (Fm B0 P w) w wq → Mk wq P Q Z → Calls Tryz.prog 34 #[.pointer (some ⟨Z, 0, none⟩), tv, .int .i64 pg, .int .i64 off, sv] wq fun r w' => r = .returned (.int .i64 rc) ∧ w'.cell? ⟨Q, 0, none⟩ = some (.pointer (some ⟨Z, 0, none⟩)) ∧ Hid (∀ wq, Below w'.heap.size w' wq → Q1 wq)) (hU : Lets Z Q1 Q0) : Calls Tryz.prog 15 #[.pointer (some ⟨Q, 0, none⟩), .int .i64 z, .int .i64 pg, .int .i64 off, sv] w fun r w' => r = .returned (.int .i64 rc) ∧ Hid (Q0 w') := by
  have HM : Hid (Calls Tryz.prog 30 #[.pointer (some ⟨Q, 0, none⟩)] w fun r w' => r = .returned (.bool false) ∧ w' = w) := mg_missing hq
  have c0 := hq.cell
  have HL : Hid (Calls Tryz.prog 31 #[.pointer (some ⟨Z, 0, none⟩)] w fun r w1 => r = .returned (.tuple #[]) ∧ Hid (∀ wq, Below w1.heap.size w1 wq → wq.cell? ⟨Q, 0, none⟩ = some (.pointer (some ⟨Z, 0, none⟩)) ∧ Hid (Calls Tryz.prog 35 #[.pointer (some ⟨Z, 0, none⟩), .int .i64 z] wq fun r w' => r = .returned tv ∧ w' = wq) ∧ Hid (Calls Tryz.prog 34 #[.pointer (some ⟨Z, 0, none⟩), tv, .int .i64 pg, .int .i64 off, sv] wq fun r w' => r = .returned (.int .i64 rc) ∧ w'.cell? ⟨Q, 0, none⟩ = some (.pointer (some ⟨Z, 0, none⟩)) ∧ Hid (∀ wq, Below w'.heap.size w' wq → Q1 wq)))) := (mg_lock k).mono fun r w1 ⟨h1, h2⟩ => by
    obtain ⟨k1, p1⟩ := h2.out
    refine ⟨h1, fun wq hb => ?_⟩
    have q1 := hq.part (Fm.trans p1 (fun b h => .inl h) (Part.ofBelow hb)) (fun b h => .inl h)
    exact ⟨q1.cell, hF wq (k1.below hb), hC wq (k1.below hb) (Fm.trans p1 (fun b h => .inl h) (Part.ofBelow hb)) q1⟩
  have HU : Hid (Lets Z Q1 Q0) := hU
  clear k hq hC hU hF
  go_enter_defers Tryz.func15, Tryz.ntmps15
  go_wp2_with fail
  refine HM.out.mono ?_
  rintro r w1 ⟨rfl, hw⟩
  obtain rfl : w = w1 := hw.symm
  clear hw HM
  go_wp2_with fail
  refine HL.out.mono ?_
  rintro r w1 ⟨rfl, H1⟩
  have HS : Hid (∀ wq, Below w1.heap.size w1 wq → wq.cell? ⟨Q, 0, none⟩ = some (.pointer (some ⟨Z, 0, none⟩))) := fun wq hb => (H1.out wq hb).1
  have b1 : Below w1.heap.size w1 w1 := Below.refl _ _
  have c1 := HS.out w1 b1
  clear HL c0
  go_wp2_with fail
  go_region_held3 (fun wq => wq.cell? ⟨Q, 0, none⟩ = some (.pointer (some ⟨Z, 0, none⟩)))
    (first | assumption | exact HS.out _ (by assumption) | exact HS.out _ (blw_drewN 1 (by assumption)) | go_keep)
    (first
      | (go_at_call 35; refine ((H1.out _ (by first | exact b1 | exact blw_drewN 1 b1)).2.1.out).mono ?_; rintro e' v1 ⟨rfl, hv1⟩; subst hv1)
      | (go_at_call 34; refine ((H1.out _ (by first | exact b1 | exact blw_drewN 1 b1 | exact blw_drewN 2 b1 | exact blw_drewN 1 (blw_drewN 1 b1))).2.2.out).mono ?_; rintro e' v2 ⟨rfl, c2, HG⟩))
  have b9 := Below.refl v2.heap.size v2
  go_wp2
  refine leaves_cons (f := 32) (args := #[.pointer (some ⟨Z, 0, none⟩)]) (by simp) (by simp [go_sem]) ?_
  refine (HU.out _ (by first | exact HG.out _ b9 | exact HG.out _ (blw_drewN 1 b9))).mono ?_
  rintro e u' w9 ⟨rfl, rfl, HZ⟩
  exact ⟨_, results_tmp rfl _ _ _, rfl, HZ⟩
end Go.Proofs.YthfokciijcmhbaaGreatDoor

namespace Go.Proofs.YthfokciijcmhbaaGreatDoor
open Go.RowKit
set_option linter.unusedVariables false

variable {B0 : Nat} {A A' : Ax} {P P' K K' : Nat → Prop} {w w0 w' w1 w2 : World} {Z S D L bf n M la fo lt N Q M' la' lt' N' : Nat} {g : Int} {X : Nat → Bf} {e : Nat → Int} {ln ln' : Nat → Nat} {lo lo' : Nat → Nat → Int} {T T' : Nat → Tr}
theorem Mk.below (h : Mk w P Q Z) (hb : Below w.heap.size w w') : Mk w' P Q Z := ⟨(hb.block Q (Array.getElem?_eq_some_iff.1 h.1).1).trans h.1, h.2⟩
/-- A block that no call of a manager writes. -/
def Fa (B0 : Nat) (P : Nat → Prop) (w : World) (b : Nat) : Prop := b < w.heap.size ∧ (b < B0 ∨ (¬ P b ∧ ∃ cs t, w.heap[b]? = some (.cells cs t (0, 0)) ∧ t ≠ 166 ∧ t ≠ 170 ∧ t ≠ 88 ∧ t ≠ 95 ∧ t ≠ 92 ∧ t ≠ 3 ∧ t ≠ 163))
theorem Fa.off {b : Nat} (h : Fa B0 P w b) (hP : ∀ b, P b → B0 ≤ b) : ¬ Fm B0 P w b := fun hf => by
  rcases h.2 with h1 | ⟨h1, cs, t, h2, h3⟩
  · have := Fm.low hP b hf
    omega
  · exact free5 h1 h2 h3 hf
theorem Fa.part {b : Nat} (h : Fa B0 P w b) (hP : ∀ b, P b → B0 ≤ b) (hp : Part (Fm B0 P w) w w') (hP' : ∀ b, P' b → P b ∨ w.heap.size ≤ b) : Fa B0 P' w' b := by
  have hb := hp.block b h.1 (h.off hP)
  have hs := hp.size
  refine ⟨by have := h.1; omega, h.2.imp id (fun ⟨h1, cs, t, h2, h3⟩ => ⟨fun hq => ?_, cs, t, hb.trans h2, h3⟩)⟩
  rcases hP' b hq with h | h'
  · exact h1 h
  · have := h.1
    omega
/-- A manager, and blocks beside it that its calls leave alone. -/
def Ws (B0 : Nat) (A : Ax) (K : Nat → Prop) (Q Z S D L bf M la : Nat) (ln : Nat → Nat) (lo : Nat → Nat → Int) (lt N : Nat) (T : Nat → Tr) (w : World) : Prop := ∃ n e fo X P, Mg B0 A w P Z S 0 D L bf n X M e la fo ln lo lt N T ∧ Mk w P Q Z ∧ (∀ b, P b → B0 ≤ b) ∧ B0 ≤ w.heap.size ∧ ∀ b, K b → Fa B0 P w b
/-- What a call leaves: the manager, and the blocks of K as they were. -/
def Wk (B0 : Nat) (A : Ax) (K : Nat → Prop) (Q Z S D L bf M la : Nat) (ln : Nat → Nat) (lo : Nat → Nat → Int) (lt N : Nat) (T : Nat → Tr) (w w' : World) : Prop := Ws B0 A K Q Z S D L bf M la ln lo lt N T w' ∧ Part (fun b => ¬ K b) w w'
theorem Ws.part {G : Nat → Prop} (h : Ws B0 A K Q Z S D L bf M la ln lo lt N T w) (hb : Below w.heap.size w w') : Ws B0 A K Q Z S D L bf M la ln lo lt N T w' := by
  obtain ⟨n, e, fo, X, P, k, q, h1, h2, h3⟩ := h
  have hs := hb.size
  exact ⟨n, e, fo, X, P, k.below hb, q.below hb, h1, by omega, fun b hb' => (h3 b hb').part h1 (Part.ofBelow hb) (fun b h => .inl h)⟩
theorem Ws.below (h : Ws B0 A K Q Z S D L bf M la ln lo lt N T w) (hb : Below w.heap.size w w') : Ws B0 A K Q Z S D L bf M la ln lo lt N T w' := h.part (G := fun _ => False) hb
theorem Ws.less (h : Ws B0 A K Q Z S D L bf M la ln lo lt N T w) (hK : ∀ b, K' b → K b) : Ws B0 A K' Q Z S D L bf M la ln lo lt N T w := by
  obtain ⟨n, e, fo, X, P, k, q, h1, h2, h3⟩ := h
  exact ⟨n, e, fo, X, P, k, q, h1, h2, fun b hb => h3 b (hK b hb)⟩
/-- A block that was laid behind the manager is kept, too. -/
theorem Ws.more (h : Ws B0 A K Q Z S D L bf M la ln lo lt N T w) (hb : Below w.heap.size w w') (q : Nat) (hq : w.heap.size ≤ q) (cs : Array Value) (t : TypeId) (he : w'.heap[q]? = some (.cells cs t (0, 0))) (ht : t ≠ 166 ∧ t ≠ 170 ∧ t ≠ 88 ∧ t ≠ 95 ∧ t ≠ 92 ∧ t ≠ 3 ∧ t ≠ 163) : Ws B0 A (fun b => K b ∨ b = q) Q Z S D L bf M la ln lo lt N T w' := by
  obtain ⟨n, e, fo, X, P, k, hQ, h1, h2, h3⟩ := h
  have hs := hb.size
  refine ⟨n, e, fo, X, P, k.below hb, hQ.below hb, h1, by omega, fun b hb' => ?_⟩
  rcases hb' with hb' | rfl
  · exact (h3 b hb').part h1 (Part.ofBelow hb) (fun b h => .inl h)
  · exact ⟨(Array.getElem?_eq_some_iff.1 he).1, .inr ⟨fun h => by have := k.pw.lt _ h; omega, cs, t, he, ht⟩⟩
theorem At.wk (hP : ∀ b, P b → B0 ≤ b) (hB : B0 ≤ w.heap.size) (hK : ∀ b, K b → Fa B0 P w b) (h : At B0 A' w P Z S 0 Q D L bf M' la' ln' lo' lt' N' T' w') : Wk B0 A' K Q Z S D L bf M' la' ln' lo' lt' N' T' w w' := by
  obtain ⟨n, e, fo, X, P', j1, j2, j3, j4⟩ := h
  have hs := j2.size
  refine ⟨⟨n, e, fo, X, P', j1, j4, fun b h => ?_, by omega, fun b hb => (hK b hb).part hP j2 j3⟩, j2.mono fun b _ hf hb => (hK b hb).off hP hf⟩
  rcases j3 b h with h | h
  · exact hP b h
  · omega
theorem W_begin (h : Ws B0 A K Q Z S D L bf M la ln lo lt N T w) (hN : N < 16) (hm : mxT lt T N < 1099511627776) : Calls Tryz.prog 14 #[.pointer (some ⟨Q, 0, none⟩)] w fun r w' => r = .returned (.tuple #[.int .i64 ((mxT lt T N : Int) + 1), .int .i64 0]) ∧ Hid (∃ q, Wk B0 A K Q Z S D L bf M la ln lo lt (N + 1) (updT T N (freshTr q (mxT lt T N + 1))) w w') := by
  obtain ⟨n, e, fo, X, P, k, hQ, h1, h2, h3⟩ := h
  refine (M_begin k hQ h2 hN hm).mono fun r w' ⟨a1, a2⟩ => ⟨a1, ?_⟩
  obtain ⟨q, _, h4⟩ := a2.out
  exact ⟨q, h4.wk h1 h2 h3⟩
/-- A page that was read: the manager, locked or not, and the page's bytes. -/
def RdAt (B0 : Nat) (A : Ax) (w : World) (P : Nat → Prop) (Z S : Nat) (g : Int) (Q D L bf M la : Nat) (ln : Nat → Nat) (lo : Nat → Nat → Int) (lt N : Nat) (T : Nat → Tr) (z : Nat) (v : Value) (w' : World) : Prop := ∃ n e fo X P', Mg B0 A w' P' Z S g D L bf n X M e la fo ln lo lt N T ∧ Part (Fm B0 P w) w w' ∧ (∀ b, P' b → P b ∨ w.heap.size ≤ b) ∧ Mk w' P' Q Z ∧ ∃ gl c, v = .slice (some ⟨gl, 0, none⟩) 112 c ∧ w.heap.size ≤ gl ∧ ¬ P' gl ∧ Own w' 0 v (lst (lo z) 112)
theorem own_ty {v : Value} {gl : Nat} {xs : List Int} (h : Own w 0 v xs) (hv : v.ownBlock = some gl) : ∃ cs, w.heap[gl]? = some (.cells cs 5 (0, 0)) := row_block h hv
theorem RdAt.lets {z : Nat} (v : Value) : Lets Z (RdAt B0 A w P Z S 1 Q D L bf M la ln lo lt N T z v) (RdAt B0 A w P Z S 0 Q D L bf M la ln lo lt N T z v) := fun w1 h => by
  obtain ⟨n, e, fo, X, P', h1, h2, h3, h4, gl, c, rfl, h5, h6, h7⟩ := h
  obtain ⟨cs, he⟩ := own_ty h7 rfl
  have hf := free5 (B0 := B0) h6 he ⟨by decide, by decide, by decide, by decide, by decide, by decide, by decide⟩
  exact (mg_unlock h1 .returning).mono fun e' u' w' ⟨a1, a2, a3⟩ => ⟨a1, a2, n, e, fo, X, P', a3.out.1, Fm.trans h2 h3 a3.out.2, h3, h4.part a3.out.2 (fun b h => .inl h), gl, c, rfl, h5, h6, a3.out.2.row h7 (fun b hb => by injection hb with hb; rw [← hb]; exact hf)⟩
set_option maxRecDepth 100000 in
theorem W_read (h : Ws B0 A K Q Z S D L bf M la ln lo lt N T w) (hd : Sole T N) (i : Nat) (hi : i < N) (z : Nat) (hz : z < 6) (hM : M ≤ 1000000) (hbf : 0 < bf) (hL : ¬ Lkd T N i (z : Int)) : Calls Tryz.prog 18 #[.pointer (some ⟨Q, 0, none⟩), .int .i64 ((T i).no : Int), .int .i64 (z : Int)] w fun r w' => ∃ a n9 c, r = .returned (.tuple #[.slice a n9 c, .int .i64 0]) ∧ Hid (∃ gl, .slice a n9 c = Value.slice (some ⟨gl, 0, none⟩) 112 c ∧ w.heap.size ≤ gl ∧ Ws B0 A (fun b => K b ∨ b = gl) Q Z S D L bf (M + 1) la ln lo lt N T w' ∧ Part (fun b => ¬ K b) w w' ∧ Own w' 0 (.slice (some ⟨gl, 0, none⟩) 112 c) (lst (lo z) 112)) := by
  obtain ⟨n, e, fo, X, P, k, hQ, h1, h2, h3⟩ := h
  refine (M_read k hQ ((T i).no : Int) (z : Int) 0 (.pointer (some ⟨(T i).b, 0, none⟩)) (RdAt B0 A w P Z S 1 Q D L bf (M + 1) la ln lo lt N T z) (RdAt B0 A w P Z S 0 Q D L bf (M + 1) la ln lo lt N T z) (fun wq kq => m_found kq.mt hd i hi) (fun wq kq pq qq => ?_) (fun v => RdAt.lets v)).mono fun r w' ⟨a, n9, c, a1, a2⟩ => ⟨a, n9, c, a1, ?_⟩
  · refine (m_read kq i hi z hz hM hbf hL).mono fun r w' ⟨gl, c, b1, b2⟩ => ⟨_, _, c, b1, ?_⟩
    obtain ⟨n', X', e', fo', ⟨P1, j1, j2, j3, j4⟩, j5, j6, j7, j8⟩ := b2.out
    have sq := pq.size
    have q1 := qq.part j2 j3
    refine ⟨q1.cell, fun wr hb => ⟨n', e', fo', X', P1, j1.below hb, Fm.trans (P' := P1) (Fm.trans pq (fun b h => .inl h) j2) (fun b h => ?_) (Part.ofBelow hb), fun b h => ?_, q1.below hb, gl, c, rfl, by omega, j4 gl rfl, j7.below hb (Nat.le_refl _)⟩⟩
    · rcases j3 b h with h | h
      · exact .inl h
      · exact .inr (by omega)
    · rcases j3 b h with h | h
      · exact .inl h
      · exact .inr (by omega)
  · obtain ⟨n', e', fo', X', P1, j1, j2, j3, j4, gl, c9, hv, j5, j6, j7⟩ := a2.out
    injection hv with hv1 hv2 hv3
    subst hv1 hv2 hv3
    have hs := j2.size
    obtain ⟨cs, he⟩ := own_ty j7 rfl
    refine ⟨gl, rfl, j5, ⟨n', e', fo', X', P1, j1, j4, fun b h => ?_, by omega, fun b hb => ?_⟩, j2.mono fun b _ hf hb => (h3 b hb).off h1 hf, j7⟩
    · rcases j3 b h with h | h
      · exact h1 b h
      · omega
    · rcases hb with hb | rfl
      · exact (h3 b hb).part h1 j2 j3
      · exact ⟨(Array.getElem?_eq_some_iff.1 he).1, .inr ⟨j6, cs, 5, he, by decide, by decide, by decide, by decide, by decide, by decide, by decide⟩⟩
theorem Mg.at {g : Int} (hq : Mk w1 P' Q Z) (k : Mg B0 A w1 P' Z S g D L bf n X M e la fo ln lo lt N T) (hp : Part (Fm B0 P w) w w1) (hP : ∀ b, P' b → P b ∨ w.heap.size ≤ b) : At B0 A w P Z S g Q D L bf M la ln lo lt N T w1 := ⟨n, e, fo, X, P', k, hp, hP, hq⟩
theorem At.after {w1 : World} (hp : Part (Fm B0 P w) w w1) (h : At B0 A' w1 P Z S g Q D L bf M' la' ln' lo' lt' N' T' w') : At B0 A' w P Z S g Q D L bf M' la' ln' lo' lt' N' T' w' := by
  obtain ⟨n, e, fo, X, P', j1, j2, j3, j4⟩ := h
  have := hp.size
  refine ⟨n, e, fo, X, P', j1, Fm.trans hp (fun b h => .inl h) j2, fun b h => ?_, j4⟩
  rcases j3 b h with h | h
  · exact .inl h
  · exact .inr (by omega)
theorem At.belowW {v : World} (h : At B0 A' w P Z S g Q D L bf M' la' ln' lo' lt' N' T' w') (hb : Below w'.heap.size w' v) : At B0 A' w P Z S g Q D L bf M' la' ln' lo' lt' N' T' v := by
  obtain ⟨n, e, fo, X, P', j1, j2, j3, j4⟩ := h
  exact ⟨n, e, fo, X, P', j1.below hb, Fm.trans j2 j3 (Part.ofBelow hb), j3, j4.below hb⟩
theorem Sb.at (hq : Mk w P Q Z) (h : Sb B0 A' w P Z S g D L bf M' la' ln' lo' lt' N' T' w') : At B0 A' w P Z S g Q D L bf M' la' ln' lo' lt' N' T' w' := by
  obtain ⟨n, e, fo, X, P', j1, j2, j3⟩ := h
  exact ⟨n, e, fo, X, P', j1, j2, j3, hq.part j2 j3⟩
set_option maxRecDepth 100000 in
/-- Read of a page that another transaction changed. -/
theorem W_read_no (h : Ws B0 A K Q Z S D L bf M la ln lo lt N T w) (hd : Sole T N) (i : Nat) (hi : i < N) (z : Nat) (hz : z < 6) (hL : Lkd T N i (z : Int)) : Calls Tryz.prog 18 #[.pointer (some ⟨Q, 0, none⟩), .int .i64 ((T i).no : Int), .int .i64 (z : Int)] w fun r w' => ∃ a n9 c, r = .returned (.tuple #[.slice a n9 c, .int .i64 61]) ∧ Hid (Wk B0 A K Q Z S D L bf M la ln lo lt N T w w') := by
  obtain ⟨n, e, fo, X, P, k, hQ, h1, h2, h3⟩ := h
  refine (M_read k hQ ((T i).no : Int) (z : Int) 61 (.pointer (some ⟨(T i).b, 0, none⟩)) (fun _ => At B0 A w P Z S 1 Q D L bf M la ln lo lt N T) (fun _ => At B0 A w P Z S 0 Q D L bf M la ln lo lt N T) (fun wq kq => m_found kq.mt hd i hi) (fun wq kq pq qq => ?_) (fun v => At.lets)).mono fun r w' ⟨a, n9, c, a1, a2⟩ => ⟨a, n9, c, a1, a2.out.wk h1 h2 h3⟩
  refine (m_read_no kq.mt i hi z hz hL).mono fun r w' ⟨b1, b2⟩ => ⟨_, _, _, b1, ?_⟩
  subst b2
  exact ⟨qq.cell, fun wr hb => (Mg.at qq kq pq (fun b h => .inl h)).belowW hb⟩
end Go.Proofs.YthfokciijcmhbaaGreatDoor
