/-
  StmSerial: what the calls of the switch leave, as the walk meets them.
-/
import Derived.Test.YtdackomidfofgaaStAk
namespace Go.Proofs.Ytdackomidfofgaa
open Go.RowKit Go.Maps
set_option linter.unusedVariables false
set_option maxRecDepth 100000
set_option maxHeartbeats 1000000

/-- The state inside the switch: one transaction is chosen; the call that is handed in lies in a box. -/
structure At (w0 w : World) (n i sp mb lb : Nat) (S : Sm) (A C : List Xm) (X : Xm) (m : Bf) (lf : Lf) (v : Value) (bs : List Nat) (kb : Nat) (p q : Int) (s : ByteArray) (a : Option Addr) (l c : Nat) : Prop where
  sp : S.sp = sp
  ser : Ser w0 w n S (A ++ X :: C) mb (i * 400) m m lb (i * 200000) lf
  sns : (A ++ X :: C).map Xm.sn = bs.reverse
  row : Rw w w0.heap.size v bs
  dob : Dob w kb p q s a l c
section
variable {w0 w : World} {n i sp mb lb : Nat} {S : Sm} {A C : List Xm} {X : Xm} {m : Bf} {lf : Lf} {v : Value} {bs : List Nat} {kb : Nat} {p q : Int} {s : ByteArray} {a : Option Addr} {l c : Nat}
theorem mid_mem : X ∈ A ++ X :: C := mem_mid.2 (.inr rfl)
theorem At.below {w' : World} (h : At w0 w n i sp mb lb S A C X m lf v bs kb p q s a l c) (hb : Below w.heap.size w w') : At w0 w' n i sp mb lb S A C X m lf v bs kb p q s a l c := ⟨h.sp, h.ser.below hb, h.sns, h.row.below hb, h.dob.below hb⟩
theorem At.x0 (h : At w0 w n i sp mb lb S A C X m lf v bs kb p q s a l c) : w.cell? ⟨X.sn, 0, none⟩ = some (.pointer (some ⟨X.T.t, 0, none⟩)) := by rw [cells_at (h.ser.xce X mid_mem).cel 0]; rfl
theorem At.x1 (h : At w0 w n i sp mb lb S A C X m lf v bs kb p q s a l c) : w.cell? ⟨X.sn, 1, none⟩ = some (.map (some X.rb)) := by rw [cells_at (h.ser.xce X mid_mem).cel 1]; rfl
theorem At.x2 (h : At w0 w n i sp mb lb S A C X m lf v bs kb p q s a l c) : w.cell? ⟨X.sn, 2, none⟩ = some (.map (some X.bb)) := by rw [cells_at (h.ser.xce X mid_mem).cel 2]; rfl
theorem At.d0 (h : At w0 w n i sp mb lb S A C X m lf v bs kb p q s a l c) : w.cell? ⟨kb, 0, none⟩ = some (.int .i64 p) := by rw [cells_at h.dob.cel 0]; rfl
theorem At.d1 (h : At w0 w n i sp mb lb S A C X m lf v bs kb p q s a l c) : w.cell? ⟨kb, 1, none⟩ = some (.int .i64 q) := by rw [cells_at h.dob.cel 1]; rfl
theorem At.d2 (h : At w0 w n i sp mb lb S A C X m lf v bs kb p q s a l c) : w.cell? ⟨kb, 2, none⟩ = some (.string s) := by rw [cells_at h.dob.cel 2]; rfl
theorem At.d3 (h : At w0 w n i sp mb lb S A C X m lf v bs kb p q s a l c) : w.cell? ⟨kb, 3, none⟩ = some (.slice a l c) := by rw [cells_at h.dob.cel 3]; rfl
/-- The cells that the switch reads. -/
structure Cs (w : World) (X : Xm) (kb : Nat) (p q : Int) (s : ByteArray) (a : Option Addr) (l c : Nat) : Prop where
  x0 : w.cell? ⟨X.sn, 0, none⟩ = some (.pointer (some ⟨X.T.t, 0, none⟩))
  x1 : w.cell? ⟨X.sn, 1, none⟩ = some (.map (some X.rb))
  x2 : w.cell? ⟨X.sn, 2, none⟩ = some (.map (some X.bb))
  d0 : w.cell? ⟨kb, 0, none⟩ = some (.int .i64 p)
  d1 : w.cell? ⟨kb, 1, none⟩ = some (.int .i64 q)
  d2 : w.cell? ⟨kb, 2, none⟩ = some (.string s)
  d3 : w.cell? ⟨kb, 3, none⟩ = some (.slice a l c)
theorem At.cs (h : At w0 w n i sp mb lb S A C X m lf v bs kb p q s a l c) : Cs w X kb p q s a l c := ⟨h.x0, h.x1, h.x2, h.d0, h.d1, h.d2, h.d3⟩
theorem Cs.same {X' : Xm} (h : Cs w X' kb p q s a l c) (e : SameX X X') : Cs w X kb p q s a l c := by
  obtain ⟨e1, e2, e3, e4, _⟩ := e
  exact ⟨by rw [← e1, ← e2]; exact h.x0, by rw [← e2, ← e3]; exact h.x1, by rw [← e2, ← e4]; exact h.x2, h.d0, h.d1, h.d2, h.d3⟩
theorem em0 (r : Int) : ((r == 0) = true ∧ Hid (r = 0)) ∨ ((r == 0) = false ∧ Hid (r ≠ 0)) := by
  by_cases h : r = 0
  · exact .inl ⟨by simpa using h, h⟩
  · exact .inr ⟨by simpa using h, h⟩
theorem At.md (h : At w0 w n i sp mb lb S A C X m lf v bs kb p q s a l c) (hn : n ≤ 2 * (i + 1)) : Md w0 w i sp mb lb v bs := ⟨⟨S, _, m, lf, h.sp, h.sns, (h.ser.le hn).lek (by omega) (Nat.le_refl _)⟩, h.row⟩
theorem Dob.off {w' : World} {Ts : List Tm} {T : Tm} (h : Sys w0 w S Ts) (hT : T ∈ Ts) (hO : Off S T w w') (hd : Dob w kb p q s a l c) : Dob w' kb p q s a l c := by
  refine ⟨(hO.block _ (Array.getElem?_eq_some_iff.1 hd.cel).1 (fun hf => ?_)).trans hd.cel⟩
  have hc := hd.cel
  have hx := h.txc T hT
  have hnm : ∀ L, ¬ Mp w kb L := fun L hm => by
    obtain ⟨es, k, hob⟩ := hm.obj
    rw [hob] at hc
    cases hc
  rcases hf with (e | e | e) | (e | e | e)
  · have := h.spc.cel
    rw [← e, hc] at this
    injection this with this
    injection this with _ this
    exact absurd this (by decide)
  · exact hnm _ (e ▸ h.spc.slo)
  · exact hnm _ (e ▸ h.spc.loc)
  · have := hx.cel
    rw [← e, hc] at this
    injection this with this
    injection this with _ this
    exact absurd this (by decide)
  · exact hnm _ (e ▸ hx.red)
  · exact hnm _ (e ▸ hx.wri)
theorem a_put (h : At w0 w (2 * i) i sp mb lb S A C X m lf v bs kb p q s a l c) (hi : i ≤ 150) (f : Nat → Int) (hf : From w a l f) (hl : l ≤ 140737488355328) :
    Calls Try.prog 16 #[.pointer (some ⟨X.T.t, 0, none⟩), .string (nme s.size), .slice a l c] w fun e w' => ∃ r, e = .returned (.int .i64 r) ∧ Cs w' X kb p q s a l c ∧ Hid (Md w0 w' i sp mb lb v bs) := by
  have hXm : X ∈ A ++ X :: C := mid_mem
  have hp := h.ser.xpu X hXm
  by_cases hr : rn X.T.ph (nme s.size) = 0
  · refine (o_put h.ser.mid (nme s.size) (nme_max _) a l c f hf hl (by have := hp.lwr; omega) hr).mono fun e w' ⟨he, hh⟩ => ?_
    obtain ⟨x, k1, k2, k3, k4⟩ := hh.out
    have hso := soft_off h.ser.sys (Ser.mem_T hXm)
    have hS : Ser w0 w' (2 * i + 1) S (A ++ { X with T := { X.T with writes := putT Eb.ky X.T.writes x }, wm := X.wm.put x.ky (lst f l) } :: C) mb (i * 400) m m lb (i * 200000) lf := by
      refine h.ser.off (X' := { X with T := { X.T with writes := putT Eb.ky X.T.writes x }, wm := X.wm.put x.ky (lst f l) }) (by omega) k3 k4 ⟨rfl, rfl, rfl⟩ ⟨rfl, rfl, rfl⟩ ⟨rfl, rfl, rfl, rfl, rfl⟩ (((h.ser.xce X hXm).byt.kept (fun v xs ho => ho.soft k4 hso)).put k2) (h.ser.syt.kept (fun v xs ho => ho.soft k4 hso)) h.ser.lin h.ser.lnb (fun Y hY => (h.ser.xpu Y (mem_mid.2 (.inl hY))).tin) ?_ ⟨h.ser.ck.1, Int.le_trans h.ser.ck.2 (by omega)⟩ (by have := h.ser.lsl; omega) (by have := h.ser.llk; omega)
      exact ⟨⟨hp.tin.time, hp.tin.same, hp.tin.read⟩, by have := hp.lrd; show X.T.reads.length ≤ _; omega, by have := putT_len (ky := Eb.ky) X.T.writes x; have := hp.lwr; show (putT Eb.ky X.T.writes x).length ≤ _; omega, hp.lnb.put _ (by rw [lst_length]; exact hl)⟩
    have hA : At w0 w' (2 * i + 1) i sp mb lb S A C { X with T := { X.T with writes := putT Eb.ky X.T.writes x }, wm := X.wm.put x.ky (lst f l) } m lf v bs kb p q s a l c := ⟨h.sp, hS, (same_sn (by rfl)).trans h.sns, Rw.off h.ser.sys (Ser.mem_T hXm) k4 h.row, Dob.off h.ser.sys (Ser.mem_T hXm) k4 h.dob⟩
    exact ⟨0, he, hA.cs.same ⟨rfl, rfl, rfl, rfl, rfl, rfl⟩, hA.md (by omega)⟩
  · exact (t_put_no (h.ser.txc hXm) (nme s.size) _ hr).mono fun e w' ⟨he, hb⟩ => ⟨_, he, (h.below hb).cs, (h.below hb).md (by omega)⟩
/-- Locks and phases: what is behind. -/
theorem At.locks {w' : World} {L : List El} {ph : Int} (h : At w0 w n i sp mb lb S A C X m lf v bs kb p q s a l c) (hs : Sys w0 w' { S with locks := L } (A.map Xm.T ++ { X.T with ph := ph } :: C.map Xm.T)) (hO : Off S X.T w w') (hL : L.length ≤ (n + 1) * 400) : At w0 w' (n + 1) i sp mb lb { S with locks := L } A C { X with T := { X.T with ph := ph } } m lf v bs kb p q s a l c :=
  ⟨h.sp, h.ser.locks (by omega) hs hO hL, (same_sn (by rfl)).trans h.sns, Rw.off h.ser.sys (Ser.mem_T mid_mem) hO h.row, Dob.off h.ser.sys (Ser.mem_T mid_mem) hO h.dob⟩
theorem a_lock (h : At w0 w (2 * i) i sp mb lb S A C X m lf v bs kb p q s a l c) (hi : i ≤ 150) :
    Calls Try.prog 17 #[.pointer (some ⟨X.T.t, 0, none⟩)] w fun e w' => ∃ r, e = .returned (.int .i64 r) ∧ w'.cell? ⟨X.sn, 0, none⟩ = some (.pointer (some ⟨X.T.t, 0, none⟩)) ∧ Hid (Md w0 w' i sp mb lb v bs ∧ (r = 0 → Calls Try.prog 18 #[.pointer (some ⟨X.T.t, 0, none⟩)] w' fun e w'' => e = .returned (.int .i64 1) ∧ w'' = w')) := by
  have hXm : X ∈ A ++ X :: C := mid_mem
  have hp := h.ser.xpu X hXm
  have hw := hp.lwr
  have hk := h.ser.llk
  by_cases hr : X.T.ph = 0
  · refine (o_lock h.ser.mid (by omega) (by omega) hr).mono fun e w' ⟨h1, h2⟩ => ?_
    cases ht : tks S X.T with
    | true =>
      obtain ⟨he, hh⟩ := h1 ht
      obtain ⟨L, k1, k2, k3, k4⟩ := hh.out
      have hl : L.length ≤ S.locks.length := lkl_sub k3.spc.loc k1
      have hA := h.locks k3 k4 (by omega)
      exact ⟨180, he, hA.x0, hA.md (by omega), fun e => (by cases e)⟩
    | false =>
      obtain ⟨he, hh⟩ := h2 ht
      obtain ⟨L, k1, k3, k4⟩ := hh.out
      have hl := k1.2.2
      have hA := h.locks k3 k4 (by omega)
      exact ⟨0, he, hA.x0, hA.md (by omega), fun _ => t_phase (hA.ser.txc mid_mem)⟩
  · exact (t_lock_no (h.ser.txc hXm) hr).mono fun e w' ⟨he, hb⟩ => ⟨_, he, (h.below hb).x0, (h.below hb).md (by omega), fun e => (by cases e)⟩
theorem a_check (h : At w0 w (2 * i) i sp mb lb S A C X m lf v bs kb p q s a l c) (hi : i ≤ 150) (hr : X.T.ph = 1) :
    Calls Try.prog 19 #[.pointer (some ⟨X.T.t, 0, none⟩)] w fun e w' => ∃ r, e = .returned (.int .i64 r) ∧ Hid (Md w0 w' i sp mb lb v bs) := by
  have hXm : X ∈ A ++ X :: C := mid_mem
  have hp := h.ser.xpu X hXm
  have hw := hp.lwr
  have hd := hp.lrd
  have hk := h.ser.llk
  refine (o_check h.ser.mid (by omega) (by omega) (by rw [hr]; simp)).mono fun e w' ⟨h1, h2⟩ => ?_
  cases ht : stl S X.T with
  | true =>
    obtain ⟨he, hh⟩ := h1 ht
    obtain ⟨L, k1, k2, k3, k4⟩ := hh.out
    have hl : L.length ≤ S.locks.length := lkl_sub k3.spc.loc k1
    exact ⟨180, he, (h.locks k3 k4 (by omega)).md (by omega)⟩
  | false =>
    obtain ⟨he, hh⟩ := h2 ht
    obtain ⟨k3, k4⟩ := hh.out
    exact ⟨0, he, (h.locks (L := S.locks) k3 k4 (by omega)).md (by omega)⟩
theorem a_own (h : At w0 w (2 * i) i sp mb lb S A C X m lf v bs kb p q s a l c) (hi : i ≤ 150) :
    Calls Try.prog 11 #[.pointer (some ⟨X.T.t, 0, none⟩)] w fun e w' => ∃ v2, e = .returned v2 ∧ (∃ a2 n2 c2, v2 = .slice a2 n2 c2) ∧ Below w.heap.size w w' ∧ Calls Try.prog 10 #[v2, .func (.func 12) #[] #[.pointer (some ⟨kb, 0, none⟩)]] w' fun e w'' => ∃ b : Bool, e = .returned (.bool b) ∧ (b = true ↔ ∃ x ∈ X.T.writes, Eb.ky x = (nme s.size).data.toList) ∧ Below w'.heap.size w' w'' :=
  (v_writes h.ser (by omega) mid_mem).mono fun e w' ⟨v2, zs, he, hl, hh⟩ => by
    obtain ⟨h1, h2, h3, h4, h5⟩ := hh.out
    refine ⟨v2, he, (by obtain ⟨a2, c2, e2⟩ := row_slice h4.row; exact ⟨a2, _, c2, e2⟩), h5, (l_con h4 (by omega) kb p q s a l c (h.dob.below h5)).mono fun e w'' ⟨b, he, hb, hb2⟩ => ⟨b, he, hb.trans (h3 _), hb2⟩⟩
/-- Get: what is behind, as the law goes on. -/
structure Got (w0 w : World) (i sp mb lb : Nat) (A C : List Xm) (X : Xm) (m : Bf) (lf : Lf) (v : Value) (bs : List Nat) (kb : Nat) (p q : Int) (s : ByteArray) (a : Option Addr) (l c : Nat) (a3 : Option Addr) (q3 c3 : Nat) (own : Prop) (r : Int) : Prop where
  ex : ∃ S' X', SameX X X' ∧ At w0 w (2 * i + 1) i sp mb lb S' A C X' m lf v bs kb p q s a l c ∧ (r = 0 → ¬ own → ∃ xs B, Own w B (.slice a3 q3 c3) xs ∧ (X'.bg (nme s.size).data.toList).getD [] = xs ∧ ∃ y ∈ X'.T.reads, Eu.ky y = (nme s.size).data.toList)
theorem a_get (h : At w0 w (2 * i) i sp mb lb S A C X m lf v bs kb p q s a l c) (hi : i ≤ 150) :
    Calls Try.prog 14 #[.pointer (some ⟨X.T.t, 0, none⟩), .string (nme s.size)] w fun e w' => ∃ a3 q3 c3 r, e = .returned (.tuple #[.slice a3 q3 c3, .int .i64 r]) ∧ Cs w' X kb p q s a l c ∧ Hid (Got w0 w' i sp mb lb A C X m lf v bs kb p q s a l c a3 q3 c3 (∃ x ∈ X.T.writes, Eb.ky x = (nme s.size).data.toList) r) := by
  have hXm : X ∈ A ++ X :: C := mid_mem
  have hp := h.ser.xpu X hXm
  have hw := hp.lwr
  have hd := hp.lrd
  have hk := h.ser.llk
  by_cases hr : rn X.T.ph (nme s.size) = 0
  · cases hx : fnd Eb.ky X.T.writes (nme s.size).data.toList with
    | some x =>
      obtain ⟨e1, e2⟩ := fnd_some hx
      obtain ⟨b1, b2, b3⟩ := h.ser.bw hXm x e2
      refine (t_get_own (h.ser.txc hXm) (nme s.size) (nme_max _) hr x hx _ b1 b3).mono fun e w' ⟨v, he, ho, hb⟩ => ?_
      obtain ⟨a3, c3, rfl⟩ := ho.slice
      have hA := h.below hb
      exact ⟨a3, _, c3, 0, he, hA.cs, S, X, ⟨rfl, rfl, rfl, rfl, rfl, rfl⟩, ⟨hA.sp, hA.ser.le (by omega), hA.sns, hA.row, hA.dob⟩, fun _ hno => absurd ⟨x, e2, e1⟩ hno⟩
    | none =>
      cases hst : sty S X.T (nme s.size).data.toList with
      | true =>
        refine (o_get_clash h.ser.mid (nme s.size) (nme_max _) (by omega) hr hx hst).mono fun e w' ⟨he, hh⟩ => ?_
        obtain ⟨L, k1, k2, k3, k4⟩ := hh.out
        have hl : L.length ≤ S.locks.length := lkl_sub k3.spc.loc k1
        have hA := h.locks k3 k4 (by omega)
        exact ⟨none, 0, 0, 180, he, hA.cs.same ⟨rfl, rfl, rfl, rfl, rfl, rfl⟩, { S with locks := L }, { X with T := { X.T with ph := 4 } }, ⟨rfl, rfl, rfl, rfl, rfl, rfl⟩, hA, fun e => (by cases e)⟩
      | false =>
        obtain ⟨b1, b2⟩ := h.ser.syt.at (nme s.size).data.toList
        have b3 := h.ser.lnb.getD (nme s.size).data.toList
        refine (o_get h.ser.mid (nme s.size) (nme_max _) (by omega) hr hx hst _ b1 (by rw [b2]; exact b3)).mono fun e w' ⟨v, he, ho, hh⟩ => ?_
        obtain ⟨y, k1, k3, k4⟩ := hh.out
        have hso := soft_off h.ser.sys (Ser.mem_T hXm)
        rw [b2] at ho
        rw [show lst (fn ((m (nme s.size).data.toList).getD [])) ((m (nme s.size).data.toList).getD []).length = (m (nme s.size).data.toList).getD [] from lst_fn _] at ho
        obtain ⟨a3, c3, rfl⟩ := ho.slice
        have hS : Ser w0 w' (2 * i + 1) S (A ++ { X with T := { X.T with reads := putT Eu.ky X.T.reads y } } :: C) mb (i * 400) m m lb (i * 200000) lf := by
          refine h.ser.off (X' := { X with T := { X.T with reads := putT Eu.ky X.T.reads y } }) (by omega) k3 k4 ⟨rfl, rfl, rfl⟩ ⟨rfl, rfl, rfl⟩ ⟨rfl, rfl, rfl, rfl, rfl⟩ ((h.ser.xce X hXm).byt.kept (fun v xs ho => ho.soft k4 hso)) (h.ser.syt.kept (fun v xs ho => ho.soft k4 hso)) h.ser.lin h.ser.lnb (fun Y hY => (h.ser.xpu Y (mem_mid.2 (.inl hY))).tin) ?_ ⟨h.ser.ck.1, Int.le_trans h.ser.ck.2 (by omega)⟩ (by have := h.ser.lsl; omega) (by have := h.ser.llk; omega)
          exact ⟨hp.tin.more y, by have := putT_len (ky := Eu.ky) X.T.reads y; show (putT Eu.ky X.T.reads y).length ≤ _; omega, by show X.T.writes.length ≤ _; omega, hp.lnb⟩
        have hA : At w0 w' (2 * i + 1) i sp mb lb S A C { X with T := { X.T with reads := putT Eu.ky X.T.reads y } } m lf v bs kb p q s a l c := ⟨h.sp, hS, (same_sn (by rfl)).trans h.sns, Rw.off h.ser.sys (Ser.mem_T hXm) k4 h.row, Dob.off h.ser.sys (Ser.mem_T hXm) k4 h.dob⟩
        exact ⟨a3, _, c3, 0, he, hA.cs.same ⟨rfl, rfl, rfl, rfl, rfl, rfl⟩, S, { X with T := { X.T with reads := putT Eu.ky X.T.reads y } }, ⟨rfl, rfl, rfl, rfl, rfl, rfl⟩, hA, fun _ _ => ⟨_, _, ho, (hp.tin.got hst).symm, y, put_self _ _, k1⟩⟩
  · refine (t_get_no (h.ser.txc hXm) (nme s.size) hr).mono fun e w' ⟨he, hb⟩ => ?_
    have hA := h.below hb
    exact ⟨none, 0, 0, _, he, hA.cs, S, X, ⟨rfl, rfl, rfl, rfl, rfl, rfl⟩, ⟨hA.sp, hA.ser.le (by omega), hA.sns, hA.row, hA.dob⟩, fun e => absurd e hr⟩
/-- What was read is noted. -/
theorem At.note (h : At w0 w (2 * i + 1) i sp mb lb S A C X m lf v bs kb p q s a l c) (hi : i ≤ 150) {a3 : Option Addr} {q3 c3 B : Nat} {xs : List Int} (ho : Own w B (.slice a3 q3 c3) xs) (hx : (X.bg (nme s.size).data.toList).getD [] = xs) (hy : ∃ y ∈ X.T.reads, Eu.ky y = (nme s.size).data.toList) :
    ∃ w2, (Instr.mapUpdate 28 (.map (some X.rb)) (.string (nme s.size)) (.slice a3 q3 c3)).run Try.prog w = .ok () w2 ∧ Cs w2 X kb p q s a l c ∧ Hid (Md w0 w2 i sp mb lb v bs) := by
  obtain ⟨w2, hrun, hM, hp⟩ := (h.ser.xce X mid_mem).red.put (by omega) (nme s.size) (nme_max _) ho
  have hS := h.ser.put_red hp hM ((h.ser.xpu X mid_mem).tin.note hx hy)
  obtain ⟨es, ec, hob⟩ := (h.ser.xce X mid_mem).red.obj
  have hd2 : Dob w2 kb p q s a l c := ⟨(hp.block _ (Array.getElem?_eq_some_iff.1 h.dob.cel).1 (map_not hob h.dob.cel)).trans h.dob.cel⟩
  have hA : At w0 w2 (2 * i + 1 + 1) i sp mb lb S A C { X with rm := X.rm.put (nme s.size).data.toList xs } m lf v bs kb p q s a l c := ⟨h.sp, hS, (same_sn (by rfl)).trans h.sns, h.row.turn hp ⟨es, ec, hob⟩, hd2⟩
  have hc := hA.cs
  exact ⟨w2, hrun, ⟨hc.x0, hc.x1, hc.x2, hc.d0, hc.d1, hc.d2, hc.d3⟩, hA.md (by omega)⟩
/-- Behind Publish: the slots have gone on, the model is to follow. -/
structure Pb (w0 w : World) (i sp mb lb rb kk : Nat) (mm m' rm : Bf) (v : Value) (bs : List Nat) (B : Nat) (v2 : Value) (zs : List Zs) : Prop where
  ex : ∃ S Xs lf, S.sp = sp ∧ Xs.map Xm.sn = bs.reverse ∧ Ser w0 w (2 * i + 1) S Xs mb kk mm m' lb (i * 200000) lf ∧ ∃ X ∈ Xs, X.rb = rb ∧ X.rm = rm
  row : Rw w w0.heap.size v bs
  wrt : Rls w B v2 zs
theorem a_publish {B : Nat} {v2 : Value} {zs : List Zs} (h : At w0 w (2 * i) i sp mb lb S A C X m lf v bs kb p q s a l c) (hi : i ≤ 150) (hR : Rls w B v2 zs) :
    Calls Try.prog 20 #[.pointer (some ⟨X.T.t, 0, none⟩)] w fun e w' => ∃ r, e = .returned (.int .i64 r) ∧ w'.cell? ⟨X.sn, 1, none⟩ = some (.map (some X.rb)) ∧ Hid ((r ≠ 0 → Md w0 w' i sp mb lb v bs) ∧ (r = 0 → Pb w0 w' i sp mb lb X.rb (i * 400) m (over m X.wm) X.rm v bs B v2 zs ∧ ∀ k xs, X.rm k = some xs → (m k).getD [] = xs)) := by
  have hXm : X ∈ A ++ X :: C := mid_mem
  have hcl := (h.ser.xce X hXm).cel
  have hso := soft_off h.ser.sys (Ser.mem_T hXm)
  refine (v_publish h.ser (by omega)).mono fun e w' ⟨r, he, hO, hh⟩ => ⟨r, he, ?_, ?_⟩
  · have := (hO.block _ (Array.getElem?_eq_some_iff.1 hcl).1 (fun hq => (hso _ _ _ _ hq hcl).2 rfl)).trans hcl
    rw [cells_at this 1]
    rfl
  · obtain ⟨S', X', m', k1, k2, k3, k4, k5⟩ := hh.out
    have hrow := Rw.off h.ser.sys (Ser.mem_T hXm) hO h.row
    refine ⟨fun hr => ?_, fun hr => ?_⟩
    · have e := k4 hr
      subst e
      exact ⟨⟨S', _, _, lf, k1.trans h.sp, (same_sn k2.2.1).trans h.sns, (k3.le (by omega)).lek (by omega) (Nat.le_refl _)⟩, hrow⟩
    · obtain ⟨e, k6⟩ := k5 hr
      subst e
      exact ⟨⟨⟨S', _, lf, k1.trans h.sp, (same_sn k2.2.1).trans h.sns, k3, X', mid_mem, k2.2.2.1, k2.2.2.2.2.1⟩, hrow, Rls.off h.ser.sys (Ser.mem_T hXm) hO hR⟩, k6⟩
section
variable {rb kk : Nat} {mm m' rm : Bf} {B : Nat} {v2 : Value} {zs : List Zs}
theorem Pb.below {w' : World} (h : Pb w0 w i sp mb lb rb kk mm m' rm v bs B v2 zs) (hb : Below w.heap.size w w') : Pb w0 w' i sp mb lb rb kk mm m' rm v bs B v2 zs := by
  obtain ⟨S, Xs, lf, e1, e2, hs, hx⟩ := h.ex
  exact ⟨⟨S, Xs, lf, e1, e2, hs.below hb, hx⟩, h.row.below hb, h.wrt.below hb⟩
theorem Pb.range (h : Pb w0 w i sp mb lb rb kk mm m' rm v bs B v2 zs) : ∃ L : List Eb, Mp w rb (L.map Eb.kv) ∧ ∀ k x, fnd Eb.ky L k = some x → ∃ xs, rm k = some xs ∧ Own w 0 x.vl xs := by
  obtain ⟨S, Xs, lf, e1, e2, hs, X, hX, e3, e4⟩ := h.ex
  obtain ⟨L, h1, h2, h3, h4⟩ := (hs.xce X hX).red.ex
  rw [e3] at h1
  rw [e4] at h4
  exact ⟨L, h1, h4⟩
/-- One that was read is what the model has. -/
theorem Pb.read {w1 : World} (h : Pb w0 w i sp mb lb rb kk mm m' rm v bs B v2 zs) (hrd : ∀ k xs, rm k = some xs → (mm k).getD [] = xs) {L : List Eb} (h4 : ∀ k x, fnd Eb.ky L k = some x → ∃ xs, rm k = some xs ∧ Own w 0 x.vl xs) (hb : Below w.heap.size w w1) {k : ByteArray} {kl : Lit} {u : Value} {y : DataW Value × List MemPlace} (hk : keyOf Try.prog 9 (.string k) = some kl) (hv : idR u = some y) (hat : ∀ zd, (toD (L.map Eb.kv)).atKey kl zd = y.1) :
    ∃ a l c a2 c2, u = .slice a l c ∧ (Instr.lookup 28 (.map (some mb)) (.string k) false).run Try.prog w1 = .ok (.slice a2 l c2) w1 ∧ Calls Try.prog 15 #[.slice a2 l c2, .slice a l c] w1 fun e w' => e = .returned (.bool true) ∧ w' = w1 := by
  obtain ⟨a, l, c, xs, e1, e2, hf, hl, hs⟩ := entry_of h4 hk hv hat
  obtain ⟨S, Xs, lf, _, _, hS, _⟩ := h.ex
  obtain ⟨a2, l2, c2, g1, g2, g3⟩ := (hS.below hb).mod.look k hs
  rw [hrd _ _ e2] at g2 g3
  have e5 : l2 = l := by omega
  subst e5
  exact ⟨a, l2, c, a2, c2, e1, g1, equal_yes a2 a l2 c2 l2 c (fn xs) (fn xs) w1 g2 (hf.below hb (Nat.le_refl _)) (rfl : lst (fn xs) l2 = lst (fn xs) l2)⟩
theorem Pb.put (h : Pb w0 w i sp mb lb rb kk mm m' rm v bs B v2 zs) (hk : kk < 1000000) {z : Zs} (hz : z ∈ zs) (hs : (⟨z.ky.toArray⟩ : ByteArray).size ≤ maxLen) :
    ∃ a c w2, z.val = .slice a z.xs.length c ∧ (Instr.mapUpdate 28 (.map (some mb)) (.string ⟨z.ky.toArray⟩) (.slice a z.xs.length c)).run Try.prog w = .ok () w2 ∧ Pb w0 w2 i sp mb lb rb (kk + 1) (mm.put z.ky z.xs) m' rm v bs B v2 zs := by
  obtain ⟨S, Xs, lf, e1, e2, hS, hx⟩ := h.ex
  obtain ⟨a, c, w2, k1, k2, k3, k4, k5⟩ := hS.model hk h.wrt hz hs
  exact ⟨a, c, w2, k1, k2, ⟨S, Xs, lf, e1, e2, k3, hx⟩, k5 _ _ _ h.row, k4⟩
theorem Pb.done (h : Pb w0 w i sp mb lb rb kk m' m' rm v bs B v2 zs) (hk : kk ≤ (i + 1) * 400) : Md w0 w i sp mb lb v bs := by
  obtain ⟨S, Xs, lf, e1, e2, hS, hx⟩ := h.ex
  exact ⟨⟨S, Xs, m', lf, e1, e2, (hS.le (by omega)).lek hk (Nat.le_refl _)⟩, h.row⟩
end
end
end Go.Proofs.Ytdackomidfofgaa
