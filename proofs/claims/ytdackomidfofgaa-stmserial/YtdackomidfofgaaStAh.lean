/-
  StmSerial's steps: what each call of the law leaves of its state.
-/
import Derived.Test.YtdackomidfofgaaStAg
namespace Go.Proofs.Ytdackomidfofgaa
open Go.RowKit Go.Maps
set_option linter.unusedVariables false
set_option maxRecDepth 100000
set_option maxHeartbeats 1000000

theorem nme_nm (l : Nat) : nm (nme l) = true := by
  unfold nm
  rw [nme_size]
  rfl
theorem nme_max (l : Nat) : (nme l).size ≤ maxLen := by
  rw [nme_size]
  unfold maxLen
  omega
theorem lkl_sub {L L' : List El} {w : World} {b : Nat} (hm : Mp w b (L'.map El.kv)) (hs : ∀ x ∈ L', x ∈ L) : L'.length ≤ L.length := by
  have : ∀ (L' L : List El), L'.Pairwise (fun a b => a ≠ b) → (∀ x ∈ L', x ∈ L) → L'.length ≤ L.length := by
    intro L'
    induction L' with
    | nil => exact fun _ _ _ => Nat.zero_le _
    | cons x r ih =>
      intro L hp hs
      obtain ⟨s, t, rfl⟩ := List.append_of_mem (hs x (List.mem_cons_self ..))
      rw [List.pairwise_cons] at hp
      have h1 := ih (s ++ t) hp.2 (fun y hy => by
        have := hs y (List.mem_cons_of_mem _ hy)
        rcases List.mem_append.1 this with h | h
        · exact List.mem_append_left _ h
        · rcases List.mem_cons.1 h with h | h
          · exact absurd h.symm (hp.1 y hy)
          · exact List.mem_append_right _ h)
      rw [List.length_append] at h1
      rw [List.length_cons, List.length_append, List.length_cons]
      omega
  exact this _ _ ((List.pairwise_map.1 hm.keys).imp fun h e => h (congrArg El.ky e)) hs
theorem new_nil (w : World) : Calls Try.prog 7 #[.slice none 0 0] w fun e w' => ∃ sp, e = .returned (.tuple #[.pointer (some ⟨sp, 0, none⟩), .int .i64 0]) ∧ Hid (∃ sl lk, Sys w w' ⟨sp, sl, lk, 0, [], []⟩ []) :=
  (s_new (N := 0) (cap := 0) (a0 := none) (sm := fun _ => ⟨#[]⟩) (bl := fun _ => 0) (fun r hr => absurd hr (by omega)) (by omega)).mono fun e w' hh => by
    obtain ⟨hb, (⟨h1, _⟩ | ⟨_, ⟨i, j, _, hj, _⟩, _⟩ | ⟨_, _, S, he, k1, k2, k3, k4, k5, k6, k7, k8⟩)⟩ := hh.out
    · exact absurd (fun j hj => absurd hj (by omega)) h1
    · omega
    · obtain ⟨sp, sl, lk, ck, slots, locks⟩ := S
      have k2 : ck = 0 := k2
      have k3 : locks = [] := k3
      have k9 : slots = [] := List.eq_nil_of_length_eq_zero (by have k4 : slots.length ≤ 0 := k4; omega)
      subst k2 k3 k9
      exact ⟨sp, he, sl, lk, k1, fun _ h => (by cases h), List.Pairwise.nil, hb, ⟨k6, k7, k8⟩, fun _ h => (by cases h)⟩
/-- At the start. -/
theorem Ser.start {w0 w : World} {sp sl lk : Nat} (h : Sys w0 w ⟨sp, sl, lk, 0, [], []⟩ []) : Ser w0 ((w.alloc (.map #[] 0)).alloc (.map #[] 0)) 0 ⟨sp, sl, lk, 0, [], []⟩ [] w.heap.size 0 (fun _ => none) (fun _ => none) (w.heap.size + 1) 0 (fun _ => 0) := by
  have hb1 : Below w.heap.size w (w.alloc (.map #[] 0)) := (Below.refl _ w).alloc (Nat.le_refl _) _
  have hs1 : (w.alloc (.map #[] 0)).heap.size = w.heap.size + 1 := by simp
  have hb2 : Below (w.alloc (.map #[] 0)).heap.size (w.alloc (.map #[] 0)) ((w.alloc (.map #[] 0)).alloc (.map #[] 0)) := (Below.refl _ _).alloc (Nat.le_refl _) _
  have hm1 := (Bm.made w).below hb2
  have hm2 := Lm.made (w.alloc (.map #[] 0))
  rw [hs1] at hm2
  have hB := h.B.size
  obtain ⟨q1, q2, q3⟩ := h.spc.lts
  have q2 : sl < w.heap.size := q2
  have q3 : lk < w.heap.size := q3
  refine ⟨(h.below hb1).below hb2, hm1, hm2, ⟨fun _ _ => rfl, fun k x hx => (by cases hx)⟩, ⟨fun _ => Int.le_refl _, fun k x hx => (by cases hx)⟩, fun k xs hk => (by cases hk), fun X hX => (by cases hX), fun X hX => (by cases hX), ?_, ⟨hB, by omega, fun X hX => (by cases hX)⟩, ⟨Int.le_refl _, Int.le_refl _⟩, Nat.le_refl _, Nat.le_refl _⟩
  have hne : sl ≠ lk := h.spc.ne
  show [sl, lk, w.heap.size, w.heap.size + 1].Nodup
  simp only [List.nodup_cons, List.mem_cons, List.not_mem_nil, or_false, not_or, List.nodup_nil, not_false_eq_true, and_true]
  omega

section
variable {w0 w : World} {n : Nat} {S : Sm} {Xs A C : List Xm} {X : Xm} {mb kk : Nat} {mm m : Bf} {lb ll : Nat} {lf : Lf}
theorem Ser.txc (h : Ser w0 w n S Xs mb kk mm m lb ll lf) {X : Xm} (hX : X ∈ Xs) : Txc w S X.T := h.sys.txc _ (Ser.mem_T hX)
theorem Ser.mid (h : Ser w0 w n S (A ++ X :: C) mb kk mm m lb ll lf) : Sys w0 w S (A.map Xm.T ++ X.T :: C.map Xm.T) := by
  have := h.sys
  rw [List.map_append, List.map_cons] at this
  exact this
theorem Ser.apS (h : Ser w0 w n S Xs mb kk mm m lb ll lf) : Apart Es.ky S.slots := by
  have h1 := List.pairwise_map.1 h.sys.spc.slo.keys
  exact h1
theorem Ser.apT (h : Ser w0 w n S Xs mb kk mm m lb ll lf) {X : Xm} (hX : X ∈ Xs) : Apart Eb.ky X.T.writes := by
  have h1 := List.pairwise_map.1 (h.txc hX).wri.keys
  exact h1
/-- The bytes of the slots, as Slots wants them. -/
theorem Ser.bs (h : Ser w0 w n S Xs mb kk mm m lb ll lf) : ∀ x ∈ S.slots, From w x.1.2.2.1 x.1.2.2.2.1 (fn ((m (Es.ky x)).getD [])) ∧ x.1.2.2.2.1 = ((m (Es.ky x)).getD []).length ∧ x.1.2.2.2.1 ≤ 140737488355328 := fun x hx => by
  obtain ⟨xs, e, ho, _⟩ := h.syt.2 _ x (h.apS.fnd hx)
  have hl := h.lnb _ _ e
  obtain ⟨k1, k2⟩ := Own.at0 ho
  rw [e]
  exact ⟨k1, k2, by rw [k2]; exact hl⟩
/-- The bytes of what a transaction wrote, as Writes wants them. -/
theorem Ser.bw (h : Ser w0 w n S Xs mb kk mm m lb ll lf) {X : Xm} (hX : X ∈ Xs) : ∀ x ∈ X.T.writes, From w x.1.2.1 x.1.2.2.1 (fn ((X.wm (Eb.ky x)).getD [])) ∧ x.1.2.2.1 = ((X.wm (Eb.ky x)).getD []).length ∧ x.1.2.2.1 ≤ 140737488355328 := fun x hx => by
  obtain ⟨xs, e, ho⟩ := (h.xce X hX).byt.2 _ x ((h.apT hX).fnd hx)
  have hl := (h.xpu X hX).lnb _ _ e
  obtain ⟨k1, k2⟩ := Own.at0 (a := x.1.2.1) (n := x.1.2.2.1) (c := x.1.2.2.2) ho
  rw [e]
  exact ⟨k1, k2, by rw [k2]; exact hl⟩
/-- Begin: a transaction that the law has not noted yet. -/
structure Beg (w0 w1 w : World) (n : Nat) (S : Sm) (Xs : List Xm) (mb kk : Nat) (mm m : Bf) (lb ll : Nat) (lf : Lf) (t rd wr : Nat) : Prop where
  ser : Ser w0 w n S Xs mb kk mm m lb ll lf
  sys : Sys w0 w S (⟨t, rd, wr, S.clock, [], [], 0⟩ :: Xs.map Xm.T)
  nod : (rd :: wr :: bks S Xs mb lb).Nodup
  old : ∀ q ∈ rd :: wr :: bks S Xs mb lb, q < w1.heap.size
theorem Beg.below {w1 w' : World} {t rd wr : Nat} (h : Beg w0 w1 w n S Xs mb kk mm m lb ll lf t rd wr) (hb : Below w.heap.size w w') : Beg w0 w1 w' n S Xs mb kk mm m lb ll lf t rd wr := ⟨h.ser.below hb, h.sys.below hb, h.nod, h.old⟩
theorem Ser.old (h : Ser w0 w n S Xs mb kk mm m lb ll lf) : ∀ q ∈ bks S Xs mb lb, q < w.heap.size := fun q hq => by
  unfold bks at hq
  simp only [List.mem_cons, List.mem_flatMap] at hq
  rcases hq with e | e | e | e | ⟨X, hX, hq⟩
  · rw [e]; exact h.sys.spc.lts.2.1
  · rw [e]; exact h.sys.spc.lts.2.2
  · rw [e]; exact h.mod.lt
  · rw [e]; exact h.las.lt
  · unfold Xm.bk at hq
    simp only [List.mem_cons, List.not_mem_nil, or_false] at hq
    rcases hq with e | e | e | e
    · rw [e]; exact (h.txc hX).lts.2.1
    · rw [e]; exact (h.txc hX).lts.2.2
    · rw [e]; exact (h.xce X hX).red.lt
    · rw [e]; exact (h.xce X hX).beg.lt
theorem v_begin (h : Ser w0 w n S Xs mb kk mm m lb ll lf) : Calls Try.prog 8 #[.pointer (some ⟨S.sp, 0, none⟩)] w fun e w' => ∃ t, e = .returned (.tuple #[.pointer (some ⟨t, 0, none⟩), .int .i64 0]) ∧ Hid (∃ rd wr, Beg w0 w' w' n S Xs mb kk mm m lb ll lf t rd wr ∧ Below w.heap.size w w') :=
  (s_begin h.sys.spc).mono fun e w' ⟨t, he, hh⟩ => ⟨t, he, by
    obtain ⟨rd, wr, hT, hb, l1, l2, l3⟩ := hh.out
    have hB := h.sys.B.size
    have h' := h.below hb
    have hold := h.old
    have hne : rd ≠ wr := hT.ne.1
    obtain ⟨z1, z2, z3⟩ := hT.lts
    refine ⟨rd, wr, ⟨h', ⟨h'.sys.spc, fun Y hY => ?_, List.pairwise_cons.2 ⟨fun Y hY => ?_, h.sys.dis⟩, h'.sys.B, h.sys.lowS, fun Y hY => ?_⟩, ?_, fun q hq => ?_⟩, hb⟩
    · rcases List.mem_cons.1 hY with rfl | hY
      · exact hT
      · exact h'.sys.txc Y hY
    · obtain ⟨k1, k2, k3⟩ := (h.sys.txc Y hY).lts
      exact ⟨by show t ≠ Y.t; omega, by show rd ≠ Y.rd; omega, by show rd ≠ Y.wr; omega, by show wr ≠ Y.rd; omega, by show wr ≠ Y.wr; omega⟩
    · rcases List.mem_cons.1 hY with rfl | hY
      · exact ⟨by show w0.heap.size ≤ t; omega, by show w0.heap.size ≤ rd; omega, by show w0.heap.size ≤ wr; omega⟩
      · exact h.sys.lowT Y hY
    · refine List.nodup_cons.2 ⟨fun hq => ?_, List.nodup_cons.2 ⟨fun hq => ?_, h.nod⟩⟩
      · rcases List.mem_cons.1 hq with e | hq
        · exact hne e
        · have := hold _ hq; omega
      · have := hold _ hq; omega
    · rcases List.mem_cons.1 hq with e | hq
      · rw [e]; exact z2
      · rcases List.mem_cons.1 hq with e | hq
        · rw [e]; exact z3
        · have := hold _ hq
          have := hb.size
          omega⟩
/-- It is noted. -/
theorem Beg.done {w1 : World} {t rd wr sn rb bb k : Nat} {bg : Bf} (h : Beg w0 w1 w n S Xs mb kk mm m lb ll lf t rd wr) (hc : w.heap[sn]? = some (.cells #[.pointer (some ⟨t, 0, none⟩), .map (some rb), .map (some bb)] 39 (0, 0))) (hr : Bm w 0 rb (fun _ => none)) (hb : Bm w S.slots.length bb bg) (hg : ∀ k, bg k = m k) (h1 : w1.heap.size ≤ rb) (h2 : w1.heap.size ≤ bb) (h3 : rb ≠ bb) (h4 : w0.heap.size ≤ rb) :
    Ser w0 w n S (⟨⟨t, rd, wr, S.clock, [], [], 0⟩, sn, rb, bb, fun _ => none, bg, fun _ => none⟩ :: Xs) mb kk mm m lb ll lf := by
  have hs := h.ser
  have hold := h.old
  refine ⟨h.sys, hs.mod, hs.las, hs.syt, hs.lin, hs.lnb, fun Y hY => ?_, fun Y hY => ?_, ?_, ⟨hs.low.1, hs.low.2.1, fun Y hY => ?_⟩, hs.ck, hs.lsl, hs.llk⟩
  · rcases List.mem_cons.1 hY with rfl | hY
    · exact ⟨hc, hr.le (Nat.zero_le _), hb.le hs.lsl, Byt.start _⟩
    · exact hs.xce Y hY
  · rcases List.mem_cons.1 hY with rfl | hY
    · exact ⟨Tin.begin S t rd wr m bg hg, Nat.zero_le _, Nat.zero_le _, fun k xs hk => by cases hk⟩
    · exact hs.xpu Y hY
  · have hp : (bks S (⟨⟨t, rd, wr, S.clock, [], [], 0⟩, sn, rb, bb, fun _ => none, bg, fun _ => none⟩ :: Xs) mb lb).Perm (rb :: bb :: rd :: wr :: bks S Xs mb lb) := by
      unfold bks
      rw [List.flatMap_cons]
      show (S.sl :: S.lk :: mb :: lb :: (rd :: wr :: rb :: bb :: Xs.flatMap Xm.bk)).Perm _
      have p1 : ([S.sl, S.lk, mb, lb] ++ ([rd, wr, rb, bb] ++ Xs.flatMap Xm.bk)).Perm ([rb, bb, rd, wr] ++ ([S.sl, S.lk, mb, lb] ++ Xs.flatMap Xm.bk)) := by
        rw [← List.append_assoc, ← List.append_assoc]
        refine List.Perm.append_right _ (List.perm_append_comm.trans (List.Perm.append_right _ ?_))
        exact (List.perm_append_comm (l₁ := [rd, wr]) (l₂ := [rb, bb]))
      exact p1
    refine hp.nodup_iff.2 (List.nodup_cons.2 ⟨fun hq => ?_, List.nodup_cons.2 ⟨fun hq => ?_, h.nod⟩⟩)
    · rcases List.mem_cons.1 hq with e | hq
      · exact h3 e
      · have := hold _ hq; omega
    · have := hold _ hq; omega
  · rcases List.mem_cons.1 hY with rfl | hY
    · exact h4
    · exact hs.low.2.2 Y hY
/-- The same transaction, as the law sees it. -/
def SameX (X X' : Xm) : Prop := X'.T.t = X.T.t ∧ X'.sn = X.sn ∧ X'.rb = X.rb ∧ X'.bb = X.bb ∧ X'.rm = X.rm ∧ X'.bg = X.bg
theorem v_phase (h : Ser w0 w n S Xs mb kk mm m lb ll lf) {X : Xm} (hX : X ∈ Xs) : Calls Try.prog 18 #[.pointer (some ⟨X.T.t, 0, none⟩)] w fun e w' => e = .returned (.int .i64 X.T.ph) ∧ w' = w := t_phase (h.txc hX)
theorem v_put (h : Ser w0 w n S (A ++ X :: C) mb kk mm m lb ll lf) (hn : n ≤ 300) (l : Nat) (a0 : Option Addr) (q c : Nat) (f : Nat → Int) (hf : From w a0 q f) (hq : q ≤ 140737488355328) :
    Calls Try.prog 16 #[.pointer (some ⟨X.T.t, 0, none⟩), .string (nme l), .slice a0 q c] w fun e w' => ∃ r, e = .returned (.int .i64 r) ∧ Hid (∃ X', SameX X X' ∧ Ser w0 w' (n + 1) S (A ++ X' :: C) mb kk mm m lb ll lf) := by
  have hXm : X ∈ A ++ X :: C := mem_mid.2 (.inr rfl)
  have hp := h.xpu X hXm
  by_cases hr : rn X.T.ph (nme l) = 0
  · refine (o_put h.mid (nme l) (nme_max l) a0 q c f hf hq (by have := hp.lwr; omega) hr).mono fun e w' ⟨he, hh⟩ => ⟨0, he, ?_⟩
    obtain ⟨x, k1, k2, k3, k4⟩ := hh.out
    have hso := soft_off h.sys (Ser.mem_T hXm)
    refine ⟨{ X with T := { X.T with writes := putT Eb.ky X.T.writes x }, wm := X.wm.put x.ky (lst f q) }, ⟨rfl, rfl, rfl, rfl, rfl, rfl⟩, ?_⟩
    refine h.off (X' := { X with T := { X.T with writes := putT Eb.ky X.T.writes x }, wm := X.wm.put x.ky (lst f q) }) (by omega) k3 k4 ⟨rfl, rfl, rfl⟩ ⟨rfl, rfl, rfl⟩ ⟨rfl, rfl, rfl, rfl, rfl⟩ (((h.xce X hXm).byt.kept (fun v xs ho => ho.soft k4 hso)).put k2) (h.syt.kept (fun v xs ho => ho.soft k4 hso)) h.lin h.lnb (fun Y hY => (h.xpu Y (mem_mid.2 (.inl hY))).tin) ?_ ⟨h.ck.1, Int.le_trans h.ck.2 (by omega)⟩ (by have := h.lsl; omega) (by have := h.llk; omega)
    exact ⟨⟨hp.tin.time, hp.tin.same, hp.tin.read⟩, by have := hp.lrd; show X.T.reads.length ≤ _; omega, by have := putT_len (ky := Eb.ky) X.T.writes x; have := hp.lwr; show (putT Eb.ky X.T.writes x).length ≤ _; omega, hp.lnb.put _ (by rw [lst_length]; exact hq)⟩
  · exact (t_put_no (h.txc hXm) (nme l) _ hr).mono fun e w' ⟨he, hb⟩ => ⟨_, he, X, ⟨rfl, rfl, rfl, rfl, rfl, rfl⟩, (h.below hb).le (by omega)⟩
theorem v_lock (h : Ser w0 w n S (A ++ X :: C) mb kk mm m lb ll lf) (hn : n ≤ 300) :
    Calls Try.prog 17 #[.pointer (some ⟨X.T.t, 0, none⟩)] w fun e w' => ∃ r, e = .returned (.int .i64 r) ∧ Hid (∃ S' X', S'.sp = S.sp ∧ SameX X X' ∧ (r = 0 → X'.T.ph = 1) ∧ Ser w0 w' (n + 1) S' (A ++ X' :: C) mb kk mm m lb ll lf) := by
  have hXm : X ∈ A ++ X :: C := mem_mid.2 (.inr rfl)
  have hp := h.xpu X hXm
  have hw := hp.lwr
  have hk := h.llk
  by_cases hr : X.T.ph = 0
  · refine (o_lock h.mid (by omega) (by omega) hr).mono fun e w' ⟨h1, h2⟩ => ?_
    cases ht : tks S X.T with
    | true =>
      obtain ⟨he, hh⟩ := h1 ht
      obtain ⟨L, k1, k2, k3, k4⟩ := hh.out
      refine ⟨180, he, { S with locks := L }, { X with T := { X.T with ph := 4 } }, rfl, ⟨rfl, rfl, rfl, rfl, rfl, rfl⟩, fun e => (by cases e), h.locks (by omega) k3 k4 ?_⟩
      have : L.length ≤ S.locks.length := lkl_sub k3.spc.loc k1
      omega
    | false =>
      obtain ⟨he, hh⟩ := h2 ht
      obtain ⟨L, k1, k3, k4⟩ := hh.out
      refine ⟨0, he, { S with locks := L }, { X with T := { X.T with ph := 1 } }, rfl, ⟨rfl, rfl, rfl, rfl, rfl, rfl⟩, fun _ => rfl, h.locks (by omega) k3 k4 ?_⟩
      have := k1.2.2
      omega
  · exact (t_lock_no (h.txc hXm) hr).mono fun e w' ⟨he, hb⟩ => ⟨_, he, S, X, rfl, ⟨rfl, rfl, rfl, rfl, rfl, rfl⟩, fun e => (by cases e), (h.below hb).le (by omega)⟩
theorem v_check (h : Ser w0 w n S (A ++ X :: C) mb kk mm m lb ll lf) (hn : n ≤ 300) (hr : X.T.ph = 1) :
    Calls Try.prog 19 #[.pointer (some ⟨X.T.t, 0, none⟩)] w fun e w' => ∃ r, e = .returned (.int .i64 r) ∧ Hid (∃ S' X', S'.sp = S.sp ∧ SameX X X' ∧ Ser w0 w' (n + 1) S' (A ++ X' :: C) mb kk mm m lb ll lf) := by
  have hXm : X ∈ A ++ X :: C := mem_mid.2 (.inr rfl)
  have hp := h.xpu X hXm
  have hw := hp.lwr
  have hd := hp.lrd
  have hk := h.llk
  refine (o_check h.mid (by omega) (by omega) (by rw [hr]; simp)).mono fun e w' ⟨h1, h2⟩ => ?_
  cases ht : stl S X.T with
  | true =>
    obtain ⟨he, hh⟩ := h1 ht
    obtain ⟨L, k1, k2, k3, k4⟩ := hh.out
    refine ⟨180, he, { S with locks := L }, { X with T := { X.T with ph := 4 } }, rfl, ⟨rfl, rfl, rfl, rfl, rfl, rfl⟩, h.locks (by omega) k3 k4 ?_⟩
    have : L.length ≤ S.locks.length := lkl_sub k3.spc.loc k1
    omega
  | false =>
    obtain ⟨he, hh⟩ := h2 ht
    obtain ⟨k3, k4⟩ := hh.out
    exact ⟨0, he, { S with locks := S.locks }, { X with T := { X.T with ph := 2 } }, rfl, ⟨rfl, rfl, rfl, rfl, rfl, rfl⟩, h.locks (L := S.locks) (by omega) k3 k4 (by omega)⟩
/-- What was read may be noted. -/
theorem Tin.note {S : Sm} {U : Tm} {m rm bg : Bf} (h : Tin S U m rm bg) {k : List UInt8} {xs : List Int} (hx : (bg k).getD [] = xs) (hy : ∃ y ∈ U.reads, Eu.ky y = k) : Tin S U m (rm.put k xs) bg := by
  refine ⟨h.time, h.same, fun q zs hq => ?_⟩
  by_cases e : k = q
  · have h1 : (rm.put k xs) q = some xs := if_pos e
    rw [h1] at hq
    cases hq
    exact ⟨by rw [← e]; exact hx, by rw [← e]; exact hy⟩
  · have h1 : (rm.put k xs) q = rm q := if_neg e
    rw [h1] at hq
    exact h.read q zs hq
theorem v_get (h : Ser w0 w n S (A ++ X :: C) mb kk mm m lb ll lf) (hn : n ≤ 300) (l : Nat) :
    Calls Try.prog 14 #[.pointer (some ⟨X.T.t, 0, none⟩), .string (nme l)] w fun e w' => ∃ a q c r, e = .returned (.tuple #[.slice a q c, .int .i64 r]) ∧ Hid (∃ S' X', S'.sp = S.sp ∧ SameX X X' ∧ Ser w0 w' (n + 1) S' (A ++ X' :: C) mb kk mm m lb ll lf ∧ (r = 0 → ¬ (∃ x ∈ X.T.writes, Eb.ky x = (nme l).data.toList) → ∃ xs B, Own w' B (.slice a q c) xs ∧ (X.bg (nme l).data.toList).getD [] = xs ∧ ∃ y ∈ X'.T.reads, Eu.ky y = (nme l).data.toList)) := by
  have hXm : X ∈ A ++ X :: C := mem_mid.2 (.inr rfl)
  have hp := h.xpu X hXm
  have hw := hp.lwr
  have hd := hp.lrd
  have hk := h.llk
  by_cases hr : rn X.T.ph (nme l) = 0
  · cases hx : fnd Eb.ky X.T.writes (nme l).data.toList with
    | some x =>
      obtain ⟨e1, e2⟩ := fnd_some hx
      obtain ⟨b1, b2, b3⟩ := h.bw hXm x e2
      refine (t_get_own (h.txc hXm) (nme l) (nme_max l) hr x hx _ b1 b3).mono fun e w' ⟨v, he, ho, hb⟩ => ?_
      obtain ⟨a, c, rfl⟩ := ho.slice
      exact ⟨a, _, c, 0, he, S, X, rfl, ⟨rfl, rfl, rfl, rfl, rfl, rfl⟩, (h.below hb).le (by omega), fun _ hno => absurd ⟨x, e2, e1⟩ hno⟩
    | none =>
      cases hst : sty S X.T (nme l).data.toList with
      | true =>
        refine (o_get_clash h.mid (nme l) (nme_max l) (by omega) hr hx hst).mono fun e w' ⟨he, hh⟩ => ?_
        obtain ⟨L, k1, k2, k3, k4⟩ := hh.out
        refine ⟨none, 0, 0, 180, he, { S with locks := L }, { X with T := { X.T with ph := 4 } }, rfl, ⟨rfl, rfl, rfl, rfl, rfl, rfl⟩, h.locks (by omega) k3 k4 ?_, fun e => by cases e⟩
        have : L.length ≤ S.locks.length := lkl_sub k3.spc.loc k1
        omega
      | false =>
        obtain ⟨b1, b2⟩ := h.syt.at (nme l).data.toList
        have b3 := h.lnb.getD (nme l).data.toList
        refine (o_get h.mid (nme l) (nme_max l) (by omega) hr hx hst _ b1 (by rw [b2]; exact b3)).mono fun e w' ⟨v, he, ho, hh⟩ => ?_
        obtain ⟨y, k1, k3, k4⟩ := hh.out
        have hso := soft_off h.sys (Ser.mem_T hXm)
        rw [b2] at ho
        rw [show lst (fn ((m (nme l).data.toList).getD [])) ((m (nme l).data.toList).getD []).length = (m (nme l).data.toList).getD [] from lst_fn _] at ho
        obtain ⟨a, c, rfl⟩ := ho.slice
        refine ⟨a, _, c, 0, he, S, { X with T := { X.T with reads := putT Eu.ky X.T.reads y } }, rfl, ⟨rfl, rfl, rfl, rfl, rfl, rfl⟩, ?_, fun _ _ => ⟨_, _, ho, (hp.tin.got hst).symm, y, put_self _ _, k1⟩⟩
        refine h.off (X' := { X with T := { X.T with reads := putT Eu.ky X.T.reads y } }) (by omega) k3 k4 ⟨rfl, rfl, rfl⟩ ⟨rfl, rfl, rfl⟩ ⟨rfl, rfl, rfl, rfl, rfl⟩ ((h.xce X hXm).byt.kept (fun v xs ho => ho.soft k4 hso)) (h.syt.kept (fun v xs ho => ho.soft k4 hso)) h.lin h.lnb (fun Y hY => (h.xpu Y (mem_mid.2 (.inl hY))).tin) ?_ ⟨h.ck.1, Int.le_trans h.ck.2 (by omega)⟩ (by have := h.lsl; omega) (by have := h.llk; omega)
        exact ⟨hp.tin.more y, by have := putT_len (ky := Eu.ky) X.T.reads y; show (putT Eu.ky X.T.reads y).length ≤ _; omega, by show X.T.writes.length ≤ _; omega, hp.lnb⟩
  · exact (t_get_no (h.txc hXm) (nme l) hr).mono fun e w' ⟨he, hb⟩ => ⟨none, 0, 0, _, he, S, X, rfl, ⟨rfl, rfl, rfl, rfl, rfl, rfl⟩, (h.below hb).le (by omega), fun e => absurd e hr⟩
/-- Publish: the slots go on, the model is to follow; what was read is what the model has. -/
theorem v_publish (h : Ser w0 w n S (A ++ X :: C) mb kk m m lb ll lf) (hn : n ≤ 300) :
    Calls Try.prog 20 #[.pointer (some ⟨X.T.t, 0, none⟩)] w fun e w' => ∃ r, e = .returned (.int .i64 r) ∧ Off S X.T w w' ∧ Hid (∃ S' X' m', S'.sp = S.sp ∧ SameX X X' ∧ Ser w0 w' (n + 1) S' (A ++ X' :: C) mb kk m m' lb ll lf ∧ (r ≠ 0 → m' = m) ∧ (r = 0 → m' = over m X.wm ∧ ∀ k xs, X.rm k = some xs → (m k).getD [] = xs)) := by
  have hXm : X ∈ A ++ X :: C := mem_mid.2 (.inr rfl)
  have hp := h.xpu X hXm
  have hw := hp.lwr
  have hd := hp.lrd
  have hk := h.llk
  have hsl := h.lsl
  have hck := h.ck
  by_cases hr : X.T.ph = 2
  · refine (o_publish h.mid (by omega) (by omega) (by omega) hck.1 (by have := hck.2; omega) hr).mono fun e w' ⟨h1, h2⟩ => ?_
    cases ht : stl S X.T with
    | true =>
      obtain ⟨he, hh⟩ := h1 ht
      obtain ⟨L, k1, k2, k3, k4⟩ := hh.out
      refine ⟨180, he, k4, { S with locks := L }, { X with T := { X.T with ph := 4 } }, m, rfl, ⟨rfl, rfl, rfl, rfl, rfl, rfl⟩, h.locks (by omega) k3 k4 ?_, fun _ => rfl, fun e => by cases e⟩
      have : L.length ≤ S.locks.length := lkl_sub k3.spc.loc k1
      omega
    | false =>
      obtain ⟨he, hh⟩ := h2 ht
      obtain ⟨SL, L, k0, k1, k2, k3, k4⟩ := hh.out
      have hso := soft_off h.sys (Ser.mem_T hXm)
      have hby : Byt w' X.T.writes X.wm := (h.xce X hXm).byt.kept (fun v xs ho => ho.soft k4 hso)
      have hll : L.length ≤ S.locks.length := lkl_sub k3.spc.loc k1
      refine ⟨0, he, k4, { S with clock := clk S X.T, slots := SL, locks := L }, { X with T := { X.T with ph := 3 } }, over m X.wm, rfl, ⟨rfl, rfl, rfl, rfl, rfl, rfl⟩, ?_, fun e => absurd rfl e, fun _ => ⟨rfl, fun k xs hx => hp.tin.reads ht hx⟩⟩
      refine h.off (X' := { X with T := { X.T with ph := 3 } }) (S' := { S with clock := clk S X.T, slots := SL, locks := L }) (by omega) k3 k4 ⟨rfl, rfl, rfl⟩ ⟨rfl, rfl, rfl⟩ ⟨rfl, rfl, rfl, rfl, rfl⟩ hby ((h.syt.kept (fun v xs ho => ho.soft k4 hso)).publish hck.1 (h.apT hXm) hby k0) (h.lin.publish k0) (h.lnb.over hp.lnb) (fun Y hY => ((h.xpu Y (mem_mid.2 (.inl hY))).tin).publish hby k0) ?_ ?_ ?_ ?_
      · have := hp.tin.publish (L := L) hby k0
        exact ⟨⟨this.time, this.same, this.read⟩, by show X.T.reads.length ≤ _; omega, by show X.T.writes.length ≤ _; omega, hp.lnb⟩
      · show 0 ≤ clk S X.T ∧ clk S X.T ≤ _
        have h3 := clk_ge S X.T
        have h4 : clk S X.T ≤ S.clock + 1 := by unfold clk; split <;> omega
        omega
      · show SL.length ≤ _
        have := k0.2
        omega
      · show L.length ≤ _
        omega
  · exact (t_publish_no (h.txc hXm) hr).mono fun e w' ⟨he, hb⟩ => ⟨_, he, .below hb, S, X, m, rfl, ⟨rfl, rfl, rfl, rfl, rfl, rfl⟩, (h.below hb).le (by omega), fun _ => rfl, fun e => by cases e⟩
end
end Go.Proofs.Ytdackomidfofgaa
