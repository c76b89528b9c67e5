/-
  StmSerial's state (Ser): a space, its transactions with what the law notes of them, the model, the last versions; what stays of it.
-/
import Derived.Test.YtdackomidfofgaaStAf
namespace Go.Proofs.Ytdackomidfofgaa
open Go.RowKit Go.Maps
set_option linter.unusedVariables false
set_option maxRecDepth 100000
set_option maxHeartbeats 1000000

/-- No bytes are too many. -/
def Lnb (m : Bf) : Prop := ∀ k xs, m k = some xs → xs.length ≤ 140737488355328
theorem Lnb.put {m : Bf} (h : Lnb m) (k : List UInt8) {xs : List Int} (hx : xs.length ≤ 140737488355328) : Lnb (m.put k xs) := fun q ys hq => by
  unfold Bf.put at hq
  split at hq
  · cases hq; exact hx
  · exact h q ys hq
theorem Lnb.over {m wm : Bf} (h : Lnb m) (hw : Lnb wm) : Lnb (over m wm) := fun k xs hk => by
  unfold Go.Proofs.Ytdackomidfofgaa.over at hk
  cases e : wm k with
  | none => rw [e] at hk; exact h k xs hk
  | some ys =>
    rw [e] at hk
    have hk : some ys = some xs := hk
    cases hk
    exact hw k _ e
theorem Lnb.getD {m : Bf} (h : Lnb m) (k : List UInt8) : ((m k).getD []).length ≤ 140737488355328 := by
  cases e : m k with
  | none => exact Nat.zero_le _
  | some xs => exact h k xs e
theorem Bm.le {w : World} {n n' b : Nat} {m : Bf} (h : Bm w n b m) (hn : n ≤ n') : Bm w n' b m := by
  obtain ⟨L, h1, h2, h3⟩ := h.ex
  exact ⟨L, h1, by omega, h3⟩
theorem Lm.le {w : World} {n n' b : Nat} {m : Lf} (h : Lm w n b m) (hn : n ≤ n') : Lm w n' b m := by
  obtain ⟨L, h1, h2, h3⟩ := h.ex
  exact ⟨L, h1, by omega, h3⟩
theorem Lm.obj {w : World} {n b : Nat} {m : Lf} (h : Lm w n b m) : ∃ es c, w.heap[b]? = some (.map es c) := by
  obtain ⟨L, h1, _⟩ := h.ex
  exact h1.obj

/-- A transaction of the law: what is seen of it (a block with two maps); what it read, what there was when it began, what it wrote. -/
structure Xm where
  T : Tm
  (sn rb bb : Nat)
  (rm bg wm : Bf)
def Xm.bk (X : Xm) : List Nat := [X.T.rd, X.T.wr, X.rb, X.bb]
/-- The blocks of all maps. -/
def bks (S : Sm) (Xs : List Xm) (mb lb : Nat) : List Nat := S.sl :: S.lk :: mb :: lb :: Xs.flatMap Xm.bk
/-- What memory holds of it. -/
structure Xce (w : World) (n : Nat) (X : Xm) : Prop where
  cel : w.heap[X.sn]? = some (.cells #[.pointer (some ⟨X.T.t, 0, none⟩), .map (some X.rb), .map (some X.bb)] 39 (0, 0))
  red : Bm w n X.rb X.rm
  beg : Bm w (n * 400) X.bb X.bg
  byt : Byt w X.T.writes X.wm
/-- What holds of it beside memory. -/
structure Xpu (n : Nat) (S : Sm) (m : Bf) (X : Xm) : Prop where
  tin : Tin S X.T m X.rm X.bg
  lrd : X.T.reads.length ≤ n
  lwr : X.T.writes.length ≤ n
  lnb : Lnb X.wm
structure Ser (w0 w : World) (n : Nat) (S : Sm) (Xs : List Xm) (mb kk : Nat) (mm m : Bf) (lb ll : Nat) (lf : Lf) : Prop where
  sys : Sys w0 w S (Xs.map Xm.T)
  mod : Bm w kk mb mm
  las : Lm w ll lb lf
  syt : Syt w S m
  lin : Lin S lf
  lnb : Lnb m
  xce : ∀ X ∈ Xs, Xce w n X
  xpu : ∀ X ∈ Xs, Xpu n S m X
  nod : (bks S Xs mb lb).Nodup
  low : w0.heap.size ≤ mb ∧ w0.heap.size ≤ lb ∧ ∀ X ∈ Xs, w0.heap.size ≤ X.rb
  ck : 0 ≤ S.clock ∧ S.clock ≤ n
  lsl : S.slots.length ≤ n * 400
  llk : S.locks.length ≤ n * 400

/-- Among some blocks there are no bytes and nothing that is seen of a transaction. -/
def Soft (w : World) (F : Nat → Prop) : Prop := ∀ b cs t z, F b → w.heap[b]? = some (.cells cs t z) → t ≠ 5 ∧ t ≠ 39
theorem Own.soft {F : Nat → Prop} {w w' : World} (p : Part F w w') (hF : Soft w F) {B : Nat} {v : Value} {xs : List Int} (ho : Own w B v xs) : Own w' B v xs := p.row ho (fun q hq hf => by
  obtain ⟨cur, hc, _⟩ := row_ty ho hq
  exact (hF q cur _ _ hf hc).1 rfl)
theorem Xce.part {F : Nat → Prop} {w w' : World} {n : Nat} {X : Xm} (h : Xce w n X) (p : Part F w w') (hF : Soft w F) (h1 : ¬ F X.rb) (h2 : ¬ F X.bb) : Xce w' n X := by
  have hb : ∀ q cs, F q → w.heap[q]? ≠ some (.cells cs 5 (0, 0)) := fun q cs hq e => (hF q cs _ _ hq e).1 rfl
  refine ⟨(p.block _ (Array.getElem?_eq_some_iff.1 h.cel).1 (fun hq => (hF _ _ _ _ hq h.cel).2 rfl)).trans h.cel, h.red.part p h1 hb, h.beg.part p h2 hb, h.byt.kept (fun v xs ho => ho.soft p hF)⟩
theorem Xce.le {w : World} {n n' : Nat} {X : Xm} (h : Xce w n X) (hn : n ≤ n') : Xce w n' X := ⟨h.cel, h.red.le hn, h.beg.le (by omega), h.byt⟩
theorem Xpu.le {n n' : Nat} {S : Sm} {m : Bf} {X : Xm} (h : Xpu n S m X) (hn : n ≤ n') : Xpu n' S m X := ⟨h.tin, Nat.le_trans h.lrd hn, Nat.le_trans h.lwr hn, h.lnb⟩
theorem Ser.le {w0 w : World} {n n' : Nat} {S : Sm} {Xs : List Xm} {mb kk : Nat} {mm m : Bf} {lb ll : Nat} {lf : Lf} (h : Ser w0 w n S Xs mb kk mm m lb ll lf) (hn : n ≤ n') : Ser w0 w n' S Xs mb kk mm m lb ll lf :=
  ⟨h.sys, h.mod, h.las, h.syt, h.lin, h.lnb, fun X hX => (h.xce X hX).le hn, fun X hX => (h.xpu X hX).le hn, h.nod, h.low, ⟨h.ck.1, Int.le_trans h.ck.2 (by omega)⟩, by have := h.lsl; omega, by have := h.llk; omega⟩
theorem map_not {w : World} {b q : Nat} {es : Array MapEntry} {c : Nat} {cs : Array Value} {t : TypeId} {z : Nat × Nat} (h : w.heap[b]? = some (.map es c)) (hq : w.heap[q]? = some (.cells cs t z)) : q ≠ b := fun e => by
  rw [e, h] at hq
  cases hq
theorem Sys.keep {F : Nat → Prop} {w0 w w' : World} {S : Sm} {Ts : List Tm} (h : Sys w0 w S Ts) (p : Part F w w') (hS : ¬ F S.sp ∧ ¬ F S.sl ∧ ¬ F S.lk) (hT : ∀ T ∈ Ts, ¬ F T.t ∧ ¬ F T.rd ∧ ¬ F T.wr) (hl : ∀ b cs, F b → w.heap[b]? ≠ some (.cells cs 67 (0, 0))) (hlow : ∀ b, F b → w0.heap.size ≤ b) : Sys w0 w' S Ts :=
  ⟨h.spc.part p hS (fun b cs hb hc => absurd hc (hl b cs hb)), fun T hT' => (h.txc T hT').part p (hT T hT'), h.dis, h.B.trans (p.below hlow h.B.size), h.lowS, h.lowT⟩
/-- One map is changed that is none of the space and its transactions. -/
theorem Sys.turn {b : Nat} {w0 w w' : World} {S : Sm} {Ts : List Tm} (h : Sys w0 w S Ts) (p : Part (fun q => q = b) w w') (hm : ∃ es c, w.heap[b]? = some (.map es c)) (hb : b ≠ S.sl ∧ b ≠ S.lk) (hT : ∀ T ∈ Ts, b ≠ T.rd ∧ b ≠ T.wr) (hlow : w0.heap.size ≤ b) : Sys w0 w' S Ts := by
  obtain ⟨es, c, hm⟩ := hm
  refine h.keep p ⟨map_not hm h.spc.cel, fun e => hb.1 e.symm, fun e => hb.2 e.symm⟩ (fun T hT' => ⟨map_not hm (h.txc T hT').cel, fun e => (hT T hT').1 e.symm, fun e => (hT T hT').2 e.symm⟩) (fun q cs hq hc => ?_) (fun q hq => ?_)
  · have hq : q = b := hq
    exact map_not hm hc hq
  · have hq : q = b := hq
    omega
theorem soft_map {w : World} {b : Nat} (hm : ∃ es c, w.heap[b]? = some (.map es c)) : Soft w (fun q => q = b) := fun q cs t z hq hc => by
  obtain ⟨es, c, hm⟩ := hm
  exact absurd hq (map_not hm hc)
theorem soft_off {w0 w : World} {S : Sm} {Ts : List Tm} {T : Tm} (h : Sys w0 w S Ts) (hT : T ∈ Ts) : Soft w (fun b => S.own b ∨ T.own b) := fun b cs t z hf hc => by
  have hx := h.txc T hT
  have hnm : ∀ L, ¬ Mp w b L := fun L hm => by
    obtain ⟨es, k, hob⟩ := hm.obj
    rw [hob] at hc
    cases hc
  rcases hf with (e | e | e) | (e | e | e)
  · have := h.spc.cel
    rw [← e, hc] at this
    injection this with this
    injection this with _ this
    rw [this]
    exact ⟨by decide, by decide⟩
  · exact absurd (e ▸ h.spc.slo) (hnm _)
  · exact absurd (e ▸ h.spc.loc) (hnm _)
  · have := hx.cel
    rw [← e, hc] at this
    injection this with this
    injection this with _ this
    rw [this]
    exact ⟨by decide, by decide⟩
  · exact absurd (e ▸ hx.red) (hnm _)
  · exact absurd (e ▸ hx.wri) (hnm _)
theorem off_not {w0 w : World} {S : Sm} {Ts : List Tm} {T : Tm} (h : Sys w0 w S Ts) (hT : T ∈ Ts) {q : Nat} (hm : ∃ es c, w.heap[q]? = some (.map es c)) (h1 : q ≠ S.sl) (h2 : q ≠ S.lk) (h3 : q ≠ T.rd) (h4 : q ≠ T.wr) : ¬ (S.own q ∨ T.own q) := by
  obtain ⟨es, c, hm⟩ := hm
  rintro ((e | e | e) | (e | e | e))
  · exact map_not hm h.spc.cel e.symm
  · exact h1 e
  · exact h2 e
  · exact map_not hm (h.txc T hT).cel e.symm
  · exact h3 e
  · exact h4 e

section
variable {S S' : Sm} {A C : List Xm} {X X' : Xm} {Xs : List Xm} {mb lb : Nat}
theorem mem_bks (hX : X ∈ Xs) {q : Nat} (hq : q ∈ X.bk) : q ∈ Xs.flatMap Xm.bk := List.mem_flatMap.2 ⟨X, hX, hq⟩
theorem bks_mb (hn : (bks S Xs mb lb).Nodup) : mb ≠ S.sl ∧ mb ≠ S.lk ∧ mb ≠ lb ∧ ∀ X ∈ Xs, ∀ q ∈ X.bk, q ≠ mb := by
  unfold bks at hn
  simp only [List.nodup_cons, List.mem_cons, not_or] at hn
  obtain ⟨⟨a1, a2, a3, a4⟩, ⟨b1, b2, b3⟩, ⟨c1, c2⟩, d1, _⟩ := hn
  exact ⟨fun e => a2 e.symm, fun e => b1 e.symm, c1, fun X hX q hq e => c2 (e ▸ mem_bks hX hq)⟩
theorem bks_lb (hn : (bks S Xs mb lb).Nodup) : lb ≠ S.sl ∧ lb ≠ S.lk ∧ ∀ X ∈ Xs, ∀ q ∈ X.bk, q ≠ lb := by
  unfold bks at hn
  simp only [List.nodup_cons, List.mem_cons, not_or] at hn
  obtain ⟨⟨a1, a2, a3, a4⟩, ⟨b1, b2, b3⟩, ⟨c1, c2⟩, d1, _⟩ := hn
  exact ⟨fun e => a3 e.symm, fun e => b2 e.symm, fun X hX q hq e => d1 (e ▸ mem_bks hX hq)⟩
theorem bks_sl (hn : (bks S Xs mb lb).Nodup) (hX : X ∈ Xs) {q : Nat} (hq : q ∈ X.bk) : q ≠ S.sl ∧ q ≠ S.lk := by
  unfold bks at hn
  simp only [List.nodup_cons, List.mem_cons, not_or] at hn
  obtain ⟨⟨a1, a2, a3, a4⟩, ⟨b1, b2, b3⟩, ⟨c1, c2⟩, d1, _⟩ := hn
  exact ⟨fun e => a4 (e ▸ mem_bks hX hq), fun e => b3 (e ▸ mem_bks hX hq)⟩
theorem bks_x (hn : (bks S (A ++ X :: C) mb lb).Nodup) : X.bk.Nodup ∧ ∀ Y, Y ∈ A ∨ Y ∈ C → ∀ p ∈ Y.bk, ∀ q ∈ X.bk, p ≠ q := by
  have h1 : ((A ++ X :: C).flatMap Xm.bk).Nodup := by
    unfold bks at hn
    simp only [List.nodup_cons] at hn
    exact hn.2.2.2.2
  rw [List.flatMap_append, List.flatMap_cons, List.nodup_append] at h1
  obtain ⟨h2, h3, h4⟩ := h1
  rw [List.nodup_append] at h3
  obtain ⟨h5, h6, h7⟩ := h3
  refine ⟨h5, fun Y hY p hp q hq => ?_⟩
  rcases hY with hY | hY
  · exact h4 p (mem_bks hY hp) q (List.mem_append_left _ hq)
  · exact fun e => h7 q hq p (mem_bks hY hp) e.symm
theorem bks_same (eS : SameS S S') (e : X'.bk = X.bk) : bks S' (A ++ X' :: C) mb lb = bks S (A ++ X :: C) mb lb := by
  unfold bks
  rw [eS.2.1, eS.2.2, List.flatMap_append, List.flatMap_append, List.flatMap_cons, List.flatMap_cons, e]
theorem mem_mid {Y : Xm} : Y ∈ A ++ X :: C ↔ (Y ∈ A ∨ Y ∈ C) ∨ Y = X := by
  rw [List.mem_append, List.mem_cons]
  constructor
  · rintro (h | h | h)
    · exact .inl (.inl h)
    · exact .inr h
    · exact .inl (.inr h)
  · rintro ((h | h) | h)
    · exact .inl h
    · exact .inr (.inr h)
    · exact .inr (.inl h)
end

section
variable {w0 w w' : World} {n : Nat} {S : Sm} {Xs : List Xm} {mb kk : Nat} {mm m : Bf} {lb ll : Nat} {lf : Lf}
theorem Ser.mem_T {X : Xm} (hX : X ∈ Xs) : X.T ∈ Xs.map Xm.T := List.mem_map.2 ⟨X, hX, rfl⟩
/-- Nothing of it is changed. -/
theorem Ser.keep {F : Nat → Prop} (h : Ser w0 w n S Xs mb kk mm m lb ll lf) (p : Part F w w') (hF : ∀ b, F b → w0.heap.size ≤ b ∧ ∃ cs t z, w.heap[b]? = some (.cells cs t z) ∧ t ≠ 5 ∧ t ≠ 39 ∧ t ≠ 63 ∧ t ≠ 67) : Ser w0 w' n S Xs mb kk mm m lb ll lf := by
  have hsoft : Soft w F := fun b cs t z hb hc => by
    obtain ⟨_, cs', t', z', h1, h2, h3, _⟩ := hF b hb
    rw [hc] at h1
    cases h1
    exact ⟨h2, h3⟩
  have hnm : ∀ {b : Nat}, (∃ es c, w.heap[b]? = some (.map es c)) → ¬ F b := fun {b} ⟨es, c, hm⟩ hb => by
    obtain ⟨_, cs', t', z', h1, _⟩ := hF b hb
    rw [hm] at h1
    cases h1
  have hnt : ∀ {b : Nat} {cs : Array Value} {t : TypeId}, (t = 63 ∨ t = 67) → w.heap[b]? = some (.cells cs t (0, 0)) → ¬ F b := fun {b cs t} ht hc hb => by
    obtain ⟨_, cs', t', z', h1, _, _, h2, h3⟩ := hF b hb
    rw [hc] at h1
    cases h1
    rcases ht with e | e
    · exact h2 e
    · exact h3 e
  have hb5 : ∀ q cs, F q → w.heap[q]? ≠ some (.cells cs 5 (0, 0)) := fun q cs hq e => (hsoft q cs _ _ hq e).1 rfl
  exact ⟨h.sys.keep p ⟨hnt (.inl rfl) h.sys.spc.cel, hnm h.sys.spc.slo.obj, hnm h.sys.spc.loc.obj⟩ (fun T hT => ⟨hnt (.inr rfl) (h.sys.txc T hT).cel, hnm (h.sys.txc T hT).red.obj, hnm (h.sys.txc T hT).wri.obj⟩) (fun b cs hb hc => hnt (.inr rfl) hc hb) (fun b hb => (hF b hb).1),
    h.mod.part p (hnm h.mod.obj) hb5, h.las.part p (hnm h.las.obj), h.syt.kept (fun v xs ho => ho.soft p hsoft), h.lin, h.lnb, fun X hX => (h.xce X hX).part p hsoft (hnm (h.xce X hX).red.obj) (hnm (h.xce X hX).beg.obj), h.xpu, h.nod, h.low, h.ck, h.lsl, h.llk⟩
theorem Ser.below (h : Ser w0 w n S Xs mb kk mm m lb ll lf) (hb : Below w.heap.size w w') : Ser w0 w' n S Xs mb kk mm m lb ll lf := h.keep (F := fun _ => False) (.ofBelow hb) (fun _ h => h.elim)
/-- The model is changed. -/
theorem Ser.put_mod {kk' : Nat} {mm' : Bf} (h : Ser w0 w n S Xs mb kk mm m lb ll lf) (p : Part (fun q => q = mb) w w') (hM : Bm w' kk' mb mm') : Ser w0 w' n S Xs mb kk' mm' m lb ll lf := by
  obtain ⟨n1, n2, n3, n4⟩ := bks_mb h.nod
  have hs := soft_map h.mod.obj
  refine ⟨h.sys.turn p h.mod.obj ⟨n1, n2⟩ (fun T hT => ?_) h.low.1, hM, h.las.part p (fun e => n3 e.symm), h.syt.kept (fun v xs ho => ho.soft p hs), h.lin, h.lnb, fun X hX => (h.xce X hX).part p hs (n4 X hX _ (by simp [Xm.bk])) (n4 X hX _ (by simp [Xm.bk])), h.xpu, h.nod, h.low, h.ck, h.lsl, h.llk⟩
  obtain ⟨X, hX, rfl⟩ := List.mem_map.1 hT
  exact ⟨fun e => n4 X hX _ (by simp [Xm.bk]) e.symm, fun e => n4 X hX _ (by simp [Xm.bk]) e.symm⟩
/-- The last versions are changed. -/
theorem Ser.put_las {ll' : Nat} {lf' : Lf} (h : Ser w0 w n S Xs mb kk mm m lb ll lf) (p : Part (fun q => q = lb) w w') (hM : Lm w' ll' lb lf') (hl : Lin S lf') : Ser w0 w' n S Xs mb kk mm m lb ll' lf' := by
  obtain ⟨n1, n2, n4⟩ := bks_lb h.nod
  have n3 := (bks_mb h.nod).2.2.1
  have hs := soft_map h.las.obj
  refine ⟨h.sys.turn p h.las.obj ⟨n1, n2⟩ (fun T hT => ?_) h.low.2.1, h.mod.part p n3 (fun q cs hq e => (hs q cs _ _ hq e).1 rfl), hM, h.syt.kept (fun v xs ho => ho.soft p hs), hl, h.lnb, fun X hX => (h.xce X hX).part p hs (n4 X hX _ (by simp [Xm.bk])) (n4 X hX _ (by simp [Xm.bk])), h.xpu, h.nod, h.low, h.ck, h.lsl, h.llk⟩
  obtain ⟨X, hX, rfl⟩ := List.mem_map.1 hT
  exact ⟨fun e => n4 X hX _ (by simp [Xm.bk]) e.symm, fun e => n4 X hX _ (by simp [Xm.bk]) e.symm⟩
/-- What a transaction has read is noted. -/
theorem Ser.put_red {A C : List Xm} {X : Xm} {rm' : Bf} (h : Ser w0 w n S (A ++ X :: C) mb kk mm m lb ll lf) (p : Part (fun q => q = X.rb) w w') (hM : Bm w' (n + 1) X.rb rm') (ht : Tin S X.T m rm' X.bg) : Ser w0 w' (n + 1) S (A ++ { X with rm := rm' } :: C) mb kk mm m lb ll lf := by
  have hXm : X ∈ A ++ X :: C := mem_mid.2 (.inr rfl)
  obtain ⟨x1, x2⟩ := bks_x h.nod
  obtain ⟨m1, m2, m3, m4⟩ := bks_mb h.nod
  obtain ⟨l1, l2, l4⟩ := bks_lb h.nod
  have hob := (h.xce X hXm).red.obj
  have hs := soft_map hob
  have hrb : X.rb ∈ X.bk := by simp [Xm.bk]
  have hb5 : ∀ q cs, q = X.rb → w.heap[q]? ≠ some (.cells cs 5 (0, 0)) := fun q cs hq e => (hs q cs _ _ hq e).1 rfl
  have hx1 : X.T.rd ≠ X.rb ∧ X.T.wr ≠ X.rb ∧ X.bb ≠ X.rb := by
    unfold Xm.bk at x1
    simp only [List.nodup_cons, List.mem_cons, not_or, List.not_mem_nil, or_false] at x1
    exact ⟨x1.1.2.1, x1.2.1.1, fun e => x1.2.2.1 e.symm⟩
  have hx := h.xce X hXm
  have hsys : Sys w0 w' S ((A ++ X :: C).map Xm.T) := by
    refine h.sys.turn p hob ⟨(bks_sl h.nod hXm hrb).1, (bks_sl h.nod hXm hrb).2⟩ (fun T hT => ?_) (h.low.2.2 X hXm)
    obtain ⟨Y, hY, rfl⟩ := List.mem_map.1 hT
    rcases mem_mid.1 hY with hY | rfl
    · exact ⟨fun e => x2 Y hY _ (by simp [Xm.bk]) _ hrb e.symm, fun e => x2 Y hY _ (by simp [Xm.bk]) _ hrb e.symm⟩
    · exact ⟨fun e => hx1.1 e.symm, fun e => hx1.2.1 e.symm⟩
  refine ⟨?_, h.mod.part p (fun e => m4 X hXm _ hrb e.symm) hb5, h.las.part p (fun e => l4 X hXm _ hrb e.symm), h.syt.kept (fun v xs ho => ho.soft p hs), h.lin, h.lnb, fun Y hY => ?_, fun Y hY => ?_, ?_, ⟨h.low.1, h.low.2.1, fun Y hY => ?_⟩, ⟨h.ck.1, Int.le_trans h.ck.2 (by omega)⟩, by have := h.lsl; omega, by have := h.llk; omega⟩
  · rw [List.map_append, List.map_cons] at hsys ⊢
    exact hsys
  · rcases mem_mid.1 hY with hY | rfl
    · exact ((h.xce Y (mem_mid.2 (.inl hY))).part p hs (x2 Y hY _ (by simp [Xm.bk]) _ hrb) (x2 Y hY _ (by simp [Xm.bk]) _ hrb)).le (by omega)
    · exact ⟨(p.block _ (Array.getElem?_eq_some_iff.1 hx.cel).1 (fun hq => (hs _ _ _ _ hq hx.cel).2 rfl)).trans hx.cel, hM, (hx.beg.part p hx1.2.2 hb5).le (by omega), hx.byt.kept (fun v xs ho => ho.soft p hs)⟩
  · rcases mem_mid.1 hY with hY | rfl
    · exact (h.xpu Y (mem_mid.2 (.inl hY))).le (by omega)
    · have hp := (h.xpu X hXm).le (n' := n + 1) (by omega)
      exact ⟨ht, hp.lrd, hp.lwr, hp.lnb⟩
  · have e := bks_same (S := S) (S' := S) (A := A) (C := C) (X := X) (X' := { X with rm := rm' }) (mb := mb) (lb := lb) ⟨rfl, rfl, rfl⟩ rfl
    rw [e]
    exact h.nod
  · rcases mem_mid.1 hY with hY | rfl
    · exact h.low.2.2 Y (mem_mid.2 (.inl hY))
    · exact h.low.2.2 X hXm
/-- A call of one transaction: what it leaves of all that is not the space's or its own. -/
theorem Ser.off {A C : List Xm} {X X' : Xm} {S' : Sm} {m' : Bf} {n' : Nat} (h : Ser w0 w n S (A ++ X :: C) mb kk mm m lb ll lf) (hn : n ≤ n') (hs : Sys w0 w' S' (A.map Xm.T ++ X'.T :: C.map Xm.T)) (hO : Off S X.T w w') (eS : SameS S S') (eT : SameB X.T X'.T) (eX : X'.sn = X.sn ∧ X'.rb = X.rb ∧ X'.bb = X.bb ∧ X'.rm = X.rm ∧ X'.bg = X.bg)
    (hby : Byt w' X'.T.writes X'.wm) (hsy : Syt w' S' m') (hlin : Lin S' lf) (hlnb : Lnb m') (hY : ∀ Y, Y ∈ A ∨ Y ∈ C → Tin S' Y.T m' Y.rm Y.bg) (hX : Xpu n' S' m' X') (hck : 0 ≤ S'.clock ∧ S'.clock ≤ n') (hlsl : S'.slots.length ≤ n' * 400) (hllk : S'.locks.length ≤ n' * 400) : Ser w0 w' n' S' (A ++ X' :: C) mb kk mm m' lb ll lf := by
  have hXm : X ∈ A ++ X :: C := mem_mid.2 (.inr rfl)
  have hTm : X.T ∈ (A ++ X :: C).map Xm.T := Ser.mem_T hXm
  obtain ⟨x1, x2⟩ := bks_x h.nod
  obtain ⟨m1, m2, m3, m4⟩ := bks_mb h.nod
  obtain ⟨l1, l2, l4⟩ := bks_lb h.nod
  have hso := soft_off h.sys hTm
  have hb5 : ∀ q cs, (S.own q ∨ X.T.own q) → w.heap[q]? ≠ some (.cells cs 5 (0, 0)) := fun q cs hq e => (hso q cs _ _ hq e).1 rfl
  have hrd : X.T.rd ∈ X.bk := by simp [Xm.bk]
  have hwr : X.T.wr ∈ X.bk := by simp [Xm.bk]
  have hx := h.xce X hXm
  have hx1 : X.rb ≠ X.T.rd ∧ X.rb ≠ X.T.wr ∧ X.bb ≠ X.T.rd ∧ X.bb ≠ X.T.wr := by
    unfold Xm.bk at x1
    simp only [List.nodup_cons, List.mem_cons, not_or, List.not_mem_nil, or_false] at x1
    exact ⟨fun e => x1.1.2.1 e.symm, fun e => x1.2.1.1 e.symm, fun e => x1.1.2.2 e.symm, fun e => x1.2.1.2 e.symm⟩
  obtain ⟨e1, e2, e3, e4, e5⟩ := eX
  have hXrb : ¬ (S.own X.rb ∨ X.T.own X.rb) := off_not h.sys hTm hx.red.obj (bks_sl h.nod hXm (by simp [Xm.bk])).1 (bks_sl h.nod hXm (by simp [Xm.bk])).2 hx1.1 hx1.2.1
  have hXbb : ¬ (S.own X.bb ∨ X.T.own X.bb) := off_not h.sys hTm hx.beg.obj (bks_sl h.nod hXm (by simp [Xm.bk])).1 (bks_sl h.nod hXm (by simp [Xm.bk])).2 hx1.2.2.1 hx1.2.2.2
  refine ⟨?_, h.mod.part hO (off_not h.sys hTm h.mod.obj m1 m2 (fun e => m4 X hXm _ hrd e.symm) (fun e => m4 X hXm _ hwr e.symm)) hb5, h.las.part hO (off_not h.sys hTm h.las.obj l1 l2 (fun e => l4 X hXm _ hrd e.symm) (fun e => l4 X hXm _ hwr e.symm)), hsy, hlin, hlnb, fun Y hY' => ?_, fun Y hY' => ?_, ?_, ⟨h.low.1, h.low.2.1, fun Y hY' => ?_⟩, hck, hlsl, hllk⟩
  · rw [List.map_append, List.map_cons]; exact hs
  · rcases mem_mid.1 hY' with hY' | rfl
    · have hYm := mem_mid (X := X).2 (.inl hY')
      have hy := h.xce Y hYm
      refine (hy.part hO hso (off_not h.sys hTm hy.red.obj (bks_sl h.nod hYm (by simp [Xm.bk])).1 (bks_sl h.nod hYm (by simp [Xm.bk])).2 (x2 Y hY' _ (by simp [Xm.bk]) _ hrd) (x2 Y hY' _ (by simp [Xm.bk]) _ hwr)) (off_not h.sys hTm hy.beg.obj (bks_sl h.nod hYm (by simp [Xm.bk])).1 (bks_sl h.nod hYm (by simp [Xm.bk])).2 (x2 Y hY' _ (by simp [Xm.bk]) _ hrd) (x2 Y hY' _ (by simp [Xm.bk]) _ hwr))).le hn
    · refine ⟨?_, ?_, ?_, hby⟩
      · rw [e1, e2, e3, eT.1]
        exact (hO.block _ (Array.getElem?_eq_some_iff.1 hx.cel).1 (fun hq => (hso _ _ _ _ hq hx.cel).2 rfl)).trans hx.cel
      · rw [e2, e4]; exact (hx.red.part hO hXrb hb5).le hn
      · rw [e3, e5]; exact (hx.beg.part hO hXbb hb5).le (by omega)
  · rcases mem_mid.1 hY' with hY' | rfl
    · have hp := (h.xpu Y (mem_mid.2 (.inl hY'))).le hn
      exact ⟨hY Y hY', hp.lrd, hp.lwr, hp.lnb⟩
    · exact hX
  · have e := bks_same (S := S) (S' := S') (A := A) (C := C) (X := X) (X' := X') (mb := mb) (lb := lb) eS (by unfold Xm.bk; rw [eT.2.1, eT.2.2, e2, e3])
    rw [e]
    exact h.nod
  · rcases mem_mid.1 hY' with hY' | rfl
    · exact h.low.2.2 Y (mem_mid.2 (.inl hY'))
    · rw [e2]; exact h.low.2.2 X hXm
/-- Only locks and the phase are changed. -/
theorem Ser.locks {A C : List Xm} {X : Xm} {L : List El} {p : Int} {n' : Nat} (h : Ser w0 w n S (A ++ X :: C) mb kk mm m lb ll lf) (hn : n ≤ n') (hs : Sys w0 w' { S with locks := L } (A.map Xm.T ++ { X.T with ph := p } :: C.map Xm.T)) (hO : Off S X.T w w') (hL : L.length ≤ n' * 400) : Ser w0 w' n' { S with locks := L } (A ++ { X with T := { X.T with ph := p } } :: C) mb kk mm m lb ll lf := by
  have hXm : X ∈ A ++ X :: C := mem_mid.2 (.inr rfl)
  have hTm : X.T ∈ (A ++ X :: C).map Xm.T := Ser.mem_T hXm
  have hso := soft_off h.sys hTm
  have hp := (h.xpu X hXm).le hn
  refine h.off (X' := { X with T := { X.T with ph := p } }) (S' := { S with locks := L }) hn hs hO ⟨rfl, rfl, rfl⟩ ⟨rfl, rfl, rfl⟩ ⟨rfl, rfl, rfl, rfl, rfl⟩ ((h.xce X hXm).byt.kept (fun v xs ho => ho.soft hO hso)) ((h.syt.kept (fun v xs ho => ho.soft hO hso)).locks L) (h.lin.locks L) h.lnb (fun Y hY => ((h.xpu Y (mem_mid.2 (.inl hY))).tin).locks L) ⟨hp.tin.lock L p _, hp.lrd, hp.lwr, hp.lnb⟩ ⟨h.ck.1, Int.le_trans h.ck.2 (by omega)⟩ (by have := h.lsl; show S.slots.length ≤ _; omega) hL
end
end Go.Proofs.Ytdackomidfofgaa
