/-
  A space with transactions beside one another (Sys): what a call of one of them leaves of all.
-/
import Derived.Test.YtdackomidfofgaaStO
namespace Go.Proofs.Ytdackomidfofgaa
open Go.RowKit Go.Maps
set_option linter.unusedVariables false
set_option maxRecDepth 100000
set_option maxHeartbeats 2000000

/-- Two transactions have no block in common. -/
def Dis (T U : Tm) : Prop := T.t ≠ U.t ∧ T.rd ≠ U.rd ∧ T.rd ≠ U.wr ∧ T.wr ≠ U.rd ∧ T.wr ≠ U.wr
theorem Dis.symm {T U : Tm} (h : Dis T U) : Dis U T := ⟨h.1.symm, h.2.1.symm, h.2.2.2.1.symm, h.2.2.1.symm, h.2.2.2.2.symm⟩
def SameB (T T' : Tm) : Prop := T'.t = T.t ∧ T'.rd = T.rd ∧ T'.wr = T.wr
def SameS (S S' : Sm) : Prop := S'.sp = S.sp ∧ S'.sl = S.sl ∧ S'.lk = S.lk
structure Sys (w w' : World) (S : Sm) (Ts : List Tm) : Prop where
  spc : Spc w' S
  txc : ∀ T ∈ Ts, Txc w' S T
  dis : Ts.Pairwise Dis
  B : Below w.heap.size w w'
  lowS : w.heap.size ≤ S.sp ∧ w.heap.size ≤ S.sl ∧ w.heap.size ≤ S.lk
  lowT : ∀ T ∈ Ts, w.heap.size ≤ T.t ∧ w.heap.size ≤ T.rd ∧ w.heap.size ≤ T.wr
theorem Txc.frame {F : Nat → Prop} {w w' : World} {S S' : Sm} {T U : Tm} (hS : Spc w S) (hT : Txc w S T) (hU : Txc w S U) (p : Part F w w') (hF : ∀ b, F b → S.own b ∨ U.own b) (d : Dis T U) (e : SameS S S') : Txc w' S' T := by
  obtain ⟨a3, a4, a5, a6, a7⟩ := Txc.apart hS hT
  obtain ⟨b3, b4, b5, b6, b7⟩ := Txc.apart hS hU
  have hnm : ∀ b L, Mp w b L → ∀ c cs t, w.heap[c]? = some (.cells cs t (0, 0)) → b ≠ c := fun b L hm c cs t hc e => by
    obtain ⟨es, k, ho⟩ := hm.obj
    rw [e, hc] at ho
    cases ho
  have hno : ¬ F T.t ∧ ¬ F T.rd ∧ ¬ F T.wr := by
    refine ⟨fun h => ?_, fun h => ?_, fun h => ?_⟩
    · rcases hF _ h with (h | h | h) | (h | h | h)
      · exact a5 h
      · exact a3 h
      · exact a4 h
      · exact d.1 h
      · exact hnm _ _ hU.red _ _ _ hT.cel h.symm
      · exact hnm _ _ hU.wri _ _ _ hT.cel h.symm
    · rcases hF _ h with (h | h | h) | (h | h | h)
      · exact hnm _ _ hT.red _ _ _ hS.cel h
      · exact hT.ne.2.1 h
      · exact hT.ne.2.2.1 h
      · exact hnm _ _ hT.red _ _ _ hU.cel h
      · exact d.2.1 h
      · exact d.2.2.1 h
    · rcases hF _ h with (h | h | h) | (h | h | h)
      · exact hnm _ _ hT.wri _ _ _ hS.cel h
      · exact hT.ne.2.2.2.1 h
      · exact hT.ne.2.2.2.2 h
      · exact hnm _ _ hT.wri _ _ _ hU.cel h
      · exact d.2.2.2.1 h
      · exact d.2.2.2.2 h
  have h1 := hT.part p hno
  exact ⟨by rw [e.1]; exact h1.cel, h1.red, h1.wri, by rw [e.2.1, e.2.2]; exact h1.ne⟩
theorem Sys.step {F : Nat → Prop} {w w1 w2 : World} {S S' : Sm} {A C : List Tm} {T T' : Tm} (h : Sys w w1 S (A ++ T :: C)) (hp : Part F w1 w2) (hF : ∀ b, F b → S.own b ∨ T.own b) (hS : Spc w2 S') (hT : Txc w2 S' T') (eS : SameS S S') (eT : SameB T T') : Sys w w2 S' (A ++ T' :: C) := by
  have hTm : T ∈ A ++ T :: C := List.mem_append_right _ (List.mem_cons_self ..)
  have hd := List.pairwise_append.1 h.dis
  have hd2 := List.pairwise_cons.1 hd.2.1
  have hdA : ∀ X ∈ A, Dis X T := fun X hX => hd.2.2 X hX T (List.mem_cons_self ..)
  have hdC : ∀ X ∈ C, Dis X T := fun X hX => (hd2.1 X hX).symm
  have hmem : ∀ X ∈ A ++ T' :: C, X = T' ∨ (X ∈ A ++ T :: C ∧ Dis X T) := fun X hX => by
    rcases List.mem_append.1 hX with hX | hX
    · exact .inr ⟨List.mem_append_left _ hX, hdA X hX⟩
    · rcases List.mem_cons.1 hX with hX | hX
      · exact .inl hX
      · exact .inr ⟨List.mem_append_right _ (List.mem_cons_of_mem _ hX), hdC X hX⟩
  have dis' : ∀ {X : Tm}, Dis X T → Dis X T' := fun d => ⟨by rw [eT.1]; exact d.1, by rw [eT.2.1]; exact d.2.1, by rw [eT.2.2]; exact d.2.2.1, by rw [eT.2.1]; exact d.2.2.2.1, by rw [eT.2.2]; exact d.2.2.2.2⟩
  have hlow := h.lowT T hTm
  refine ⟨hS, fun X hX => ?_, List.pairwise_append.2 ⟨hd.1, List.pairwise_cons.2 ⟨fun X hX => (dis' (hdC X hX)).symm, hd2.2⟩, fun X hX Y hY => ?_⟩, h.B.trans (hp.below (fun b hb => ?_) h.B.size), by rw [eS.1, eS.2.1, eS.2.2]; exact h.lowS, fun X hX => ?_⟩
  · rcases hmem X hX with rfl | ⟨hX, hd⟩
    · exact hT
    · exact Txc.frame h.spc (h.txc X hX) (h.txc T hTm) hp hF hd eS
  · rcases List.mem_cons.1 hY with rfl | hY
    · exact dis' (hdA X hX)
    · exact hd.2.2 X hX Y (List.mem_cons_of_mem _ hY)
  · rcases hF b hb with (e | e | e) | (e | e | e)
    · rw [e]; exact h.lowS.1
    · rw [e]; exact h.lowS.2.1
    · rw [e]; exact h.lowS.2.2
    · rw [e]; exact hlow.1
    · rw [e]; exact hlow.2.1
    · rw [e]; exact hlow.2.2
  · rcases hmem X hX with rfl | ⟨hX, _⟩
    · rw [eT.1, eT.2.1, eT.2.2]; exact hlow
    · exact h.lowT X hX
theorem Sys.below {w w1 w2 : World} {S : Sm} {Ts : List Tm} (h : Sys w w1 S Ts) (hb : Below w1.heap.size w1 w2) : Sys w w2 S Ts :=
  ⟨h.spc.below hb, fun T hT => (h.txc T hT).below hb, h.dis, h.B.trans (hb.mono h.B.size), h.lowS, h.lowT⟩
theorem Sys.at {w w1 : World} {S : Sm} {A C : List Tm} {T : Tm} (h : Sys w w1 S (A ++ T :: C)) : Txc w1 S T := h.txc T (List.mem_append_right _ (List.mem_cons_self ..))
theorem k_begin {w w1 : World} {S : Sm} {Ts : List Tm} (h : Sys w w1 S Ts) : Calls Try.prog 8 #[.pointer (some ⟨S.sp, 0, none⟩)] w1 fun e w' => ∃ t, e = .returned (.tuple #[.pointer (some ⟨t, 0, none⟩), .int .i64 0]) ∧ Hid (∃ rd wr, Sys w w' S (⟨t, rd, wr, S.clock, [], [], 0⟩ :: Ts)) :=
  (s_begin h.spc).mono fun e w' ⟨t, he, hh⟩ => ⟨t, he, by
    obtain ⟨rd, wr, hT, hb, l1, l2, l3⟩ := hh.out
    have hB := h.B.size
    have h' := h.below hb
    refine ⟨rd, wr, h'.spc, fun X hX => ?_, List.pairwise_cons.2 ⟨fun X hX => ?_, h.dis⟩, h'.B, h.lowS, fun X hX => ?_⟩
    · rcases List.mem_cons.1 hX with rfl | hX
      · exact hT
      · exact h'.txc X hX
    · have k := (h.txc X hX).lts
      obtain ⟨k1, k2, k3⟩ := k
      exact ⟨by show t ≠ X.t; omega, by show rd ≠ X.rd; omega, by show rd ≠ X.wr; omega, by show wr ≠ X.rd; omega, by show wr ≠ X.wr; omega⟩
    · rcases List.mem_cons.1 hX with rfl | hX
      · exact ⟨by show w.heap.size ≤ t; omega, by show w.heap.size ≤ rd; omega, by show w.heap.size ≤ wr; omega⟩
      · exact h.lowT X hX⟩
theorem k_end {w w1 w2 : World} {S : Sm} {A C : List Tm} {T : Tm} {p : Int} (h : Sys w w1 S (A ++ T :: C)) (hE : Ended w1 S T p w2) : ∃ L, (∀ x ∈ L, x ∈ S.locks) ∧ Fr S.locks T.t T.writes L ∧ Sys w w2 { S with locks := L } (A ++ { T with ph := p } :: C) := by
  obtain ⟨L, k1, k2, k3, k4, k5⟩ := hE
  exact ⟨L, k1, k2, h.step k5 (fun b hb => hb.elim (fun e => .inl (.inr (.inr e))) (fun e => .inr (.inl e))) k3 k4 ⟨rfl, rfl, rfl⟩ ⟨rfl, rfl, rfl⟩⟩
theorem k_put {w w1 : World} {S : Sm} {A C : List Tm} {T : Tm} (h : Sys w w1 S (A ++ T :: C)) (s : ByteArray) (hs : s.size ≤ maxLen) (a0 : Option Addr) (n c : Nat) (f : Nat → Int) (hf : From w a0 n f) (hn : n ≤ 140737488355328) (hl : T.writes.length ≤ 1099511627776) (hr : rn T.ph s = 0) :
    Calls Try.prog 16 #[.pointer (some ⟨T.t, 0, none⟩), .string s, .slice a0 n c] w1 fun e w' => e = .returned (.int .i64 0) ∧ Hid (∃ x : Eb, x.ky = s.data.toList ∧ Sys w w' S (A ++ { T with writes := putT Eb.ky T.writes x } :: C)) :=
  (t_put h.spc h.at s hs a0 n c f (hf.below h.B (Nat.le_refl _)) hn hl hr).mono fun e w' ⟨he, hh⟩ => ⟨he, by
    obtain ⟨x, k1, k2, k3, k4, k5, k6⟩ := hh.out
    exact ⟨x, k1, h.step k6 (fun b hb => .inr (.inr (.inr hb))) k2 k3 ⟨rfl, rfl, rfl⟩ ⟨rfl, rfl, rfl⟩⟩⟩
theorem k_lock {w w1 : World} {S : Sm} {A C : List Tm} {T : Tm} (h : Sys w w1 S (A ++ T :: C)) (hl : T.writes.length ≤ 1099511627776) (hll : S.locks.length ≤ 1099511627776) (hp0 : T.ph = 0) :
    Calls Try.prog 17 #[.pointer (some ⟨T.t, 0, none⟩)] w1 fun e w' => (tks S T = true → e = .returned (.int .i64 180) ∧ Hid (∃ L, (∀ x ∈ L, x ∈ S.locks) ∧ Fr S.locks T.t T.writes L ∧ Sys w w' { S with locks := L } (A ++ { T with ph := 4 } :: C))) ∧ (tks S T = false → e = .returned (.int .i64 0) ∧ Hid (∃ L, Lkd S.locks T.t T.writes L ∧ Sys w w' { S with locks := L } (A ++ { T with ph := 1 } :: C))) :=
  (t_lock h.spc h.at hl hll hp0).mono fun e w' ⟨h1, h2⟩ => ⟨fun ht => ⟨(h1 ht).1, k_end h (h1 ht).2.out⟩, fun ht => ⟨(h2 ht).1, by
    obtain ⟨L, k1, k2, k3, k4⟩ := (h2 ht).2.out
    exact ⟨L, k1, h.step k4 (fun b hb => hb.elim (fun e => .inl (.inr (.inr e))) (fun e => .inr (.inl e))) k2 k3 ⟨rfl, rfl, rfl⟩ ⟨rfl, rfl, rfl⟩⟩⟩⟩
theorem k_get_clash {w w1 : World} {S : Sm} {A C : List Tm} {T : Tm} (h : Sys w w1 S (A ++ T :: C)) (s : ByteArray) (hs : s.size ≤ maxLen) (hl : T.writes.length ≤ 1099511627776) (hr : rn T.ph s = 0) (hx : fnd Eb.ky T.writes s.data.toList = none) (hst : sty S T s.data.toList = true) :
    Calls Try.prog 14 #[.pointer (some ⟨T.t, 0, none⟩), .string s] w1 fun e w' => e = .returned (.tuple #[.slice none 0 0, .int .i64 180]) ∧ Hid (∃ L, (∀ x ∈ L, x ∈ S.locks) ∧ Fr S.locks T.t T.writes L ∧ Sys w w' { S with locks := L } (A ++ { T with ph := 4 } :: C)) :=
  (t_get_clash h.spc h.at s hs hl hr hx hst).mono fun e w' ⟨he, hE⟩ => ⟨he, k_end h hE.out⟩
theorem k_get {w w1 : World} {S : Sm} {A C : List Tm} {T : Tm} (h : Sys w w1 S (A ++ T :: C)) (s : ByteArray) (hs : s.size ≤ maxLen) (hlr : T.reads.length ≤ 1099511627776) (hr : rn T.ph s = 0) (hx : fnd Eb.ky T.writes s.data.toList = none) (hst : sty S T s.data.toList = false) (f : Nat → Int) (hf : From w1 (slt S s.data.toList).2.1 (slt S s.data.toList).2.2.1 f) (hn : (slt S s.data.toList).2.2.1 ≤ 140737488355328) :
    Calls Try.prog 14 #[.pointer (some ⟨T.t, 0, none⟩), .string s] w1 fun e w' => ∃ v, e = .returned (.tuple #[v, .int .i64 0]) ∧ Own w' w1.heap.size v (lst f (slt S s.data.toList).2.2.1) ∧ Hid (∃ y : Eu, y.ky = s.data.toList ∧ Sys w w' S (A ++ { T with reads := putT Eu.ky T.reads y } :: C)) :=
  (t_get h.spc h.at s hs hlr hr hx hst f hf hn).mono fun e w' ⟨v, he, ho, hh⟩ => ⟨v, he, ho, by
    obtain ⟨y, k1, k2, k3, k4⟩ := hh.out
    exact ⟨y, k1, h.step k4 (fun b hb => .inr (.inr (.inl hb))) k2 k3 ⟨rfl, rfl, rfl⟩ ⟨rfl, rfl, rfl⟩⟩⟩
theorem k_abort {w w1 : World} {S : Sm} {A C : List Tm} {T : Tm} (h : Sys w w1 S (A ++ T :: C)) (hl : T.writes.length ≤ 1099511627776) (hp : T.ph ∈ [(0 : Int), 1, 2]) :
    Calls Try.prog 25 #[.pointer (some ⟨T.t, 0, none⟩)] w1 fun e w' => e = .returned (.int .i64 0) ∧ Hid (∃ L, (∀ x ∈ L, x ∈ S.locks) ∧ Fr S.locks T.t T.writes L ∧ Sys w w' { S with locks := L } (A ++ { T with ph := 4 } :: C)) :=
  (t_abort h.spc h.at hl).mono fun e w' ⟨h1, _⟩ => ⟨(h1 hp).1, k_end h (h1 hp).2.out⟩
theorem k_check {w w1 : World} {S : Sm} {A C : List Tm} {T : Tm} (h : Sys w w1 S (A ++ T :: C)) (hl : T.writes.length ≤ 1099511627776) (hlr : T.reads.length ≤ 1099511627776) (hp0 : T.ph ∈ [(1 : Int), 2]) :
    Calls Try.prog 19 #[.pointer (some ⟨T.t, 0, none⟩)] w1 fun e w' => (stl S T = true → e = .returned (.int .i64 180) ∧ Hid (∃ L, (∀ x ∈ L, x ∈ S.locks) ∧ Fr S.locks T.t T.writes L ∧ Sys w w' { S with locks := L } (A ++ { T with ph := 4 } :: C))) ∧ (stl S T = false → e = .returned (.int .i64 0) ∧ Hid (Sys w w' S (A ++ { T with ph := 2 } :: C))) :=
  (t_check h.spc h.at hl hlr hp0).mono fun e w' ⟨h1, h2⟩ => ⟨fun ht => ⟨(h1 ht).1, k_end h (h1 ht).2.out⟩, fun ht => ⟨(h2 ht).1, by
    obtain ⟨k2, k3, k4⟩ := (h2 ht).2.out
    exact h.step k4 (fun b hb => .inr (.inl hb)) k2 k3 ⟨rfl, rfl, rfl⟩ ⟨rfl, rfl, rfl⟩⟩⟩
theorem k_publish {w w1 : World} {S : Sm} {A C : List Tm} {T : Tm} (h : Sys w w1 S (A ++ T :: C)) (hl : T.writes.length ≤ 1099511627776) (hlr : T.reads.length ≤ 1099511627776) (hls : S.slots.length ≤ 1125899906842624) (hc0 : 0 ≤ S.clock) (hc1 : S.clock < 1099511627776) (hp0 : T.ph = 2) :
    Calls Try.prog 20 #[.pointer (some ⟨T.t, 0, none⟩)] w1 fun e w' => (stl S T = true → e = .returned (.int .i64 180) ∧ Hid (∃ L, (∀ x ∈ L, x ∈ S.locks) ∧ Fr S.locks T.t T.writes L ∧ Sys w w' { S with locks := L } (A ++ { T with ph := 4 } :: C))) ∧ (stl S T = false → e = .returned (.int .i64 0) ∧ Hid (∃ SL L, Pub S.slots (clk S T) T.writes SL ∧ (∀ x ∈ L, x ∈ S.locks) ∧ Fr S.locks T.t T.writes L ∧ Sys w w' { S with clock := clk S T, slots := SL, locks := L } (A ++ { T with ph := 3 } :: C))) :=
  (t_publish h.spc h.at hl hlr hls hc0 hc1 hp0).mono fun e w' ⟨h1, h2⟩ => ⟨fun ht => ⟨(h1 ht).1, k_end h (h1 ht).2.out⟩, fun ht => ⟨(h2 ht).1, by
    obtain ⟨SL, L, k1, k2, k3, k4, k5, k6⟩ := (h2 ht).2.out
    exact ⟨SL, L, k1, k2, k3, h.step k6 (fun b hb => hb.elim .inl (fun e => .inr (.inl e))) k4 k5 ⟨rfl, rfl, rfl⟩ ⟨rfl, rfl, rfl⟩⟩⟩⟩
end Go.Proofs.Ytdackomidfofgaa
