/-
  A space with transactions (Sys), and what a call of one of them leaves of all that is not theirs (Off).
-/
import Derived.Test.YtdackomidfofgaaStAb
namespace Go.Proofs.Ytdackomidfofgaa
open Go.RowKit Go.Maps
set_option linter.unusedVariables false
set_option maxRecDepth 100000
set_option maxHeartbeats 2000000

/-- No block was changed but those of the space and of one transaction. -/
def Off (S : Sm) (T : Tm) (w w' : World) : Prop := Part (fun b => S.own b ∨ T.own b) w w'
theorem Off.below {S : Sm} {T : Tm} {w w' : World} (h : Below w.heap.size w w') : Off S T w w' := .ofBelow h
/-- None of them holds bytes. -/
theorem Off.bytes {w0 w w' : World} {S : Sm} {Ts : List Tm} {T : Tm} (h : Sys w0 w S Ts) (hT : T ∈ Ts) (hO : Off S T w w') {B : Nat} {v : Value} {xs : List Int} (ho : Own w B v xs) : Own w' B v xs := by
  refine Part.row hO ho (fun q hq hf => ?_)
  obtain ⟨cur, hc, _⟩ := row_ty ho hq
  have hnm : ∀ L, ¬ Mp w q L := fun L hm => by
    obtain ⟨es, k, hob⟩ := hm.obj
    rw [hob] at hc
    cases hc
  have hx := h.txc T hT
  rcases hf with (e | e | e) | (e | e | e)
  · have := h.spc.cel
    rw [← e, hc] at this
    injection this with this
    injection this with _ this
    exact absurd this (by decide)
  · exact hnm _ (e ▸ h.spc.slo)
  · exact hnm _ (e ▸ h.spc.loc)
  · have := hx.cel
    rw [← e, hc] at this
    injection this with this
    injection this with _ this
    exact absurd this (by decide)
  · exact hnm _ (e ▸ hx.red)
  · exact hnm _ (e ▸ hx.wri)
theorem o_end {w w1 w2 : World} {S : Sm} {A C : List Tm} {T : Tm} {p : Int} (h : Sys w w1 S (A ++ T :: C)) (hE : Ended w1 S T p w2) : ∃ L, (∀ x ∈ L, x ∈ S.locks) ∧ Fr S.locks T.t T.writes L ∧ Sys w w2 { S with locks := L } (A ++ { T with ph := p } :: C) ∧ Off S T w1 w2 := by
  obtain ⟨L, k1, k2, k3, k4, k5⟩ := hE
  have hF : ∀ b, (b = S.lk ∨ b = T.t) → S.own b ∨ T.own b := fun b hb => hb.elim (fun e => .inl (.inr (.inr e))) (fun e => .inr (.inl e))
  exact ⟨L, k1, k2, h.step k5 hF k3 k4 ⟨rfl, rfl, rfl⟩ ⟨rfl, rfl, rfl⟩, k5.mono (fun b _ hb => hF b hb)⟩
theorem o_put {w w1 : World} {S : Sm} {A C : List Tm} {T : Tm} (h : Sys w w1 S (A ++ T :: C)) (s : ByteArray) (hs : s.size ≤ maxLen) (a0 : Option Addr) (n c : Nat) (f : Nat → Int) (hf : From w1 a0 n f) (hn : n ≤ 140737488355328) (hl : T.writes.length ≤ 1099511627776) (hr : rn T.ph s = 0) :
    Calls Try.prog 16 #[.pointer (some ⟨T.t, 0, none⟩), .string s, .slice a0 n c] w1 fun e w' => e = .returned (.int .i64 0) ∧ Hid (∃ x : Eb, x.ky = s.data.toList ∧ Own w' 0 x.vl (lst f n) ∧ Sys w w' S (A ++ { T with writes := putT Eb.ky T.writes x } :: C) ∧ Off S T w1 w') :=
  (t_put h.spc h.at s hs a0 n c f hf hn hl hr).mono fun e w' ⟨he, hh⟩ => ⟨he, by
    obtain ⟨x, k1, k2, k3, k4, k5, k6⟩ := hh.out
    exact ⟨x, k1, k4.mono (Nat.zero_le _), h.step k6 (fun b hb => .inr (.inr (.inr hb))) k2 k3 ⟨rfl, rfl, rfl⟩ ⟨rfl, rfl, rfl⟩, k6.mono (fun b _ hb => .inr (.inr (.inr hb)))⟩⟩
theorem o_lock {w w1 : World} {S : Sm} {A C : List Tm} {T : Tm} (h : Sys w w1 S (A ++ T :: C)) (hl : T.writes.length ≤ 1099511627776) (hll : S.locks.length ≤ 1099511627776) (hp0 : T.ph = 0) :
    Calls Try.prog 17 #[.pointer (some ⟨T.t, 0, none⟩)] w1 fun e w' => (tks S T = true → e = .returned (.int .i64 180) ∧ Hid (∃ L, (∀ x ∈ L, x ∈ S.locks) ∧ Fr S.locks T.t T.writes L ∧ Sys w w' { S with locks := L } (A ++ { T with ph := 4 } :: C) ∧ Off S T w1 w')) ∧ (tks S T = false → e = .returned (.int .i64 0) ∧ Hid (∃ L, Lkd S.locks T.t T.writes L ∧ Sys w w' { S with locks := L } (A ++ { T with ph := 1 } :: C) ∧ Off S T w1 w')) :=
  (t_lock h.spc h.at hl hll hp0).mono fun e w' ⟨h1, h2⟩ => ⟨fun ht => ⟨(h1 ht).1, o_end h (h1 ht).2.out⟩, fun ht => ⟨(h2 ht).1, by
    obtain ⟨L, k1, k2, k3, k4⟩ := (h2 ht).2.out
    have hF : ∀ b, (b = S.lk ∨ b = T.t) → S.own b ∨ T.own b := fun b hb => hb.elim (fun e => .inl (.inr (.inr e))) (fun e => .inr (.inl e))
    exact ⟨L, k1, h.step k4 hF k2 k3 ⟨rfl, rfl, rfl⟩ ⟨rfl, rfl, rfl⟩, k4.mono (fun b _ hb => hF b hb)⟩⟩⟩
theorem o_get_clash {w w1 : World} {S : Sm} {A C : List Tm} {T : Tm} (h : Sys w w1 S (A ++ T :: C)) (s : ByteArray) (hs : s.size ≤ maxLen) (hl : T.writes.length ≤ 1099511627776) (hr : rn T.ph s = 0) (hx : fnd Eb.ky T.writes s.data.toList = none) (hst : sty S T s.data.toList = true) :
    Calls Try.prog 14 #[.pointer (some ⟨T.t, 0, none⟩), .string s] w1 fun e w' => e = .returned (.tuple #[.slice none 0 0, .int .i64 180]) ∧ Hid (∃ L, (∀ x ∈ L, x ∈ S.locks) ∧ Fr S.locks T.t T.writes L ∧ Sys w w' { S with locks := L } (A ++ { T with ph := 4 } :: C) ∧ Off S T w1 w') :=
  (t_get_clash h.spc h.at s hs hl hr hx hst).mono fun e w' ⟨he, hE⟩ => ⟨he, o_end h hE.out⟩
theorem o_get {w w1 : World} {S : Sm} {A C : List Tm} {T : Tm} (h : Sys w w1 S (A ++ T :: C)) (s : ByteArray) (hs : s.size ≤ maxLen) (hlr : T.reads.length ≤ 1099511627776) (hr : rn T.ph s = 0) (hx : fnd Eb.ky T.writes s.data.toList = none) (hst : sty S T s.data.toList = false) (f : Nat → Int) (hf : From w1 (slt S s.data.toList).2.1 (slt S s.data.toList).2.2.1 f) (hn : (slt S s.data.toList).2.2.1 ≤ 140737488355328) :
    Calls Try.prog 14 #[.pointer (some ⟨T.t, 0, none⟩), .string s] w1 fun e w' => ∃ v, e = .returned (.tuple #[v, .int .i64 0]) ∧ Own w' w1.heap.size v (lst f (slt S s.data.toList).2.2.1) ∧ Hid (∃ y : Eu, y.ky = s.data.toList ∧ Sys w w' S (A ++ { T with reads := putT Eu.ky T.reads y } :: C) ∧ Off S T w1 w') :=
  (t_get h.spc h.at s hs hlr hr hx hst f hf hn).mono fun e w' ⟨v, he, ho, hh⟩ => ⟨v, he, ho, by
    obtain ⟨y, k1, k2, k3, k4⟩ := hh.out
    exact ⟨y, k1, h.step k4 (fun b hb => .inr (.inr (.inl hb))) k2 k3 ⟨rfl, rfl, rfl⟩ ⟨rfl, rfl, rfl⟩, k4.mono (fun b _ hb => .inr (.inr (.inl hb)))⟩⟩
theorem o_check {w w1 : World} {S : Sm} {A C : List Tm} {T : Tm} (h : Sys w w1 S (A ++ T :: C)) (hl : T.writes.length ≤ 1099511627776) (hlr : T.reads.length ≤ 1099511627776) (hp0 : T.ph ∈ [(1 : Int), 2]) :
    Calls Try.prog 19 #[.pointer (some ⟨T.t, 0, none⟩)] w1 fun e w' => (stl S T = true → e = .returned (.int .i64 180) ∧ Hid (∃ L, (∀ x ∈ L, x ∈ S.locks) ∧ Fr S.locks T.t T.writes L ∧ Sys w w' { S with locks := L } (A ++ { T with ph := 4 } :: C) ∧ Off S T w1 w')) ∧ (stl S T = false → e = .returned (.int .i64 0) ∧ Hid (Sys w w' S (A ++ { T with ph := 2 } :: C) ∧ Off S T w1 w')) :=
  (t_check h.spc h.at hl hlr hp0).mono fun e w' ⟨h1, h2⟩ => ⟨fun ht => ⟨(h1 ht).1, o_end h (h1 ht).2.out⟩, fun ht => ⟨(h2 ht).1, by
    obtain ⟨k2, k3, k4⟩ := (h2 ht).2.out
    exact ⟨h.step k4 (fun b hb => .inr (.inl hb)) k2 k3 ⟨rfl, rfl, rfl⟩ ⟨rfl, rfl, rfl⟩, k4.mono (fun b _ hb => .inr (.inl hb))⟩⟩⟩
theorem o_publish {w w1 : World} {S : Sm} {A C : List Tm} {T : Tm} (h : Sys w w1 S (A ++ T :: C)) (hl : T.writes.length ≤ 1099511627776) (hlr : T.reads.length ≤ 1099511627776) (hls : S.slots.length ≤ 1125899906842624) (hc0 : 0 ≤ S.clock) (hc1 : S.clock < 1099511627776) (hp0 : T.ph = 2) :
    Calls Try.prog 20 #[.pointer (some ⟨T.t, 0, none⟩)] w1 fun e w' => (stl S T = true → e = .returned (.int .i64 180) ∧ Hid (∃ L, (∀ x ∈ L, x ∈ S.locks) ∧ Fr S.locks T.t T.writes L ∧ Sys w w' { S with locks := L } (A ++ { T with ph := 4 } :: C) ∧ Off S T w1 w')) ∧ (stl S T = false → e = .returned (.int .i64 0) ∧ Hid (∃ SL L, Pub S.slots (clk S T) T.writes SL ∧ (∀ x ∈ L, x ∈ S.locks) ∧ Fr S.locks T.t T.writes L ∧ Sys w w' { S with clock := clk S T, slots := SL, locks := L } (A ++ { T with ph := 3 } :: C) ∧ Off S T w1 w')) :=
  (t_publish h.spc h.at hl hlr hls hc0 hc1 hp0).mono fun e w' ⟨h1, h2⟩ => ⟨fun ht => ⟨(h1 ht).1, o_end h (h1 ht).2.out⟩, fun ht => ⟨(h2 ht).1, by
    obtain ⟨SL, L, k1, k2, k3, k4, k5, k6⟩ := (h2 ht).2.out
    have hF : ∀ b, (S.own b ∨ b = T.t) → S.own b ∨ T.own b := fun b hb => hb.elim .inl (fun e => .inr (.inl e))
    exact ⟨SL, L, k1, k2, k3, h.step k6 hF k4 k5 ⟨rfl, rfl, rfl⟩ ⟨rfl, rfl, rfl⟩, k6.mono (fun b _ hb => hF b hb)⟩⟩⟩
end Go.Proofs.Ytdackomidfofgaa
