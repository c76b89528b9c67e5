/-
  What each call of a net answers and leaves, told of the messages alone; the same words for the program's net and the document's.
-/
import Derived.Test.YtbpolfoagmehhaaNtF
import Derived.Test.YtbpolfoagmehhaaNtJ
import Derived.Test.YtbpolfoagmehhaaSpoil
namespace Go.Proofs.Ytbpolfoagmehhaa
open Go.RowKit
set_option linter.unusedVariables false
set_option maxRecDepth 100000
set_option maxHeartbeats 2000000

def inQ (ms : List (List Int)) (i : Int) : Bool := decide (0 ≤ i) && decide (i < (ms.length : Int))
def sE (ms : List (List Int)) (n : Nat) : Int := if 4096 < n then 12 else if ms.length = 64 then 4 else 0
def sM (ms : List (List Int)) (x : List Int) : List (List Int) := if sE ms x.length = 0 then ms ++ [x] else ms
def dE (ms : List (List Int)) (i : Int) : Int := if inQ ms i then 0 else 190
def dM (ms : List (List Int)) (i : Int) : List (List Int) := if inQ ms i then ms.eraseIdx i.toNat else ms
def lX (ms : List (List Int)) (i : Int) : List Int := if inQ ms i then ms.getD i.toNat [] else []
def tE (ms : List (List Int)) (i : Int) : Int := if inQ ms i then (if ms.length = 64 then 4 else 0) else 190
def tM (ms : List (List Int)) (i : Int) : List (List Int) := if tE ms i = 0 then ms ++ [lX ms i] else ms
theorem inQ_yes {zs : List Ms} {i : Int} (h : inQ (zs.map Prod.snd) i = true) : ∃ k : Nat, i = (k : Int) ∧ ∃ hk : k < zs.length, (zs.map Prod.snd).getD i.toNat [] = zs[k].2 := by
  unfold inQ at h
  simp at h
  refine ⟨i.toNat, by omega, by omega, ?_⟩
  rw [List.getD, List.getElem?_map, List.getElem?_eq_getElem (by omega)]
  rfl
theorem inQ_no {zs : List Ms} {i : Int} (h : inQ (zs.map Prod.snd) i = false) : i < 0 ∨ (zs.length : Int) ≤ i := by
  unfold inQ at h
  by_cases h1 : 0 ≤ i
  · simp [h1] at h
    exact .inr h
  · exact .inl (by omega)
/-- A net was changed: it has the messages ms now; each slice is an old one, or lies in new memory. -/
def Chg (w w' : World) (B b : Nat) (s : Bool) (v : Value) (zs : List Ms) (ms : List (List Int)) : Prop :=
  ∃ v' zs', Nt w' B s b v' zs' ∧ Went w w' b v v' ∧ zs'.map Prod.snd = ms ∧ ∀ z ∈ zs', z ∈ zs ∨ ∀ k, z.1.ownBlock = some k → w.heap.size ≤ k
theorem Went.refl {w : World} {b : Nat} {v : Value} : Went w w b v v := ⟨Part.refl _ _, fun k hk => .inl hk⟩
theorem Chg.same {w w' : World} {B b : Nat} {s : Bool} {v : Value} {zs : List Ms} (h : Nt w B s b v zs) (hb : Below w.heap.size w w') : Chg w w' B b s v zs (zs.map Prod.snd) :=
  ⟨v, zs, h.below hb, ⟨Part.ofBelow hb, fun k hk => .inl hk⟩, rfl, fun z hz => .inl hz⟩
theorem Sent.chg {w w' : World} {B b : Nat} {s : Bool} {v : Value} {zs : List Ms} {x : List Int} (h : Sent w w' B b s v zs x) : Chg w w' B b s v zs (zs.map Prod.snd ++ [x]) := by
  obtain ⟨v', m, h1, h2, h3⟩ := h
  refine ⟨v', _, h1, h2, by simp, fun z hz => ?_⟩
  rcases List.mem_append.1 hz with hz | hz
  · exact .inl hz
  · obtain rfl : z = (m, x) := by simpa using hz
    exact .inr h3
theorem Gone.chg {w w' : World} {B b i : Nat} {s : Bool} {v : Value} {zs : List Ms} (h : Gone w w' B b s v zs i) : Chg w w' B b s v zs ((zs.map Prod.snd).eraseIdx i) := by
  obtain ⟨v', h1, h2⟩ := h
  exact ⟨v', _, h1, h2, erase_map _ _ _, fun z hz => .inl (List.mem_of_mem_eraseIdx hz)⟩
theorem own_nil (w : World) (B : Nat) : Own w B (.slice none 0 0) [] := World.ownsRow_nil _ _ _ _

theorem sM_len {ms : List (List Int)} {x : List Int} (h : 4096 < x.length) : sE ms x.length = 12 ∧ sM ms x = ms := by
  have e : sE ms x.length = 12 := if_pos h
  exact ⟨e, by unfold sM; rw [e]; rfl⟩
theorem sM_full {ms : List (List Int)} {x : List Int} (h : ¬ 4096 < x.length) (h2 : ms.length = 64) : sE ms x.length = 4 ∧ sM ms x = ms := by
  have e : sE ms x.length = 4 := by unfold sE; rw [if_neg h, if_pos h2]
  exact ⟨e, by unfold sM; rw [e]; rfl⟩
theorem sM_ok {ms : List (List Int)} {x : List Int} (h : ¬ 4096 < x.length) (h2 : ¬ ms.length = 64) : sE ms x.length = 0 ∧ sM ms x = ms ++ [x] := by
  have e : sE ms x.length = 0 := by unfold sE; rw [if_neg h, if_neg h2]
  exact ⟨e, by unfold sM; rw [e]; rfl⟩
theorem n_sendA {w : World} {B b : Nat} {v : Value} {zs : List Ms} (h : Nt w B true b v zs) (a0 : Option Addr) (n c : Nat) (f : Nat → Int) (hf : From w a0 n f) :
    Calls Try.prog 8 #[.pointer (some ⟨b, 0, none⟩), .slice a0 n c] w fun e w' => e = .returned (.int .i64 (sE (zs.map Prod.snd) n)) ∧ Chg w w' B b true v zs (sM (zs.map Prod.snd) (lst f n)) := by
  have hn := h.n
  by_cases h1 : 4096 < n
  · obtain ⟨e1, e2⟩ := sM_len (ms := zs.map Prod.snd) (x := lst f n) (by rw [lst_length]; exact h1)
    rw [lst_length] at e1
    rw [e1, e2]
    refine (n_send_long h a0 n c h1).mono ?_
    rintro e w' ⟨rfl, rfl⟩
    exact ⟨rfl, Chg.same h (Below.refl _ _)⟩
  · by_cases h2 : zs.length = 64
    · obtain ⟨e1, e2⟩ := sM_full (ms := zs.map Prod.snd) (x := lst f n) (by rw [lst_length]; exact h1) (by simpa using h2)
      rw [lst_length] at e1
      rw [e1, e2]
      refine (n_send_full h a0 n c (by omega) h2).mono ?_
      rintro e w' ⟨rfl, rfl⟩
      exact ⟨rfl, Chg.same h (Below.refl _ _)⟩
    · obtain ⟨e1, e2⟩ := sM_ok (ms := zs.map Prod.snd) (x := lst f n) (by rw [lst_length]; exact h1) (by simpa using h2)
      rw [lst_length] at e1
      rw [e1, e2]
      refine (n_send h (by omega) a0 n c f hf (by omega)).mono ?_
      rintro e w' ⟨rfl, hs⟩
      exact ⟨rfl, hs.chg⟩
theorem y_sendA {w : World} {B b : Nat} {v : Value} {zs : List Ms} (h : Nt w B false b v zs) (a0 : Option Addr) (n c : Nat) (f : Nat → Int) (hf : From w a0 n f) (hc0 : a0 = none → c = 0) :
    Calls Try.prog 9 #[.pointer (some ⟨b, 0, none⟩), .slice a0 n c] w fun e w' => e = .returned (.int .i64 (sE (zs.map Prod.snd) n)) ∧ Chg w w' B b false v zs (sM (zs.map Prod.snd) (lst f n)) := by
  have hn := h.n
  by_cases h1 : 4096 < n
  · obtain ⟨e1, e2⟩ := sM_len (ms := zs.map Prod.snd) (x := lst f n) (by rw [lst_length]; exact h1)
    rw [lst_length] at e1
    rw [e1, e2]
    refine (y_send_long _ a0 n c w h1).mono ?_
    rintro e w' ⟨rfl, rfl⟩
    exact ⟨rfl, Chg.same h (Below.refl _ _)⟩
  · by_cases h2 : zs.length = 64
    · obtain ⟨e1, e2⟩ := sM_full (ms := zs.map Prod.snd) (x := lst f n) (by rw [lst_length]; exact h1) (by simpa using h2)
      rw [lst_length] at e1
      rw [e1, e2]
      refine (y_send_full h a0 n c (by omega) h2).mono ?_
      rintro e w' ⟨rfl, rfl⟩
      exact ⟨rfl, Chg.same h (Below.refl _ _)⟩
    · obtain ⟨e1, e2⟩ := sM_ok (ms := zs.map Prod.snd) (x := lst f n) (by rw [lst_length]; exact h1) (by simpa using h2)
      rw [lst_length] at e1
      rw [e1, e2]
      refine (y_send h (by omega) a0 n c f hf (by omega) hc0).mono ?_
      rintro e w' ⟨rfl, hs⟩
      exact ⟨rfl, hs.chg⟩
/-- Taking away, looking, doubling: what both nets answer by an index. -/
theorem n_dropA {w : World} {B b : Nat} {v : Value} {zs : List Ms} (h : Nt w B true b v zs) (i : Int) :
    Calls Try.prog 12 #[.pointer (some ⟨b, 0, none⟩), .int .i64 i] w fun e w' => e = .returned (.int .i64 (dE (zs.map Prod.snd) i)) ∧ Chg w w' B b true v zs (dM (zs.map Prod.snd) i) := by
  unfold dE dM
  cases hq : inQ (zs.map Prod.snd) i with
  | true =>
    obtain ⟨k, rfl, hk, _⟩ := inQ_yes hq
    refine (n_drop h k hk).mono ?_
    rintro e w' ⟨rfl, hg⟩
    exact ⟨rfl, hg.chg⟩
  | false =>
    refine (n_drop_no h i (inQ_no hq)).mono ?_
    rintro e w' ⟨rfl, rfl⟩
    exact ⟨rfl, Chg.same h (Below.refl _ _)⟩
theorem y_dropA {w : World} {B b : Nat} {v : Value} {zs : List Ms} (h : Nt w B false b v zs) (i : Int) :
    Calls Try.prog 13 #[.pointer (some ⟨b, 0, none⟩), .int .i64 i] w fun e w' => e = .returned (.int .i64 (dE (zs.map Prod.snd) i)) ∧ Chg w w' B b false v zs (dM (zs.map Prod.snd) i) := by
  unfold dE dM
  cases hq : inQ (zs.map Prod.snd) i with
  | true =>
    obtain ⟨k, rfl, hk, _⟩ := inQ_yes hq
    refine (y_drop h k hk).mono ?_
    rintro e w' ⟨rfl, hg⟩
    exact ⟨rfl, hg.chg⟩
  | false =>
    refine (y_drop_no h i (inQ_no hq)).mono ?_
    rintro e w' ⟨rfl, rfl⟩
    exact ⟨rfl, Chg.same h (Below.refl _ _)⟩
theorem n_takeA {w : World} {B b : Nat} {v : Value} {zs : List Ms} (h : Nt w B true b v zs) (i : Int) :
    Calls Try.prog 16 #[.pointer (some ⟨b, 0, none⟩), .int .i64 i] w fun e w' => ∃ u, e = .returned (.tuple #[u, .int .i64 (dE (zs.map Prod.snd) i)]) ∧ Own w' w.heap.size u (lX (zs.map Prod.snd) i) ∧ Chg w w' B b true v zs (dM (zs.map Prod.snd) i) := by
  unfold dE dM lX
  cases hq : inQ (zs.map Prod.snd) i with
  | true =>
    obtain ⟨k, rfl, hk, hx⟩ := inQ_yes hq
    rw [hx]
    refine (n_take h k hk).mono ?_
    rintro e w' ⟨u, rfl, ho, hg⟩
    exact ⟨u, rfl, ho, hg.chg⟩
  | false =>
    refine (n_take_no h i (inQ_no hq)).mono ?_
    rintro e w' ⟨rfl, rfl⟩
    exact ⟨_, rfl, own_nil _ _, Chg.same h (Below.refl _ _)⟩
theorem y_takeA {w : World} {B b : Nat} {v : Value} {zs : List Ms} (h : Nt w B false b v zs) (i : Int) :
    Calls Try.prog 17 #[.pointer (some ⟨b, 0, none⟩), .int .i64 i] w fun e w' => ∃ u, e = .returned (.tuple #[u, .int .i64 (dE (zs.map Prod.snd) i)]) ∧ Own w' w.heap.size u (lX (zs.map Prod.snd) i) ∧ Chg w w' B b false v zs (dM (zs.map Prod.snd) i) := by
  unfold dE dM lX
  cases hq : inQ (zs.map Prod.snd) i with
  | true =>
    obtain ⟨k, rfl, hk, hx⟩ := inQ_yes hq
    rw [hx]
    refine (y_take h k hk).mono ?_
    rintro e w' ⟨u, rfl, ho, hg⟩
    exact ⟨u, rfl, ho, hg.chg⟩
  | false =>
    refine (y_take_no h i (inQ_no hq)).mono ?_
    rintro e w' ⟨rfl, rfl⟩
    exact ⟨_, rfl, own_nil _ _, Chg.same h (Below.refl _ _)⟩
theorem n_lookA {w : World} {B b : Nat} {v : Value} {zs : List Ms} (h : Nt w B true b v zs) (i : Int) :
    Calls Try.prog 18 #[.pointer (some ⟨b, 0, none⟩), .int .i64 i] w fun e w' => ∃ u, e = .returned (.tuple #[u, .int .i64 (dE (zs.map Prod.snd) i)]) ∧ Own w' w.heap.size u (lX (zs.map Prod.snd) i) ∧ Below w.heap.size w w' := by
  unfold dE lX
  cases hq : inQ (zs.map Prod.snd) i with
  | true =>
    obtain ⟨k, rfl, hk, hx⟩ := inQ_yes hq
    rw [hx]
    refine (n_look h k hk).mono ?_
    rintro e w' ⟨u, rfl, ho, hg⟩
    exact ⟨u, rfl, ho, hg⟩
  | false =>
    refine (n_look_no h i (inQ_no hq)).mono ?_
    rintro e w' ⟨rfl, rfl⟩
    exact ⟨_, rfl, own_nil _ _, Below.refl _ _⟩
theorem y_lookA {w : World} {B b : Nat} {v : Value} {zs : List Ms} (h : Nt w B false b v zs) (i : Int) :
    Calls Try.prog 19 #[.pointer (some ⟨b, 0, none⟩), .int .i64 i] w fun e w' => ∃ u, e = .returned (.tuple #[u, .int .i64 (dE (zs.map Prod.snd) i)]) ∧ Own w' w.heap.size u (lX (zs.map Prod.snd) i) ∧ Below w.heap.size w w' := by
  unfold dE lX
  cases hq : inQ (zs.map Prod.snd) i with
  | true =>
    obtain ⟨k, rfl, hk, hx⟩ := inQ_yes hq
    rw [hx]
    refine (y_look h k hk).mono ?_
    rintro e w' ⟨u, rfl, ho, hg⟩
    exact ⟨u, rfl, ho, hg⟩
  | false =>
    refine (y_look_no h i (inQ_no hq)).mono ?_
    rintro e w' ⟨rfl, rfl⟩
    exact ⟨_, rfl, own_nil _ _, Below.refl _ _⟩
theorem tE_no {ms : List (List Int)} {i : Int} (h : inQ ms i = false) : tE ms i = 190 ∧ tM ms i = ms := by
  have e : tE ms i = 190 := by unfold tE; rw [h]; rfl
  exact ⟨e, by unfold tM; rw [e]; rfl⟩
theorem tE_full {ms : List (List Int)} {i : Int} (h : inQ ms i = true) (h2 : ms.length = 64) : tE ms i = 4 ∧ tM ms i = ms := by
  have e : tE ms i = 4 := by unfold tE; rw [h, if_pos rfl, if_pos h2]
  exact ⟨e, by unfold tM; rw [e]; rfl⟩
theorem tE_ok {ms : List (List Int)} {i : Int} (h : inQ ms i = true) (h2 : ¬ ms.length = 64) : tE ms i = 0 ∧ tM ms i = ms ++ [ms.getD i.toNat []] := by
  have e : tE ms i = 0 := by unfold tE; rw [h, if_pos rfl, if_neg h2]
  exact ⟨e, by unfold tM lX; rw [e, h]; rfl⟩
theorem n_twiceA {w : World} {B b : Nat} {v : Value} {zs : List Ms} (h : Nt w B true b v zs) (i : Int) :
    Calls Try.prog 14 #[.pointer (some ⟨b, 0, none⟩), .int .i64 i] w fun e w' => e = .returned (.int .i64 (tE (zs.map Prod.snd) i)) ∧ Chg w w' B b true v zs (tM (zs.map Prod.snd) i) := by
  have hn := h.n
  cases hq : inQ (zs.map Prod.snd) i with
  | true =>
    obtain ⟨k, hik, hk, hx⟩ := inQ_yes hq
    by_cases h2 : zs.length = 64
    · obtain ⟨e1, e2⟩ := tE_full hq (by simpa using h2)
      rw [e1, e2]
      subst hik
      refine (n_twice_full h k hk h2).mono ?_
      rintro e w' ⟨rfl, rfl⟩
      exact ⟨rfl, Chg.same h (Below.refl _ _)⟩
    · obtain ⟨e1, e2⟩ := tE_ok hq (by simpa using h2)
      rw [e1, e2, hx]
      subst hik
      refine (n_twice h k hk (by omega)).mono ?_
      rintro e w' ⟨rfl, hs⟩
      exact ⟨rfl, hs.chg⟩
  | false =>
    obtain ⟨e1, e2⟩ := tE_no hq
    rw [e1, e2]
    refine (n_twice_no h i (inQ_no hq)).mono ?_
    rintro e w' ⟨rfl, rfl⟩
    exact ⟨rfl, Chg.same h (Below.refl _ _)⟩
theorem y_twiceA {w : World} {B b : Nat} {v : Value} {zs : List Ms} (h : Nt w B false b v zs) (i : Int) :
    Calls Try.prog 15 #[.pointer (some ⟨b, 0, none⟩), .int .i64 i] w fun e w' => e = .returned (.int .i64 (tE (zs.map Prod.snd) i)) ∧ Chg w w' B b false v zs (tM (zs.map Prod.snd) i) := by
  have hn := h.n
  cases hq : inQ (zs.map Prod.snd) i with
  | true =>
    obtain ⟨k, hik, hk, hx⟩ := inQ_yes hq
    by_cases h2 : zs.length = 64
    · obtain ⟨e1, e2⟩ := tE_full hq (by simpa using h2)
      rw [e1, e2]
      subst hik
      refine (y_twice_full h k hk h2).mono ?_
      rintro e w' ⟨rfl, hb⟩
      exact ⟨rfl, Chg.same h hb⟩
    · obtain ⟨e1, e2⟩ := tE_ok hq (by simpa using h2)
      rw [e1, e2, hx]
      subst hik
      refine (y_twice h k hk (by omega)).mono ?_
      rintro e w' ⟨rfl, hs⟩
      exact ⟨rfl, hs.chg⟩
  | false =>
    obtain ⟨e1, e2⟩ := tE_no hq
    rw [e1, e2]
    refine (y_twice_no h i (inQ_no hq)).mono ?_
    rintro e w' ⟨rfl, rfl⟩
    exact ⟨rfl, Chg.same h (Below.refl _ _)⟩
/-- Spoil over bytes of one's own. -/
theorem spoilO (v : Value) (B : Nat) (xs : List Int) (w : World) (h : Own w B v xs) (hn : xs.length ≤ 140737488355328) :
    Calls Try.prog 11 #[v] w fun e w' => e = .returned (.tuple #[]) ∧ Part (fun q => v.ownBlock = some q) w w' := by
  rcases h.2 with ⟨h1, h2⟩ | ⟨g, c, cur, h1, hB, hg, h4, h5, h6, h7⟩
  · subst h1
    go_enter Try.func11, Try.ntmps11
    go_wp2
    go_loopw [5] (fun i wr => i = .int .i64 0 ∧ wr = w) (fun i _ => 0)
    case atStart => exact ⟨rfl, rfl⟩
    case round =>
      obtain ⟨rfl, rfl⟩ := hrel
      go_wp2
      go_end0
      exact ⟨rfl, Part.refl _ _⟩
  · subst h1
    have ho : w.ownsRow B 5 1 (.slice (some ⟨g, 0, none⟩) xs.length c) xs.length (xs.map (Value.int .u8)) := h
    generalize hN : xs.length = n at *
    have H0 : Hid (Spoilt g n w w) := ⟨Only.refl _ _, fun j hj => ⟨_, own_at ho j hj hN.symm⟩, fun j hj => cells_free hg j⟩
    clear h ho hg h4 h5 h6 h7
    go_enter Try.func11, Try.ntmps11
    go_wp2
    go_loopw [5] (fun i wr => ∃ k : Nat, k ≤ n ∧ i = .int .i64 (k : Int) ∧ Spoilt g n w wr) (fun i _ => n - (intOf i).toNat)
    case atStart => exact ⟨0, Nat.zero_le _, rfl, H0.out⟩
    case round =>
      obtain ⟨k, hk, rfl, hsp⟩ := hrel
      by_cases hlt : k < n
      · have hlt' : (k : Int) < (n : Int) := by omega
        have hk0 : (0 : Int) ≤ (k : Int) := by omega
        obtain ⟨x, hx⟩ := hsp.cells k hlt
        have hfz := hsp.free k hlt
        have HN : Hid (∀ z : Int, Spoilt g n w (wr.setCell ⟨g, k, none⟩ (.int .u8 z))) := fun z => hsp.set k hlt z
        clear hsp
        go_wp2
        go_roundw
        case rel => exact ⟨k + 1, by omega, by go_num, HN.out _⟩
        case measure => simp [intOf]; omega
      · obtain rfl : k = n := by omega
        have HP : Hid (Part (fun q => (Value.slice (some ⟨g, 0, none⟩) k c).ownBlock = some q) w wr) := ⟨hsp.only.os, hsp.only.tape, hsp.only.output, Nat.le_of_eq hsp.only.size.symm, fun q _ hq => hsp.only.block q (fun e => hq (by rw [e]; rfl))⟩
        clear hsp
        go_wp2
        go_end0
        exact ⟨rfl, HP.out⟩
end Go.Proofs.Ytbpolfoagmehhaa
