/-
  Contracts of slices.EqualFunc, ContainsFunc and IndexFunc over rows of bytes; of a log's Force with the records that a law holds. Condition: at most 1000000 rows.
  What a loop that writes over a slice's bytes leaves: one block alone has turned, and its cells are bytes still. No program, no condition.
  Contract of Spoil over bytes of one's own.
-/
import Derived.Test.YtmjoklppibfdmaaDoorLogLf
import Derived.Test.YtmjoklppibfdmaaDoorGa
import Derived.Test.YtmjoklppibfdmaaDoorGj
namespace Go.Proofs.YtmjoklppibfdmaaDoor
open Go.RowKit
set_option linter.unusedVariables false

set_option maxRecDepth 100000 in
set_option maxHeartbeats 1000000 in
theorem equalImg (a b : Option Addr) (N ca cb : Nat) (A A' : Nat → Option Addr) (L C L' C' : Nat → Nat) (f f' : Nat → Nat → Int) (w : World) (hN : N ≤ 1000000) (h1 : Img w a N A L C f) (h2 : Img w b N A' L' C' f') (he : ∀ i, i < N → lst (f i) (L i) = lst (f' i) (L' i)) :
    Calls Tryd.prog 19 #[.slice a N ca, .slice b N cb, .func (.func 21) #[] #[]] w fun e w' => e = .returned (.bool true) ∧ w' = w := by
  have H1 : Hid (Img w a N A L C f) := h1
  have H2 : Hid (Img w b N A' L' C' f') := h2
  have HE : Hid (∀ i, i < N → lst (f i) (L i) = lst (f' i) (L' i)) := he
  clear h1 h2 he
  go_enter Tryd.func19, Tryd.ntmps19
  go_wp2
  go_loopw [17] (fun i wr => ∃ k : Nat, k ≤ N ∧ i = .int .i64 (k : Int) ∧ wr = w) (fun i _ => N - (intOf i).toNat)
  case atStart => exact ⟨0, Nat.zero_le _, rfl, rfl⟩
  case round =>
    obtain ⟨k, hk, rfl, rfl⟩ := hrel
    by_cases hlt : k < N
    · have hlt' : (k : Int) < (N : Int) := by omega
      have hk0 : (0 : Int) ≤ (k : Int) := by omega
      obtain ⟨b1, o1, rfl, p1, p2, _⟩ := H1.out k hlt
      obtain ⟨b2, o2, rfl, q1, q2, _⟩ := H2.out k hlt
      have HQ : Hid (Calls Tryd.prog 21 #[.slice (A k) (L k) (C k), .slice (A' k) (L' k) (C' k)] wr fun e w' => e = .returned (.bool true) ∧ w' = wr) := equal_yes (A k) (A' k) (L k) (C k) (L' k) (C' k) (f k) (f' k) wr p2 q2 (HE.out k hlt)
      clear p2 q2
      go_wp2_with fail
      refine HQ.out.mono ?_
      rintro e w2 ⟨rfl, hw⟩
      obtain rfl : wr = w2 := hw.symm
      clear hw
      go_wp2
      go_roundw
      case rel => exact ⟨k + 1, by omega, by go_num, by trivial⟩
      case measure => simp [intOf]; omega
    · obtain rfl : k = N := by omega
      go_wp2
      go_ret
      exact ⟨rfl, rfl⟩

set_option maxHeartbeats 400000 in
theorem not128 (a : Option Addr) (l c : Nat) (w : World) (h : l ≠ 128) : Calls Tryd.prog 13 #[.slice a l c] w fun e w' => e = .returned (.bool true) ∧ w' = w := by
  have h1 : Hid (((l : Int) != 128) = true) := (by rw [bne_iff_ne]; omega : ((l : Int) != 128) = true)
  clear h
  go_enter Tryd.func13, Tryd.ntmps13
  go_wp2
  go_ret
  refine ⟨?_, rfl⟩
  show Ending.returned (Value.bool ((l : Int) != 128)) = _
  rw [h1.out]
set_option maxHeartbeats 400000 in
theorem is128 (a : Option Addr) (l c : Nat) (w : World) (h : l = 128) : Calls Tryd.prog 13 #[.slice a l c] w fun e w' => e = .returned (.bool false) ∧ w' = w := by
  subst h
  go_enter Tryd.func13, Tryd.ntmps13
  go_wp2
  go_ret
  exact ⟨rfl, rfl⟩
set_option maxRecDepth 100000 in
set_option maxHeartbeats 1000000 in
theorem indexLL (a : Option Addr) (N c : Nat) (A : Nat → Option Addr) (L C : Nat → Nat) (f : Nat → Nat → Int) (w : World) (hN : N ≤ 1000000) (h : Img w a N A L C f) (hx : ∃ i, i < N ∧ L i ≠ 128) :
    Calls Tryd.prog 44 #[.slice a N c, .func (.func 13) #[] #[]] w fun e w' => ∃ k : Nat, e = .returned (.int .i64 (k : Int)) ∧ w' = w := by
  have H1 : Hid (Img w a N A L C f) := h
  have HX : Hid (∃ i, i < N ∧ L i ≠ 128) := hx
  clear h hx
  go_enter Tryd.func44, Tryd.ntmps44
  go_wp2
  go_loopw [8] (fun i wr => ∃ k : Nat, k ≤ N ∧ i = .int .i64 (k : Int) ∧ wr = w ∧ Hid (∀ j, j < k → L j = 128)) (fun i _ => N - (intOf i).toNat)
  case atStart => exact ⟨0, Nat.zero_le _, rfl, rfl, fun j hj => by omega⟩
  case round =>
    obtain ⟨k, hk, rfl, rfl, HA⟩ := hrel
    by_cases hlt : k < N
    · have hlt' : (k : Int) < (N : Int) := by omega
      have hk0 : (0 : Int) ≤ (k : Int) := by omega
      obtain ⟨b1, o1, rfl, p1, p2, _⟩ := H1.out k hlt
      clear p2
      by_cases hL : L k = 128
      · have HQ := is128 (A k) (L k) (C k) wr hL
        have HA2 : Hid (∀ j, j < k + 1 → L j = 128) := fun j hj => by
          by_cases e : j = k
          · rw [e]; exact hL
          · exact HA.out j (by omega)
        clear hL HA
        go_wp2_with fail
        refine HQ.mono ?_
        rintro e w2 ⟨rfl, hw⟩
        obtain rfl : wr = w2 := hw.symm
        clear hw
        go_wp2
        go_roundw
        case rel => exact ⟨k + 1, by omega, by go_num, by trivial, HA2⟩
        case measure => simp [intOf]; omega
      · have HQ := not128 (A k) (L k) (C k) wr hL
        clear hL HA
        go_wp2_with fail
        refine HQ.mono ?_
        rintro e w2 ⟨rfl, hw⟩
        obtain rfl : wr = w2 := hw.symm
        clear hw
        go_wp2
        go_ret
        exact ⟨k, rfl, rfl⟩
    · obtain ⟨i, hi, hne⟩ := HX.out
      exact absurd (HA.out i (by omega)) hne
set_option maxHeartbeats 400000 in
theorem containsLL (a : Option Addr) (N c : Nat) (A : Nat → Option Addr) (L C : Nat → Nat) (f : Nat → Nat → Int) (w : World) (hN : N ≤ 1000000) (h : Img w a N A L C f) (hx : ∃ i, i < N ∧ L i ≠ 128) :
    Calls Tryd.prog 12 #[.slice a N c, .func (.func 13) #[] #[]] w fun e w' => e = .returned (.bool true) ∧ w' = w := by
  have CI := indexLL a N c A L C f w hN h hx
  clear h hx
  go_enter Tryd.func12, Tryd.ntmps12
  go_wp2_with fail
  refine CI.mono ?_
  rintro e w2 ⟨k, rfl, hw⟩
  obtain rfl : w = w2 := hw.symm
  clear hw
  have hk : (0 : Int) ≤ (k : Int) := by omega
  go_wp2
  go_ret
  exact ⟨rfl, rfl⟩

/-- A log all of whose records are forced, and the records that a law holds. -/
def Full (w : World) (D L n : Nat) (v : Value) (wr : World) : Prop := ∃ P e f first tot R, Lgs wr P D L n e f first tot tot R.length R ∧ (∀ q, P q → w.heap.size ≤ q) ∧ RecP wr w.heap.size v P f R ∧ Below w.heap.size w wr
theorem recP_img {w : World} {B : Nat} {v : Value} {P : Nat → Prop} {f : Nat → Int} {R : List (Nat × Nat)} (h : RecP w B v P f R) : ∃ a c A C, v = .slice a R.length c ∧ Img w a R.length A (lenF R) C (bytF f R) := by
  obtain ⟨A, C, hG, _⟩ := h
  obtain ⟨a, c, rfl⟩ := own_slice hG.own
  exact ⟨a, c, A, C, rfl, hG.img⟩
/-- The records of a disk that holds the first bytes of a log. -/
theorem recs_kept {D n : Nat} {F : Nat → Prop} {e f : Nat → Int} {first z : Nat} {R : List (Nat × Nat)} {w : World} (hS : Sd w D F n 0 e) (ht : Tab w) (hK : Kept e n first f z) (hp : PrsTo f z R z) :
    Calls Tryd.prog 20 #[.pointer (some ⟨D, 0, none⟩)] w fun r w' => ∃ a c A C, r = .returned (.slice a R.length c) ∧ Hid (Img w' a R.length A (lenF R) C (bytF f R)) ∧ Below w.heap.size w w' := by
  refine (recsD D n F e w hS ht).mono ?_
  rintro r w' ⟨v, fi, tot', R', size, A, C, rfl, h1, h2, h3, h4⟩
  obtain ⟨rfl, rfl⟩ := hK.recs (by have := hS.n2; omega) h1.out h2.out hp
  have hG := h3.out
  obtain ⟨a, c, rfl⟩ := own_slice hG.own
  refine ⟨a, c, A, C, rfl, ?_, h4⟩
  have hX : RecG w' w.heap.size (.slice a R'.length c) R'.length A (lenF R') C (bytF f R') := hG.ext2 (fun _ _ => rfl) (fun j hj i hi => by
    have := hp.in_ j hj
    unfold lenF at hi
    exact hK.eq _ (by omega))
  exact hX.img
theorem full_force {w : World} (ht : Tab w) {D L n : Nat} {v : Value} {forced : Nat} {wr : World} (h : Fil w D L n v forced wr) :
    Calls Tryd.prog 14 #[.pointer (some ⟨L, 0, none⟩)] wr fun r w' => r = .returned (.int .i64 0) ∧ Hid (Full w D L n v w') := by
  obtain ⟨P, e, f, first, z, tot, R, hL, hP, hR, hB⟩ := h
  have sB := hB.size
  have tl := ht.lt
  refine (lgs_force hL (ht.below hB (Nat.le_refl _)) (fun hh => by have := hP _ hh; omega)).mono ?_
  rintro r w4 ⟨rfl, e', P', hL4, p4, hP'⟩
  refine ⟨rfl, P', e', f, first, tot, R, hL4, fun q hq => ?_, hR.part p4 hP', hB.trans (p4.below hP sB)⟩
  rcases hP' q hq with a | a
  · exact hP q a
  · omega
theorem setl_none (dur : Nat → Int) (tf : Nat → Nat) (ld : Nat → Int) (st : Nat → Bool) : setl dur tf ld st 0 = dur := rfl
/-- A crash that keeps no write where none pends. -/
theorem sdCrash0 (D n : Nat) (F : Nat → Prop) (e : Nat → Int) (w : World) (h : Sd w D F n 0 e) :
    Calls Tryd.prog 18 #[.pointer (some ⟨D, 0, none⟩), .slice none 0 0] w fun r w' => r = .returned (.int .i64 0) ∧ Sd w' D F n 0 e ∧ Part F w w' := by
  obtain ⟨tf, ld, hd⟩ := h.quiet
  refine (dkCrash_ok D n 0 F e tf ld none 0 0 (fun _ => 0) w hd (by omega) (by omega) (fun i hi => by omega) (fun j hj => by omega) (fun j hj => by omega)).mono ?_
  rintro r w' ⟨rfl, h1, h2⟩
  rw [setl_none] at h1
  exact ⟨rfl, h1.sd, h2⟩
end Go.Proofs.YtmjoklppibfdmaaDoor

namespace Go.Proofs.YtmjoklppibfdmaaDoor
open Go.RowKit

structure Spoilt (g n : Nat) (W wr : World) : Prop where
  only : Only g W wr
  cells : ∀ j, j < n → ∃ v, wr.cell? ⟨g, j, none⟩ = some (.int .u8 v)
  free : ∀ j, j < n → wr.frozen? ⟨g, j, none⟩ = false

theorem Spoilt.set {g n : Nat} {W wr : World} (h : Spoilt g n W wr) (k : Nat) (hk : k < n) (v : Int) : Spoilt g n W (wr.setCell ⟨g, k, none⟩ (.int .u8 v)) := by
  refine ⟨h.only.setCell rfl _, fun j hj => ?_, fun j hj => ?_⟩
  · by_cases e : j = k
    · subst e
      obtain ⟨u, hu⟩ := h.cells j hj
      exact ⟨v, World.cell?_setCell_same _ _ _ hu⟩
    · obtain ⟨u, hu⟩ := h.cells j hj
      exact ⟨u, by rw [World.cell?_setCell_other _ _ _ _ (fun e' => e (congrArg Addr.off e').symm)]; exact hu⟩
  · have := h.free j hj
    go_simp

/-- The same of a slice that may be nil. -/
def SpoiltO (ao : Option Addr) (n : Nat) (W wr : World) : Prop := (n = 0 ∧ wr = W) ∨ ∃ g, ao = some ⟨g, 0, none⟩ ∧ Spoilt g n W wr
end Go.Proofs.YtmjoklppibfdmaaDoor

namespace Go.Proofs.YtmjoklppibfdmaaDoor
open Go.RowKit
set_option linter.unusedVariables false

set_option maxRecDepth 100000 in
set_option maxHeartbeats 1000000 in
theorem spoilF (v : Value) (B n : Nat) (f : Nat → Int) (w : World) (h : Own w B v (lst f n)) (hn : n ≤ 140737488355328) :
    Calls Tryd.prog 36 #[v] w fun e w' => e = .returned (.tuple #[]) ∧ Part (fun q => v.ownBlock = some q) w w' := by
  by_cases h0 : n = 0
  · subst h0
    obtain ⟨a, c, rfl, _⟩ := own_any h
    clear h
    go_enter Tryd.func36, Tryd.ntmps36
    go_wp2
    go_loopw [5] (fun i wr => i = .int .i64 0 ∧ wr = w) (fun i _ => 0)
    case atStart => exact ⟨rfl, rfl⟩
    case round =>
      obtain ⟨rfl, rfl⟩ := hrel
      go_wp2
      go_end0
      exact ⟨rfl, Part.refl _ _⟩
  · obtain ⟨g, c, rfl, ho, _, _, _, _⟩ := own_some h (by omega)
    have H0 : Hid (Spoilt g n w w) := ⟨Only.refl _ _, fun j hj => ⟨_, Own.cellF ho j hj⟩, fun j hj => by
      obtain ⟨cur, hc⟩ := row_block ho rfl
      exact cells_free hc j⟩
    clear h ho
    go_enter Tryd.func36, Tryd.ntmps36
    go_wp2
    go_loopw [5] (fun i wr => ∃ k : Nat, k ≤ n ∧ i = .int .i64 (k : Int) ∧ Spoilt g n w wr) (fun i _ => n - (intOf i).toNat)
    case atStart => exact ⟨0, Nat.zero_le _, rfl, H0.out⟩
    case round =>
      obtain ⟨k, hk, rfl, hsp⟩ := hrel
      by_cases hlt : k < n
      · have hlt' : (k : Int) < (n : Int) := by omega
        have hk0 : (0 : Int) ≤ (k : Int) := by omega
        obtain ⟨x, hx⟩ := hsp.cells k hlt
        have hfz := hsp.free k hlt
        have HN : Hid (∀ z : Int, Spoilt g n w (wr.setCell ⟨g, k, none⟩ (.int .u8 z))) := fun z => hsp.set k hlt z
        clear hsp
        go_wp2
        go_roundw
        case rel => exact ⟨k + 1, by omega, by go_num, HN.out _⟩
        case measure => simp [intOf]; omega
      · obtain rfl : k = n := by omega
        have HP : Hid (Part (fun q => (Value.slice (some ⟨g, 0, none⟩) k c).ownBlock = some q) w wr) := hsp.only.part.mono (fun i _ e => by rw [e]; rfl)
        clear hsp
        go_wp2
        go_end0
        exact ⟨rfl, HP.out⟩
end Go.Proofs.YtmjoklppibfdmaaDoor
