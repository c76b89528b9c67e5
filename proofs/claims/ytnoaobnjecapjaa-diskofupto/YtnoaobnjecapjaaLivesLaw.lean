/-
  The law DiskLives: the walk. Condition: at most 1048576 calls, each of at most 1048576 bytes and places.
-/
import Derived.Test.YtnoaobnjecapjaaDoes
import Derived.Test.YtnoaobnjecapjaaSameD
namespace Go.Proofs.Ytnoaobnjecapjaa
open Go.RowKit
set_option linter.unusedVariables false

/-- A call that was handed in. -/
structure DoIn (w : World) (b off : Nat) (op I : Int) (a : Option Addr) (l c : Nat) (f : Nat → Int) (ak : Option Addr) (K ck : Nat) (kf : Nat → Int) : Prop where
  c0 : w.cell? ⟨b, off, none⟩ = some (.int .i64 op)
  c1 : w.cell? ⟨b, off + 1, none⟩ = some (.int .i64 I)
  c2 : w.cell? ⟨b, off + 2, none⟩ = some (.slice a l c)
  c3 : w.cell? ⟨b, off + 3, none⟩ = some (.slice ak K ck)
  fb : From w a l f
  by_ : ∀ j, 0 ≤ f j ∧ f j ≤ 255
  lb : l ≤ 1048576
  nb : a = none → c = 0
  fk : FromI w ak K kf
  kr : ∀ j, j < K → -9223372036854775808 ≤ kf j ∧ kf j ≤ 9223372036854775807
  kb : K ≤ 1048576
  nk : ak = none → K = 0 ∧ ck = 0
def DosIn (w : World) (a0 : Option Addr) (N : Nat) : Prop := ∀ r, r < N → ∃ b off, a0 = some ⟨b, off, none⟩ ∧ ∃ op I a l c f ak K ck kf, DoIn w b (off + r * 4) op I a l c f ak K ck kf
theorem DoIn.below {w w' : World} {b off : Nat} {op I : Int} {a : Option Addr} {l c : Nat} {f : Nat → Int} {ak : Option Addr} {K ck : Nat} {kf : Nat → Int} (h : DoIn w b off op I a l c f ak K ck kf) (hb : Below w.heap.size w w') : DoIn w' b off op I a l c f ak K ck kf := by
  have key : ∀ p v, w.cell? p = some v → w'.cell? p = some v := fun p v hp => by
    rw [hb.cell (p := p) (World.block_lt_of_cell? w _ hp)]; exact hp
  exact ⟨key _ _ h.c0, key _ _ h.c1, key _ _ h.c2, key _ _ h.c3, h.fb.below hb (Nat.le_refl _), h.by_, h.lb, h.nb, h.fk.below hb (Nat.le_refl _), h.kr, h.kb, h.nk⟩
theorem DoIn.asked {w w' : World} {P : Nat → Prop} {b off : Nat} {op I : Int} {a : Option Addr} {l c : Nat} {f : Nat → Int} {ak : Option Addr} {K ck : Nat} {kf : Nat → Int} (h : DoIn w b off op I a l c f ak K ck kf) (hb : Below w.heap.size w w') (hP : ∀ k, P k → w.heap.size ≤ k) : Asked w' P a l c f ak K ck kf :=
  { fb := h.fb.below hb (Nat.le_refl _)
    by_ := h.by_
    lb := h.lb
    nb := h.nb
    lo := fun x hx hl hp => by
      rcases h.fb with ⟨e, _⟩ | ⟨y, e, hc⟩
      · rw [e] at hx; cases hx
      · rw [e] at hx
        obtain rfl : y = x := Option.some.inj hx
        have h7 := hP _ hp
        have h9 := World.block_lt_of_cell? w _ (hc 0 hl)
        have h8 := add_block y 0
        omega
    fk := h.fk.below hb (Nat.le_refl _)
    kr := h.kr
    kb := h.kb
    nk := h.nk
    lk := fun x hx hl hp => by
      obtain ⟨b, off, e, hc⟩ := h.fk 0 hl
      rw [e] at hx
      cases hx
      have := hP _ hp
      have h9 := World.block_lt_of_cell? w _ hc
      have h8 : (⟨b, off + 0, none⟩ : Addr).block = b := rfl
      have h7 : (⟨b, off, none⟩ : Addr).block = b := rfl
      omega }

set_option maxRecDepth 100000 in
set_option maxHeartbeats 2000000 in
theorem lives_no (z : Int) (hz : z < 1 ∨ 4096 < z) (a0 : Option Addr) (N c0 : Nat) (w : World) :
    Calls Try.prog 3 #[.int .i64 z, .slice a0 N c0] w fun e w' => e = .returned (.bool true) ∧ Below w.heap.size w w' := by
  go_enter Try.func3, Try.ntmps3
  go_wp2_with fail
  refine (fresh_no z hz w).mono ?_
  rintro e w1 ⟨rfl, hb⟩
  clear hz
  go_wp2
  go_ret
  exact ⟨rfl, hb⟩

set_option maxRecDepth 100000 in
set_option maxHeartbeats 2000000 in
theorem lives_yes (n : Nat) (h1 : 1 ≤ n) (h2 : n ≤ 4096) (a0 : Option Addr) (N c0 : Nat) (w : World) (hN : N ≤ 1048576) (h : DosIn w a0 N) :
    Calls Try.prog 3 #[.int .i64 (n : Int), .slice a0 N c0] w fun e w' => e = .returned (.bool true) ∧ Below w.heap.size w w' := by
  have H : Hid (DosIn w a0 N) := h
  clear h
  go_enter Try.func3, Try.ntmps3
  go_wp2_with fail
  refine (fresh_ok n h1 h2 w).mono ?_
  rintro e w1 ⟨D, X, rfl, hB, hb⟩
  obtain ⟨P, HP, HM⟩ : ∃ P : Nat → Prop, Hid (∀ k, P k → w.heap.size ≤ k) ∧ Hid (Mid w1 P D X n 0 w1) := by
    obtain ⟨F, G, k1, k2, k3, k4, k5⟩ := hB
    exact ⟨fun k => F k ∨ G k, fun k hk => hk.elim (k4 k) (k5 k), Part.refl _ _, F, G, _, _, _, _, k1, k2, k3, fun k hk => .inl hk, Nat.le_refl _⟩
  have s1 := hb.size
  have HBW : Hid (∀ wq, Part P w1 wq → Below w.heap.size w wq) := fun wq hp => hb.trans (hp.below HP.out s1)
  have HSame : Hid (∀ wq k, k ≤ N → Mid w1 P D X n k wq → Calls Try.prog 7 #[.pointer (some ⟨D, 0, none⟩), .pointer (some ⟨X, 0, none⟩)] wq fun e w' => e = .returned (.bool true) ∧ Hid (Mid w1 P D X n k w')) := fun wq k hk hm => by
    have hm' := hm
    obtain ⟨hp, F, G, dur, m, tf, ld, k1, k2, k3, k4, k5⟩ := hm'
    refine (sameDisks D X n m F G dur tf ld wq k1 k2 (by omega)).mono ?_
    rintro e w' ⟨rfl, hb⟩
    exact ⟨rfl, hm.below hb⟩
  have HDoes : Hid (∀ wq k b off op I a l c f ak K ck kf, k < N → DoIn w b off op I a l c f ak K ck kf → Mid w1 P D X n k wq → Calls Try.prog 6 #[.pointer (some ⟨D, 0, none⟩), .pointer (some ⟨X, 0, none⟩), .agg #[.int .i64 op, .int .i64 I, .slice a l c, .slice ak K ck]] wq fun e w' => e = .returned (.bool true) ∧ Hid (Mid w1 P D X n (k + 1) w')) := fun wq k b off op I a l c f ak K ck kf hk hd hm => by
    obtain ⟨P', p1, p2, p3⟩ := hm.now
    have hP' : ∀ j, P' j → w.heap.size ≤ j := fun j hj => by
      rcases p2 j hj with a | a
      · exact HP.out j a
      · omega
    refine (does_ok D X n k P' op I a l c f ak K ck kf wq p3 p1 (hd.asked (HBW.out wq hm.1) hP') (by omega)).mono ?_
    rintro e w' ⟨rfl, hm2⟩
    exact ⟨rfl, hm2.later hm.1 p2⟩
  clear hB hb
  go_wp2
  go_loopw [25] (fun i wr => ∃ k : Nat, k ≤ N ∧ i = .int .i64 (k : Int) ∧ Mid w1 P D X n k wr) (fun i _ => N - (intOf i).toNat)
  case atStart => exact ⟨0, Nat.zero_le _, rfl, HM.out⟩
  case round =>
    obtain ⟨k, hk, rfl, hm⟩ := hrel
    have HMr : Hid (∀ wq, Below wr.heap.size wr wq → Mid w1 P D X n k wq) := fun wq hb => hm.below hb
    have hbr := HBW.out wr hm.1
    clear hm
    by_cases hlt : k < N
    · have hlt' : (k : Int) < (N : Int) := by omega
      have hk0 : (0 : Int) ≤ (k : Int) := by omega
      obtain ⟨b, off, rfl, op, I, a, l, c, f, ak, K, ck, kf, hdo⟩ := H.out k hlt
      obtain ⟨q0, q1, q2, q3, _⟩ := hdo.below hbr
      have HC : Hid (∀ wq, Below wr.heap.size wr wq → Calls Try.prog 6 #[.pointer (some ⟨D, 0, none⟩), .pointer (some ⟨X, 0, none⟩), .agg #[.int .i64 op, .int .i64 I, .slice a l c, .slice ak K ck]] wq fun e w' => e = .returned (.bool true) ∧ Hid (Mid w1 P D X n (k + 1) w')) := fun wq hb => HDoes.out wq k b (off + k * 4) op I a l c f ak K ck kf hlt hdo (HMr.out wq hb)
      have hb0 : Below wr.heap.size wr wr := Below.refl _ _
      clear hdo hbr
      go_wp2_with fail
      refine (HC.out _ (hb0.alloc (Nat.le_refl _) _)).mono ?_
      rintro e w2 ⟨rfl, R2⟩
      go_wp2_with fail
      refine (HSame.out w2 (k + 1) (by omega) R2.out).mono ?_
      rintro e w3 ⟨rfl, R3⟩
      go_wp2
      go_roundw
      case rel => exact ⟨k + 1, by omega, by go_num, R3.out⟩
      case measure => simp [intOf]; omega
    · obtain rfl : k = N := by omega
      have hb0 : Below wr.heap.size wr wr := Below.refl _ _
      go_wp2_with fail
      refine (HSame.out wr k (Nat.le_refl _) (HMr.out wr hb0)).mono ?_
      rintro e w2 ⟨rfl, R2⟩
      go_wp2
      go_ret
      exact ⟨rfl, HBW.out _ R2.out.1⟩
end Go.Proofs.Ytnoaobnjecapjaa
