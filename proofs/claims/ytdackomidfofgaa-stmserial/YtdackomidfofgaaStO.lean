/-
  StmAlone's walk: true, whatever the slots, the name and the bytes.
-/
import Derived.Test.YtdackomidfofgaaStN
namespace Go.Proofs.Ytdackomidfofgaa
open Go.RowKit Go.Maps
set_option linter.unusedVariables false
set_option maxRecDepth 100000
set_option maxHeartbeats 4000000

theorem new_good {w : World} {a0 : Option Addr} {N cap : Nat} {sm : Nat → ByteArray} {bl : Nat → Nat} (h : Sls w a0 N sm bl) (hN : N ≤ 3000000000000) (hg : Good sm N) (ht : ¬ Twice sm N) :
    Calls Try.prog 7 #[.slice a0 N cap] w fun e w' => ∃ sp, e = .returned (.tuple #[.pointer (some ⟨sp, 0, none⟩), .int .i64 0]) ∧ Hid (∃ sl lk slots, G1 w sp sl lk slots w' ∧ (∀ x ∈ slots, x.1.2.1 = 0) ∧ ((∀ j, bl j = 0) → ∀ x ∈ slots, x.1.2.2.2.1 = 0)) :=
  (s_new h (by omega)).mono fun e w' hh => by
    obtain ⟨hb, (⟨h1, _⟩ | ⟨_, h2, _⟩ | ⟨_, _, S, he, k1, k2, k3, k4, k5, k6, k7, k8⟩)⟩ := hh.out
    · exact absurd hg h1
    · exact absurd h2 ht
    · obtain ⟨sp, sl, lk, ck, slots, locks⟩ := S
      have k2 : ck = 0 := k2
      have k3 : locks = [] := k3
      subst k2 k3
      exact ⟨sp, he, sl, lk, slots, ⟨k1, hb, by have k4 : slots.length ≤ N := k4; omega, k6, k7, k8⟩, k5⟩
theorem new_bad {w : World} {a0 : Option Addr} {N cap : Nat} {sm : Nat → ByteArray} {bl : Nat → Nat} (h : Sls w a0 N sm bl) (hN : N ≤ 3000000000000) (hg : ¬ (Good sm N ∧ ¬ Twice sm N)) :
    ∃ q : Int, (q == 0) = false ∧ Calls Try.prog 7 #[.slice a0 N cap] w (fun e w' => e = .returned (.tuple #[.pointer none, .int .i64 q]) ∧ Below w.heap.size w w') ∧ ∀ w1, Below w.heap.size w w1 → Calls Try.prog 22 #[.slice a0 N cap] w1 fun e w' => e = .returned (.tuple #[.pointer none, .int .i64 q]) ∧ Below w.heap.size w w' := by
  by_cases h1 : Good sm N
  · have h2 : Twice sm N := Classical.byContradiction fun h2 => hg ⟨h1, h2⟩
    refine ⟨1, rfl, (s_new h (by omega)).mono fun e w' hh => ?_, fun w1 hb1 => (z_new (h.below hb1) hN).mono fun e w' hh => ?_⟩
    · obtain ⟨hb, (⟨k, _⟩ | ⟨_, _, he⟩ | ⟨_, k, _⟩)⟩ := hh.out
      · exact absurd h1 k
      · exact ⟨he, hb⟩
      · exact absurd h2 k
    · obtain ⟨hb, (⟨k, _⟩ | ⟨_, _, he⟩ | ⟨_, k, _⟩)⟩ := hh.out
      · exact absurd h1 k
      · exact ⟨he, hb1.trans (hb.mono hb1.size)⟩
      · exact absurd h2 k
  · refine ⟨6, rfl, (s_new h (by omega)).mono fun e w' hh => ?_, fun w1 hb1 => (z_new (h.below hb1) hN).mono fun e w' hh => ?_⟩
    · obtain ⟨hb, (⟨_, he⟩ | ⟨k, _⟩ | ⟨k, _⟩)⟩ := hh.out
      · exact ⟨he, hb⟩
      · exact absurd k h1
      · exact absurd k h1
    · obtain ⟨hb, (⟨_, he⟩ | ⟨k, _⟩ | ⟨k, _⟩)⟩ := hh.out
      · exact ⟨he, hb1.trans (hb.mono hb1.size)⟩
      · exact absurd k h1
      · exact absurd k h1
theorem znew_good {w w1 : World} {a0 : Option Addr} {N cap : Nat} {sm : Nat → ByteArray} {bl : Nat → Nat} (h : Sls w a0 N sm bl) (hN : N ≤ 3000000000000) (hg : Good sm N) (ht : ¬ Twice sm N) (hb1 : Below w.heap.size w w1) :
    Calls Try.prog 22 #[.slice a0 N cap] w1 fun e w' => ∃ X, e = .returned (.tuple #[.pointer (some ⟨X, 0, none⟩), .int .i64 0]) ∧ Below w1.heap.size w1 w' :=
  (z_new (h.below hb1) hN).mono fun e w' hh => by
    obtain ⟨hb, (⟨k, _⟩ | ⟨_, k, _⟩ | ⟨_, _, X, he⟩)⟩ := hh.out
    · exact absurd hg k
    · exact absurd k ht
    · exact ⟨X, he, hb⟩
theorem equal_own {w w' : World} {b0 : Option Addr} {n c : Nat} {f : Nat → Int} (hf : From w b0 n f) (hB : Below w.heap.size w w') {v : Value} {B : Nat} (ho : Own w' B v (lst f n)) : Calls Try.prog 15 #[v, .slice b0 n c] w' fun e w2 => e = .returned (.bool true) ∧ w2 = w' := by
  obtain ⟨ao, cv, rfl, hv, _⟩ := ho.open
  refine equal_yes ao b0 _ cv n c (fn (lst f n)) f w' hv (hf.below hB (Nat.le_refl _)) (lst_fn (lst f n) : lst (fn (lst f n)) (lst f n).length = lst f n)
theorem stm_alone {w : World} {a0 : Option Addr} {N cap : Nat} {sm : Nat → ByteArray} {bl : Nat → Nat} (h : Sls w a0 N sm bl) (hN : N ≤ 3000000000000) (s : ByteArray) (b0 : Option Addr) (n c : Nat) (f : Nat → Int) (hf : From w b0 n f) (hn : n ≤ 140737488355328) :
    Calls Try.prog 4 #[.slice a0 N cap, .string s, .slice b0 n c] w fun e w' => e = .returned (.bool true) ∧ Below w.heap.size w w' := by
  by_cases hgt : Good sm N ∧ ¬ Twice sm N
  · obtain ⟨hg, ht⟩ := hgt
    have HN := new_good (cap := cap) h hN hg ht
    have HZ : ∀ w1, Below w.heap.size w w1 → Calls Try.prog 22 #[.slice a0 N cap] w1 fun e w' => ∃ X, e = .returned (.tuple #[.pointer (some ⟨X, 0, none⟩), .int .i64 0]) ∧ Below w1.heap.size w1 w' := fun w1 hb => znew_good h hN hg ht hb
    have HIs : ∀ wx, Calls Try.prog 23 #[.string s] wx fun e w' => e = .returned (.bool (nm s)) ∧ w' = wx := fun wx => z_isName s wx
    have HEq : ∀ w' v, Below w.heap.size w w' → Own w' w.heap.size v (lst f n) → Calls Try.prog 15 #[v, .slice b0 n c] w' fun e w2 => e = .returned (.bool true) ∧ w2 = w' := fun w' v hb ho => equal_own hf hb ho
    have HFr : Hid (From w b0 n f) := hf
    clear h hg ht hf
    cases hs : nm s with
    | false =>
      rw [hs] at HIs
      go_enter Try.func4, Try.ntmps4
      go_wp2_with (first
        | (go_at_call 7; refine HN.mono ?_; rintro e w1 ⟨sp, rfl, hh⟩; obtain ⟨sl, lk, slots, h1, _⟩ := hh.out; have HZ1 := HZ w1 h1.B)
        | (go_at_call 22; refine HZ1.mono ?_; rintro e w2 ⟨X, rfl, hb2⟩; have h2 := h1.below hb2; have HBg := g_begin h2)
        | (go_at_call 8; refine HBg.mono ?_; rintro e w3 ⟨t, rfl, hh3⟩; obtain ⟨rd, wr, h3⟩ := hh3.out; have HP := g_put_no (s := s) h3 (.slice b0 n c) hs)
        | (go_at_call 16; refine HP.mono ?_; rintro e w4 ⟨rfl, hb4⟩)
        | (go_at_call 23; refine (HIs _).mono ?_; rintro e w5 ⟨rfl, rfl⟩))
      go_ret
      exact ⟨rfl, hb4⟩
    | true =>
      clear HIs
      go_enter Try.func4, Try.ntmps4
      go_wp2_with (first
        | (go_at_call 7; refine HN.mono ?_; rintro e w1 ⟨sp, rfl, hh⟩; obtain ⟨sl, lk, slots, h1, _⟩ := hh.out; have HZ1 := HZ w1 h1.B; clear HZ hh)
        | (go_at_call 22; refine HZ1.mono ?_; clear HZ1; rintro e w2 ⟨X, rfl, hb2⟩; have h2 := h1.below hb2; have HBg := g_begin h2; clear h1 hb2)
        | (go_at_call 8; refine HBg.mono ?_; clear HBg; rintro e w3 ⟨t, rfl, hh3⟩; obtain ⟨rd, wr, h3⟩ := hh3.out; have HP := g_put (s := s) h3 b0 c HFr.out hn hs; clear h2 hh3)
        | (go_at_call 16; refine HP.mono ?_; clear HP; rintro e w4 ⟨rfl, hh4⟩; obtain ⟨x, h4⟩ := hh4.out; have HG := g_get h4 hn hs; clear h3 hh4)
        | (go_at_call 14; refine HG.mono ?_; clear HG; rintro e w5 ⟨v5, rfl, ho5, hh5⟩; have h5 := hh5.out; have HE := HEq w5 v5 h5.g.B ho5; obtain ⟨av, cv, rfl⟩ := ho5.slice; have HL := g_lock h5; clear h4 hh5 ho5)
        | (go_at_call 15; refine HE.mono ?_; clear HE; rintro e w5' ⟨rfl, rfl⟩)
        | (go_at_call 17; refine HL.mono ?_; clear HL; rintro e w6 ⟨rfl, hh6⟩; obtain ⟨L, h6⟩ := hh6.out; have HC := g_check h6; clear h5 hh6)
        | (go_at_call 19; refine HC.mono ?_; clear HC; rintro e w7 ⟨rfl, hh7⟩; have h7 := hh7.out; have HPb := g_publish h7; clear h6 hh7)
        | (go_at_call 20; refine HPb.mono ?_; clear HPb; rintro e w8 ⟨rfl, hh8⟩; obtain ⟨SL, L', h8⟩ := hh8.out; have HCk := s_clock h8.S; have HB2 := g_begin2 h8; clear h7 hh8)
        | (go_at_call 24; refine HCk.mono ?_; clear HCk; rintro e w8' ⟨rfl, rfl⟩)
        | (go_at_call 8; refine HB2.mono ?_; clear HB2; rintro e w9 ⟨u, rfl, hh9⟩; obtain ⟨ud, ur, h9⟩ := hh9.out; have HG2 := g_get2 h9 hn hs; clear h8 hh9)
        | (go_at_call 14; refine HG2.mono ?_; clear HG2; rintro e w10 ⟨v10, rfl, ho10, hh10⟩; obtain ⟨R, h10⟩ := hh10.out; have HE2 := HEq w10 v10 h10.g.B ho10; obtain ⟨aw, cw, rfl⟩ := ho10.slice; have HA1 := g_abort h10; clear h9 hh10 ho10)
        | (go_at_call 15; refine HE2.mono ?_; clear HE2; rintro e w10' ⟨rfl, rfl⟩)
        | (go_at_call 25; refine HA1.mono ?_; clear HA1; rintro e w11 ⟨rfl, hh11⟩; obtain ⟨L'', s11, t11, b11⟩ := hh11.out; have HA2 := g_abort2 s11 t11 b11; clear h10 hh11)
        | (go_at_call 25; refine HA2.mono ?_; clear HA2; rintro e w12 ⟨rfl, b12⟩))
      go_ret
      exact ⟨rfl, b12⟩
  · obtain ⟨q, hq, HN, HZ⟩ := new_bad (cap := cap) h hN hgt
    have hq2 : (q == q) = true := by simp
    clear h hgt hf
    go_enter Try.func4, Try.ntmps4
    go_wp2_with (first
      | (go_at_call 7; refine HN.mono ?_; rintro e w1 ⟨rfl, hb1⟩; have HZ1 := HZ w1 hb1)
      | (go_at_call 22; refine HZ1.mono ?_; rintro e w2 ⟨rfl, hb2⟩))
    go_ret
    exact ⟨rfl, hb2⟩
end Go.Proofs.Ytdackomidfofgaa
