/-
  net's codecs: a message's bytes are read.
-/
import Derived.Test.YtbpolfoagmehhaaDoorNqH
namespace Go.Proofs.YtbpolfoagmehhaaDoor
open Go.RowKit
set_option linter.unusedVariables false

set_option maxHeartbeats 400000 in
theorem over2 (a0 : Option Addr) (n c : Nat) (f : Nat → Int) (w : World) (hbig : n ≤ 140737488355328) (hby : ∀ i, 0 ≤ f i ∧ f i ≤ 255) (hf : From w a0 n f) :
    Calls Tryd.prog 41 #[.slice a0 n c] w fun e w' => ∃ R ao cap, e = .returned (.pointer (some ⟨R, 0, none⟩)) ∧ RdInv w' R ao cap f n 0 ∧ w.heap.size ≤ R ∧ (∀ g, ao = some ⟨g, 0, none⟩ → w.heap.size ≤ g) ∧ Below w.heap.size w w' := by
  go_enter Tryd.func41, Tryd.ntmps41
  go_wp2_with fail
  refine (clone a0 n c f w hbig hf).mono ?_
  rintro e w1 ⟨v1, rfl, ho, hb⟩
  obtain ⟨ao, cap, rfl, hf1, h0, h1, h2, h3⟩ := Own.openF ho
  go_wp2
  go_ret
  refine ⟨w1.heap.size, ao, cap, rfl, ⟨?_, ?_, ?_, ?_, Nat.zero_le _, h1, h2, hbig, hby, ?_⟩, hb.size, fun g hg => ?_, hb.alloc hb.size _⟩
  · rw [World.cell?_alloc_at _ _ _ _ rfl]; rfl
  · rw [World.cell?_alloc_at _ _ _ _ rfl]; rfl
  · rw [World.cell?_alloc_at _ _ _ _ rfl]; rfl
  · rw [World.frozen?_alloc_at _ _ _ _ rfl]
  · rcases hf1 with ⟨k1, k2⟩ | ⟨x, k1, k2⟩
    · exact .inl ⟨k1, k2, h0 k1⟩
    · obtain ⟨g, rfl, g1, g2⟩ := h3 x k1
      refine .inr ⟨g, k1, fun i hi => ?_⟩
      have := k2 i hi
      rw [Addr.add_lit, Nat.zero_add] at this
      rw [World.cell?_alloc_past _ _ _ g2]
      exact this
  · obtain ⟨g', e, g1, g2⟩ := h3 _ hg
    injection e with e
    omega
/-- What is read of a message's bytes into the request. -/
def rdq (f : Nat → Int) (n : Nat) (ss : List Sp) (cs : Array Value) : Option (Array Value) :=
  if (unf f n).1 = 0 ∧ (unf f n).2.2 = [] then (spAll (fn (unf f n).2.1) (unf f n).2.1.length ss 0 cs).bind fun x => if x.1 = (unf f n).2.1.length then some x.2 else none else none
theorem K2.join {R q : Nat} {w w1 w' : World} (hb : Below w.heap.size w w1) (h : K2 R q w1 w') (hR : w.heap.size ≤ R) : K2 q q w w' :=
  ⟨h.os.trans hb.os, h.tape.trans hb.tape, h.output.trans hb.output, Nat.le_trans hb.size h.size, fun k hk _ h2 => (h.block k (Nat.lt_of_lt_of_le hk hb.size) (by omega) h2).trans (hb.block k hk)⟩
theorem K2.ofBelow {q : Nat} {w w' : World} (hb : Below w.heap.size w w') : K2 q q w w' := ⟨hb.os, hb.tape, hb.output, hb.size, fun k hk _ _ => hb.block k hk⟩
set_option maxHeartbeats 4000000 in
theorem n_reads {w : World} {L H q : Nat} {ss : List Sp} {vs : List (Value × Value)} {j g : Nat} {cs : Array Value} {T : TypeId} (h : Jn w L H q (cJ j) ss vs j g) (hH : H ≤ w.heap.size) (hq : q < L) (hrq : w.heap[q]? = some (.cells cs T (0, 0))) (hsm : ss.length ≤ 10) (hok : ∀ s ∈ ss, s.ok cs.size)
    (a0 : Option Addr) (n c : Nat) (f : Nat → Int) (hbig : n ≤ 140737488355328) (hby : ∀ i, 0 ≤ f i ∧ f i ≤ 255) (hf : From w a0 n f) (hnc : n ≤ c) (hc : c ≤ 9223372036854775807) (ht : Tab w) :
    Calls Tryd.prog 24 #[cJ j, .slice a0 n c] w fun e w' => e = .returned (.bool (rdq f n ss cs).isSome) ∧ (∀ cs', rdq f n ss cs = some cs' → w'.heap[q]? = some (.cells cs' T (0, 0))) ∧ K2 q q w w' := by
  have hqw : q < w.heap.size := (Array.getElem?_eq_some_iff.1 hrq).1
  have hbo : ∀ o, Below w.heap.size w (w.alloc o) := fun o => (Below.refl _ w).alloc (Nat.le_refl _) o
  have HU : ∀ o, Calls Tryd.prog 40 #[.slice a0 n c] (w.alloc o) fun e' w' => ∃ v1 a2 c2, e' = .returned (.tuple #[v1, .slice a2 (unf f n).2.2.length c2, .int .i64 (unf f n).1]) ∧ Own w' w.heap.size v1 (unf f n).2.1 ∧ Below w.heap.size w w' ∧ w'.heap[w.heap.size]? = some o := fun o => by
    refine (wUnframe a0 n c f (w.alloc o) hbig hby (hf.below (hbo o) (Nat.le_refl _)) hnc hc (ht.below (hbo o) (Nat.le_refl _))).mono ?_
    rintro e w' ⟨v1, v2, rfl, k1, k2, k3⟩
    obtain ⟨ao, c2, rfl, _⟩ := k2.open
    exact ⟨v1, ao, c2, rfl, k1.mono (hbo o).size, (hbo o).trans (k3.mono (hbo o).size), (k3.block _ (by simp)).trans (heap_new _ _ _ rfl)⟩
  by_cases hu : ¬ (unf f n).1 = 0
  · have hr : rdq f n ss cs = none := by unfold rdq; rw [if_neg (by simp [hu])]
    rw [hr]
    have hu' : ((unf f n).1 != 0) = true := by simpa using hu
    have HQ : Hid (∀ w', Below w.heap.size w w' → K2 q q w w') := fun w' hb => K2.ofBelow hb
    generalize (unf f n).1 = U at *
    clear h hrq hok hf ht hu
    go_enter Tryd.func24, Tryd.ntmps24
    go_wp2_with (go_at_call 40; refine (HU _).mono ?_; rintro e w2 ⟨v1, a2, c2, rfl, k1, k2, k3⟩)
    go_ret
    exact ⟨rfl, (fun cs' hcs => by cases hcs), HQ.out _ k2⟩
  have hu := Classical.not_not.1 hu
  by_cases hl : ¬ (unf f n).2.2 = []
  · have hr : rdq f n ss cs = none := by unfold rdq; rw [if_neg (by simp [hl])]
    rw [hr]
    rw [hu] at HU
    have hl' : (0 : Int) < ((unf f n).2.2.length : Int) := by
      cases hx : (unf f n).2.2 with
      | nil => exact absurd hx hl
      | cons a l => simp only [List.length_cons]; omega
    have HQ : Hid (∀ w', Below w.heap.size w w' → K2 q q w w') := fun w' hb => K2.ofBelow hb
    generalize (unf f n).2.2.length = M at *
    clear h hrq hok hf ht hu hl
    go_enter Tryd.func24, Tryd.ntmps24
    go_wp2_with (go_at_call 40; refine (HU _).mono ?_; rintro e w2 ⟨v1, a2, c2, rfl, k1, k2, k3⟩)
    go_ret
    exact ⟨rfl, (fun cs' hcs => by cases hcs), HQ.out _ k2⟩
  have hl := Classical.not_not.1 hl
  rw [hu, hl] at HU
  obtain ⟨_, hP65, hPby⟩ := unf_sound hby hu hl
  have hrd : rdq f n ss cs = (spAll (fn (unf f n).2.1) (unf f n).2.1.length ss 0 cs).bind fun x => if x.1 = (unf f n).2.1.length then some x.2 else none := by unfold rdq; rw [if_pos ⟨hu, hl⟩]
  rw [hrd]
  clear hrd hu hl
  generalize (unf f n).2.1 = P at *
  have HO : Hid (∀ w2 v1, Own w2 w.heap.size v1 P → Below w.heap.size w w2 → Calls Tryd.prog 41 #[v1] w2 fun e w' => ∃ R ao cap, e = .returned (.pointer (some ⟨R, 0, none⟩)) ∧ RS w' R ao cap (fn P) P.length 0 q cs T ∧ w2.heap.size ≤ R ∧ Below w2.heap.size w2 w' ∧ Below w.heap.size w w') := fun w2 v1 ho hb => by
    obtain ⟨ao, c2, rfl, hf2, h0, h1, h2, h3⟩ := ho.open
    refine (over2 ao P.length c2 (fn P) w2 (by omega) (fn_by hPby) hf2).mono ?_
    rintro e w' ⟨R, ao', cap, rfl, k1, k2, k3, k4⟩
    have hs := hb.size
    refine ⟨R, ao', cap, rfl, ⟨k1, ((k4.block q (by omega)).trans (hb.block q hqw)).trans hrq, by omega, fun g' hg' _ => ?_⟩, k2, k4, hb.trans (k4.mono hb.size)⟩
    have := k3 g' hg'
    omega
  have HJ : Hid (∀ w2 w3 R ao cap, RS w3 R ao cap (fn P) P.length 0 q cs T → w2.heap.size ≤ R → Below w.heap.size w w2 → Below w2.heap.size w2 w3 → Calls Tryd.prog 45 #[.pointer (some ⟨R, 0, none⟩), .pointer (some ⟨j, 0, none⟩)] w3 fun e w' => ∃ x : Int, e = .returned (.int .i64 x) ∧ ((x = 0 ∧ ∃ p' cs', spAll (fn P) P.length ss 0 cs = some (p', cs') ∧ RS w' R ao cap (fn P) P.length p' q cs' T) ∨ (x ≠ 0 ∧ spAll (fn P) P.length ss 0 cs = none)) ∧ K2 q q w w') := fun w2 w3 R ao cap hrs hR hb2 hb3 => by
    have s2 := hb2.size
    have s3 := hb3.size
    have hb : Below w.heap.size w w3 := hb2.trans (hb3.mono hb2.size)
    have hj : Jn w3 L H q (cJ j) ss vs j g := h.told (Nat.le_refl _) (Nat.le_refl _) (fun k _ hk => hb.block k (by omega))
    refine (r_join hj hrs (by omega) hq (by omega) hsm hok).mono ?_
    rintro e w' ⟨x, rfl, k1, k2⟩
    exact ⟨x, rfl, k1, K2.join hb k2 (by omega)⟩
  have HB : Hid (∀ w2 w3 o, Below w.heap.size w w2 → w2.heap[w.heap.size]? = some o → Below w2.heap.size w2 w3 → w3.heap[w.heap.size]? = some o) := fun w2 w3 o h1 h2 h3 => (h3.block _ (Array.getElem?_eq_some_iff.1 h2).1).trans h2
  clear h hrq hok hf ht hbo hPby hby hP65
  cases hsp : spAll (fn P) P.length ss 0 cs with
  | none =>
    rw [hsp] at HJ
    have HJ2 : Hid (∀ w2 w3 R ao cap, RS w3 R ao cap (fn P) P.length 0 q cs T → w2.heap.size ≤ R → Below w.heap.size w w2 → Below w2.heap.size w2 w3 → Calls Tryd.prog 45 #[.pointer (some ⟨R, 0, none⟩), .pointer (some ⟨j, 0, none⟩)] w3 fun e w' => ∃ x : Int, e = .returned (.int .i64 x) ∧ (x == 0) = false ∧ K2 q q w w') := fun w2 w3 R ao cap h1 h2 h3 h4 => by
      refine (HJ.out w2 w3 R ao cap h1 h2 h3 h4).mono ?_
      rintro e w' ⟨x, rfl, k1, k2⟩
      rcases k1 with ⟨_, p', cs', e, _⟩ | ⟨k1, _⟩
      · cases e
      · exact ⟨x, rfl, by simpa using k1, k2⟩
    clear HJ hsp
    go_enter Tryd.func24, Tryd.ntmps24
    go_wp2_with (first
      | (go_at_call 40; refine (HU _).mono ?_; rintro e w2 ⟨v1, a2, c2, rfl, k1, k2, k3⟩)
      | (go_at_call 41; refine (HO.out w2 v1 k1 k2).mono ?_; rintro e w3 ⟨R, ao, cap, rfl, m1, m2, m3, m4⟩; have b3 := HB.out w2 w3 _ k2 k3 m3; have cb0 := cell_of b3 0; have cb1 := cell_of b3 1; simp at cb0 cb1)
      | (go_at_call 45; refine (HJ2.out w2 w3 R ao cap m1 m2 k2 m3).mono ?_; rintro e w4 ⟨x, rfl, n1, n2⟩))
    go_ret
    exact ⟨rfl, (fun cs' hcs => by cases hcs), n2⟩
  | some pc =>
    obtain ⟨p', cs'⟩ := pc
    rw [hsp] at HJ
    have HJ2 : Hid (∀ w2 w3 R ao cap, RS w3 R ao cap (fn P) P.length 0 q cs T → w2.heap.size ≤ R → Below w.heap.size w w2 → Below w2.heap.size w2 w3 → Calls Tryd.prog 45 #[.pointer (some ⟨R, 0, none⟩), .pointer (some ⟨j, 0, none⟩)] w3 fun e w' => e = .returned (.int .i64 0) ∧ RS w' R ao cap (fn P) P.length p' q cs' T ∧ K2 q q w w') := fun w2 w3 R ao cap h1 h2 h3 h4 => by
      refine (HJ.out w2 w3 R ao cap h1 h2 h3 h4).mono ?_
      rintro e w' ⟨x, rfl, k1, k2⟩
      rcases k1 with ⟨rfl, p2, cs2, e, k1⟩ | ⟨k1, e⟩
      · injection e with e
        injection e with e1 e2
        subst e1
        subst e2
        exact ⟨rfl, k1, k2⟩
      · cases e
    clear HJ hsp
    have HE : Hid (∀ w4 R ao cap, RS w4 R ao cap (fn P) P.length p' q cs' T → K2 q q w w4 → Calls Tryd.prog 42 #[.pointer (some ⟨R, 0, none⟩)] w4 fun e w' => e = .returned (.int .i64 (if p' = P.length then 0 else 14)) ∧ w'.heap[q]? = some (.cells cs' T (0, 0)) ∧ K2 q q w w') := fun w4 R ao cap h1 h2 => by
      refine (wEnd h1.rd).mono ?_
      rintro e w' ⟨rfl, d, rfl⟩
      refine ⟨?_, h1.rq, ⟨h2.os, h2.tape, h2.output, h2.size, h2.block⟩⟩
      have hp := h1.rd.hp
      by_cases hpe : p' = P.length
      · rw [if_pos hpe, if_pos (by omega)]
      · rw [if_neg hpe, if_neg (by omega)]
    by_cases hpe : p' = P.length
    · rw [if_pos hpe] at HE
      rw [Option.bind_some]
      simp only [hpe, if_true]
      go_enter Tryd.func24, Tryd.ntmps24
      go_wp2_with (first
        | (go_at_call 40; refine (HU _).mono ?_; rintro e w2 ⟨v1, a2, c2, rfl, k1, k2, k3⟩)
        | (go_at_call 41; refine (HO.out w2 v1 k1 k2).mono ?_; rintro e w3 ⟨R, ao, cap, rfl, m1, m2, m3, m4⟩; have b3 := HB.out w2 w3 _ k2 k3 m3; have cb0 := cell_of b3 0; have cb1 := cell_of b3 1; simp at cb0 cb1)
        | (go_at_call 45; refine (HJ2.out w2 w3 R ao cap m1 m2 k2 m3).mono ?_; rintro e w4 ⟨rfl, n1, n2⟩)
        | (go_at_call 42; refine (HE.out w4 R ao cap n1 n2).mono ?_; rintro e w5 ⟨rfl, q1, q2⟩))
      go_ret
      exact ⟨rfl, (fun cs2 hcs => by cases hcs; exact q1), q2⟩
    · rw [if_neg hpe] at HE
      rw [Option.bind_some]
      simp only [hpe, if_false]
      go_enter Tryd.func24, Tryd.ntmps24
      go_wp2_with (first
        | (go_at_call 40; refine (HU _).mono ?_; rintro e w2 ⟨v1, a2, c2, rfl, k1, k2, k3⟩)
        | (go_at_call 41; refine (HO.out w2 v1 k1 k2).mono ?_; rintro e w3 ⟨R, ao, cap, rfl, m1, m2, m3, m4⟩; have b3 := HB.out w2 w3 _ k2 k3 m3; have cb0 := cell_of b3 0; have cb1 := cell_of b3 1; simp at cb0 cb1)
        | (go_at_call 45; refine (HJ2.out w2 w3 R ao cap m1 m2 k2 m3).mono ?_; rintro e w4 ⟨rfl, n1, n2⟩)
        | (go_at_call 42; refine (HE.out w4 R ao cap n1 n2).mono ?_; rintro e w5 ⟨rfl, q1, q2⟩))
      go_ret
      exact ⟨rfl, (fun cs2 hcs => by cases hcs), q2⟩
end Go.Proofs.YtbpolfoagmehhaaDoor
