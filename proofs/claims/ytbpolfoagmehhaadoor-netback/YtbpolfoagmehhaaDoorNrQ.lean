/-
  NetBack: the law's walk. Condition: the table is laid; the bytes are at most 2^47. Printed by tools/mkback.py.
-/
import Derived.Test.YtbpolfoagmehhaaDoorNrO
namespace Go.Proofs.YtbpolfoagmehhaaDoor
open Go.RowKit
set_option linter.unusedVariables false

/-- A request's message is no reply's, and a reply's is no request's. -/
theorem unf_fn {L : List Int} (hl : L.length ≤ 65536) (hby : ∀ x ∈ L, 0 ≤ x ∧ x ≤ 255) : unf (fn (frameB (fn L) L.length)) (frameB (fn L) L.length).length = (0, L, []) := by
  rw [unf_at (g := fn L) (m := L.length) hl (fn_by hby) (lst_fn _), lst_fn]
theorem ask_noRep {id t : ByteArray} {k se : Int} (h : mayB id k se t = true) : resR (fn (msg 1 (askIs id k se t))) (msg 1 (askIs id k se t)).length = (⟨#[]⟩, 0, 0, 0, ⟨#[]⟩, 5) := by
  refine resR_out ?_
  unfold msg
  rw [unf_fn (ask_len h) (ask_by h)]
  intro hh
  exact absurd hh.2.2.2 (by simp [load, fn])
theorem rep_noAsk {id t : ByteArray} {st se wy : Int} (h : mayR id st se wy t = true) : resA (fn (msg 2 (repIs id st se wy t))) (msg 2 (repIs id st se wy t)).length = (⟨#[]⟩, 0, 0, ⟨#[]⟩, 5) := by
  refine resA_out ?_
  unfold msg
  rw [unf_fn (rep_len h) (rep_by h)]
  intro hh
  exact absurd hh.2.2.2 (by simp [load, fn])
theorem ask_self {id t : ByteArray} {k se : Int} (h : mayB id k se t = true) : resA (fn (msg 1 (askIs id k se t))) (msg 1 (askIs id k se t)).length = (id, k, se, t, 0) := resA_good h (lst_fn _)
theorem rep_self {id t : ByteArray} {st se wy : Int} (h : mayR id st se wy t = true) : resR (fn (msg 2 (repIs id st se wy t))) (msg 2 (repIs id st se wy t)).length = (id, st, se, wy, t, 0) := resR_good h (lst_fn _)
/-- What ReadAsk tells is a request that may be, of just these bytes; or nothing. -/
theorem resA_two {f : Nat → Int} (hby : ∀ i, 0 ≤ f i ∧ f i ≤ 255) (n : Nat) : (resA f n = (⟨#[]⟩, 0, 0, ⟨#[]⟩, 5)) ∨ ∃ id k se t, resA f n = (id, k, se, t, 0) ∧ mayB id k se t = true ∧ lst f n = msg 1 (askIs id k se t) := by
  cases hp : prs 1 askK f n with
  | none => exact .inl (resA_none hp)
  | some is =>
    obtain ⟨hfit, h1, _⟩ := prs_sound hby askK_le hp
    obtain ⟨k, se, id, t, rfl, _⟩ := ask_form hfit
    rw [resA_some hp]
    cases hm : mayB id k se t with
    | false => exact .inl rfl
    | true => exact .inr ⟨id, k, se, t, rfl, hm, h1⟩
theorem own_read {w : World} {B : Nat} {v : Value} {M : List Int} (ho : Own w B v M) : ∃ a c, v = .slice a M.length c ∧ From w a M.length (fn M) ∧ M.length ≤ c ∧ c ≤ 9223372036854775807 := by
  obtain ⟨a, c, rfl, hf, h0, h1, h2, h3⟩ := ho.open
  exact ⟨a, c, rfl, hf, h1, h2⟩
theorem msg_len {id t : ByteArray} {k se : Int} (h : mayB id k se t = true) : (msg 1 (askIs id k se t)).length ≤ 140737488355328 := by
  have h1 := ask_len h
  have h2 := putB_le (load 1 (askIs id k se t)).length (by omega)
  rw [msg, frameB_len]
  omega
theorem msgR_len {id t : ByteArray} {st se wy : Int} (h : mayR id st se wy t = true) : (msg 2 (repIs id st se wy t)).length ≤ 140737488355328 := by
  have h1 := rep_len h
  have h2 := putB_le (load 2 (repIs id st se wy t)).length (by omega)
  rw [msg, frameB_len]
  omega

set_option maxHeartbeats 8000000 in
theorem back_walk (id : ByteArray) (k se : Int) (t : ByteArray) (pid : ByteArray) (st ps wy : Int) (pt : ByteArray) (a0 : Option Addr) (n c : Nat) (f : Nat → Int) (w : World) (hbig : n ≤ 140737488355328) (hby : ∀ i, 0 ≤ f i ∧ f i ≤ 255) (hf : From w a0 n f) (hnc : n ≤ c) (hc : c ≤ 9223372036854775807) (ht : Tab w) :
    Calls Tryd.prog 5 #[.agg #[.string id, .int .i64 k, .int .i64 se, .string t], .agg #[.string pid, .int .i64 st, .int .i64 ps, .int .i64 wy, .string pt], .slice a0 n c] w fun e w' => e = .returned (.bool true) ∧ Below w.heap.size w w' := by
  obtain ⟨W, hW⟩ : ∃ W, W = (w.alloc (.cells #[.string id, .int .i64 k, .int .i64 se, .string t] 23)).alloc (.cells #[.string pid, .int .i64 st, .int .i64 ps, .int .i64 wy, .string pt] 34) := ⟨_, rfl⟩
  have hb0 : Below w.heap.size w W := by rw [hW]; exact ((Below.refl _ w).alloc (Nat.le_refl _) _).alloc (by simp) _
  have hsz : W.heap.size = w.heap.size + 2 := by rw [hW]; simp
  have hq0 : W.heap[w.heap.size]? = some (.cells #[.string id, .int .i64 k, .int .i64 se, .string t] 23 (0, 0)) := by rw [hW, Below.heap_alloc _ _ _ (by simp)]; exact heap_new _ _ _ rfl
  have hp0 : W.heap[w.heap.size + 1]? = some (.cells #[.string pid, .int .i64 st, .int .i64 ps, .int .i64 wy, .string pt] 34 (0, 0)) := by rw [hW]; exact heap_new _ _ _ (by simp)
  have HC : Hid (∀ wq, Below W.heap.size W wq → wq.cell? ⟨w.heap.size, 0, none⟩ = some (.string id) ∧ wq.cell? ⟨w.heap.size, 1, none⟩ = some (.int .i64 k) ∧ wq.cell? ⟨w.heap.size, 2, none⟩ = some (.int .i64 se) ∧ wq.cell? ⟨w.heap.size, 3, none⟩ = some (.string t) ∧ wq.cell? ⟨w.heap.size + 1, 0, none⟩ = some (.string pid) ∧ wq.cell? ⟨w.heap.size + 1, 1, none⟩ = some (.int .i64 st) ∧ wq.cell? ⟨w.heap.size + 1, 2, none⟩ = some (.int .i64 ps) ∧ wq.cell? ⟨w.heap.size + 1, 3, none⟩ = some (.int .i64 wy) ∧ wq.cell? ⟨w.heap.size + 1, 4, none⟩ = some (.string pt)) := fun wq hq => by
    have e : wq.heap[w.heap.size]? = _ := (hq.block _ (by omega)).trans hq0
    have e' : wq.heap[w.heap.size + 1]? = _ := (hq.block _ (by omega)).trans hp0
    exact ⟨cell_of e 0, cell_of e 1, cell_of e 2, cell_of e 3, cell_of e' 0, cell_of e' 1, cell_of e' 2, cell_of e' 3, cell_of e' 4⟩
  have HT : Hid (∀ wq, Below W.heap.size W wq → Tab wq) := fun wq hq => ht.below (hb0.trans (hq.mono hb0.size)) (Nat.le_refl _)
  have HA : Hid (∀ wa o, Below W.heap.size W wa → Below W.heap.size W (wa.alloc o)) := fun wa o h1 => h1.alloc h1.size _
  have HB : Hid (∀ wa wb, Below W.heap.size W wa → Below wa.heap.size wa wb → Below W.heap.size W wb) := fun wa wb h1 h2 => h1.trans (h2.mono h1.size)
  have HZ : Hid (∀ wa, Below W.heap.size W wa → Below w.heap.size w wa) := fun wa h => hb0.trans (h.mono hb0.size)
  have HOw : Hid (∀ (wa : World) (o : Obj) (wb : World) (B : Nat) (v : Value) (M : List Int), Own wa B v M → Below (wa.alloc o).heap.size (wa.alloc o) wb → Own wb B v M) := fun wa o wb B v M h1 h2 => (h1.below ((Below.refl _ wa).alloc (Nat.le_refl _) o) (Nat.le_refl _)).below h2 (Nat.le_refl _)
  have HQ : Hid (∀ (wa wb : World) (x0 x1 x2 x3 : Value) (o : Obj), Below (wa.alloc (.cells #[x0, x1, x2, x3] 23)).heap.size (wa.alloc (.cells #[x0, x1, x2, x3] 23)) wb → (wb.alloc o).cell? ⟨wa.heap.size, 0, none⟩ = some x0 ∧ (wb.alloc o).cell? ⟨wa.heap.size, 1, none⟩ = some x1 ∧ (wb.alloc o).cell? ⟨wa.heap.size, 2, none⟩ = some x2 ∧ (wb.alloc o).cell? ⟨wa.heap.size, 3, none⟩ = some x3) := fun wa wb x0 x1 x2 x3 o h => by
    have e1 : wb.heap[wa.heap.size]? = _ := (h.block _ (by simp)).trans (heap_new wa _ _ rfl)
    have e : (wb.alloc o).heap[wa.heap.size]? = _ := (Below.heap_alloc _ _ _ (Array.getElem?_eq_some_iff.1 e1).1).trans e1
    exact ⟨cell_of e 0, cell_of e 1, cell_of e 2, cell_of e 3⟩
  have HQR : Hid (∀ (wa wb : World) (x0 x1 x2 x3 x4 : Value) (o : Obj), Below (wa.alloc (.cells #[x0, x1, x2, x3, x4] 34)).heap.size (wa.alloc (.cells #[x0, x1, x2, x3, x4] 34)) wb → (wb.alloc o).cell? ⟨wa.heap.size, 0, none⟩ = some x0 ∧ (wb.alloc o).cell? ⟨wa.heap.size, 1, none⟩ = some x1 ∧ (wb.alloc o).cell? ⟨wa.heap.size, 2, none⟩ = some x2 ∧ (wb.alloc o).cell? ⟨wa.heap.size, 3, none⟩ = some x3 ∧ (wb.alloc o).cell? ⟨wa.heap.size, 4, none⟩ = some x4) := fun wa wb x0 x1 x2 x3 x4 o h => by
    have e1 : wb.heap[wa.heap.size]? = _ := (h.block _ (by simp)).trans (heap_new wa _ _ rfl)
    have e : (wb.alloc o).heap[wa.heap.size]? = _ := (Below.heap_alloc _ _ _ (Array.getElem?_eq_some_iff.1 e1).1).trans e1
    exact ⟨cell_of e 0, cell_of e 1, cell_of e 2, cell_of e 3, cell_of e 4⟩
  have N1 : Hid (∀ wq, Below W.heap.size W wq → Calls Tryd.prog 6 #[.agg #[.string id, .int .i64 k, .int .i64 se, .string t]] wq fun e w' => ∃ v', e = .returned (.tuple #[v', .int .i64 (askE id k se t)]) ∧ Own w' W.heap.size v' (askB id k se t) ∧ Below W.heap.size W w') := fun wq hq => by
    refine (n_ask id k se t wq (HT.out wq hq)).mono ?_
    rintro e w' ⟨v, rfl, o1, b1⟩
    exact ⟨v, rfl, o1.mono hq.size, HB.out wq w' hq b1⟩
  have N4 : Hid (∀ wq, Below W.heap.size W wq → Calls Tryd.prog 13 #[.agg #[.string pid, .int .i64 st, .int .i64 ps, .int .i64 wy, .string pt]] wq fun e w' => ∃ v', e = .returned (.tuple #[v', .int .i64 (repE pid st ps wy pt)]) ∧ Own w' W.heap.size v' (repB pid st ps wy pt) ∧ Below W.heap.size W w') := fun wq hq => by
    refine (n_rep pid st ps wy pt wq (HT.out wq hq)).mono ?_
    rintro e w' ⟨v, rfl, o1, b1⟩
    exact ⟨v, rfl, o1.mono hq.size, HB.out wq w' hq b1⟩
  have NRA : Hid (∀ wq v M, M.length ≤ 140737488355328 → (∀ x ∈ M, 0 ≤ x ∧ x ≤ 255) → Below W.heap.size W wq → Own wq W.heap.size v M → Calls Tryd.prog 8 #[v] wq fun e w' => e = .returned (tellA (resA (fn M) M.length)) ∧ Below wq.heap.size wq w') := fun wq v M hM hMb hq ho => by
    obtain ⟨a, c', rfl, hf', h1, h2⟩ := own_read ho
    exact n_readAsk a _ c' (fn M) wq hM (fn_by hMb) hf' h1 h2 (HT.out wq hq)
  have NRR : Hid (∀ wq v M, M.length ≤ 140737488355328 → (∀ x ∈ M, 0 ≤ x ∧ x ≤ 255) → Below W.heap.size W wq → Own wq W.heap.size v M → Calls Tryd.prog 15 #[v] wq fun e w' => e = .returned (tellR (resR (fn M) M.length)) ∧ Below wq.heap.size wq w') := fun wq v M hM hMb hq ho => by
    obtain ⟨a, c', rfl, hf', h1, h2⟩ := own_read ho
    exact n_readRep a _ c' (fn M) wq hM (fn_by hMb) hf' h1 h2 (HT.out wq hq)
  have N7 : Hid (∀ wq, Below W.heap.size W wq → Calls Tryd.prog 8 #[.slice a0 n c] wq fun e w' => e = .returned (tellA (resA f n)) ∧ Below wq.heap.size wq w') := fun wq hq => n_readAsk a0 n c f wq hbig hby (hf.below (HZ.out wq hq) (Nat.le_refl _)) hnc hc (HT.out wq hq)
  have N8 : Hid (∀ wq qi qk qs qt, Below W.heap.size W wq → mayB qi qk qs qt = true → lst f n = msg 1 (askIs qi qk qs qt) → Calls Tryd.prog 6 #[.agg #[.string qi, .int .i64 qk, .int .i64 qs, .string qt]] wq fun e w' => ∃ v', e = .returned (.tuple #[v', .int .i64 0]) ∧ Below W.heap.size W w' ∧ Calls Tryd.prog 10 #[v', .slice a0 n c] w' fun e w2 => e = .returned (.bool true) ∧ w2 = w') := fun wq qi qk qs qt hq hm he => by
    refine (n_ask qi qk qs qt wq (HT.out wq hq)).mono ?_
    rintro e w' ⟨v, rfl, o1, b1⟩
    rw [show askB qi qk qs qt = msg 1 (askIs qi qk qs qt) by simp [askB, hm], ← he] at o1
    obtain ⟨a, c', rfl, hf', _⟩ := Own.openF o1
    refine ⟨_, by rw [show askE qi qk qs qt = 0 by simp [askE, hm]], HB.out wq w' hq b1, ?_⟩
    exact equal_yes a a0 n c' n c f f w' hf' (hf.below (HZ.out w' (HB.out wq w' hq b1)) (Nat.le_refl _)) rfl
  have R2 := resA_two hby n
  clear hf ht hq0 hp0 hby HT hb0 hsz
  cases hm : mayB id k se t with
  | true =>
    have hml := msg_len hm
    have hmb := msg_by hm
    have A2 : Hid (∀ wq v, Below W.heap.size W wq → Own wq W.heap.size v (msg 1 (askIs id k se t)) → Calls Tryd.prog 8 #[v] wq fun e w' => e = .returned (tellA (id, k, se, t, 0)) ∧ Below wq.heap.size wq w') := fun wq v h1 h2 => by
      have := NRA.out wq v _ hml hmb h1 h2
      rw [ask_self hm] at this
      exact this
    have A3 : Hid (∀ wq v, Below W.heap.size W wq → Own wq W.heap.size v (msg 1 (askIs id k se t)) → Calls Tryd.prog 15 #[v] wq fun e w' => e = .returned (tellR (⟨#[]⟩, 0, 0, 0, ⟨#[]⟩, 5)) ∧ Below wq.heap.size wq w') := fun wq v h1 h2 => by
      have := NRR.out wq v _ hml hmb h1 h2
      rw [ask_noRep hm] at this
      exact this
    rw [show askE id k se t = 0 by simp [askE, hm], show askB id k se t = msg 1 (askIs id k se t) by simp [askB, hm]] at N1
    generalize msg 1 (askIs id k se t) = M1 at A2 A3 N1
    clear hml hmb hm
    cases hr : mayR pid st ps wy pt with
    | true =>
      have hml := msgR_len hr
      have hmb := msgR_by hr
      have B2 : Hid (∀ wq v, Below W.heap.size W wq → Own wq W.heap.size v (msg 2 (repIs pid st ps wy pt)) → Calls Tryd.prog 15 #[v] wq fun e w' => e = .returned (tellR (pid, st, ps, wy, pt, 0)) ∧ Below wq.heap.size wq w') := fun wq v h1 h2 => by
        have := NRR.out wq v _ hml hmb h1 h2
        rw [rep_self hr] at this
        exact this
      have B3 : Hid (∀ wq v, Below W.heap.size W wq → Own wq W.heap.size v (msg 2 (repIs pid st ps wy pt)) → Calls Tryd.prog 8 #[v] wq fun e w' => e = .returned (tellA (⟨#[]⟩, 0, 0, ⟨#[]⟩, 5)) ∧ Below wq.heap.size wq w') := fun wq v h1 h2 => by
        have := NRA.out wq v _ hml hmb h1 h2
        rw [rep_noAsk hr] at this
        exact this
      rw [show repE pid st ps wy pt = 0 by simp [repE, hr], show repB pid st ps wy pt = msg 2 (repIs pid st ps wy pt) by simp [repB, hr]] at N4
      generalize msg 2 (repIs pid st ps wy pt) = M2 at B2 B3 N4
      clear hml hmb hr NRA NRR
      rcases R2 with R2 | ⟨qi, qk, qs, qt, R2, R3, R4⟩
      · rw [R2] at N7
        clear R2 N8
        go_enter Tryd.func5, Tryd.ntmps5
        go_wp2_with (first
          | (go_at_call 8; refine (N7.out _ k6a).mono ?_; rintro e w7 ⟨rfl, b7⟩; have k7 := HB.out _ w7 k6a b7; have k7a := HA.out w7 (.cells #[.string ⟨#[]⟩, .int .i64 0, .int .i64 0, .string ⟨#[]⟩] 23) k7)
          | (go_at_call 8; refine (B3.out _ v4 k5a o5a).mono ?_; rintro e w6 ⟨rfl, b6⟩; have k6 := HB.out _ w6 k5a b6; have k6a := HA.out w6 (.cells #[.string ⟨#[]⟩, .int .i64 0, .int .i64 0, .string ⟨#[]⟩] 23) k6; obtain ⟨c60, c61, c62, c63, c64, c65, c66, c67, c68⟩ := HC.out _ k6a; obtain ⟨d4, d5, d6, d7, d8⟩ := HQR.out w5 w6 _ _ _ _ _ (.cells #[.string ⟨#[]⟩, .int .i64 0, .int .i64 0, .string ⟨#[]⟩] 23) b6)
          | (go_at_call 15; refine (B2.out w4 v4 k4 o4).mono ?_; rintro e w5 ⟨rfl, b5⟩; have k5 := HB.out w4 w5 k4 b5; have k5a := HA.out w5 (.cells #[.string pid, .int .i64 st, .int .i64 ps, .int .i64 wy, .string pt] 34) k5; have o5 := o4.below b5 (Nat.le_refl _); have o5a := o5.below ((Below.refl _ w5).alloc (Nat.le_refl _) (.cells #[.string pid, .int .i64 st, .int .i64 ps, .int .i64 wy, .string pt] 34)) (Nat.le_refl _))
          | (go_at_call 13; refine (N4.out _ k3a).mono ?_; rintro e w4 ⟨v4, rfl, o4, k4⟩; obtain ⟨c40, c41, c42, c43, c44, c45, c46, c47, c48⟩ := HC.out w4 k4)
          | (go_at_call 15; refine (A3.out _ v1 k2a o2a).mono ?_; rintro e w3 ⟨rfl, b3⟩; have k3 := HB.out _ w3 k2a b3; have k3a := HA.out w3 (.cells #[.string ⟨#[]⟩, .int .i64 0, .int .i64 0, .int .i64 0, .string ⟨#[]⟩] 34) k3; obtain ⟨c30, c31, c32, c33, c34, c35, c36, c37, c38⟩ := HC.out _ k3a; obtain ⟨d0, d1, d2, d3⟩ := HQ.out w2 w3 _ _ _ _ (.cells #[.string ⟨#[]⟩, .int .i64 0, .int .i64 0, .int .i64 0, .string ⟨#[]⟩] 34) b3)
          | (go_at_call 8; refine (A2.out w1 v1 k1 o1).mono ?_; rintro e w2 ⟨rfl, b2⟩; have k2 := HB.out w1 w2 k1 b2; have k2a := HA.out w2 (.cells #[.string id, .int .i64 k, .int .i64 se, .string t] 23) k2; have o2 := o1.below b2 (Nat.le_refl _); have o2a := o2.below ((Below.refl _ w2).alloc (Nat.le_refl _) (.cells #[.string id, .int .i64 k, .int .i64 se, .string t] 23)) (Nat.le_refl _))
          | (go_at_call 6; (try rw [← hW]); refine (N1.out W (Below.refl _ _)).mono ?_; rintro e w1 ⟨v1, rfl, o1, k1⟩; obtain ⟨c10, c11, c12, c13, c14, c15, c16, c17, c18⟩ := HC.out w1 k1))
        go_ret
        exact ⟨rfl, HZ.out _ k7a⟩
      · rw [R2] at N7
        have G8 : Hid (∀ wq, Below W.heap.size W wq → Calls Tryd.prog 6 #[.agg #[.string qi, .int .i64 qk, .int .i64 qs, .string qt]] wq fun e w' => ∃ v', e = .returned (.tuple #[v', .int .i64 0]) ∧ Below W.heap.size W w' ∧ Calls Tryd.prog 10 #[v', .slice a0 n c] w' fun e w2 => e = .returned (.bool true) ∧ w2 = w') := fun wq h => N8.out wq qi qk qs qt h R3 R4
        clear R2 R3 R4 N8
        go_enter Tryd.func5, Tryd.ntmps5
        go_wp2_with (first
          | (go_at_call 10; refine E8.mono ?_; rintro e w9 ⟨rfl, rfl⟩)
          | (go_at_call 6; refine (G8.out _ k7a).mono ?_; rintro e w8 ⟨v8, rfl, k8, E8⟩)
          | (go_at_call 8; refine (N7.out _ k6a).mono ?_; rintro e w7 ⟨rfl, b7⟩; have k7 := HB.out _ w7 k6a b7; have k7a := HA.out w7 (.cells #[.string qi, .int .i64 qk, .int .i64 qs, .string qt] 23) k7)
          | (go_at_call 8; refine (B3.out _ v4 k5a o5a).mono ?_; rintro e w6 ⟨rfl, b6⟩; have k6 := HB.out _ w6 k5a b6; have k6a := HA.out w6 (.cells #[.string ⟨#[]⟩, .int .i64 0, .int .i64 0, .string ⟨#[]⟩] 23) k6; obtain ⟨c60, c61, c62, c63, c64, c65, c66, c67, c68⟩ := HC.out _ k6a; obtain ⟨d4, d5, d6, d7, d8⟩ := HQR.out w5 w6 _ _ _ _ _ (.cells #[.string ⟨#[]⟩, .int .i64 0, .int .i64 0, .string ⟨#[]⟩] 23) b6)
          | (go_at_call 15; refine (B2.out w4 v4 k4 o4).mono ?_; rintro e w5 ⟨rfl, b5⟩; have k5 := HB.out w4 w5 k4 b5; have k5a := HA.out w5 (.cells #[.string pid, .int .i64 st, .int .i64 ps, .int .i64 wy, .string pt] 34) k5; have o5 := o4.below b5 (Nat.le_refl _); have o5a := o5.below ((Below.refl _ w5).alloc (Nat.le_refl _) (.cells #[.string pid, .int .i64 st, .int .i64 ps, .int .i64 wy, .string pt] 34)) (Nat.le_refl _))
          | (go_at_call 13; refine (N4.out _ k3a).mono ?_; rintro e w4 ⟨v4, rfl, o4, k4⟩; obtain ⟨c40, c41, c42, c43, c44, c45, c46, c47, c48⟩ := HC.out w4 k4)
          | (go_at_call 15; refine (A3.out _ v1 k2a o2a).mono ?_; rintro e w3 ⟨rfl, b3⟩; have k3 := HB.out _ w3 k2a b3; have k3a := HA.out w3 (.cells #[.string ⟨#[]⟩, .int .i64 0, .int .i64 0, .int .i64 0, .string ⟨#[]⟩] 34) k3; obtain ⟨c30, c31, c32, c33, c34, c35, c36, c37, c38⟩ := HC.out _ k3a; obtain ⟨d0, d1, d2, d3⟩ := HQ.out w2 w3 _ _ _ _ (.cells #[.string ⟨#[]⟩, .int .i64 0, .int .i64 0, .int .i64 0, .string ⟨#[]⟩] 34) b3)
          | (go_at_call 8; refine (A2.out w1 v1 k1 o1).mono ?_; rintro e w2 ⟨rfl, b2⟩; have k2 := HB.out w1 w2 k1 b2; have k2a := HA.out w2 (.cells #[.string id, .int .i64 k, .int .i64 se, .string t] 23) k2; have o2 := o1.below b2 (Nat.le_refl _); have o2a := o2.below ((Below.refl _ w2).alloc (Nat.le_refl _) (.cells #[.string id, .int .i64 k, .int .i64 se, .string t] 23)) (Nat.le_refl _))
          | (go_at_call 6; (try rw [← hW]); refine (N1.out W (Below.refl _ _)).mono ?_; rintro e w1 ⟨v1, rfl, o1, k1⟩; obtain ⟨c10, c11, c12, c13, c14, c15, c16, c17, c18⟩ := HC.out w1 k1))
        go_ret
        exact ⟨rfl, HZ.out _ k8⟩
    | false =>
      rw [show repE pid st ps wy pt = 1 by simp [repE, hr], show repB pid st ps wy pt = [] by simp [repB, hr]] at N4
      clear hr NRA NRR
      rcases R2 with R2 | ⟨qi, qk, qs, qt, R2, R3, R4⟩
      · rw [R2] at N7
        clear R2 N8
        go_enter Tryd.func5, Tryd.ntmps5
        go_wp2_with (first
          | (go_at_call 8; refine (N7.out _ k4).mono ?_; rintro e w7 ⟨rfl, b7⟩; have k7 := HB.out _ w7 k4 b7; have k7a := HA.out w7 (.cells #[.string ⟨#[]⟩, .int .i64 0, .int .i64 0, .string ⟨#[]⟩] 23) k7)
          | (go_at_call 13; refine (N4.out _ k3a).mono ?_; rintro e w4 ⟨v4, rfl, o4, k4⟩; obtain ⟨c40, c41, c42, c43, c44, c45, c46, c47, c48⟩ := HC.out w4 k4)
          | (go_at_call 15; refine (A3.out _ v1 k2a o2a).mono ?_; rintro e w3 ⟨rfl, b3⟩; have k3 := HB.out _ w3 k2a b3; have k3a := HA.out w3 (.cells #[.string ⟨#[]⟩, .int .i64 0, .int .i64 0, .int .i64 0, .string ⟨#[]⟩] 34) k3; obtain ⟨c30, c31, c32, c33, c34, c35, c36, c37, c38⟩ := HC.out _ k3a; obtain ⟨d0, d1, d2, d3⟩ := HQ.out w2 w3 _ _ _ _ (.cells #[.string ⟨#[]⟩, .int .i64 0, .int .i64 0, .int .i64 0, .string ⟨#[]⟩] 34) b3)
          | (go_at_call 8; refine (A2.out w1 v1 k1 o1).mono ?_; rintro e w2 ⟨rfl, b2⟩; have k2 := HB.out w1 w2 k1 b2; have k2a := HA.out w2 (.cells #[.string id, .int .i64 k, .int .i64 se, .string t] 23) k2; have o2 := o1.below b2 (Nat.le_refl _); have o2a := o2.below ((Below.refl _ w2).alloc (Nat.le_refl _) (.cells #[.string id, .int .i64 k, .int .i64 se, .string t] 23)) (Nat.le_refl _))
          | (go_at_call 6; (try rw [← hW]); refine (N1.out W (Below.refl _ _)).mono ?_; rintro e w1 ⟨v1, rfl, o1, k1⟩; obtain ⟨c10, c11, c12, c13, c14, c15, c16, c17, c18⟩ := HC.out w1 k1))
        go_ret
        exact ⟨rfl, HZ.out _ k7a⟩
      · rw [R2] at N7
        have G8 : Hid (∀ wq, Below W.heap.size W wq → Calls Tryd.prog 6 #[.agg #[.string qi, .int .i64 qk, .int .i64 qs, .string qt]] wq fun e w' => ∃ v', e = .returned (.tuple #[v', .int .i64 0]) ∧ Below W.heap.size W w' ∧ Calls Tryd.prog 10 #[v', .slice a0 n c] w' fun e w2 => e = .returned (.bool true) ∧ w2 = w') := fun wq h => N8.out wq qi qk qs qt h R3 R4
        clear R2 R3 R4 N8
        go_enter Tryd.func5, Tryd.ntmps5
        go_wp2_with (first
          | (go_at_call 10; refine E8.mono ?_; rintro e w9 ⟨rfl, rfl⟩)
          | (go_at_call 6; refine (G8.out _ k7a).mono ?_; rintro e w8 ⟨v8, rfl, k8, E8⟩)
          | (go_at_call 8; refine (N7.out _ k4).mono ?_; rintro e w7 ⟨rfl, b7⟩; have k7 := HB.out _ w7 k4 b7; have k7a := HA.out w7 (.cells #[.string qi, .int .i64 qk, .int .i64 qs, .string qt] 23) k7)
          | (go_at_call 13; refine (N4.out _ k3a).mono ?_; rintro e w4 ⟨v4, rfl, o4, k4⟩; obtain ⟨c40, c41, c42, c43, c44, c45, c46, c47, c48⟩ := HC.out w4 k4)
          | (go_at_call 15; refine (A3.out _ v1 k2a o2a).mono ?_; rintro e w3 ⟨rfl, b3⟩; have k3 := HB.out _ w3 k2a b3; have k3a := HA.out w3 (.cells #[.string ⟨#[]⟩, .int .i64 0, .int .i64 0, .int .i64 0, .string ⟨#[]⟩] 34) k3; obtain ⟨c30, c31, c32, c33, c34, c35, c36, c37, c38⟩ := HC.out _ k3a; obtain ⟨d0, d1, d2, d3⟩ := HQ.out w2 w3 _ _ _ _ (.cells #[.string ⟨#[]⟩, .int .i64 0, .int .i64 0, .int .i64 0, .string ⟨#[]⟩] 34) b3)
          | (go_at_call 8; refine (A2.out w1 v1 k1 o1).mono ?_; rintro e w2 ⟨rfl, b2⟩; have k2 := HB.out w1 w2 k1 b2; have k2a := HA.out w2 (.cells #[.string id, .int .i64 k, .int .i64 se, .string t] 23) k2; have o2 := o1.below b2 (Nat.le_refl _); have o2a := o2.below ((Below.refl _ w2).alloc (Nat.le_refl _) (.cells #[.string id, .int .i64 k, .int .i64 se, .string t] 23)) (Nat.le_refl _))
          | (go_at_call 6; (try rw [← hW]); refine (N1.out W (Below.refl _ _)).mono ?_; rintro e w1 ⟨v1, rfl, o1, k1⟩; obtain ⟨c10, c11, c12, c13, c14, c15, c16, c17, c18⟩ := HC.out w1 k1))
        go_ret
        exact ⟨rfl, HZ.out _ k8⟩
  | false =>
    rw [show askE id k se t = 1 by simp [askE, hm], show askB id k se t = [] by simp [askB, hm]] at N1
    clear hm
    cases hr : mayR pid st ps wy pt with
    | true =>
      have hml := msgR_len hr
      have hmb := msgR_by hr
      have B2 : Hid (∀ wq v, Below W.heap.size W wq → Own wq W.heap.size v (msg 2 (repIs pid st ps wy pt)) → Calls Tryd.prog 15 #[v] wq fun e w' => e = .returned (tellR (pid, st, ps, wy, pt, 0)) ∧ Below wq.heap.size wq w') := fun wq v h1 h2 => by
        have := NRR.out wq v _ hml hmb h1 h2
        rw [rep_self hr] at this
        exact this
      have B3 : Hid (∀ wq v, Below W.heap.size W wq → Own wq W.heap.size v (msg 2 (repIs pid st ps wy pt)) → Calls Tryd.prog 8 #[v] wq fun e w' => e = .returned (tellA (⟨#[]⟩, 0, 0, ⟨#[]⟩, 5)) ∧ Below wq.heap.size wq w') := fun wq v h1 h2 => by
        have := NRA.out wq v _ hml hmb h1 h2
        rw [rep_noAsk hr] at this
        exact this
      rw [show repE pid st ps wy pt = 0 by simp [repE, hr], show repB pid st ps wy pt = msg 2 (repIs pid st ps wy pt) by simp [repB, hr]] at N4
      generalize msg 2 (repIs pid st ps wy pt) = M2 at B2 B3 N4
      clear hml hmb hr NRA NRR
      rcases R2 with R2 | ⟨qi, qk, qs, qt, R2, R3, R4⟩
      · rw [R2] at N7
        clear R2 N8
        go_enter Tryd.func5, Tryd.ntmps5
        go_wp2_with (first
          | (go_at_call 8; refine (N7.out _ k6a).mono ?_; rintro e w7 ⟨rfl, b7⟩; have k7 := HB.out _ w7 k6a b7; have k7a := HA.out w7 (.cells #[.string ⟨#[]⟩, .int .i64 0, .int .i64 0, .string ⟨#[]⟩] 23) k7)
          | (go_at_call 8; refine (B3.out _ v4 k5a o5a).mono ?_; rintro e w6 ⟨rfl, b6⟩; have k6 := HB.out _ w6 k5a b6; have k6a := HA.out w6 (.cells #[.string ⟨#[]⟩, .int .i64 0, .int .i64 0, .string ⟨#[]⟩] 23) k6; obtain ⟨c60, c61, c62, c63, c64, c65, c66, c67, c68⟩ := HC.out _ k6a; obtain ⟨d4, d5, d6, d7, d8⟩ := HQR.out w5 w6 _ _ _ _ _ (.cells #[.string ⟨#[]⟩, .int .i64 0, .int .i64 0, .string ⟨#[]⟩] 23) b6)
          | (go_at_call 15; refine (B2.out w4 v4 k4 o4).mono ?_; rintro e w5 ⟨rfl, b5⟩; have k5 := HB.out w4 w5 k4 b5; have k5a := HA.out w5 (.cells #[.string pid, .int .i64 st, .int .i64 ps, .int .i64 wy, .string pt] 34) k5; have o5 := o4.below b5 (Nat.le_refl _); have o5a := o5.below ((Below.refl _ w5).alloc (Nat.le_refl _) (.cells #[.string pid, .int .i64 st, .int .i64 ps, .int .i64 wy, .string pt] 34)) (Nat.le_refl _))
          | (go_at_call 13; refine (N4.out _ k1).mono ?_; rintro e w4 ⟨v4, rfl, o4, k4⟩; obtain ⟨c40, c41, c42, c43, c44, c45, c46, c47, c48⟩ := HC.out w4 k4)
          | (go_at_call 6; (try rw [← hW]); refine (N1.out W (Below.refl _ _)).mono ?_; rintro e w1 ⟨v1, rfl, o1, k1⟩; obtain ⟨c10, c11, c12, c13, c14, c15, c16, c17, c18⟩ := HC.out w1 k1))
        go_ret
        exact ⟨rfl, HZ.out _ k7a⟩
      · rw [R2] at N7
        have G8 : Hid (∀ wq, Below W.heap.size W wq → Calls Tryd.prog 6 #[.agg #[.string qi, .int .i64 qk, .int .i64 qs, .string qt]] wq fun e w' => ∃ v', e = .returned (.tuple #[v', .int .i64 0]) ∧ Below W.heap.size W w' ∧ Calls Tryd.prog 10 #[v', .slice a0 n c] w' fun e w2 => e = .returned (.bool true) ∧ w2 = w') := fun wq h => N8.out wq qi qk qs qt h R3 R4
        clear R2 R3 R4 N8
        go_enter Tryd.func5, Tryd.ntmps5
        go_wp2_with (first
          | (go_at_call 10; refine E8.mono ?_; rintro e w9 ⟨rfl, rfl⟩)
          | (go_at_call 6; refine (G8.out _ k7a).mono ?_; rintro e w8 ⟨v8, rfl, k8, E8⟩)
          | (go_at_call 8; refine (N7.out _ k6a).mono ?_; rintro e w7 ⟨rfl, b7⟩; have k7 := HB.out _ w7 k6a b7; have k7a := HA.out w7 (.cells #[.string qi, .int .i64 qk, .int .i64 qs, .string qt] 23) k7)
          | (go_at_call 8; refine (B3.out _ v4 k5a o5a).mono ?_; rintro e w6 ⟨rfl, b6⟩; have k6 := HB.out _ w6 k5a b6; have k6a := HA.out w6 (.cells #[.string ⟨#[]⟩, .int .i64 0, .int .i64 0, .string ⟨#[]⟩] 23) k6; obtain ⟨c60, c61, c62, c63, c64, c65, c66, c67, c68⟩ := HC.out _ k6a; obtain ⟨d4, d5, d6, d7, d8⟩ := HQR.out w5 w6 _ _ _ _ _ (.cells #[.string ⟨#[]⟩, .int .i64 0, .int .i64 0, .string ⟨#[]⟩] 23) b6)
          | (go_at_call 15; refine (B2.out w4 v4 k4 o4).mono ?_; rintro e w5 ⟨rfl, b5⟩; have k5 := HB.out w4 w5 k4 b5; have k5a := HA.out w5 (.cells #[.string pid, .int .i64 st, .int .i64 ps, .int .i64 wy, .string pt] 34) k5; have o5 := o4.below b5 (Nat.le_refl _); have o5a := o5.below ((Below.refl _ w5).alloc (Nat.le_refl _) (.cells #[.string pid, .int .i64 st, .int .i64 ps, .int .i64 wy, .string pt] 34)) (Nat.le_refl _))
          | (go_at_call 13; refine (N4.out _ k1).mono ?_; rintro e w4 ⟨v4, rfl, o4, k4⟩; obtain ⟨c40, c41, c42, c43, c44, c45, c46, c47, c48⟩ := HC.out w4 k4)
          | (go_at_call 6; (try rw [← hW]); refine (N1.out W (Below.refl _ _)).mono ?_; rintro e w1 ⟨v1, rfl, o1, k1⟩; obtain ⟨c10, c11, c12, c13, c14, c15, c16, c17, c18⟩ := HC.out w1 k1))
        go_ret
        exact ⟨rfl, HZ.out _ k8⟩
    | false =>
      rw [show repE pid st ps wy pt = 1 by simp [repE, hr], show repB pid st ps wy pt = [] by simp [repB, hr]] at N4
      clear hr NRA NRR
      rcases R2 with R2 | ⟨qi, qk, qs, qt, R2, R3, R4⟩
      · rw [R2] at N7
        clear R2 N8
        go_enter Tryd.func5, Tryd.ntmps5
        go_wp2_with (first
          | (go_at_call 8; refine (N7.out _ k4).mono ?_; rintro e w7 ⟨rfl, b7⟩; have k7 := HB.out _ w7 k4 b7; have k7a := HA.out w7 (.cells #[.string ⟨#[]⟩, .int .i64 0, .int .i64 0, .string ⟨#[]⟩] 23) k7)
          | (go_at_call 13; refine (N4.out _ k1).mono ?_; rintro e w4 ⟨v4, rfl, o4, k4⟩; obtain ⟨c40, c41, c42, c43, c44, c45, c46, c47, c48⟩ := HC.out w4 k4)
          | (go_at_call 6; (try rw [← hW]); refine (N1.out W (Below.refl _ _)).mono ?_; rintro e w1 ⟨v1, rfl, o1, k1⟩; obtain ⟨c10, c11, c12, c13, c14, c15, c16, c17, c18⟩ := HC.out w1 k1))
        go_ret
        exact ⟨rfl, HZ.out _ k7a⟩
      · rw [R2] at N7
        have G8 : Hid (∀ wq, Below W.heap.size W wq → Calls Tryd.prog 6 #[.agg #[.string qi, .int .i64 qk, .int .i64 qs, .string qt]] wq fun e w' => ∃ v', e = .returned (.tuple #[v', .int .i64 0]) ∧ Below W.heap.size W w' ∧ Calls Tryd.prog 10 #[v', .slice a0 n c] w' fun e w2 => e = .returned (.bool true) ∧ w2 = w') := fun wq h => N8.out wq qi qk qs qt h R3 R4
        clear R2 R3 R4 N8
        go_enter Tryd.func5, Tryd.ntmps5
        go_wp2_with (first
          | (go_at_call 10; refine E8.mono ?_; rintro e w9 ⟨rfl, rfl⟩)
          | (go_at_call 6; refine (G8.out _ k7a).mono ?_; rintro e w8 ⟨v8, rfl, k8, E8⟩)
          | (go_at_call 8; refine (N7.out _ k4).mono ?_; rintro e w7 ⟨rfl, b7⟩; have k7 := HB.out _ w7 k4 b7; have k7a := HA.out w7 (.cells #[.string qi, .int .i64 qk, .int .i64 qs, .string qt] 23) k7)
          | (go_at_call 13; refine (N4.out _ k1).mono ?_; rintro e w4 ⟨v4, rfl, o4, k4⟩; obtain ⟨c40, c41, c42, c43, c44, c45, c46, c47, c48⟩ := HC.out w4 k4)
          | (go_at_call 6; (try rw [← hW]); refine (N1.out W (Below.refl _ _)).mono ?_; rintro e w1 ⟨v1, rfl, o1, k1⟩; obtain ⟨c10, c11, c12, c13, c14, c15, c16, c17, c18⟩ := HC.out w1 k1))
        go_ret
        exact ⟨rfl, HZ.out _ k8⟩
end Go.Proofs.YtbpolfoagmehhaaDoor
