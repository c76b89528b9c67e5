/-
  Contract of Append where the record goes in.
-/
import Derived.Test.YtpajodcmaindfabDoorRoom
import Derived.Deep.DeepMust
namespace Go.Proofs.YtpajodcmaindfabDoor
open Go.RowKit
set_option linter.unusedVariables false

theorem Own.far {w : World} {B : Nat} {v : Value} {xs : List Int} (h : Own w B v xs) {p : Addr} (hp : p.block < B) (u : Value) : Own (w.setCell p u) B v xs := by
  unfold Own World.ownsRow at h ⊢
  refine ⟨h.1, ?_⟩
  rcases h.2 with h2 | ⟨g, cap, cur, h1, h2, h3, h4⟩
  · exact .inl h2
  · exact .inr ⟨g, cap, cur, h1, h2, by rw [Below.heap_setCell _ _ _ _ (by omega)]; exact h3, h4⟩

theorem Lg.step {w : World} {L T B s tl last : Nat} {v x y : Value} {ys : List Int} (k0 : w.cell? ⟨L, 0, none⟩ = some (.pointer (some ⟨T, 0, none⟩))) (k2 : w.cell? ⟨T, 2, none⟩ = some (.int .i64 (s : Int))) (k4 : w.cell? ⟨T, 4, none⟩ = some x) (k6 : w.cell? ⟨T, 6, none⟩ = some (.int .i64 0)) (k7 : w.cell? ⟨T, 7, none⟩ = some y)
    (kz : ∀ i, w.frozen? ⟨T, i, none⟩ = false) (ho : Own w B v ys) (hy : ys.length = tl) (hL : L < B) (hT : T < B) (ne : L ≠ T) (hB : B ≤ w.heap.size) (room : tl ≤ s * 112) (le : last ≤ tl) (hs : s ≤ 4096) :
    Lg ((w.setCell ⟨T, 7, none⟩ v).setCell ⟨T, 4, none⟩ (.int .i64 (last : Int))) L T B s tl last := by
  have far : ∀ (j : Nat) u, j ≠ 7 → j ≠ 4 → w.cell? ⟨T, j, none⟩ = some u → ((w.setCell ⟨T, 7, none⟩ v).setCell ⟨T, 4, none⟩ (.int .i64 (last : Int))).cell? ⟨T, j, none⟩ = some u := fun j u j1 j2 h => by
    rw [World.cell?_setCell_other _ _ _ _ (fun e => j2 (congrArg Addr.off e).symm), World.cell?_setCell_other _ _ _ _ (fun e => j1 (congrArg Addr.off e).symm)]
    exact h
  refine ⟨?_, far 2 _ (by decide) (by decide) k2, ?_, far 6 _ (by decide) (by decide) k6, ⟨v, ys, ?_, (ho.far hT _).far hT _, hy⟩, fun i => ?_, hL, hT, ne, ?_, room, le, hs⟩
  · rw [World.cell?_setCell_other _ _ _ _ (fun e => ne (congrArg Addr.block e).symm), World.cell?_setCell_other _ _ _ _ (fun e => ne (congrArg Addr.block e).symm)]
    exact k0
  · exact World.cell?_setCell_same _ _ _ (u := x) (by rw [World.cell?_setCell_other _ _ _ _ (fun e => by cases e)]; exact k4)
  · rw [World.cell?_setCell_other _ _ _ _ (fun e => by cases e)]
    exact World.cell?_setCell_same _ _ _ k7
  · rw [World.frozen?_setCell, World.frozen?_setCell]
    exact kz i
  · simp [World.setCell]
    exact hB

set_option maxRecDepth 100000 in
set_option maxHeartbeats 2000000 in
theorem append_ok (L T B s tl last n c : Nat) (a0 : Option Addr) (f : Nat → Int) (w : World) (h : Lg w L T B s tl last) (h1 : 0 < n) (h2 : n ≤ 2000) (hf : (putB n).length + n ≤ s * 112 - tl) (hF : ∀ w', Below B w w' → From w' a0 n f) (hc0 : a0 = none → c = 0) :
    Calls Tryd.prog 8 #[.pointer (some ⟨L, 0, none⟩), .slice a0 n c] w fun e w' => e = .returned (.tuple #[.int .i64 ((last + 1 : Nat) : Int), .int .i64 0]) ∧ Lg w' L T B s (tl + (putB n).length + n) (last + 1) ∧ Below (min L T) w w' := by
  have H : Hid (Lg w L T B s tl last) := h
  have hroom := h.room
  have hs := h.hs
  have hle := h.le
  have hTB := h.hT
  have hLB := h.hL
  have hBw := h.hB
  have hne := h.ne
  have HF : Hid (∀ w', Below B w w' → From w' a0 n f) := hF
  clear h hF
  have g1 : ((n : Int) == 0) = false := by simp; omega
  have g2 : ¬ (2000 : Int) < (n : Int) := by omega
  have hlen := putB_le n (by omega)
  go_enter Tryd.func8, Tryd.ntmps8
  go_wp2_with fail
  refine (lMissing L T w H.out.l0).mono ?_
  rintro e w1 ⟨rfl, hw⟩
  obtain rfl : w = w1 := hw.symm
  clear hw
  go_wp2_with fail
  refine (wPut none 0 0 (fun _ => 0) (n : Int) w (by omega) (.inl ⟨rfl, rfl⟩) (fun _ => rfl) (by omega)).mono ?_
  rintro e w1 ⟨v1, rfl, ho1, hb1⟩
  rw [Int.toNat_natCast, show lst (fun _ => 0) 0 ++ putB n = putB n from rfl] at ho1
  obtain ⟨al, cl, rfl, hfl, hal, _, _, _⟩ := ho1.open
  have hL1 : Lg w1 L T B s tl last := H.out.below hb1 (Nat.le_refl _)
  have H1 : Hid (Lg w1 L T B s tl last) := hL1
  obtain ⟨l0, c2, c4, c6, ⟨v, xs, t1, t2, t3⟩, fz, _, _, _, hB1, _, _, _⟩ := hL1
  obtain ⟨at_, ct, rfl, _, _, _, _, htb⟩ := t2.open
  obtain ⟨R, hR⟩ : ∃ R, s * 112 - tl = R := ⟨_, rfl⟩
  rw [hR] at hf
  have HR : Hid (s * 112 - tl = R) := hR
  obtain ⟨ln, hln⟩ : ∃ ln, (putB n).length = ln := ⟨_, rfl⟩
  rw [hln] at hf hlen hfl ⊢
  have HL : Hid ((putB n).length = ln) := hln
  have g3 : ¬ (R : Int) < (ln : Int) + (n : Int) := by omega
  have g4 : decide ((4611686018427387904 : Int) ≤ (last : Int)) = false := by simp; omega
  rw [t3] at t1 t2
  -- the block of the two parts
  obtain ⟨o, hO⟩ : ∃ o, Obj.cells #[.slice al ln cl, .slice a0 n c] 32 = o := ⟨_, rfl⟩
  have HO : Hid (Obj.cells #[.slice al ln cl, .slice a0 n c] 32 = o) := hO
  have HQ : Hid (∀ wq : World, wq.heap = (w1.alloc o).heap → Own wq B (.slice at_ tl ct) xs ∧ B ≤ wq.heap.size ∧ w1.heap.size < wq.heap.size ∧ wq.cell? ⟨w1.heap.size, 0, none⟩ = some (.slice al ln cl) ∧ wq.cell? ⟨w1.heap.size, 1, none⟩ = some (.slice a0 n c) ∧ From wq al ln (fn (putB n))) := fun wq hq => by
    have hc : ∀ p, wq.cell? p = (w1.alloc o).cell? p := fun p => World.cell?_of_block (w := w1.alloc o) (by rw [hq])
    refine ⟨?_, ?_, ?_, ?_, ?_, ?_⟩
    · have h4 : Own (w1.alloc o) B (.slice at_ tl ct) xs := World.ownsRow.alloc t2 _
      unfold Own World.ownsRow at h4 ⊢
      rw [hq]
      exact h4
    · rw [hq]; simp; omega
    · rw [hq]; simp
    · rw [hc, ← HO.out, World.cell?_alloc_at _ _ _ _ rfl]; rfl
    · rw [hc, ← HO.out, World.cell?_alloc_at _ _ _ _ rfl]; rfl
    · have h5 := hfl.alloc o
      rcases h5 with h6 | ⟨x, k1, k2⟩
      · exact .inl h6
      · exact .inr ⟨x, k1, fun i hi => (hc _).trans (k2 i hi)⟩
  have HB : Hid (∀ wq : World, wq.heap = (w1.alloc o).heap → wq.os = w1.os → wq.tape = w1.tape → wq.output = w1.output → Below B w wq) := fun wq e1 e2 e3 e4 =>
    have hb : Below B w (w1.alloc o) := (hb1.mono hBw).alloc hB1 o
    hb.trans ⟨e2, e3, e4, by rw [e1]; exact Nat.le_refl _, fun k _ => by rw [e1]⟩
  have HV : Hid (some w1.heap.size ≠ (Value.slice at_ tl ct).ownBlock) := fun hx => by
    cases at_ with
    | none => cases hx
    | some g0 =>
      obtain ⟨k, rfl, _, hk⟩ := htb g0 rfl
      have : w1.heap.size = k := Option.some.inj hx
      omega
  have HK : Hid (∀ w4 : World, Below B w w4 → w4.cell? ⟨L, 0, none⟩ = some (.pointer (some ⟨T, 0, none⟩)) ∧ w4.cell? ⟨T, 2, none⟩ = some (.int .i64 (s : Int)) ∧ w4.cell? ⟨T, 4, none⟩ = some (.int .i64 (last : Int)) ∧ w4.cell? ⟨T, 6, none⟩ = some (.int .i64 0) ∧ w4.cell? ⟨T, 7, none⟩ = some (.slice at_ tl ct) ∧ (∀ i, w4.frozen? ⟨T, i, none⟩ = false)) := fun w4 hb4 => by
    have hc : ∀ p : Addr, p.block < B → w4.cell? p = w1.cell? p := fun p hp => by rw [hb4.cell hp, hb1.cell (by omega)]
    refine ⟨(hc _ hLB).trans l0, (hc _ hTB).trans c2, (hc _ hTB).trans c4, (hc _ hTB).trans c6, (hc _ hTB).trans t1, fun i => ?_⟩
    rw [World.frozen?_of_block (w := w) (hb4.block T hTB), ← World.frozen?_of_block (w := w) (w' := w1) (hb1.block T (by omega))]
    exact fz i
  have HX : Hid (xs.length + ln + n ≤ 140737488355328) := (by omega : xs.length + ln + n ≤ 140737488355328)
  have HE : Hid (∀ w4 : World, ∀ v4, Own w4 B v4 (xs ++ lst (fn (putB n)) ln ++ lst f n) → ∃ ys, Own w4 B v4 ys ∧ ys.length = tl + ln + n) := fun w4 v4 ho => ⟨_, ho, by simp only [List.length_append, lst_length]; omega⟩
  have hTw : T < w1.heap.size := by omega
  have hLw : L < w1.heap.size := by omega
  have hTn : T ≠ w1.heap.size := by omega
  have hLn : L ≠ w1.heap.size := by omega
  have al7 : ∀ (k : Nat) (o' : Obj), ((w1.drewN k).alloc o').cell? ⟨T, 7, none⟩ = some (.slice at_ tl ct) := fun k o' => (World.cell?_alloc_past (w := w1.drewN k) o' T 7 (by exact hTw)).trans t1
  have al0 : ∀ (k : Nat) (o' : Obj), ((w1.drewN k).alloc o').cell? ⟨L, 0, none⟩ = some (.pointer (some ⟨T, 0, none⟩)) := fun k o' => (World.cell?_alloc_past (w := w1.drewN k) o' L 0 (by exact hLw)).trans l0
  clear hO t2 hfl htb hb1 fz hR ho1 hln t3 hTB hLB hBw hB1
  go_wp2_with fail
  refine (lgRoom H1.out).mono ?_
  rintro e w2 ⟨rfl, q, rfl⟩
  rw [HR.out]
  go_wp2_with fail
  go_region_with (first
    | (go_at_call 19; rw [HO.out]; refine (lput (.slice at_ tl ct) B xs w1.heap.size al a0 ln cl n c (fn (putB n)) f _ (by exact (HQ.out _ rfl).1) (by exact (HQ.out _ rfl).2.1) (by exact (HQ.out _ rfl).2.2.1) HV.out (by exact (HQ.out _ rfl).2.2.2.1) (by exact (HQ.out _ rfl).2.2.2.2.1) (by exact (HQ.out _ rfl).2.2.2.2.2) (by exact fun w' hb => HF.out w' (Below.trans (HB.out _ (by rfl) (by rfl) (by rfl) (by rfl)) hb)) hal hc0 HX.out).mono ?_; rintro e' w4 ⟨v4, rfl, ho4, hb4⟩; obtain ⟨ys, hoy, hyl⟩ := HE.out w4 v4 ho4; obtain ⟨a4, ct4, hv4, _, _, _, _, _⟩ := hoy.open; rw [hyl] at hv4; subst hv4; clear ho4; have hb5 := Below.trans (HB.out _ (by rfl) (by rfl) (by rfl) (by rfl)) hb4; obtain ⟨k0, k2, k4, k6, k7, kz⟩ := HK.out w4 hb5; have kz7 := kz 7; have kz4 := kz 4; clear hb4))

  all_goals
    go_wp2
    go_ret2
    have h9 := H.out
    have hbs := hb5.size
    have e9 : ((last : Int) + 1) = ((last + 1 : Nat) : Int) := by omega
    rw [e9]
    refine ⟨rfl, Lg.step k0 k2 k4 k6 k7 kz hoy ?_ h9.hL h9.hT h9.ne (Nat.le_trans h9.hB hbs) ?_ ?_ h9.hs, ?_⟩
    · rw [HL.out]; exact hyl
    · have := HR.out; have := h9.room; rw [HL.out]; omega
    · rw [HL.out]; omega
    · have hTB := h9.hT
      have hLB := h9.hL
      exact ((hb5.mono (by omega)).setCell (p := ⟨T, 7, none⟩) (by show min L T ≤ T; omega) _).setCell (p := ⟨T, 4, none⟩) (by show min L T ≤ T; omega) _
end Go.Proofs.YtpajodcmaindfabDoor
