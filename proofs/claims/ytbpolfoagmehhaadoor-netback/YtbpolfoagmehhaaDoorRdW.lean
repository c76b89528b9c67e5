/-
  Contracts of wire's Reader: Uint, Byte, Text, Left, End, on a reader that has read p of n bytes.
-/
import Derived.Test.YtbpolfoagmehhaaDoorRd
namespace Go.Proofs.YtbpolfoagmehhaaDoor
open Go.RowKit
set_option linter.unusedVariables false

theorem ret2i {a b a' b' : Int} (h1 : a = a') (h2 : b = b') : Ending.returned (.tuple #[.int .i64 a, .int .i64 b]) = .returned (.tuple #[.int .i64 a', .int .i64 b']) := by rw [h1, h2]

theorem moved_set {w : World} {R : Nat} {ao : Option Addr} {cap : Nat} {f : Nat → Int} {n p : Nat} (h : RdInv w R ao cap f n p) (s : Int) (h0 : 0 ≤ s) (h1 : s ≤ ((n - p : Nat) : Int)) :
    RdInv (w.setCell ⟨R, 1, none⟩ (.int .i64 ((p : Int) + s))) R ao cap f n (p + s.toNat) := by
  have hp := h.hp
  obtain ⟨e0, e1, e2, e3⟩ := set_keeps w R (.int .i64 ((p : Int) + s)) _ h.at_ h.free
  exact h.moved ((Only.refl R w).setCell rfl _) (by omega) e0 (by rw [e1]; congr 2; omega) e2 e3

theorem RdInv.drewN {w : World} {R : Nat} {ao : Option Addr} {cap : Nat} {f : Nat → Int} {n p : Nat} (h : RdInv w R ao cap f n p) (q : Nat) : RdInv (w.drewN q) R ao cap f n p := h.kept rfl (fun _ _ _ => rfl)

set_option maxHeartbeats 400000 in
theorem wUint {w : World} {R : Nat} {ao : Option Addr} {cap : Nat} {f : Nat → Int} {n p : Nat} (h : RdInv w R ao cap f n p) :
    Calls Tryd.prog 52 #[.pointer (some ⟨R, 0, none⟩)] w fun e w' => e = .returned (.tuple #[.int .i64 (Wm.num (sh f p) (n - p)).1, .int .i64 (Wm.num (sh f p) (n - p)).2.2]) ∧ RdInv w' R ao cap f n (p + (Wm.num (sh f p) (n - p)).2.1.toNat) ∧ Only R w w' := by
  obtain ⟨b1, b2, b3, b4, b5⟩ := Wm.num_bd (sh f p) (n - p)
  have hn := h.hn
  have hc := h.hc
  have hbig := h.big
  have hp := h.hp
  go_enter Tryd.func52, Tryd.ntmps52
  go_wp2_with fail
  refine (missing_no R w h.made).mono ?_
  rintro e w' ⟨rfl, rfl⟩
  go_wp2_with fail
  refine (rest_inv h).mono ?_
  rintro e w1 ⟨ao', c', rfl, hc1, hc2, hl, q, hq⟩
  have h1 : RdInv w1 R ao cap f n p := by rw [hq]; exact h.drewN q
  have ho : Only R w' w1 := by rw [hq]; exact (Only.refl R w').drewN q
  clear hq
  go_wp2_with fail
  refine (number_any ao' (n - p) c' (sh f p) w1 (by omega) (sh_by h.by_ p) hl).mono ?_
  rintro e w' ⟨rfl, rfl⟩
  go_wp2_with fail
  refine (skip_at R p _ _ h1.at_ h1.free b3 (by omega)).mono ?_
  rintro e w' ⟨rfl, rfl⟩
  go_wp2
  go_ret2
  exact ⟨rfl, moved_set h1 _ b3 b4, ho.setCell rfl _⟩

set_option maxHeartbeats 400000 in
theorem wLeft {w : World} {R : Nat} {ao : Option Addr} {cap : Nat} {f : Nat → Int} {n p : Nat} (h : RdInv w R ao cap f n p) :
    Calls Tryd.prog 65 #[.pointer (some ⟨R, 0, none⟩)] w fun e w' => e = .returned (.int .i64 ((n - p : Nat) : Int)) ∧ ∃ q, w' = w.drewN q := by
  go_enter Tryd.func65, Tryd.ntmps65
  go_wp2_with fail
  refine (missing_no R w h.made).mono ?_
  rintro e w' ⟨rfl, rfl⟩
  go_wp2_with fail
  refine (rest_inv h).mono ?_
  rintro e w1 ⟨ao', c', rfl, hc1, hc2, hl, q, rfl⟩
  go_wp2
  go_ret
  exact ⟨rfl, q, rfl⟩

set_option maxHeartbeats 400000 in
theorem wEnd {w : World} {R : Nat} {ao : Option Addr} {cap : Nat} {f : Nat → Int} {n p : Nat} (h : RdInv w R ao cap f n p) :
    Calls Tryd.prog 42 #[.pointer (some ⟨R, 0, none⟩)] w fun e w' => e = .returned (.int .i64 (if n - p = 0 then 0 else 14)) ∧ ∃ q, w' = w.drewN q := by
  by_cases hz : n - p = 0
  · rw [if_pos hz]
    go_enter Tryd.func42, Tryd.ntmps42
    go_wp2_with fail
    refine (missing_no R w h.made).mono ?_
    rintro e w' ⟨rfl, rfl⟩
    go_wp2_with fail
    refine (wLeft h).mono ?_
    rintro e w1 ⟨rfl, q, rfl⟩
    rw [hz]
    go_wp2
    go_ret
    exact ⟨rfl, q, rfl⟩
  · rw [if_neg hz]
    have hz' : (0 : Int) < ((n - p : Nat) : Int) := by omega
    go_enter Tryd.func42, Tryd.ntmps42
    go_wp2_with fail
    refine (missing_no R w h.made).mono ?_
    rintro e w' ⟨rfl, rfl⟩
    go_wp2_with fail
    refine (wLeft h).mono ?_
    rintro e w1 ⟨rfl, q, rfl⟩
    generalize n - p = m at *
    go_wp2
    go_ret
    exact ⟨rfl, q, rfl⟩

set_option maxHeartbeats 400000 in
theorem wByte {w : World} {R : Nat} {ao : Option Addr} {cap : Nat} {f : Nat → Int} {n p : Nat} (h : RdInv w R ao cap f n p) :
    Calls Tryd.prog 48 #[.pointer (some ⟨R, 0, none⟩)] w fun e w' => e = .returned (.tuple #[.int .u8 (if n - p = 0 then 0 else f p), .int .i64 (if n - p = 0 then 10 else 0)]) ∧ RdInv w' R ao cap f n (if n - p = 0 then p else p + 1) ∧ Only R w w' := by
  have hp := h.hp
  have hbig := h.big
  by_cases hz : n - p = 0
  · rw [if_pos hz, if_pos hz, if_pos hz]
    go_enter Tryd.func48, Tryd.ntmps48
    go_wp2_with fail
    refine (missing_no R w h.made).mono ?_
    rintro e w' ⟨rfl, rfl⟩
    go_wp2_with fail
    refine (rest_inv h).mono ?_
    rintro e w1 ⟨ao', c', rfl, hc1, hc2, hl, q, rfl⟩
    rw [hz]
    go_wp2
    go_ret2
    exact ⟨rfl, h.drewN q, (Only.refl R _).drewN q⟩
  · rw [if_neg hz, if_neg hz, if_neg hz]
    have hz1 : (((n - p : Nat) : Int) == 0) = false := by simp; omega
    have hz2 : (0 : Int) < ((n - p : Nat) : Int) := by omega
    go_enter Tryd.func48, Tryd.ntmps48
    go_wp2_with fail
    refine (missing_no R w h.made).mono ?_
    rintro e w' ⟨rfl, rfl⟩
    go_wp2_with fail
    refine (rest_inv h).mono ?_
    rintro e w1 ⟨ao', c', rfl, hc1, hc2, hl, q, hq⟩
    have h1 : RdInv w1 R ao cap f n p := by rw [hq]; exact h.drewN q
    have ho : Only R w' w1 := by rw [hq]; exact (Only.refl R w').drewN q
    clear hq
    obtain ⟨b, off, rfl, hcell⟩ := hl.resolve_left hz
    have hc0 : w1.cell? ⟨b, off, none⟩ = some (.int .u8 (f p)) := hcell 0 (by omega)
    clear hcell
    have hbR : b ≠ R ∨ off ≠ 1 := by
      by_cases hb : b = R
      · right
        intro hoff
        rw [hb, hoff, h1.at_] at hc0
        cases hc0
      · exact .inl hb
    have hm := moved_set h1 1 (by decide) (by omega)
    have hset : (w1.setCell ⟨R, 1, none⟩ (.int .i64 ((p : Int) + 1))).cell? ⟨b, off, none⟩ = some (.int .u8 (f p)) := by
      rw [World.cell?_setCell_other]
      · exact hc0
      · intro e
        cases e
        rcases hbR with h | h <;> exact h rfl
    have ho2 := ho.setCell (p := ⟨R, 1, none⟩) rfl (.int .i64 ((p : Int) + 1))
    generalize n - p = m at *
    go_wp2_with fail
    refine (skip_at R p 1 _ h1.at_ h1.free (by decide) (by omega)).mono ?_
    rintro e w' ⟨rfl, rfl⟩
    go_wp2
    go_ret2
    exact ⟨rfl, hm, ho2⟩

/-- What a text's reading comes to: its bytes, the error, where the reader then stands. -/
def txt (f : Nat → Int) (n p : Nat) (most : Int) : ByteArray × Int × Nat :=
  if (Wm.num (sh f p) (n - p)).2.2 ≠ 0 then (ByteArray.empty, (Wm.num (sh f p) (n - p)).2.2, p)
  else if max most 0 < (Wm.num (sh f p) (n - p)).1 then (ByteArray.empty, 12, p)
  else if ((n - p : Nat) : Int) - (Wm.num (sh f p) (n - p)).2.1 < (Wm.num (sh f p) (n - p)).1 then (ByteArray.empty, 10, p)
  else (strF (sh f (p + (Wm.num (sh f p) (n - p)).2.1.toNat)) (Wm.num (sh f p) (n - p)).1.toNat, 0, p + (Wm.num (sh f p) (n - p)).2.1.toNat + (Wm.num (sh f p) (n - p)).1.toNat)


set_option maxHeartbeats 400000 in
theorem wText_err {w : World} {R : Nat} {ao : Option Addr} {cap : Nat} {f : Nat → Int} {n p : Nat} (h : RdInv w R ao cap f n p) (most a s e : Int) (hN : Hid (Wm.num (sh f p) (n - p) = (a, s, e))) (he : (e != 0) = true) :
    Calls Tryd.prog 56 #[.pointer (some ⟨R, 0, none⟩), .int .i64 most] w fun e' w' => e' = .returned (.tuple #[.string ByteArray.empty, .int .i64 e]) ∧ RdInv w' R ao cap f n p ∧ Only R w w' := by
  have hp := h.hp
  have hbig := h.big
  go_enter Tryd.func56, Tryd.ntmps56
  go_wp2_with fail
  refine (missing_no R w h.made).mono ?_
  rintro e' w' ⟨rfl, rfl⟩
  go_wp2_with fail
  refine (rest_inv h).mono ?_
  rintro e' w1 ⟨ao', c', rfl, hc1, hc2, hl, q, hq⟩
  have h1 : RdInv w1 R ao cap f n p := by rw [hq]; exact h.drewN q
  have ho : Only R w' w1 := by rw [hq]; exact (Only.refl R w').drewN q
  clear hq
  go_wp2_with fail
  refine (number_any ao' (n - p) c' (sh f p) w1 (by omega) (sh_by h.by_ p) hl).mono ?_
  rintro e' w' ⟨rfl, rfl⟩
  rw [hN.out]
  go_wp2
  go_ret2
  exact ⟨rfl, h1, ho⟩

set_option maxHeartbeats 400000 in
theorem wText_long {w : World} {R : Nat} {ao : Option Addr} {cap : Nat} {f : Nat → Int} {n p : Nat} (h : RdInv w R ao cap f n p) (most a s : Int) (hN : Hid (Wm.num (sh f p) (n - p) = (a, s, 0))) (hm : max most 0 < a) :
    Calls Tryd.prog 56 #[.pointer (some ⟨R, 0, none⟩), .int .i64 most] w fun e' w' => e' = .returned (.tuple #[.string ByteArray.empty, .int .i64 12]) ∧ RdInv w' R ao cap f n p ∧ Only R w w' := by
  have hp := h.hp
  have hbig := h.big
  go_enter Tryd.func56, Tryd.ntmps56
  go_wp2_with fail
  refine (missing_no R w h.made).mono ?_
  rintro e' w' ⟨rfl, rfl⟩
  go_wp2_with fail
  refine (rest_inv h).mono ?_
  rintro e' w1 ⟨ao', c', rfl, hc1, hc2, hl, q, hq⟩
  have h1 : RdInv w1 R ao cap f n p := by rw [hq]; exact h.drewN q
  have ho : Only R w' w1 := by rw [hq]; exact (Only.refl R w').drewN q
  clear hq
  go_wp2_with fail
  refine (number_any ao' (n - p) c' (sh f p) w1 (by omega) (sh_by h.by_ p) hl).mono ?_
  rintro e' w' ⟨rfl, rfl⟩
  rw [hN.out]
  go_wp2
  all_goals
    go_ret2
    exact ⟨rfl, h1, ho⟩

theorem conv_at (b off m c : Nat) (f : Nat → Int) (w : World) (hc : ∀ i, i < m → w.cell? ⟨b, off + i, none⟩ = some (.int .u8 (f i))) :
    (convert 24 9 (.slice (some ⟨b, off, none⟩) m c)).run Tryd.prog w = .ok (.string (strF f m)) w :=
  run_convert_bytes_arg w 24 5 Tryd.underlying24 Tryd.underlying5 b off m c (lst f m) (lst_length f m) (fun i hi => by rw [hc i hi, lst_getD f m i hi]) 9 Tryd.underlying9


set_option maxHeartbeats 1000000 in
theorem wText_short {w : World} {R : Nat} {ao : Option Addr} {cap : Nat} {f : Nat → Int} {n p : Nat} (h : RdInv w R ao cap f n p) (most : Int) (m k : Nat) (hN : Hid (Wm.num (sh f p) (n - p) = ((m : Int), (k : Int), 0))) (hk0 : 0 < k) (hk : k ≤ n - p) (hm : ¬ max most 0 < (m : Int)) (hs : n - p - k < m) :
    Calls Tryd.prog 56 #[.pointer (some ⟨R, 0, none⟩), .int .i64 most] w fun e' w' => e' = .returned (.tuple #[.string ByteArray.empty, .int .i64 10]) ∧ RdInv w' R ao cap f n p ∧ Only R w w' := by
  have hp := h.hp
  have hbig := h.big
  go_enter Tryd.func56, Tryd.ntmps56
  go_wp2_with fail
  refine (missing_no R w h.made).mono ?_
  rintro e' w' ⟨rfl, rfl⟩
  go_wp2_with fail
  refine (rest_inv h).mono ?_
  rintro e' w1 ⟨ao', c', rfl, hc1, hc2, hl, q, hq⟩
  have h1 : RdInv w1 R ao cap f n p := by rw [hq]; exact h.drewN q
  have ho : Only R w' w1 := by rw [hq]; exact (Only.refl R w').drewN q
  clear hq
  go_wp2_with fail
  refine (number_any ao' (n - p) c' (sh f p) w1 (by omega) (sh_by h.by_ p) hl).mono ?_
  rintro e' w' ⟨rfl, rfl⟩
  rw [hN.out]
  have g1 : ((m : Int) ≤ max most 0) := by omega
  clear hc1 hc2 hl
  go_wp2_with fail
  all_goals
    refine (rest_inv h1).mono ?_
    rintro e' w2 ⟨ao', c2, rfl, hc1, hc2, hl, q, hq⟩
    have h2 : RdInv w2 R ao cap f n p := by rw [hq]; exact h1.drewN q
    have ho2 := ho.drewN q
    rw [← hq] at ho2
    clear hq
    obtain ⟨b, off, rfl, hcell⟩ := hl.resolve_left (by omega)
    clear hcell
    generalize n - p = r at *
    by_cases hck : c2 = k
    · have hrk : r = k := by omega
      subst hck hrk
      go_wp2
      go_ret2
      exact ⟨rfl, h2, ho2⟩
    · have hck' : k < c2 := by omega
      go_wp2
      go_ret2
      exact ⟨rfl, h2, ho2⟩

set_option maxHeartbeats 1000000 in
theorem wText_ok {w : World} {R : Nat} {ao : Option Addr} {cap : Nat} {f : Nat → Int} {n p : Nat} (h : RdInv w R ao cap f n p) (most : Int) (m k : Nat) (hN : Hid (Wm.num (sh f p) (n - p) = ((m : Int), (k : Int), 0))) (hk0 : 0 < k) (hk : k ≤ n - p) (hm : ¬ max most 0 < (m : Int)) (hs : m ≤ n - p - k) :
    Calls Tryd.prog 56 #[.pointer (some ⟨R, 0, none⟩), .int .i64 most] w fun e' w' => e' = .returned (.tuple #[.string (strF (sh f (p + k)) m), .int .i64 0]) ∧ RdInv w' R ao cap f n (p + k + m) ∧ Only R w w' := by
  have hp := h.hp
  have hbig := h.big
  go_enter Tryd.func56, Tryd.ntmps56
  go_wp2_with fail
  refine (missing_no R w h.made).mono ?_
  rintro e' w' ⟨rfl, rfl⟩
  go_wp2_with fail
  refine (rest_inv h).mono ?_
  rintro e' w1 ⟨ao', c', rfl, hc1, hc2, hl, q, hq⟩
  have h1 : RdInv w1 R ao cap f n p := by rw [hq]; exact h.drewN q
  have ho : Only R w' w1 := by rw [hq]; exact (Only.refl R w').drewN q
  clear hq
  go_wp2_with fail
  refine (number_any ao' (n - p) c' (sh f p) w1 (by omega) (sh_by h.by_ p) hl).mono ?_
  rintro e' w' ⟨rfl, rfl⟩
  rw [hN.out]
  have g1 : ((m : Int) ≤ max most 0) := by omega
  clear hc1 hc2 hl
  go_wp2_with fail
  all_goals
    refine (rest_inv h1).mono ?_
    rintro e' w2 ⟨ao', c2, rfl, hc1, hc2, hl, q, hq⟩
    have h2 : RdInv w2 R ao cap f n p := by rw [hq]; exact h1.drewN q
    have ho2 := ho.drewN q
    rw [← hq] at ho2
    clear hq
    obtain ⟨b, off, rfl, hcell⟩ := hl.resolve_left (by omega)
    have hm2 := moved_set h2 ((k : Int) + (m : Int)) (by omega) (by omega)
    rw [show p + ((k : Int) + (m : Int)).toNat = p + k + m by omega] at hm2
    have hk2 := h2.at_
    have hset : ∀ i, i < n - p → (w2.setCell ⟨R, 1, none⟩ (.int .i64 ((p : Int) + ((k : Int) + (m : Int))))).cell? ⟨b, off + i, none⟩ = some (.int .u8 (sh f p i)) := by
      intro i hi
      rw [World.cell?_setCell_other]
      · exact hcell i hi
      · intro e
        have := hcell i hi
        rw [← e, hk2] at this
        cases this
    have ho3 := ho2.setCell (p := ⟨R, 1, none⟩) rfl (.int .i64 ((p : Int) + ((k : Int) + (m : Int))))
    have hat := h2.at_
    have hfr := h2.free
    have hc1' : Hid (n - p ≤ c2) := hc1
    have Hset := hset
    clear hset hcell hk2
    have H3 : Hid (∀ i, i < n - p → (w2.setCell ⟨R, 1, none⟩ (.int .i64 ((p : Int) + ((k : Int) + (m : Int))))).cell? ⟨b, off + i, none⟩ = some (.int .u8 (sh f p i))) := Hset
    clear Hset
    by_cases hck : c2 = k
    · have hrk : n - p = k := by omega
      have hm0 : m = 0 := by omega
      subst hck hm0
      have e0 : ((p : Int) + ((c2 : Int) + ((0 : Nat) : Int))) = (p : Int) + (c2 : Int) := by simp
      rw [e0] at hm2 ho3
      clear e0 H3
      have hcv : ∀ c, (convert 24 9 (.slice (some ⟨b, off, none⟩) 0 c)).run Tryd.prog (w2.setCell ⟨R, 1, none⟩ (.int .i64 ((p : Int) + (c2 : Int)))) = .ok (.string (strF (sh f (p + c2)) 0)) (w2.setCell ⟨R, 1, none⟩ (.int .i64 ((p : Int) + (c2 : Int)))) := fun c => conv_at b off 0 c (sh f (p + c2)) _ (fun i hi => absurd hi (by omega))
      rw [hrk]
      go_wp2_with fail
      refine (skip_at R p _ w2 hat hfr (by omega) (by omega)).mono ?_
      rintro e' w' ⟨rfl, rfl⟩
      go_wp2
      go_ret2
      exact ⟨rfl, hm2, ho3⟩
    · have hck' : k < c2 := by omega
      have hcv : ∀ c, (convert 24 9 (.slice (some ⟨b, off + k, none⟩) m c)).run Tryd.prog (w2.setCell ⟨R, 1, none⟩ (.int .i64 ((p : Int) + ((k : Int) + (m : Int))))) = .ok (.string (strF (sh f (p + k)) m)) (w2.setCell ⟨R, 1, none⟩ (.int .i64 ((p : Int) + ((k : Int) + (m : Int))))) := fun c => conv_at b (off + k) m c (sh f (p + k)) _ (fun i hi => by rw [Nat.add_assoc off k i, H3.out (k + i) (by omega)]; simp [sh, Nat.add_assoc])
      have hrn : n - p ≤ n - p ∧ (p : Int) + ((k : Int) + (m : Int)) ≤ 140737488355328 := by omega
      have hrn := hrn.2
      generalize hr : n - p = r at *
      clear hr H3
      go_wp2_with fail
      refine (skip_at R p _ w2 hat hfr (by omega) (by omega)).mono ?_
      rintro e' w' ⟨rfl, rfl⟩
      go_wp2
      go_ret2
      exact ⟨rfl, hm2, ho3⟩

theorem wText {w : World} {R : Nat} {ao : Option Addr} {cap : Nat} {f : Nat → Int} {n p : Nat} (h : RdInv w R ao cap f n p) (most : Int) :
    Calls Tryd.prog 56 #[.pointer (some ⟨R, 0, none⟩), .int .i64 most] w fun e w' => e = .returned (.tuple #[.string (txt f n p most).1, .int .i64 (txt f n p most).2.1]) ∧ RdInv w' R ao cap f n (txt f n p most).2.2 ∧ Only R w w' := by
  have HN := Wm.num_bd (sh f p) (n - p)
  have HP := Wm.num_pos (sh f p) (n - p)
  have hp := h.hp
  unfold txt
  obtain ⟨N, hN⟩ : ∃ N, N = Wm.num (sh f p) (n - p) := ⟨_, rfl⟩
  rw [← hN] at HN HP ⊢
  obtain ⟨a, s, e⟩ := N
  obtain ⟨b1, b2, b3, b4, b5⟩ := HN
  by_cases he : e = 0
  · have hs0 := HP he
    subst he
    obtain ⟨m, hm⟩ := Int.eq_ofNat_of_zero_le b1
    obtain ⟨k, hk⟩ := Int.eq_ofNat_of_zero_le b3
    simp only at hm hk b1 b2 b3 b4 hs0
    subst hm hk
    rw [if_neg (by simp)]
    by_cases hmx : max most 0 < (m : Int)
    · rw [if_pos hmx]
      exact wText_long h most m k hN.symm hmx
    · rw [if_neg hmx]
      by_cases hsh : ((n - p : Nat) : Int) - (k : Int) < (m : Int)
      · rw [if_pos hsh]
        exact wText_short h most m k hN.symm (by omega) (by omega) hmx (by omega)
      · rw [if_neg hsh]
        exact wText_ok h most m k hN.symm (by omega) (by omega) hmx (by omega)
  · rw [if_pos he]
    exact wText_err h most a s e hN.symm (by simpa using he)
end Go.Proofs.YtbpolfoagmehhaaDoor
