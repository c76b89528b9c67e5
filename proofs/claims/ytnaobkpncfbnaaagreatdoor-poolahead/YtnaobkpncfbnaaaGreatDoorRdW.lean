/-
  Contracts of wire's Reader: Uint, Byte, Text, Left, End, on a reader that has read p of n bytes.
-/
import Derived.Test.YtnaobkpncfbnaaaGreatDoorRd
namespace Go.Proofs.YtnaobkpncfbnaaaGreatDoor
open Go.RowKit
set_option linter.unusedVariables false

theorem ret2i {a b a' b' : Int} (h1 : a = a') (h2 : b = b') : Ending.returned (.tuple #[.int .i64 a, .int .i64 b]) = .returned (.tuple #[.int .i64 a', .int .i64 b']) := by rw [h1, h2]

theorem moved_set {w : World} {R : Nat} {ao : Option Addr} {cap : Nat} {f : Nat → Int} {n p : Nat} (h : RdInv w R ao cap f n p) (s : Int) (h0 : 0 ≤ s) (h1 : s ≤ ((n - p : Nat) : Int)) :
    RdInv (w.setCell ⟨R, 1, none⟩ (.int .i64 ((p : Int) + s))) R ao cap f n (p + s.toNat) := by
  have hp := h.hp
  obtain ⟨e0, e1, e2, e3⟩ := set_keeps w R (.int .i64 ((p : Int) + s)) _ h.at_ h.free
  exact h.moved ((Only.refl R w).setCell rfl _) (by omega) e0 (by rw [e1]; congr 2; omega) e2 e3

theorem RdInv.drewN {w : World} {R : Nat} {ao : Option Addr} {cap : Nat} {f : Nat → Int} {n p : Nat} (h : RdInv w R ao cap f n p) (q : Nat) : RdInv (w.drewN q) R ao cap f n p := h.kept rfl (fun _ _ _ => rfl)

set_option maxHeartbeats 400000 in
theorem wLeft {w : World} {R : Nat} {ao : Option Addr} {cap : Nat} {f : Nat → Int} {n p : Nat} (h : RdInv w R ao cap f n p) :
    Calls Tryz.prog 63 #[.pointer (some ⟨R, 0, none⟩)] w fun e w' => e = .returned (.int .i64 ((n - p : Nat) : Int)) ∧ ∃ q, w' = w.drewN q := by
  go_enter Tryz.func63, Tryz.ntmps63
  go_wp2_with fail
  refine (missing_no R w h.made).mono ?_
  rintro e w' ⟨rfl, rfl⟩
  go_wp2_with fail
  refine (rest_inv h).mono ?_
  rintro e w1 ⟨ao', c', rfl, hc1, hc2, hl, q, rfl⟩
  go_wp2
  go_ret
  exact ⟨rfl, q, rfl⟩

/-- What a text's reading comes to: its bytes, the error, where the reader then stands. -/
def txt (f : Nat → Int) (n p : Nat) (most : Int) : ByteArray × Int × Nat :=
  if (Wm.num (sh f p) (n - p)).2.2 ≠ 0 then (ByteArray.empty, (Wm.num (sh f p) (n - p)).2.2, p)
  else if max most 0 < (Wm.num (sh f p) (n - p)).1 then (ByteArray.empty, 12, p)
  else if ((n - p : Nat) : Int) - (Wm.num (sh f p) (n - p)).2.1 < (Wm.num (sh f p) (n - p)).1 then (ByteArray.empty, 10, p)
  else (strF (sh f (p + (Wm.num (sh f p) (n - p)).2.1.toNat)) (Wm.num (sh f p) (n - p)).1.toNat, 0, p + (Wm.num (sh f p) (n - p)).2.1.toNat + (Wm.num (sh f p) (n - p)).1.toNat)


set_option maxHeartbeats 400000 in
theorem wText_err {w : World} {R : Nat} {ao : Option Addr} {cap : Nat} {f : Nat → Int} {n p : Nat} (h : RdInv w R ao cap f n p) (most a s e : Int) (hN : Hid (Wm.num (sh f p) (n - p) = (a, s, e))) (he : (e != 0) = true) :
    Calls Tryz.prog 62 #[.pointer (some ⟨R, 0, none⟩), .int .i64 most] w fun e' w' => e' = .returned (.tuple #[.string ByteArray.empty, .int .i64 e]) ∧ RdInv w' R ao cap f n p ∧ Only R w w' := by
  have hp := h.hp
  have hbig := h.big
  go_enter Tryz.func62, Tryz.ntmps62
  go_wp2_with fail
  refine (missing_no R w h.made).mono ?_
  rintro e' w' ⟨rfl, rfl⟩
  go_wp2_with fail
  refine (rest_inv h).mono ?_
  rintro e' w1 ⟨ao', c', rfl, hc1, hc2, hl, q, hq⟩
  have h1 : RdInv w1 R ao cap f n p := by rw [hq]; exact h.drewN q
  have ho : Only R w' w1 := by rw [hq]; exact (Only.refl R w').drewN q
  clear hq
  go_wp2_with fail
  refine (number_any ao' (n - p) c' (sh f p) w1 (by omega) (sh_by h.by_ p) hl).mono ?_
  rintro e' w' ⟨rfl, rfl⟩
  rw [hN.out]
  go_wp2
  go_ret2
  exact ⟨rfl, h1, ho⟩

set_option maxHeartbeats 400000 in
theorem wText_long {w : World} {R : Nat} {ao : Option Addr} {cap : Nat} {f : Nat → Int} {n p : Nat} (h : RdInv w R ao cap f n p) (most a s : Int) (hN : Hid (Wm.num (sh f p) (n - p) = (a, s, 0))) (hm : max most 0 < a) :
    Calls Tryz.prog 62 #[.pointer (some ⟨R, 0, none⟩), .int .i64 most] w fun e' w' => e' = .returned (.tuple #[.string ByteArray.empty, .int .i64 12]) ∧ RdInv w' R ao cap f n p ∧ Only R w w' := by
  have hp := h.hp
  have hbig := h.big
  go_enter Tryz.func62, Tryz.ntmps62
  go_wp2_with fail
  refine (missing_no R w h.made).mono ?_
  rintro e' w' ⟨rfl, rfl⟩
  go_wp2_with fail
  refine (rest_inv h).mono ?_
  rintro e' w1 ⟨ao', c', rfl, hc1, hc2, hl, q, hq⟩
  have h1 : RdInv w1 R ao cap f n p := by rw [hq]; exact h.drewN q
  have ho : Only R w' w1 := by rw [hq]; exact (Only.refl R w').drewN q
  clear hq
  go_wp2_with fail
  refine (number_any ao' (n - p) c' (sh f p) w1 (by omega) (sh_by h.by_ p) hl).mono ?_
  rintro e' w' ⟨rfl, rfl⟩
  rw [hN.out]
  go_wp2
  all_goals
    go_ret2
    exact ⟨rfl, h1, ho⟩

theorem conv_at (b off m c : Nat) (f : Nat → Int) (w : World) (hc : ∀ i, i < m → w.cell? ⟨b, off + i, none⟩ = some (.int .u8 (f i))) :
    (convert 36 9 (.slice (some ⟨b, off, none⟩) m c)).run Tryz.prog w = .ok (.string (strF f m)) w :=
  run_convert_bytes_arg w 36 5 Tryz.underlying36 Tryz.underlying5 b off m c (lst f m) (lst_length f m) (fun i hi => by rw [hc i hi, lst_getD f m i hi]) 9 Tryz.underlying9


set_option maxHeartbeats 1000000 in
theorem wText_short {w : World} {R : Nat} {ao : Option Addr} {cap : Nat} {f : Nat → Int} {n p : Nat} (h : RdInv w R ao cap f n p) (most : Int) (m k : Nat) (hN : Hid (Wm.num (sh f p) (n - p) = ((m : Int), (k : Int), 0))) (hk0 : 0 < k) (hk : k ≤ n - p) (hm : ¬ max most 0 < (m : Int)) (hs : n - p - k < m) :
    Calls Tryz.prog 62 #[.pointer (some ⟨R, 0, none⟩), .int .i64 most] w fun e' w' => e' = .returned (.tuple #[.string ByteArray.empty, .int .i64 10]) ∧ RdInv w' R ao cap f n p ∧ Only R w w' := by
  have hp := h.hp
  have hbig := h.big
  go_enter Tryz.func62, Tryz.ntmps62
  go_wp2_with fail
  refine (missing_no R w h.made).mono ?_
  rintro e' w' ⟨rfl, rfl⟩
  go_wp2_with fail
  refine (rest_inv h).mono ?_
  rintro e' w1 ⟨ao', c', rfl, hc1, hc2, hl, q, hq⟩
  have h1 : RdInv w1 R ao cap f n p := by rw [hq]; exact h.drewN q
  have ho : Only R w' w1 := by rw [hq]; exact (Only.refl R w').drewN q
  clear hq
  go_wp2_with fail
  refine (number_any ao' (n - p) c' (sh f p) w1 (by omega) (sh_by h.by_ p) hl).mono ?_
  rintro e' w' ⟨rfl, rfl⟩
  rw [hN.out]
  have g1 : ((m : Int) ≤ max most 0) := by omega
  clear hc1 hc2 hl
  go_wp2_with fail
  all_goals
    refine (rest_inv h1).mono ?_
    rintro e' w2 ⟨ao', c2, rfl, hc1, hc2, hl, q, hq⟩
    have h2 : RdInv w2 R ao cap f n p := by rw [hq]; exact h1.drewN q
    have ho2 := ho.drewN q
    rw [← hq] at ho2
    clear hq
    obtain ⟨b, off, rfl, hcell⟩ := hl.resolve_left (by omega)
    clear hcell
    generalize n - p = r at *
    by_cases hck : c2 = k
    · have hrk : r = k := by omega
      subst hck hrk
      go_wp2
      go_ret2
      exact ⟨rfl, h2, ho2⟩
    · have hck' : k < c2 := by omega
      go_wp2
      go_ret2
      exact ⟨rfl, h2, ho2⟩

set_option maxHeartbeats 1000000 in
theorem wText_ok {w : World} {R : Nat} {ao : Option Addr} {cap : Nat} {f : Nat → Int} {n p : Nat} (h : RdInv w R ao cap f n p) (most : Int) (m k : Nat) (hN : Hid (Wm.num (sh f p) (n - p) = ((m : Int), (k : Int), 0))) (hk0 : 0 < k) (hk : k ≤ n - p) (hm : ¬ max most 0 < (m : Int)) (hs : m ≤ n - p - k) :
    Calls Tryz.prog 62 #[.pointer (some ⟨R, 0, none⟩), .int .i64 most] w fun e' w' => e' = .returned (.tuple #[.string (strF (sh f (p + k)) m), .int .i64 0]) ∧ RdInv w' R ao cap f n (p + k + m) ∧ Only R w w' := by
  have hp := h.hp
  have hbig := h.big
  go_enter Tryz.func62, Tryz.ntmps62
  go_wp2_with fail
  refine (missing_no R w h.made).mono ?_
  rintro e' w' ⟨rfl, rfl⟩
  go_wp2_with fail
  refine (rest_inv h).mono ?_
  rintro e' w1 ⟨ao', c', rfl, hc1, hc2, hl, q, hq⟩
  have h1 : RdInv w1 R ao cap f n p := by rw [hq]; exact h.drewN q
  have ho : Only R w' w1 := by rw [hq]; exact (Only.refl R w').drewN q
  clear hq
  go_wp2_with fail
  refine (number_any ao' (n - p) c' (sh f p) w1 (by omega) (sh_by h.by_ p) hl).mono ?_
  rintro e' w' ⟨rfl, rfl⟩
  rw [hN.out]
  have g1 : ((m : Int) ≤ max most 0) := by omega
  clear hc1 hc2 hl
  go_wp2_with fail
  all_goals
    refine (rest_inv h1).mono ?_
    rintro e' w2 ⟨ao', c2, rfl, hc1, hc2, hl, q, hq⟩
    have h2 : RdInv w2 R ao cap f n p := by rw [hq]; exact h1.drewN q
    have ho2 := ho.drewN q
    rw [← hq] at ho2
    clear hq
    obtain ⟨b, off, rfl, hcell⟩ := hl.resolve_left (by omega)
    have hm2 := moved_set h2 ((k : Int) + (m : Int)) (by omega) (by omega)
    rw [show p + ((k : Int) + (m : Int)).toNat = p + k + m by omega] at hm2
    have hk2 := h2.at_
    have hset : ∀ i, i < n - p → (w2.setCell ⟨R, 1, none⟩ (.int .i64 ((p : Int) + ((k : Int) + (m : Int))))).cell? ⟨b, off + i, none⟩ = some (.int .u8 (sh f p i)) := by
      intro i hi
      rw [World.cell?_setCell_other]
      · exact hcell i hi
      · intro e
        have := hcell i hi
        rw [← e, hk2] at this
        cases this
    have ho3 := ho2.setCell (p := ⟨R, 1, none⟩) rfl (.int .i64 ((p : Int) + ((k : Int) + (m : Int))))
    have hat := h2.at_
    have hfr := h2.free
    have hc1' : Hid (n - p ≤ c2) := hc1
    have Hset := hset
    clear hset hcell hk2
    have H3 : Hid (∀ i, i < n - p → (w2.setCell ⟨R, 1, none⟩ (.int .i64 ((p : Int) + ((k : Int) + (m : Int))))).cell? ⟨b, off + i, none⟩ = some (.int .u8 (sh f p i))) := Hset
    clear Hset
    by_cases hck : c2 = k
    · have hrk : n - p = k := by omega
      have hm0 : m = 0 := by omega
      subst hck hm0
      have e0 : ((p : Int) + ((c2 : Int) + ((0 : Nat) : Int))) = (p : Int) + (c2 : Int) := by simp
      rw [e0] at hm2 ho3
      clear e0 H3
      have hcv : ∀ c, (convert 36 9 (.slice (some ⟨b, off, none⟩) 0 c)).run Tryz.prog (w2.setCell ⟨R, 1, none⟩ (.int .i64 ((p : Int) + (c2 : Int)))) = .ok (.string (strF (sh f (p + c2)) 0)) (w2.setCell ⟨R, 1, none⟩ (.int .i64 ((p : Int) + (c2 : Int)))) := fun c => conv_at b off 0 c (sh f (p + c2)) _ (fun i hi => absurd hi (by omega))
      rw [hrk]
      go_wp2_with fail
      refine (skip_at R p _ w2 hat hfr (by omega) (by omega)).mono ?_
      rintro e' w' ⟨rfl, rfl⟩
      go_wp2
      go_ret2
      exact ⟨rfl, hm2, ho3⟩
    · have hck' : k < c2 := by omega
      have hcv : ∀ c, (convert 36 9 (.slice (some ⟨b, off + k, none⟩) m c)).run Tryz.prog (w2.setCell ⟨R, 1, none⟩ (.int .i64 ((p : Int) + ((k : Int) + (m : Int))))) = .ok (.string (strF (sh f (p + k)) m)) (w2.setCell ⟨R, 1, none⟩ (.int .i64 ((p : Int) + ((k : Int) + (m : Int))))) := fun c => conv_at b (off + k) m c (sh f (p + k)) _ (fun i hi => by rw [Nat.add_assoc off k i, H3.out (k + i) (by omega)]; simp [sh, Nat.add_assoc])
      have hrn : n - p ≤ n - p ∧ (p : Int) + ((k : Int) + (m : Int)) ≤ 140737488355328 := by omega
      have hrn := hrn.2
      generalize hr : n - p = r at *
      clear hr H3
      go_wp2_with fail
      refine (skip_at R p _ w2 hat hfr (by omega) (by omega)).mono ?_
      rintro e' w' ⟨rfl, rfl⟩
      go_wp2
      go_ret2
      exact ⟨rfl, hm2, ho3⟩

theorem wText {w : World} {R : Nat} {ao : Option Addr} {cap : Nat} {f : Nat → Int} {n p : Nat} (h : RdInv w R ao cap f n p) (most : Int) :
    Calls Tryz.prog 62 #[.pointer (some ⟨R, 0, none⟩), .int .i64 most] w fun e w' => e = .returned (.tuple #[.string (txt f n p most).1, .int .i64 (txt f n p most).2.1]) ∧ RdInv w' R ao cap f n (txt f n p most).2.2 ∧ Only R w w' := by
  have HN := Wm.num_bd (sh f p) (n - p)
  have HP := Wm.num_pos (sh f p) (n - p)
  have hp := h.hp
  unfold txt
  obtain ⟨N, hN⟩ : ∃ N, N = Wm.num (sh f p) (n - p) := ⟨_, rfl⟩
  rw [← hN] at HN HP ⊢
  obtain ⟨a, s, e⟩ := N
  obtain ⟨b1, b2, b3, b4, b5⟩ := HN
  by_cases he : e = 0
  · have hs0 := HP he
    subst he
    obtain ⟨m, hm⟩ := Int.eq_ofNat_of_zero_le b1
    obtain ⟨k, hk⟩ := Int.eq_ofNat_of_zero_le b3
    simp only at hm hk b1 b2 b3 b4 hs0
    subst hm hk
    rw [if_neg (by simp)]
    by_cases hmx : max most 0 < (m : Int)
    · rw [if_pos hmx]
      exact wText_long h most m k hN.symm hmx
    · rw [if_neg hmx]
      by_cases hsh : ((n - p : Nat) : Int) - (k : Int) < (m : Int)
      · rw [if_pos hsh]
        exact wText_short h most m k hN.symm (by omega) (by omega) hmx (by omega)
      · rw [if_neg hsh]
        exact wText_ok h most m k hN.symm (by omega) (by omega) hmx (by omega)
  · rw [if_pos he]
    exact wText_err h most a s e hN.symm (by simpa using he)
end Go.Proofs.YtnaobkpncfbnaaaGreatDoor
