/-
  Contracts of wire's Reader: Uint, Byte, Text, Left, End, on a reader that has read p of n bytes.
  Slices of bytes that lie somewhere (Img); the contract of the law's own Image over them.
  The records of bytes: what wire's texts, one behind the other, come to; the contract of log's records. Condition: at most 2^47 bytes.
-/
import Derived.Test.YthfokciijcmhbaaGreatDoorGan
import Derived.Test.YthfokciijcmhbaaGreatDoorGae
import Derived.Lib.ConvBytes
namespace Go.Proofs.YthfokciijcmhbaaGreatDoor
open Go.RowKit
set_option linter.unusedVariables false

theorem ret2i {a b a' b' : Int} (h1 : a = a') (h2 : b = b') : Ending.returned (.tuple #[.int .i64 a, .int .i64 b]) = .returned (.tuple #[.int .i64 a', .int .i64 b']) := by rw [h1, h2]

theorem moved_set {w : World} {R : Nat} {ao : Option Addr} {cap : Nat} {f : Nat → Int} {n p : Nat} (h : RdInv w R ao cap f n p) (s : Int) (h0 : 0 ≤ s) (h1 : s ≤ ((n - p : Nat) : Int)) :
    RdInv (w.setCell ⟨R, 1, none⟩ (.int .i64 ((p : Int) + s))) R ao cap f n (p + s.toNat) := by
  have hp := h.hp
  obtain ⟨e0, e1, e2, e3⟩ := set_keeps w R (.int .i64 ((p : Int) + s)) _ h.at_ h.free
  exact h.moved ((Only.refl R w).setCell rfl _) (by omega) e0 (by rw [e1]; congr 2; omega) e2 e3

theorem RdInv.drewN {w : World} {R : Nat} {ao : Option Addr} {cap : Nat} {f : Nat → Int} {n p : Nat} (h : RdInv w R ao cap f n p) (q : Nat) : RdInv (w.drewN q) R ao cap f n p := h.kept rfl (fun _ _ _ => rfl)

set_option maxHeartbeats 400000 in
theorem wUint {w : World} {R : Nat} {ao : Option Addr} {cap : Nat} {f : Nat → Int} {n p : Nat} (h : RdInv w R ao cap f n p) :
    Calls Tryz.prog 164 #[.pointer (some ⟨R, 0, none⟩)] w fun e w' => e = .returned (.tuple #[.int .i64 (Wm.num (sh f p) (n - p)).1, .int .i64 (Wm.num (sh f p) (n - p)).2.2]) ∧ RdInv w' R ao cap f n (p + (Wm.num (sh f p) (n - p)).2.1.toNat) ∧ Only R w w' := by
  obtain ⟨b1, b2, b3, b4, b5⟩ := Wm.num_bd (sh f p) (n - p)
  have hn := h.hn
  have hc := h.hc
  have hbig := h.big
  have hp := h.hp
  go_enter Tryz.func164, Tryz.ntmps164
  go_wp2_with fail
  refine (missing_no R w h.made).mono ?_
  rintro e w' ⟨rfl, rfl⟩
  go_wp2_with fail
  refine (rest_inv h).mono ?_
  rintro e w1 ⟨ao', c', rfl, hc1, hc2, hl, q, hq⟩
  have h1 : RdInv w1 R ao cap f n p := by rw [hq]; exact h.drewN q
  have ho : Only R w' w1 := by rw [hq]; exact (Only.refl R w').drewN q
  clear hq
  go_wp2_with fail
  refine (number_any ao' (n - p) c' (sh f p) w1 (by omega) (sh_by h.by_ p) hl).mono ?_
  rintro e w' ⟨rfl, rfl⟩
  go_wp2_with fail
  refine (skip_at R p _ _ h1.at_ h1.free b3 (by omega)).mono ?_
  rintro e w' ⟨rfl, rfl⟩
  go_wp2
  go_ret2
  exact ⟨rfl, moved_set h1 _ b3 b4, ho.setCell rfl _⟩

set_option maxHeartbeats 400000 in
theorem wLeft {w : World} {R : Nat} {ao : Option Addr} {cap : Nat} {f : Nat → Int} {n p : Nat} (h : RdInv w R ao cap f n p) :
    Calls Tryz.prog 103 #[.pointer (some ⟨R, 0, none⟩)] w fun e w' => e = .returned (.int .i64 ((n - p : Nat) : Int)) ∧ ∃ q, w' = w.drewN q := by
  go_enter Tryz.func103, Tryz.ntmps103
  go_wp2_with fail
  refine (missing_no R w h.made).mono ?_
  rintro e w' ⟨rfl, rfl⟩
  go_wp2_with fail
  refine (rest_inv h).mono ?_
  rintro e w1 ⟨ao', c', rfl, hc1, hc2, hl, q, rfl⟩
  go_wp2
  go_ret
  exact ⟨rfl, q, rfl⟩

/-- What a text's reading comes to: its bytes, the error, where the reader then stands. -/
def txt (f : Nat → Int) (n p : Nat) (most : Int) : ByteArray × Int × Nat :=
  if (Wm.num (sh f p) (n - p)).2.2 ≠ 0 then (ByteArray.empty, (Wm.num (sh f p) (n - p)).2.2, p)
  else if max most 0 < (Wm.num (sh f p) (n - p)).1 then (ByteArray.empty, 12, p)
  else if ((n - p : Nat) : Int) - (Wm.num (sh f p) (n - p)).2.1 < (Wm.num (sh f p) (n - p)).1 then (ByteArray.empty, 10, p)
  else (strF (sh f (p + (Wm.num (sh f p) (n - p)).2.1.toNat)) (Wm.num (sh f p) (n - p)).1.toNat, 0, p + (Wm.num (sh f p) (n - p)).2.1.toNat + (Wm.num (sh f p) (n - p)).1.toNat)


set_option maxHeartbeats 400000 in
theorem wText_err {w : World} {R : Nat} {ao : Option Addr} {cap : Nat} {f : Nat → Int} {n p : Nat} (h : RdInv w R ao cap f n p) (most a s e : Int) (hN : Hid (Wm.num (sh f p) (n - p) = (a, s, e))) (he : (e != 0) = true) :
    Calls Tryz.prog 102 #[.pointer (some ⟨R, 0, none⟩), .int .i64 most] w fun e' w' => e' = .returned (.tuple #[.string ByteArray.empty, .int .i64 e]) ∧ RdInv w' R ao cap f n p ∧ Only R w w' := by
  have hp := h.hp
  have hbig := h.big
  go_enter Tryz.func102, Tryz.ntmps102
  go_wp2_with fail
  refine (missing_no R w h.made).mono ?_
  rintro e' w' ⟨rfl, rfl⟩
  go_wp2_with fail
  refine (rest_inv h).mono ?_
  rintro e' w1 ⟨ao', c', rfl, hc1, hc2, hl, q, hq⟩
  have h1 : RdInv w1 R ao cap f n p := by rw [hq]; exact h.drewN q
  have ho : Only R w' w1 := by rw [hq]; exact (Only.refl R w').drewN q
  clear hq
  go_wp2_with fail
  refine (number_any ao' (n - p) c' (sh f p) w1 (by omega) (sh_by h.by_ p) hl).mono ?_
  rintro e' w' ⟨rfl, rfl⟩
  rw [hN.out]
  go_wp2
  go_ret2
  exact ⟨rfl, h1, ho⟩

set_option maxHeartbeats 400000 in
theorem wText_long {w : World} {R : Nat} {ao : Option Addr} {cap : Nat} {f : Nat → Int} {n p : Nat} (h : RdInv w R ao cap f n p) (most a s : Int) (hN : Hid (Wm.num (sh f p) (n - p) = (a, s, 0))) (hm : max most 0 < a) :
    Calls Tryz.prog 102 #[.pointer (some ⟨R, 0, none⟩), .int .i64 most] w fun e' w' => e' = .returned (.tuple #[.string ByteArray.empty, .int .i64 12]) ∧ RdInv w' R ao cap f n p ∧ Only R w w' := by
  have hp := h.hp
  have hbig := h.big
  go_enter Tryz.func102, Tryz.ntmps102
  go_wp2_with fail
  refine (missing_no R w h.made).mono ?_
  rintro e' w' ⟨rfl, rfl⟩
  go_wp2_with fail
  refine (rest_inv h).mono ?_
  rintro e' w1 ⟨ao', c', rfl, hc1, hc2, hl, q, hq⟩
  have h1 : RdInv w1 R ao cap f n p := by rw [hq]; exact h.drewN q
  have ho : Only R w' w1 := by rw [hq]; exact (Only.refl R w').drewN q
  clear hq
  go_wp2_with fail
  refine (number_any ao' (n - p) c' (sh f p) w1 (by omega) (sh_by h.by_ p) hl).mono ?_
  rintro e' w' ⟨rfl, rfl⟩
  rw [hN.out]
  go_wp2
  all_goals
    go_ret2
    exact ⟨rfl, h1, ho⟩

theorem conv_at (b off m c : Nat) (f : Nat → Int) (w : World) (hc : ∀ i, i < m → w.cell? ⟨b, off + i, none⟩ = some (.int .u8 (f i))) :
    (convert 47 9 (.slice (some ⟨b, off, none⟩) m c)).run Tryz.prog w = .ok (.string (strF f m)) w :=
  run_convert_bytes_arg w 47 5 Tryz.underlying47 Tryz.underlying5 b off m c (lst f m) (lst_length f m) (fun i hi => by rw [hc i hi, lst_getD f m i hi]) 9 Tryz.underlying9


set_option maxHeartbeats 1000000 in
theorem wText_short {w : World} {R : Nat} {ao : Option Addr} {cap : Nat} {f : Nat → Int} {n p : Nat} (h : RdInv w R ao cap f n p) (most : Int) (m k : Nat) (hN : Hid (Wm.num (sh f p) (n - p) = ((m : Int), (k : Int), 0))) (hk0 : 0 < k) (hk : k ≤ n - p) (hm : ¬ max most 0 < (m : Int)) (hs : n - p - k < m) :
    Calls Tryz.prog 102 #[.pointer (some ⟨R, 0, none⟩), .int .i64 most] w fun e' w' => e' = .returned (.tuple #[.string ByteArray.empty, .int .i64 10]) ∧ RdInv w' R ao cap f n p ∧ Only R w w' := by
  have hp := h.hp
  have hbig := h.big
  go_enter Tryz.func102, Tryz.ntmps102
  go_wp2_with fail
  refine (missing_no R w h.made).mono ?_
  rintro e' w' ⟨rfl, rfl⟩
  go_wp2_with fail
  refine (rest_inv h).mono ?_
  rintro e' w1 ⟨ao', c', rfl, hc1, hc2, hl, q, hq⟩
  have h1 : RdInv w1 R ao cap f n p := by rw [hq]; exact h.drewN q
  have ho : Only R w' w1 := by rw [hq]; exact (Only.refl R w').drewN q
  clear hq
  go_wp2_with fail
  refine (number_any ao' (n - p) c' (sh f p) w1 (by omega) (sh_by h.by_ p) hl).mono ?_
  rintro e' w' ⟨rfl, rfl⟩
  rw [hN.out]
  have g1 : ((m : Int) ≤ max most 0) := by omega
  clear hc1 hc2 hl
  go_wp2_with fail
  all_goals
    refine (rest_inv h1).mono ?_
    rintro e' w2 ⟨ao', c2, rfl, hc1, hc2, hl, q, hq⟩
    have h2 : RdInv w2 R ao cap f n p := by rw [hq]; exact h1.drewN q
    have ho2 := ho.drewN q
    rw [← hq] at ho2
    clear hq
    obtain ⟨b, off, rfl, hcell⟩ := hl.resolve_left (by omega)
    clear hcell
    generalize n - p = r at *
    by_cases hck : c2 = k
    · have hrk : r = k := by omega
      subst hck hrk
      go_wp2
      go_ret2
      exact ⟨rfl, h2, ho2⟩
    · have hck' : k < c2 := by omega
      go_wp2
      go_ret2
      exact ⟨rfl, h2, ho2⟩

set_option maxHeartbeats 1000000 in
theorem wText_ok {w : World} {R : Nat} {ao : Option Addr} {cap : Nat} {f : Nat → Int} {n p : Nat} (h : RdInv w R ao cap f n p) (most : Int) (m k : Nat) (hN : Hid (Wm.num (sh f p) (n - p) = ((m : Int), (k : Int), 0))) (hk0 : 0 < k) (hk : k ≤ n - p) (hm : ¬ max most 0 < (m : Int)) (hs : m ≤ n - p - k) :
    Calls Tryz.prog 102 #[.pointer (some ⟨R, 0, none⟩), .int .i64 most] w fun e' w' => e' = .returned (.tuple #[.string (strF (sh f (p + k)) m), .int .i64 0]) ∧ RdInv w' R ao cap f n (p + k + m) ∧ Only R w w' := by
  have hp := h.hp
  have hbig := h.big
  go_enter Tryz.func102, Tryz.ntmps102
  go_wp2_with fail
  refine (missing_no R w h.made).mono ?_
  rintro e' w' ⟨rfl, rfl⟩
  go_wp2_with fail
  refine (rest_inv h).mono ?_
  rintro e' w1 ⟨ao', c', rfl, hc1, hc2, hl, q, hq⟩
  have h1 : RdInv w1 R ao cap f n p := by rw [hq]; exact h.drewN q
  have ho : Only R w' w1 := by rw [hq]; exact (Only.refl R w').drewN q
  clear hq
  go_wp2_with fail
  refine (number_any ao' (n - p) c' (sh f p) w1 (by omega) (sh_by h.by_ p) hl).mono ?_
  rintro e' w' ⟨rfl, rfl⟩
  rw [hN.out]
  have g1 : ((m : Int) ≤ max most 0) := by omega
  clear hc1 hc2 hl
  go_wp2_with fail
  all_goals
    refine (rest_inv h1).mono ?_
    rintro e' w2 ⟨ao', c2, rfl, hc1, hc2, hl, q, hq⟩
    have h2 : RdInv w2 R ao cap f n p := by rw [hq]; exact h1.drewN q
    have ho2 := ho.drewN q
    rw [← hq] at ho2
    clear hq
    obtain ⟨b, off, rfl, hcell⟩ := hl.resolve_left (by omega)
    have hm2 := moved_set h2 ((k : Int) + (m : Int)) (by omega) (by omega)
    rw [show p + ((k : Int) + (m : Int)).toNat = p + k + m by omega] at hm2
    have hk2 := h2.at_
    have hset : ∀ i, i < n - p → (w2.setCell ⟨R, 1, none⟩ (.int .i64 ((p : Int) + ((k : Int) + (m : Int))))).cell? ⟨b, off + i, none⟩ = some (.int .u8 (sh f p i)) := by
      intro i hi
      rw [World.cell?_setCell_other]
      · exact hcell i hi
      · intro e
        have := hcell i hi
        rw [← e, hk2] at this
        cases this
    have ho3 := ho2.setCell (p := ⟨R, 1, none⟩) rfl (.int .i64 ((p : Int) + ((k : Int) + (m : Int))))
    have hat := h2.at_
    have hfr := h2.free
    have hc1' : Hid (n - p ≤ c2) := hc1
    have Hset := hset
    clear hset hcell hk2
    have H3 : Hid (∀ i, i < n - p → (w2.setCell ⟨R, 1, none⟩ (.int .i64 ((p : Int) + ((k : Int) + (m : Int))))).cell? ⟨b, off + i, none⟩ = some (.int .u8 (sh f p i))) := Hset
    clear Hset
    by_cases hck : c2 = k
    · have hrk : n - p = k := by omega
      have hm0 : m = 0 := by omega
      subst hck hm0
      have e0 : ((p : Int) + ((c2 : Int) + ((0 : Nat) : Int))) = (p : Int) + (c2 : Int) := by simp
      rw [e0] at hm2 ho3
      clear e0 H3
      have hcv : ∀ c, (convert 47 9 (.slice (some ⟨b, off, none⟩) 0 c)).run Tryz.prog (w2.setCell ⟨R, 1, none⟩ (.int .i64 ((p : Int) + (c2 : Int)))) = .ok (.string (strF (sh f (p + c2)) 0)) (w2.setCell ⟨R, 1, none⟩ (.int .i64 ((p : Int) + (c2 : Int)))) := fun c => conv_at b off 0 c (sh f (p + c2)) _ (fun i hi => absurd hi (by omega))
      rw [hrk]
      go_wp2_with fail
      refine (skip_at R p _ w2 hat hfr (by omega) (by omega)).mono ?_
      rintro e' w' ⟨rfl, rfl⟩
      go_wp2
      go_ret2
      exact ⟨rfl, hm2, ho3⟩
    · have hck' : k < c2 := by omega
      have hcv : ∀ c, (convert 47 9 (.slice (some ⟨b, off + k, none⟩) m c)).run Tryz.prog (w2.setCell ⟨R, 1, none⟩ (.int .i64 ((p : Int) + ((k : Int) + (m : Int))))) = .ok (.string (strF (sh f (p + k)) m)) (w2.setCell ⟨R, 1, none⟩ (.int .i64 ((p : Int) + ((k : Int) + (m : Int))))) := fun c => conv_at b (off + k) m c (sh f (p + k)) _ (fun i hi => by rw [Nat.add_assoc off k i, H3.out (k + i) (by omega)]; simp [sh, Nat.add_assoc])
      have hrn : n - p ≤ n - p ∧ (p : Int) + ((k : Int) + (m : Int)) ≤ 140737488355328 := by omega
      have hrn := hrn.2
      generalize hr : n - p = r at *
      clear hr H3
      go_wp2_with fail
      refine (skip_at R p _ w2 hat hfr (by omega) (by omega)).mono ?_
      rintro e' w' ⟨rfl, rfl⟩
      go_wp2
      go_ret2
      exact ⟨rfl, hm2, ho3⟩

theorem wText {w : World} {R : Nat} {ao : Option Addr} {cap : Nat} {f : Nat → Int} {n p : Nat} (h : RdInv w R ao cap f n p) (most : Int) :
    Calls Tryz.prog 102 #[.pointer (some ⟨R, 0, none⟩), .int .i64 most] w fun e w' => e = .returned (.tuple #[.string (txt f n p most).1, .int .i64 (txt f n p most).2.1]) ∧ RdInv w' R ao cap f n (txt f n p most).2.2 ∧ Only R w w' := by
  have HN := Wm.num_bd (sh f p) (n - p)
  have HP := Wm.num_pos (sh f p) (n - p)
  have hp := h.hp
  unfold txt
  obtain ⟨N, hN⟩ : ∃ N, N = Wm.num (sh f p) (n - p) := ⟨_, rfl⟩
  rw [← hN] at HN HP ⊢
  obtain ⟨a, s, e⟩ := N
  obtain ⟨b1, b2, b3, b4, b5⟩ := HN
  by_cases he : e = 0
  · have hs0 := HP he
    subst he
    obtain ⟨m, hm⟩ := Int.eq_ofNat_of_zero_le b1
    obtain ⟨k, hk⟩ := Int.eq_ofNat_of_zero_le b3
    simp only at hm hk b1 b2 b3 b4 hs0
    subst hm hk
    rw [if_neg (by simp)]
    by_cases hmx : max most 0 < (m : Int)
    · rw [if_pos hmx]
      exact wText_long h most m k hN.symm hmx
    · rw [if_neg hmx]
      by_cases hsh : ((n - p : Nat) : Int) - (k : Int) < (m : Int)
      · rw [if_pos hsh]
        exact wText_short h most m k hN.symm (by omega) (by omega) hmx (by omega)
      · rw [if_neg hsh]
        exact wText_ok h most m k hN.symm (by omega) (by omega) hmx (by omega)
  · rw [if_pos he]
    exact wText_err h most a s e hN.symm (by simpa using he)
end Go.Proofs.YthfokciijcmhbaaGreatDoor

namespace Go.Proofs.YthfokciijcmhbaaGreatDoor
open Go.RowKit
set_option linter.unusedVariables false

/-- N slices of bytes: the i-th of L i bytes, f i's. -/
def Img (w : World) (a0 : Option Addr) (N : Nat) (A : Nat → Option Addr) (L C : Nat → Nat) (f : Nat → Nat → Int) : Prop := ∀ i, i < N → ∃ b off, a0 = some ⟨b, off, none⟩ ∧ w.cell? ⟨b, off + i, none⟩ = some (.slice (A i) (L i) (C i)) ∧ From w (A i) (L i) (f i) ∧ (A i = none → C i = 0)
theorem Img.below {w w' : World} {a0 : Option Addr} {N : Nat} {A : Nat → Option Addr} {L C : Nat → Nat} {f : Nat → Nat → Int} (h : Img w a0 N A L C f) (hb : Below w.heap.size w w') : Img w' a0 N A L C f := fun i hi => by
  obtain ⟨b, off, e, hc, hf, hn⟩ := h i hi
  exact ⟨b, off, e, by rw [hb.cell (p := ⟨b, off + i, none⟩) (World.block_lt_of_cell? w _ hc)]; exact hc, hf.below hb (Nat.le_refl _), hn⟩
def gL (k : Nat) (A : Nat → Option Addr) (L C : Nat → Nat) : List Value := (List.range k).map fun j => .slice (A j) (L j) (C j)
theorem gL_snoc (k : Nat) (A : Nat → Option Addr) (L C : Nat → Nat) (a : Option Addr) (c : Nat) : gL k A L C ++ [.slice a (L k) c] = gL (k + 1) (fun j => if j = k then a else A j) L (fun j => if j = k then c else C j) := by
  unfold gL
  rw [List.range_succ, List.map_append]
  congr 1
  · apply List.map_congr_left
    intro j hj
    have := List.mem_range.1 hj
    have e : j ≠ k := by omega
    simp only [if_neg e]
  · simp
theorem gL_get (k : Nat) (A : Nat → Option Addr) (L C : Nat → Nat) (j : Nat) (hj : j < k) : (gL k A L C)[j]? = some (.slice (A j) (L j) (C j)) := by
  simp [gL, hj]
/-- k slices of bytes of one's own, each with bytes of its own. -/
structure MineG (w : World) (B : Nat) (v : Value) (k : Nat) (A : Nat → Option Addr) (L C : Nat → Nat) (f : Nat → Nat → Int) : Prop where
  own : w.ownsRow B 47 1 v k (gL k A L C)
  each : ∀ j, j < k → Own w B (.slice (A j) (L j) (C j)) (lst (f j) (L j))
theorem MineG.snoc {w w1 w2 : World} {B : Nat} {v v2 : Value} {k : Nat} {A : Nat → Option Addr} {L C : Nat → Nat} {f : Nat → Nat → Int} (h : MineG w B v k A L C f) (hb1 : Below w.heap.size w w1) (hB : B ≤ w.heap.size) {a1 : Option Addr} {c1 : Nat} (ho : Own w1 w.heap.size (.slice a1 (L k) c1) (lst (f k) (L k))) (o : Obj)
    (h2 : w2.ownsRow B 47 1 v2 (k + 1) (gL k A L C ++ [.slice a1 (L k) c1])) (hg2 : (w1.alloc o).grownBy w2 v.ownBlock) : MineG w2 B v2 (k + 1) (fun j => if j = k then a1 else A j) L (fun j => if j = k then c1 else C j) f := by
  have hp1 : Part (fun q => v.ownBlock = some q) w1 w2 := ((Part.refl _ w1).alloc o).grown hg2 (fun k hk _ => hk)
  have hp : Part (fun q => v.ownBlock = some q) w w2 := (Part.ofBelow hb1).trans hp1 (fun _ _ h => h)
  refine ⟨by rw [← gL_snoc]; exact h2, fun j hj => ?_⟩
  by_cases e : j = k
  · subst e
    rw [if_pos rfl, if_pos rfl]
    have h9 : Own w2 w.heap.size (.slice a1 (L j) c1) (lst (f j) (L j)) := hp1.row ho (fun q hq e => by
      have := (World.ownsRow.lt ho q hq).1
      have := (World.ownsRow.lt h.own q e).2
      omega)
    exact h9.mono hB
  · rw [if_neg e, if_neg e]
    exact hp.row (h.each j (by omega)) (fun q hq e2 => by
      obtain ⟨c3, k3⟩ := row_block h.own e2
      obtain ⟨c4, k4⟩ := row_block (h.each j (by omega)) hq
      exact two_types k4 k3 (by decide) rfl)
theorem MineG.img {w : World} {B N c : Nat} {a : Option Addr} {A : Nat → Option Addr} {L C : Nat → Nat} {f : Nat → Nat → Int} (h : MineG w B (.slice a N c) N A L C f) : Img w a N A L C f := fun i hi => by
  obtain ⟨g, c', e, _⟩ := row_some h.own (by omega)
  injection e with e1 e2 e3
  subst e1
  subst e3
  obtain ⟨a9, c9, e9, hf, hn⟩ := own_any (h.each i hi)
  injection e9 with x1 x2 x3
  subst x1
  subst x3
  exact ⟨g, 0, rfl, by rw [Nat.zero_add, World.ownsRow.cellAt h.own i (by omega)]; exact gL_get N A L C i hi, hf, hn⟩

end Go.Proofs.YthfokciijcmhbaaGreatDoor

namespace Go.Proofs.YthfokciijcmhbaaGreatDoor
open Go.RowKit
set_option linter.unusedVariables false

/-- Records at the beginning of the n bytes f, and where they end: the starts and lengths of their bytes. -/
inductive PrsTo (f : Nat → Int) (n : Nat) : List (Nat × Nat) → Nat → Prop
  | nil : PrsTo f n [] 0
  | snoc (L : List (Nat × Nat)) (p a m : Nat) : PrsTo f n L p → txt f n p 2000 = (strF (sh f a) m, 0, a + m) → 0 < m → m ≤ 2000 → p < a → a + m ≤ n → PrsTo f n (L ++ [(a, m)]) (a + m)
/-- No record begins there. -/
def Stops (f : Nat → Int) (n p : Nat) : Prop := (txt f n p 2000).2.1 ≠ 0 ∨ (txt f n p 2000).1 = ByteArray.empty
def Parsed (f : Nat → Int) (n : Nat) (L : List (Nat × Nat)) (e : Nat) : Prop := PrsTo f n L e ∧ Stops f n e
theorem PrsTo.le {f : Nat → Int} {n : Nat} {L : List (Nat × Nat)} {p : Nat} (h : PrsTo f n L p) : p ≤ n := by
  cases h with
  | nil => exact Nat.zero_le _
  | snoc L p a m _ _ _ _ _ h => exact h
theorem PrsTo.len {f : Nat → Int} {n : Nat} {L : List (Nat × Nat)} {p : Nat} (h : PrsTo f n L p) : 2 * L.length ≤ p := by
  induction h with
  | nil => simp
  | snoc L p a m _ _ h1 _ h2 _ ih => simp; omega
theorem strF_size (f : Nat → Int) (m : Nat) : (strF f m).size = m := by
  unfold strF
  rw [ByteArray.size, ← Array.length_toList]
  simp [strOfNums_data, lst_length]
theorem strF_none {f : Nat → Int} {m : Nat} (h : strF f m = ByteArray.empty) : m = 0 := by
  have := congrArg ByteArray.size h
  rw [strF_size] at this
  simpa using this
/-- As many records end at the same place. -/
theorem PrsTo.det {f : Nat → Int} {n : Nat} : ∀ {L L' : List (Nat × Nat)} {p p' : Nat}, PrsTo f n L p → PrsTo f n L' p' → L.length = L'.length → L = L' ∧ p = p' := by
  intro L L' p p' h
  induction h generalizing L' p' with
  | nil =>
    intro h' e
    cases h' with
    | nil => exact ⟨rfl, rfl⟩
    | snoc => simp at e
  | snoc L p a m h1 h2 h3 h4 h5 h6 ih =>
    intro h' e
    cases h' with
    | nil => simp at e
    | snoc L2 q b k k1 k2 k3 k4 k5 k6 =>
      simp at e
      obtain ⟨rfl, rfl⟩ := ih k1 e
      rw [h2] at k2
      injection k2 with e1 e2
      injection e2 with _ e3
      have e4 : m = k := by have := congrArg ByteArray.size e1; rwa [strF_size, strF_size] at this
      subst e4
      obtain rfl : a = b := by omega
      exact ⟨rfl, rfl⟩
/-- A part of the records. -/
theorem PrsTo.part {f : Nat → Int} {n : Nat} {L : List (Nat × Nat)} {p : Nat} (h : PrsTo f n L p) : ∀ k, k < L.length → ∃ q a m, PrsTo f n (L.take k) q ∧ txt f n q 2000 = (strF (sh f a) m, 0, a + m) ∧ 0 < m := by
  induction h with
  | nil => intro k hk; simp at hk
  | snoc L p a m h1 h2 h3 h4 h5 h6 ih =>
    intro k hk
    simp at hk
    by_cases e : k < L.length
    · rw [List.take_append_of_le_length (by omega)]
      exact ih k e
    · obtain rfl : k = L.length := by omega
      refine ⟨p, a, m, ?_, h2, h3⟩
      rw [List.take_append_of_le_length (Nat.le_refl _), List.take_length]
      exact h1
theorem Parsed.uniq {f : Nat → Int} {n : Nat} {L L' : List (Nat × Nat)} {p p' : Nat} (h : Parsed f n L p) (h' : Parsed f n L' p') : L = L' ∧ p = p' := by
  have key : ∀ {L L' : List (Nat × Nat)} {p p' : Nat}, Parsed f n L p → Parsed f n L' p' → ¬ L.length < L'.length := by
    intro L L' p p' h h' hlt
    obtain ⟨q, a, m, k1, k2, k3⟩ := h'.1.part L.length hlt
    obtain ⟨_, rfl⟩ := h.1.det k1 (by rw [List.length_take]; omega)
    rcases h.2 with e | e
    · rw [k2] at e; exact e rfl
    · rw [k2] at e
      have := strF_none e
      omega
  have a := key h h'
  have b := key h' h
  exact h.1.det h'.1 (by omega)
theorem txt_zero {f : Nat → Int} {n p : Nat} (hby : ∀ i, 0 ≤ f i ∧ f i ≤ 255) (hp : p ≤ n) (h0 : (txt f n p 2000).2.1 = 0) : ∃ a m, p < a ∧ a + m ≤ n ∧ m ≤ 2000 ∧ txt f n p 2000 = (strF (sh f a) m, 0, a + m) := by
  have hb := Wm.num_bd (sh f p) (n - p)
  have hp0 := Wm.num_pos (sh f p) (n - p)
  unfold txt at h0 ⊢
  generalize Wm.num (sh f p) (n - p) = N at *
  obtain ⟨a1, s1, e1⟩ := N
  dsimp only at *
  by_cases c1 : e1 ≠ 0
  · rw [if_pos c1] at h0
    exact absurd h0 c1
  · rw [if_neg c1] at h0 ⊢
    by_cases c2 : max 2000 0 < a1
    · rw [if_pos c2] at h0
      cases h0
    · rw [if_neg c2] at h0 ⊢
      by_cases c3 : ((n - p : Nat) : Int) - s1 < a1
      · rw [if_pos c3] at h0
        cases h0
      · rw [if_neg c3]
        have := hp0 (by omega)
        exact ⟨p + s1.toNat, a1.toNat, by omega, by omega, by omega, rfl⟩

set_option maxRecDepth 100000 in
set_option maxHeartbeats 1000000 in
theorem rOver (a0 : Option Addr) (n c : Nat) (f : Nat → Int) (w : World) (hn : n ≤ 140737488355328) (hf : From w a0 n f) (hby : ∀ i, 0 ≤ f i ∧ f i ≤ 255) :
    Calls Tryz.prog 101 #[.slice a0 n c] w fun e w' => ∃ R ao cap, e = .returned (.pointer (some ⟨R, 0, none⟩)) ∧ RdInv w' R ao cap f n 0 ∧ w.heap.size ≤ R ∧ (∀ g, ao = some ⟨g, 0, none⟩ → w.heap.size ≤ g) ∧ Below w.heap.size w w' := by
  have HC : Hid (Calls Tryz.prog 23 #[.slice a0 n c] w fun e w' => ∃ a c', e = .returned (.slice a n c') ∧ Hid (∀ o, o = Obj.cells #[.slice a n c', .int .i64 0, .bool true] 215 → RdInv (w'.alloc o) w'.heap.size a c' f n 0 ∧ w.heap.size ≤ w'.heap.size ∧ (∀ g, a = some ⟨g, 0, none⟩ → w.heap.size ≤ g) ∧ Below w.heap.size w (w'.alloc o))) := by
    refine (clone a0 n c f w hn hf).mono ?_
    rintro e w1 ⟨v, rfl, ho, hb⟩
    have hs := hb.size
    have fin : ∀ a c', v = .slice a n c' → n ≤ c' → c' ≤ 9223372036854775807 → (∀ g, a = some ⟨g, 0, none⟩ → w.heap.size ≤ g) → ((a = none ∧ n = 0 ∧ c' = 0) ∨ ∃ g, a = some ⟨g, 0, none⟩ ∧ ∀ i, i < n → w1.cell? ⟨g, i, none⟩ = some (.int .u8 (f i))) → ∃ a c', Ending.returned v = .returned (.slice a n c') ∧ Hid (∀ o, o = Obj.cells #[.slice a n c', .int .i64 0, .bool true] 215 → RdInv (w1.alloc o) w1.heap.size a c' f n 0 ∧ w.heap.size ≤ w1.heap.size ∧ (∀ g, a = some ⟨g, 0, none⟩ → w.heap.size ≤ g) ∧ Below w.heap.size w (w1.alloc o)) := fun a c' e k1 k2 k3 k4 => by
      subst e
      refine ⟨a, c', rfl, fun o ho' => ?_⟩
      subst ho'
      have hh := heap_alloc_at w1 (.cells #[.slice a n c', .int .i64 0, .bool true] 215) w1.heap.size rfl
      refine ⟨⟨by rw [cells_at hh 0]; rfl, by rw [cells_at hh 1]; rfl, by rw [cells_at hh 2]; rfl, cells_free hh 1, Nat.zero_le _, k1, k2, hn, hby, k4.imp id ?_⟩, hs, k3, hb.alloc hs _⟩
      rintro ⟨g, e, hg⟩
      exact ⟨g, e, fun i hi => by rw [World.cell?_alloc_past _ _ _ (World.block_lt_of_cell? w1 _ (hg i hi))]; exact hg i hi⟩
    have ho' := ho
    unfold Own at ho'
    rcases ho'.2 with ⟨e, e0⟩ | ⟨g, cap, cur, e, h2, h3, h4, h5, _⟩
    · rw [lst_length] at e0
      subst e0
      exact fin none 0 e (Nat.le_refl _) (by decide) (fun g h => by cases h) (.inl ⟨rfl, rfl, rfl⟩)
    · rw [lst_length] at e h4
      subst e
      refine fin _ cap rfl h4 (by unfold maxLen at h5; omega) (fun g' h => by cases h; exact h2) (.inr ⟨g, rfl, fun i hi => ho.cellF i hi⟩)
  clear hf
  go_enter Tryz.func101, Tryz.ntmps101
  go_wp2_with fail
  refine HC.out.mono ?_
  rintro e w1 ⟨a, c', rfl, H⟩
  go_wp2
  go_ret
  obtain ⟨q1, q2, q3, q4⟩ := H.out _ rfl
  exact ⟨_, a, c', rfl, q1, q2, q3, q4⟩

/-- k slices of bytes, in a row of one's own; each has bytes in a block of its own. -/
structure RecG (w : World) (B : Nat) (v : Value) (k : Nat) (A : Nat → Option Addr) (L C : Nat → Nat) (f : Nat → Nat → Int) : Prop where
  own : w.ownsRow B 47 1 v k (gL k A L C)
  each : ∀ j, j < k → ∃ g cur fz, A j = some ⟨g, 0, none⟩ ∧ B ≤ g ∧ w.heap[g]? = some (.cells cur 5 fz) ∧ ∀ i, i < L j → cur[i]? = some (.int .u8 (f j i))
theorem RecG.nil (w : World) (B : Nat) (A : Nat → Option Addr) (L C : Nat → Nat) (f : Nat → Nat → Int) : RecG w B (.slice none 0 0) 0 A L C f := ⟨World.ownsRow_nil _ _ _ _, fun j hj => by omega⟩
theorem RecG.ext {w : World} {B : Nat} {v : Value} {k : Nat} {A : Nat → Option Addr} {L L' C : Nat → Nat} {f f' : Nat → Nat → Int} (h : RecG w B v k A L C f) (e1 : ∀ j, j < k → L j = L' j) (e2 : ∀ j, j < k → f j = f' j) : RecG w B v k A L' C f' := by
  refine ⟨?_, fun j hj => ?_⟩
  · have e : gL k A L C = gL k A L' C := by
      unfold gL
      apply List.map_congr_left
      intro j hj
      rw [e1 j (List.mem_range.1 hj)]
    rw [← e]
    exact h.own
  · obtain ⟨g, cur, fz, h1, h2, h3, h4⟩ := h.each j hj
    exact ⟨g, cur, fz, h1, h2, h3, fun i hi => by rw [← e2 j hj]; exact h4 i (by rw [e1 j hj]; exact hi)⟩
theorem RecG.part {w w' : World} {G : Nat → Prop} {B : Nat} {v : Value} {k : Nat} {A : Nat → Option Addr} {L C : Nat → Nat} {f : Nat → Nat → Int} (h : RecG w B v k A L C f) (hp : Part G w w') (hG : ∀ q, G q → q < B) : RecG w' B v k A L C f := by
  refine ⟨hp.row h.own (fun q hq e => by have := (World.ownsRow.lt h.own q hq).1; have := hG q e; omega), fun j hj => ?_⟩
  obtain ⟨g, cur, fz, h1, h2, h3, h4⟩ := h.each j hj
  exact ⟨g, cur, fz, h1, h2, (hp.block g (Array.getElem?_eq_some_iff.1 h3).1 (fun e => by have := hG g e; omega)).trans h3, h4⟩
theorem RecG.below {w w' : World} {B : Nat} {v : Value} {k : Nat} {A : Nat → Option Addr} {L C : Nat → Nat} {f : Nat → Nat → Int} (h : RecG w B v k A L C f) (hb : Below w.heap.size w w') : RecG w' B v k A L C f := h.part (Part.ofBelow (F := fun _ => False) hb) (fun _ e => e.elim)
theorem RecG.mono {w : World} {B B' : Nat} {v : Value} {k : Nat} {A : Nat → Option Addr} {L C : Nat → Nat} {f : Nat → Nat → Int} (h : RecG w B v k A L C f) (hB : B' ≤ B) : RecG w B' v k A L C f := by
  refine ⟨⟨h.own.1, ?_⟩, fun j hj => ?_⟩
  · rcases h.own.2 with h1 | ⟨g, cap, cur, h1, h2, h3⟩
    · exact .inl h1
    · exact .inr ⟨g, cap, cur, h1, by omega, h3⟩
  · obtain ⟨g, cur, fz, h1, h2, h3⟩ := h.each j hj
    exact ⟨g, cur, fz, h1, by omega, h3⟩
theorem RecG.snoc {w w1 w2 : World} {B : Nat} {v v2 : Value} {k : Nat} {A : Nat → Option Addr} {L C : Nat → Nat} {f : Nat → Nat → Int} (h : RecG w B v k A L C f) (hb1 : Below w.heap.size w w1) (hB : B ≤ w.heap.size) {g1 c1 : Nat} {cur : Array Value} {fz : Nat × Nat} (hg1 : w.heap.size ≤ g1) (hh : w1.heap[g1]? = some (.cells cur 5 fz)) (hc : ∀ i, i < L k → cur[i]? = some (.int .u8 (f k i))) (o : Obj)
    (h2 : w2.ownsRow B 47 1 v2 (k + 1) (gL k A L C ++ [.slice (some ⟨g1, 0, none⟩) (L k) c1])) (hg2 : (w1.alloc o).grownBy w2 v.ownBlock) : RecG w2 B v2 (k + 1) (fun j => if j = k then some ⟨g1, 0, none⟩ else A j) L (fun j => if j = k then c1 else C j) f := by
  have hp1 : Part (fun q => v.ownBlock = some q) w1 w2 := ((Part.refl _ w1).alloc o).grown hg2 (fun k hk _ => hk)
  have hp : Part (fun q => v.ownBlock = some q) w w2 := (Part.ofBelow hb1).trans hp1 (fun _ _ h => h)
  refine ⟨by rw [← gL_snoc]; exact h2, fun j hj => ?_⟩
  by_cases e : j = k
  · subst e
    refine ⟨g1, cur, fz, by rw [if_pos rfl], by omega, ?_, hc⟩
    rw [hp1.block g1 (Array.getElem?_eq_some_iff.1 hh).1 (fun e => by have := (World.ownsRow.lt h.own g1 e).2; omega)]
    exact hh
  · obtain ⟨g, cur', fz', k1, k2, k3, k4⟩ := h.each j (by omega)
    refine ⟨g, cur', fz', by rw [if_neg e]; exact k1, k2, ?_, k4⟩
    rw [hp.block g (Array.getElem?_eq_some_iff.1 k3).1 (fun e2 => by
      obtain ⟨c3, k5⟩ := row_block h.own e2
      rw [k3] at k5
      injection k5 with k5
      injection k5 with _ k5 _
      exact absurd k5 (by decide))]
    exact k3
theorem RecG.img {w : World} {B N c : Nat} {a : Option Addr} {A : Nat → Option Addr} {L C : Nat → Nat} {f : Nat → Nat → Int} (h : RecG w B (.slice a N c) N A L C f) : Img w a N A L C f := fun i hi => by
  obtain ⟨g, c', e, _⟩ := row_some h.own (by omega)
  injection e with e1 e2 e3
  subst e1
  subst e3
  obtain ⟨g', cur, fz, h1, h2, h3, h4⟩ := h.each i hi
  refine ⟨g, 0, rfl, by rw [Nat.zero_add, World.ownsRow.cellAt h.own i (by omega)]; exact gL_get N A L C i hi, ?_, fun e => by rw [h1] at e; cases e⟩
  rw [h1]
  refine .inr ⟨_, rfl, fun j hj => ?_⟩
  rw [Addr.add_lit, Nat.zero_add]
  simp only [World.cell?, h3]
  exact h4 j hj
/-- A text turned into bytes. -/
theorem conv_str (f : Nat → Int) (m : Nat) (hby : ∀ i, 0 ≤ f i ∧ f i ≤ 255) (hm : m ≤ 1000000) (w : World) : ∃ G W4 cur fz, (convert 9 47 (.string (strF f m))).run Tryz.prog w = .ok (.slice (some ⟨w.heap.size, 0, none⟩) m G) W4 ∧ m ≤ G ∧ G ≤ 9223372036854775807 ∧ W4.heap[w.heap.size]? = some (.cells cur 5 fz) ∧ (∀ i, i < m → cur[i]? = some (.int .u8 (f i))) ∧ Below w.heap.size w W4 ∧ W4.heap.size = w.heap.size + 1 := by
  have hsz := strF_size f m
  refine ⟨grownCap w m 0 5, Lib.bytesWorld w 5 (strF f m), _, _, ?_, grownCap_ge w _ _ _, ?_, Lib.bytesWorld_at_new w 5 (strF f m), ?_, ⟨rfl, rfl, rfl, by rw [Lib.bytesWorld_size]; omega, fun k hk => Lib.bytesWorld_at_old w 5 (strF f m) k hk⟩, Lib.bytesWorld_size w 5 (strF f m)⟩
  · have := Lib.run_convert_string_bytes w 9 47 5 (strF f m) Tryz.underlying9 Tryz.underlying47 Tryz.underlying5
    rw [hsz] at this
    exact this
  · have := grownCap_le_maxLen w m 0 5 (by unfold maxLen; omega)
    unfold maxLen at this
    exact this
  · intro i hi
    unfold Lib.bytesCells
    have hd : (strF f m).data.size = m := hsz
    rw [Array.getElem?_append_left (by simp [hd]; omega), Array.getElem?_map]
    have e1 : (strF f m).data[i]? = some (UInt8.ofNat (f i).toNat) := by
      rw [← Array.getElem?_toList]
      unfold strF
      rw [strOfNums_data, List.getElem?_map, lst_get f m i hi]
      rfl
    rw [e1]
    have := hby i
    simp
    omega

/-- The lengths and the bytes of records. -/
def lenF (L : List (Nat × Nat)) (j : Nat) : Nat := (L.getD j (0, 0)).2
def bytF (f : Nat → Int) (L : List (Nat × Nat)) (j : Nat) : Nat → Int := sh f (L.getD j (0, 0)).1
theorem getD_snoc (L : List (Nat × Nat)) (x : Nat × Nat) (j : Nat) : (L ++ [x]).getD j (0, 0) = if j = L.length then x else L.getD j (0, 0) := by
  by_cases e : j < L.length
  · rw [if_neg (by omega)]
    simp [List.getD, List.getElem?_append_left e]
  · by_cases e2 : j = L.length
    · subst e2
      simp [List.getD]
    · rw [if_neg e2]
      simp only [List.getD]
      rw [List.getElem?_eq_none (by simp; omega), List.getElem?_eq_none (by omega)]
theorem RdInv.blocks {w w' : World} {R B : Nat} {ao : Option Addr} {cap : Nat} {f : Nat → Int} {n p : Nat} (h : RdInv w R ao cap f n p) (hb : Below B w w') (hR : R < B) (hg : ∀ g, ao = some ⟨g, 0, none⟩ → 0 < n → g < B) : RdInv w' R ao cap f n p :=
  h.kept (hb.block R hR) (fun g e e2 => hb.block g (hg g e e2))
set_option maxRecDepth 100000 in
set_option maxHeartbeats 2000000 in
theorem recsL (a0 : Option Addr) (n c : Nat) (f : Nat → Int) (w : World) (hn : n ≤ 1000000) (hf : From w a0 n f) (hby : ∀ i, 0 ≤ f i ∧ f i ≤ 255) :
    Calls Tryz.prog 67 #[.slice a0 n c] w fun e w' => ∃ (L : List (Nat × Nat)) (size : Nat) (v : Value) (A : Nat → Option Addr) (C : Nat → Nat), e = .returned (.tuple #[v, .int .i64 (size : Int)]) ∧ RecG w' w.heap.size v L.length A (lenF L) C (bytF f L) ∧ Parsed f n L size ∧ Below w.heap.size w w' := by
  obtain ⟨i0, hi0, hz0, hz1, hz2⟩ := info_parts infoB
  have HO := rOver a0 n c f w (by omega) hf hby
  clear hf
  go_enter Tryz.func67, Tryz.ntmps67
  go_wp2_with fail
  refine HO.mono ?_
  rintro e w1 ⟨R, ao, cap, rfl, hR, hR1, hao, b1⟩
  have hRl := hR.lt
  have hs1 := b1.size
  have hgl : ∀ g, ao = some ⟨g, 0, none⟩ → 0 < n → g < w1.heap.size := fun g e h0 => by
    rcases hR.lies with ⟨h1, h2, _⟩ | ⟨g', h1, h2⟩
    · omega
    · rw [h1] at e
      cases e
      exact World.block_lt_of_cell? w1 _ (h2 0 h0)
  clear HO
  go_wp2
  go_loopw [4, 5] (fun s4 s5 wr => ∃ (L : List (Nat × Nat)) (p : Nat) (A : Nat → Option Addr) (C : Nat → Nat), s5 = .int .i64 (p : Int) ∧ PrsTo f n L p ∧ RdInv wr R ao cap f n p ∧ RecG wr w1.heap.size s4 L.length A (lenF L) C (bytF f L) ∧ Part (fun q => q = R) w1 wr) (fun _ i _ => n - (intOf i).toNat)
  case atStart => exact ⟨[], 0, _, _, rfl, .nil, hR, RecG.nil _ _ (fun _ => none) _ (fun _ => 0) _, Part.refl _ _⟩
  case round =>
    obtain ⟨L, p, A, C, rfl, hP, hRr, hG, hb⟩ := hrel
    have hpn := hRr.hp
    have hln := hP.len
    have hszr := hb.size
    have HP : Hid (PrsTo f n L p) := hP
    have HG : Hid (RecG wr w1.heap.size u4 L.length A (lenF L) C (bytF f L)) := hG
    have CT := wText hRr 2000
    have HBr : Hid (∀ w2, Part (fun q => q = R) w1 w2 → Below w.heap.size w w2) := fun w2 h => b1.trans (h.below (fun k hk => by omega) (by omega))
    have HG2 : Hid (∀ w2, Only R wr w2 → RecG w2 w1.heap.size u4 L.length A (lenF L) C (bytF f L)) := fun w2 h => hG.part h.part (fun q e => by omega)
    have HP2 : Hid (∀ w2, Only R wr w2 → Part (fun q => q = R) w1 w2) := fun w2 h => hb.trans h.part (fun _ _ e => e)
    by_cases h0 : (txt f n p 2000).2.1 = 0
    · obtain ⟨a, m, ha, hm, hm2, ht⟩ := txt_zero hby hpn h0
      rw [ht] at CT
      by_cases hm0 : m = 0
      · have HE : Hid (Parsed f n L p) := ⟨hP, .inr (by rw [ht, hm0]; rfl)⟩
        have hS : (strF (sh f a) m).toList.isEmpty = true := by rw [hm0, Lib.toList_data]; rfl
        generalize strF (sh f a) m = S at *
        clear hP hG hRr h0 ht
        go_wp2_with fail
        refine CT.mono ?_
        rintro e w2 ⟨rfl, _, ho⟩
        have hBf := HBr.out w2 (HP2.out w2 ho)
        have hGf := (HG2.out w2 ho).mono hs1
        have HGf : Hid (RecG w2 w.heap.size u4 L.length A (lenF L) C (bytF f L)) := hGf
        clear CT hGf ho
        go_wp2
        go_ret2
        exact ⟨L, p, u4, A, C, rfl, HGf.out, HE.out, hBf⟩
      · have HPn : Hid (PrsTo f n (L ++ [(a, m)]) (a + m)) := .snoc L p a m hP ht (by omega) hm2 ha hm
        have hS : (strF (sh f a) m).toList.isEmpty = false := by
          rw [Lib.toList_data, List.isEmpty_eq_false_iff]
          intro e
          have h9 : (strF (sh f a) m).data.size = m := strF_size (sh f a) m
          have := congrArg List.length e
          rw [Array.length_toList, List.length_nil] at this
          omega
        have HCv : Hid (∀ w2, ∃ G W4 cur fz, (convert 9 47 (.string (strF (sh f a) m))).run Tryz.prog w2 = .ok (.slice (some ⟨w2.heap.size, 0, none⟩) m G) W4 ∧ m ≤ G ∧ G ≤ 9223372036854775807 ∧ W4.heap[w2.heap.size]? = some (.cells cur 5 fz) ∧ (∀ i, i < m → cur[i]? = some (.int .u8 (sh f a i))) ∧ Below w2.heap.size w2 W4 ∧ W4.heap.size = w2.heap.size + 1) := fun w2 => conv_str (sh f a) m (sh_by hby a) (by omega) w2
        generalize strF (sh f a) m = S at *
        clear hP hG hRr h0 ht
        go_wp2_with fail
        refine CT.mono ?_
        rintro e w2 ⟨rfl, hR2, ho⟩
        have hG2 := HG2.out w2 ho
        have hP2 := HP2.out w2 ho
        have hs2 := hP2.size
        obtain ⟨G, W4, cur, fz, hcv, hG1, hG9, hh, hcu, b4, hsz4⟩ := HCv.out w2
        have HRw : Hid ((W4.alloc (.cells #[.slice (some ⟨w2.heap.size, 0, none⟩) m G] 47)).ownsRow w1.heap.size 47 1 u4 L.length (gL L.length A (lenF L) C)) := World.ownsRow.alloc (Part.row (F := fun _ => False) (Part.ofBelow b4) hG2.own (fun _ _ h => h)) _
        have HCe : Hid ((W4.alloc (.cells #[.slice (some ⟨w2.heap.size, 0, none⟩) m G] 47)).cell? ⟨W4.heap.size, 0, none⟩ = some (.slice (some ⟨w2.heap.size, 0, none⟩) m G)) := (by rw [World.cell?_alloc_at _ _ _ _ rfl]; rfl : (W4.alloc (.cells #[.slice (some ⟨w2.heap.size, 0, none⟩) m G] 47)).cell? ⟨W4.heap.size, 0, none⟩ = some (.slice (some ⟨w2.heap.size, 0, none⟩) m G))
        have HSz : Hid (w1.heap.size ≤ (W4.alloc (.cells #[.slice (some ⟨w2.heap.size, 0, none⟩) m G] 47)).heap.size) := (by simp; omega : w1.heap.size ≤ (W4.alloc (.cells #[.slice (some ⟨w2.heap.size, 0, none⟩) m G] 47)).heap.size)
        have HNx : Hid (∀ v2 w5, w5.ownsRow w1.heap.size 47 1 v2 (L.length + 1) (gL L.length A (lenF L) C ++ [.slice (some ⟨w2.heap.size, 0, none⟩) m G]) → (W4.alloc (.cells #[.slice (some ⟨w2.heap.size, 0, none⟩) m G] 47)).grownBy w5 u4.ownBlock → RecG w5 w1.heap.size v2 (L ++ [(a, m)]).length (fun j => if j = L.length then some ⟨w2.heap.size, 0, none⟩ else A j) (lenF (L ++ [(a, m)])) (fun j => if j = L.length then G else C j) (bytF f (L ++ [(a, m)])) ∧ RdInv w5 R ao cap f n (a + m) ∧ Part (fun q => q = R) w1 w5) := fun v2 w5 h5 hg5 => by
          have el : lenF (L ++ [(a, m)]) L.length = m := by unfold lenF; rw [getD_snoc, if_pos rfl]
          have eb : bytF f (L ++ [(a, m)]) L.length = sh f a := by unfold bytF; rw [getD_snoc, if_pos rfl]
          have hX : RecG w2 w1.heap.size u4 L.length A (lenF (L ++ [(a, m)])) C (bytF f (L ++ [(a, m)])) := hG2.ext (fun j hj => by unfold lenF; rw [getD_snoc, if_neg (by omega)]) (fun j hj => by unfold bytF; rw [getD_snoc, if_neg (by omega)])
          have eg : gL L.length A (lenF L) C = gL L.length A (lenF (L ++ [(a, m)])) C := by
            unfold gL
            apply List.map_congr_left
            intro j hj
            have := List.mem_range.1 hj
            unfold lenF
            rw [getD_snoc, if_neg (by omega)]
          have hB5 : Below w1.heap.size w2 w5 := ((b4.mono hs2).alloc (by omega) _).grown hg5 (by simp; omega) (fun q hq => (World.ownsRow.lt hG2.own q hq).1)
          refine ⟨?_, hR2.blocks hB5 hRl hgl, ⟨hB5.os.trans hP2.os, hB5.tape.trans hP2.tape, hB5.output.trans hP2.output, Nat.le_trans hs2 hB5.size, fun k hk hn => (hB5.block k hk).trans (hP2.block k hk hn)⟩⟩
          rw [List.length_append]
          exact hX.snoc b4 hs2 (Nat.le_refl _) hh (by rw [el, eb]; exact hcu) _ (by rw [← eg, el]; exact h5) hg5
        have hLn : L.length ≤ 1000000 := by omega
        clear hG2 hP2 hR2 hh hcu b4 CT HCv HP HG HBr HG2 HP2 ho hsz4
        go_wp2_with (at_builtin; refine wpList_append_own _ rfl _ _ 30 rfl w1.heap.size 47 i0 (.slice none 0 0) 1 24 Tryz.underlying30 hi0 hz0 hz1 hz2 rfl (by decide) u4 L.length (gL L.length A (lenF L) C) rfl HRw.out ⟨W4.heap.size, 0, none⟩ 1 1 [.slice (some ⟨w2.heap.size, 0, none⟩) m G] rfl rfl ?q1 ?q2 ?q3 ?q4 HSz.out ?_)
        case q1 =>
          intro j u hj
          have hj0 : j = 0 := by
            have := (List.getElem?_eq_some_iff.1 hj).1
            simp at this
            omega
          subst hj0
          rw [Addr.add_lit, Nat.zero_add, HCe.out]
          simpa using hj
        case q2 =>
          intro u hu
          simp at hu
          rw [hu]
          rfl
        case q3 => unfold maxLen; omega
        case q4 => omega
        intro v2 w5 ho5 hg5 _
        obtain ⟨z1, z2, z3⟩ := HNx.out v2 w5 ho5 hg5
        have HZ1 : Hid (∀ q, RecG (w5.drewN q) w1.heap.size v2 (L ++ [(a, m)]).length (fun j => if j = L.length then some ⟨w2.heap.size, 0, none⟩ else A j) (lenF (L ++ [(a, m)])) (fun j => if j = L.length then G else C j) (bytF f (L ++ [(a, m)]))) := fun q => z1.below (blw_drewN q (Below.refl _ _))
        have HZ2 : Hid (∀ q, RdInv (w5.drewN q) R ao cap f n (a + m)) := fun q => z2.drewN q
        have CL := wLeft z2
        clear z1 z2 ho5 hg5 HNx HRw HCe HSz hcv
        go_wp2_with fail
        refine CL.mono ?_
        rintro e w6 ⟨rfl, q, rfl⟩
        have HZ3 := z3.drewN q
        clear CL z3
        go_wp2
        go_roundw
        case rel => exact ⟨L ++ [(a, m)], a + m, _, _, congrArg (Value.int .i64) (by omega), HPn.out, HZ2.out q, HZ1.out q, HZ3⟩
        case measure => simp [intOf]; omega
    · have HE : Hid (Parsed f n L p) := ⟨hP, .inl h0⟩
      have hE0 : ((txt f n p 2000).2.1 == 0) = false := by rw [beq_eq_false_iff_ne]; exact h0
      generalize (txt f n p 2000).2.1 = E at *
      generalize (txt f n p 2000).1 = S at *
      clear hP hG hRr
      go_wp2_with fail
      refine CT.mono ?_
      rintro e w2 ⟨rfl, _, ho⟩
      have hBf := HBr.out w2 (HP2.out w2 ho)
      have HGf : Hid (RecG w2 w.heap.size u4 L.length A (lenF L) C (bytF f L)) := (HG2.out w2 ho).mono hs1
      clear CT ho
      go_wp2
      go_ret2
      exact ⟨L, p, u4, A, C, rfl, HGf.out, HE.out, hBf⟩
end Go.Proofs.YthfokciijcmhbaaGreatDoor
