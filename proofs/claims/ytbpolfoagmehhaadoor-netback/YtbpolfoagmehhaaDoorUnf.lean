/-
  Contracts of wire.Unframe: what a frame's bytes come to, or the error. Condition: the slice has at most 2^47 bytes; the table is laid.
-/
import Derived.Test.YtbpolfoagmehhaaDoorFrame
import Derived.Test.YtbpolfoagmehhaaDoorNum
import Derived.Deep.QuietTactic
import Derived.BigQuiet

namespace Go.Proofs.YtbpolfoagmehhaaDoor
open Go.RowKit
set_option linter.unusedVariables false

theorem readSum_at (b off c : Nat) (f : Nat → Int) (w : World) (hby : ∀ i, 0 ≤ f i ∧ f i ≤ 255) (hc : Hid (∀ i, i < 4 → w.cell? ⟨b, off + i, none⟩ = some (.int .u8 (f i)))) :
    Calls Tryd.prog 62 #[.slice (some ⟨b, off, none⟩) 4 c] w fun e w' => e = .returned (.int .i64 ((rd f 4 : Nat) : Int)) ∧ w' = w := by
  have h := rd_lt hby 4
  have hw : wrap64 ((rd f 4 : Nat) : Int) = ((rd f 4 : Nat) : Int) := Wm.w64 _ (by omega)
  have := get_at b off 4 c f w (by omega) hby hc
  rw [hw] at this
  exact this

theorem number_any (ao : Option Addr) (n c : Nat) (f : Nat → Int) (w : World) (hbig : n ≤ 140737488355328) (hby : ∀ i, 0 ≤ f i ∧ f i ≤ 255) (hl : Lay w ao n f) :
    Calls Tryd.prog 61 #[.slice ao n c] w fun e w' => e = .returned (.tuple #[.int .i64 (Wm.num f n).1, .int .i64 (Wm.num f n).2.1, .int .i64 (Wm.num f n).2.2]) ∧ w' = w := by
  rcases hl with rfl | ⟨b, off, rfl, hc⟩
  · exact number_none ao c f w
  · exact number_at b off n c f w hbig hby hc
theorem uint_any (ao : Option Addr) (n c : Nat) (f : Nat → Int) (w : World) (hbig : n ≤ 140737488355328) (hby : ∀ i, 0 ≤ f i ∧ f i ≤ 255) (hl : Lay w ao n f) :
    Calls Tryd.prog 43 #[.slice ao n c] w fun e w' => e = .returned (.tuple #[.int .i64 (Wm.num f n).1, .int .i64 (Wm.num f n).2.1, .int .i64 (Wm.num f n).2.2]) ∧ w' = w := by
  rcases hl with rfl | ⟨b, off, rfl, hc⟩
  · exact uint_none ao c f w
  · exact uint_at b off n c f w hbig hby hc

set_option maxHeartbeats 400000 in
theorem wUnf_err (ao : Option Addr) (n c : Nat) (f : Nat → Int) (w : World) (hbig : n ≤ 140737488355328) (hby : ∀ i, 0 ≤ f i ∧ f i ≤ 255) (hl : Lay w ao n f) (a s e : Int) (hN : Hid (Wm.num f n = (a, s, e))) (he : (e != 0) = true) :
    Calls Tryd.prog 40 #[.slice ao n c] w fun e' w' => e' = .returned (.tuple #[.slice none 0 0, .slice none 0 0, .int .i64 e]) ∧ w' = w := by
  go_enter Tryd.func40, Tryd.ntmps40
  go_wp2_with fail
  refine (number_any _ _ _ f w hbig hby hl).mono ?_
  rintro e' w' ⟨rfl, hw⟩
  obtain rfl : w = w' := hw.symm
  rw [hN.out]
  go_wp2
  go_ret3
  exact ⟨rfl, rfl⟩
set_option maxHeartbeats 400000 in
theorem wUnf_long (ao : Option Addr) (n c : Nat) (f : Nat → Int) (w : World) (hbig : n ≤ 140737488355328) (hby : ∀ i, 0 ≤ f i ∧ f i ≤ 255) (hl : Lay w ao n f) (a s : Int) (hN : Hid (Wm.num f n = (a, s, 0))) (ha : 65536 < a) :
    Calls Tryd.prog 40 #[.slice ao n c] w fun e' w' => e' = .returned (.tuple #[.slice none 0 0, .slice none 0 0, .int .i64 12]) ∧ w' = w := by
  go_enter Tryd.func40, Tryd.ntmps40
  go_wp2_with fail
  refine (number_any _ _ _ f w hbig hby hl).mono ?_
  rintro e' w' ⟨rfl, hw⟩
  obtain rfl : w = w' := hw.symm
  rw [hN.out]
  go_wp2
  go_ret3
  exact ⟨rfl, rfl⟩
set_option maxHeartbeats 400000 in
theorem wUnf_short (b off n c m k : Nat) (f : Nat → Int) (w : World) (hbig : n ≤ 140737488355328) (hby : ∀ i, 0 ≤ f i ∧ f i ≤ 255) (hl : Lay w (some ⟨b, off, none⟩) n f) (hnc : n ≤ c) (hc : c ≤ 9223372036854775807) (hN : Hid (Wm.num f n = ((m : Int), (k : Int), 0)))
    (hk : k ≤ n) (hm : m ≤ 65536) (hs : n - k < m + 4) :
    Calls Tryd.prog 40 #[.slice (some ⟨b, off, none⟩) n c] w fun e' w' => e' = .returned (.tuple #[.slice none 0 0, .slice none 0 0, .int .i64 10]) ∧ w' = w := by
  have hm' : ¬ (65536 : Int) < (m : Int) := by omega
  have hs' : ((n - k : Nat) : Int) < (m : Int) + 4 := by omega
  by_cases hck : c = k
  · obtain rfl : n = k := by omega
    subst hck
    go_enter Tryd.func40, Tryd.ntmps40
    go_wp2_with fail
    refine (number_any _ _ _ f w hbig hby hl).mono ?_
    rintro e' w' ⟨rfl, hw⟩
    obtain rfl : w = w' := hw.symm
    rw [hN.out]
    go_wp2
    go_ret3
    exact ⟨rfl, rfl⟩
  · have hck' : k < c := by omega
    clear hck
    go_enter Tryd.func40, Tryd.ntmps40
    go_wp2_with fail
    refine (number_any _ _ _ f w hbig hby hl).mono ?_
    rintro e' w' ⟨rfl, hw⟩
    obtain rfl : w = w' := hw.symm
    rw [hN.out]
    go_wp2
    go_ret3
    exact ⟨rfl, rfl⟩

set_option maxHeartbeats 1000000 in
theorem wUnf_bad (b off n c m k : Nat) (f : Nat → Int) (w : World) (hbig : n ≤ 140737488355328) (hby : ∀ i, 0 ≤ f i ∧ f i ≤ 255) (hcell : Hid (∀ i, i < n → w.cell? ⟨b, off + i, none⟩ = some (.int .u8 (f i)))) (hnc : n ≤ c) (hc : c ≤ 9223372036854775807) (hN : Hid (Wm.num f n = ((m : Int), (k : Int), 0)))
    (hk : k ≤ n) (hm : m ≤ 65536) (hs : m + 4 ≤ n - k) (ht : Tab w) (hbad : rd (sh f (k + m)) 4 ≠ Crc.sum (lstN (sh f k) m)) :
    Calls Tryd.prog 40 #[.slice (some ⟨b, off, none⟩) n c] w fun e' w' => e' = .returned (.tuple #[.slice none 0 0, .slice none 0 0, .int .i64 13]) ∧ ∃ q, w' = w.drewN q := by
  have hm' : ¬ (65536 : Int) < (m : Int) := by omega
  have hs' : ¬ ((n - k : Nat) : Int) < (m : Int) + 4 := by omega
  have hS := Crc.sum_lt (lstN (sh f k) m) (lstN_by (sh_by hby k) m)
  have hbad' : (((rd (sh f (k + m)) 4 : Nat) : Int) != wrap64 ((Crc.sum (lstN (sh f k) m) : Nat) : Int)) = true := by rw [Wm.w64 _ (by omega)]; simp; omega
  clear hS
  have hck' : k < c := by omega
  have hl : Lay w (some ⟨b, off, none⟩) n f := .inr ⟨b, off, rfl, hcell⟩
  go_enter Tryd.func40, Tryd.ntmps40
  go_wp2_with fail
  refine (number_any _ _ _ f w hbig hby hl).mono ?_
  rintro e' w' ⟨rfl, hw⟩
  obtain rfl : w = w' := hw.symm
  rw [hN.out]
  have HC : Hid (∀ i, i < n - k → w.cell? ⟨b, off + (k + i), none⟩ = some (.int .u8 (f (k + i)))) := fun i hi => hcell.out (k + i) (by omega)
  obtain ⟨r, hr⟩ : ∃ r, n - k = r := ⟨_, rfl⟩
  obtain ⟨C, hC⟩ : ∃ C, c - k = C := ⟨_, rfl⟩
  have r1 : m + 4 ≤ r := by omega
  have r2 : r ≤ C := by omega
  have r3 : C ≤ 9223372036854775807 := by omega
  have r4 : r ≤ 140737488355328 := by omega
  have q1 : (m : Int) ≤ (C : Int) := by omega
  have q2 : (m : Int) + 4 ≤ (C : Int) := by omega
  have q3 : (m : Int) + 4 ≤ (r : Int) := by omega
  go_wp2_with fail
  have HR : Hid (n - k = r) := hr
  clear hcell hl hN hr hC
  by_cases hCe : C = m + 4
  · obtain rfl : r = m + 4 := by omega
    subst hCe
    go_quiet (fail)
    go_wp2_with fail
    refine (readSum_at b (off + k + m) _ (sh f (k + m)) _ (sh_by hby _) ?_).mono ?_
    · intro i hi
      rw [show off + k + m + i = off + (k + (m + i)) by omega]
      exact (HC.out (m + i) (by rw [HR.out]; omega)).trans (by simp [sh, Nat.add_assoc])
    rintro e' w2 ⟨rfl, hw2⟩
    subst hw2
    go_wp2_with fail
    refine (wSum (some ⟨b, off + k, none⟩) m _ (sh f k) (by omega) (sh_by hby _) ?_ ?_).mono ?_
    · refine .inr ⟨b, off + k, rfl, fun i hi => ?_⟩
      rw [show off + k + i = off + (k + i) by omega]
      exact HC.out i (by rw [HR.out]; omega)
    · exact ht
    rintro e' w2 ⟨rfl, hw2⟩
    subst hw2
    go_wp2
    go_ret3
    exact ⟨rfl, _, rfl⟩
  · have hCl : (m : Int) + 4 < (C : Int) := by omega
    clear hCe
    go_quiet (fail)
    go_wp2_with fail
    refine (readSum_at b (off + k + m) _ (sh f (k + m)) _ (sh_by hby _) ?_).mono ?_
    · intro i hi
      rw [show off + k + m + i = off + (k + (m + i)) by omega]
      exact (HC.out (m + i) (by rw [HR.out]; omega)).trans (by simp [sh, Nat.add_assoc])
    rintro e' w2 ⟨rfl, hw2⟩
    subst hw2
    go_wp2_with fail
    refine (wSum (some ⟨b, off + k, none⟩) m _ (sh f k) (by omega) (sh_by hby _) ?_ ?_).mono ?_
    · refine .inr ⟨b, off + k, rfl, fun i hi => ?_⟩
      rw [show off + k + i = off + (k + i) by omega]
      exact HC.out i (by rw [HR.out]; omega)
    · exact ht
    rintro e' w2 ⟨rfl, hw2⟩
    subst hw2
    go_wp2
    go_ret3
    exact ⟨rfl, _, rfl⟩
set_option maxHeartbeats 1000000 in
theorem wUnf_ok (b off n c m k : Nat) (f : Nat → Int) (w : World) (hbig : n ≤ 140737488355328) (hby : ∀ i, 0 ≤ f i ∧ f i ≤ 255) (hcell : Hid (∀ i, i < n → w.cell? ⟨b, off + i, none⟩ = some (.int .u8 (f i)))) (hnc : n ≤ c) (hc : c ≤ 9223372036854775807) (hN : Hid (Wm.num f n = ((m : Int), (k : Int), 0)))
    (hk : k ≤ n) (hm : m ≤ 65536) (hs : m + 4 ≤ n - k) (ht : Tab w) (hgood : rd (sh f (k + m)) 4 = Crc.sum (lstN (sh f k) m)) :
    Calls Tryd.prog 40 #[.slice (some ⟨b, off, none⟩) n c] w fun e' w' => ∃ v1 v2, e' = .returned (.tuple #[v1, v2, .int .i64 0]) ∧ Own w' w.heap.size v1 (lst (sh f k) m) ∧ Own w' w.heap.size v2 (lst (sh f (k + m + 4)) (n - k - (m + 4))) ∧ Below w.heap.size w w' := by
  have hm' : ¬ (65536 : Int) < (m : Int) := by omega
  have hs' : ¬ ((n - k : Nat) : Int) < (m : Int) + 4 := by omega
  have hS := Crc.sum_lt (lstN (sh f k) m) (lstN_by (sh_by hby k) m)
  have hgood' : (((rd (sh f (k + m)) 4 : Nat) : Int) != wrap64 ((Crc.sum (lstN (sh f k) m) : Nat) : Int)) = false := by rw [Wm.w64 _ (by omega), hgood]; simp
  clear hS
  clear hgood
  have hck' : k < c := by omega
  have hl : Lay w (some ⟨b, off, none⟩) n f := .inr ⟨b, off, rfl, hcell⟩
  go_enter Tryd.func40, Tryd.ntmps40
  go_wp2_with fail
  refine (number_any _ _ _ f w hbig hby hl).mono ?_
  rintro e' w' ⟨rfl, hw⟩
  obtain rfl : w = w' := hw.symm
  rw [hN.out]
  have HC : Hid (∀ i, i < n - k → w.cell? ⟨b, off + (k + i), none⟩ = some (.int .u8 (f (k + i)))) := fun i hi => hcell.out (k + i) (by omega)
  obtain ⟨r, hr⟩ : ∃ r, n - k = r := ⟨_, rfl⟩
  obtain ⟨C, hC⟩ : ∃ C, c - k = C := ⟨_, rfl⟩
  have r1 : m + 4 ≤ r := by omega
  have r2 : r ≤ C := by omega
  have r3 : C ≤ 9223372036854775807 := by omega
  have r4 : r ≤ 140737488355328 := by omega
  have q1 : (m : Int) ≤ (C : Int) := by omega
  have q2 : (m : Int) + 4 ≤ (C : Int) := by omega
  have q3 : (m : Int) + 4 ≤ (r : Int) := by omega
  go_wp2_with fail
  have HR : Hid (n - k = r) := hr
  clear hcell hl hN hr hC
  by_cases hCe : C = m + 4
  · obtain rfl : r = m + 4 := by omega
    subst hCe
    go_quiet (fail)
    go_wp2_with fail
    refine (readSum_at b (off + k + m) _ (sh f (k + m)) _ (sh_by hby _) ?_).mono ?_
    · intro i hi
      rw [show off + k + m + i = off + (k + (m + i)) by omega]
      exact (HC.out (m + i) (by rw [HR.out]; omega)).trans (by simp [sh, Nat.add_assoc])
    rintro e' w2 ⟨rfl, hw2⟩
    subst hw2
    go_wp2_with fail
    refine (wSum (some ⟨b, off + k, none⟩) m _ (sh f k) (by omega) (sh_by hby _) ?_ ?_).mono ?_
    · refine .inr ⟨b, off + k, rfl, fun i hi => ?_⟩
      rw [show off + k + i = off + (k + i) by omega]
      exact HC.out i (by rw [HR.out]; omega)
    · exact ht
    rintro e' w2 ⟨rfl, hw2⟩
    subst hw2
    have hfp : From (w.drewN nq) (some ⟨b, off + k, none⟩) m (sh f k) := .inr ⟨_, rfl, fun i hi => by rw [Addr.add_lit, show off + k + i = off + (k + i) by omega]; exact HC.out i (by rw [HR.out]; omega)⟩
    have hfr : From (w.drewN nq) (some ⟨b, off + k, none⟩) (0) (sh f (k + m + 4)) := .inr ⟨_, rfl, fun i hi => by
      rw [Addr.add_lit, show off + k + i = off + (k + (m + 4 + i)) by omega]
      exact (HC.out (m + 4 + i) (by rw [HR.out]; omega)).trans (by simp [sh, Nat.add_assoc])⟩
    go_wp2_with fail
    refine (clone _ m _ (sh f k) _ (by omega) hfp).mono ?_
    rintro e' w3 ⟨v1, rfl, ho1, hb1⟩
    have hs1 := hb1.size
    have hfr3 := hfr.below hb1 (Nat.le_refl _)
    go_wp2_with fail
    refine (clone _ (0) _ (sh f (k + m + 4)) _ (by omega) hfr3).mono ?_
    rintro e' w4 ⟨v2, rfl, ho2, hb2⟩
    have HA := ho1.below hb2 (Nat.le_refl _)
    have HB := ho2.mono hs1
    have HD : Below w.heap.size w w4 := (blw_drewN nq (Below.refl w.heap.size w)).trans (hb1.trans (hb2.mono hs1))
    have HR2 : Hid (n - k - (m + 4) = 0) := (by have := HR.out; omega : n - k - (m + 4) = 0)
    go_wp2
    go_ret3
    refine ⟨v1, v2, rfl, HA, ?_, HD⟩
    rw [HR2.out]
    exact HB
  · have hCl : (m : Int) + 4 < (C : Int) := by omega
    clear hCe
    go_quiet (fail)
    go_wp2_with fail
    refine (readSum_at b (off + k + m) _ (sh f (k + m)) _ (sh_by hby _) ?_).mono ?_
    · intro i hi
      rw [show off + k + m + i = off + (k + (m + i)) by omega]
      exact (HC.out (m + i) (by rw [HR.out]; omega)).trans (by simp [sh, Nat.add_assoc])
    rintro e' w2 ⟨rfl, hw2⟩
    subst hw2
    go_wp2_with fail
    refine (wSum (some ⟨b, off + k, none⟩) m _ (sh f k) (by omega) (sh_by hby _) ?_ ?_).mono ?_
    · refine .inr ⟨b, off + k, rfl, fun i hi => ?_⟩
      rw [show off + k + i = off + (k + i) by omega]
      exact HC.out i (by rw [HR.out]; omega)
    · exact ht
    rintro e' w2 ⟨rfl, hw2⟩
    subst hw2
    have hfp : From (w.drewN nq) (some ⟨b, off + k, none⟩) m (sh f k) := .inr ⟨_, rfl, fun i hi => by rw [Addr.add_lit, show off + k + i = off + (k + i) by omega]; exact HC.out i (by rw [HR.out]; omega)⟩
    have hfr : From (w.drewN nq) (some ⟨b, off + k + (m + 4), none⟩) (r - (m + 4)) (sh f (k + m + 4)) := .inr ⟨_, rfl, fun i hi => by
      rw [Addr.add_lit, show off + k + (m + 4) + i = off + (k + (m + 4 + i)) by omega]
      exact (HC.out (m + 4 + i) (by rw [HR.out]; omega)).trans (by simp [sh, Nat.add_assoc])⟩
    go_wp2_with fail
    refine (clone _ m _ (sh f k) _ (by omega) hfp).mono ?_
    rintro e' w3 ⟨v1, rfl, ho1, hb1⟩
    have hs1 := hb1.size
    have hfr3 := hfr.below hb1 (Nat.le_refl _)
    go_wp2_with fail
    refine (clone _ (r - (m + 4)) _ (sh f (k + m + 4)) _ (by omega) hfr3).mono ?_
    rintro e' w4 ⟨v2, rfl, ho2, hb2⟩
    have HA := ho1.below hb2 (Nat.le_refl _)
    have HB := ho2.mono hs1
    have HD : Below w.heap.size w w4 := (blw_drewN nq (Below.refl w.heap.size w)).trans (hb1.trans (hb2.mono hs1))
    have HR2 : Hid (n - k - (m + 4) = r - (m + 4)) := (by have := HR.out; omega : n - k - (m + 4) = r - (m + 4))
    go_wp2
    go_ret3
    refine ⟨v1, v2, rfl, HA, ?_, HD⟩
    rw [HR2.out]
    exact HB
end Go.Proofs.YtbpolfoagmehhaaDoor
