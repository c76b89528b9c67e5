/-
  What a log's area has: the contract of right in one, and of has. Conditions: the sectors are the disk's, nothing is pending; the library's table of sums is as it starts.
-/
import Derived.Test.YthfokciijcmhbaaGreatDoorGaf
namespace Go.Proofs.YthfokciijcmhbaaGreatDoor
open Go.RowKit
set_option linter.unusedVariables false

/-- What right answers. -/
def RtAns (s : Nat → Int) (place : Nat) (w : World) (e : Ending) (w' : World) : Prop :=
  (∃ N u gL cL, Right s place N u ∧ e = .returned (.tuple #[.int .i64 (N : Int), .slice (some ⟨gL, 0, none⟩) u cL, .bool true]) ∧ Own w' w.heap.size (.slice (some ⟨gL, 0, none⟩) u cL) (lst (sh s 12) u) ∧ u ≤ cL ∧ cL ≤ 9223372036854775807) ∨
  ((∀ N u, ¬ Right s place N u) ∧ ∃ x a n c, e = .returned (.tuple #[.int .i64 x, .slice a n c, .bool false]))
theorem rightL (g c place B : Nat) (s : Nat → Int) (w : World) (ho : Own w B (.slice (some ⟨g, 0, none⟩) 128 c) (lst s 128)) (hc : 128 ≤ c) (hby : ∀ i, 0 ≤ s i ∧ s i ≤ 255) (hp : place ≤ 4096) (ht : Tab w) :
    Calls Tryz.prog 99 #[.slice (some ⟨g, 0, none⟩) 128 c, .int .i64 (place : Int)] w fun e w' => RtAns s place w e w' ∧ Below w.heap.size w w' := by
  by_cases h1 : 112 < s 1
  · refine (right_used g c place B s w ho hc hby h1).mono fun e w' ⟨he, hb⟩ => ⟨.inr ⟨fun N u h => ?_, _, _, _, _, he⟩, hb⟩
    have a := h.used
    have b := h.hu
    omega
  · by_cases h2 : numS s < 1
    · refine (right_low g c place B s w ho hc hby ⟨by omega, h2⟩).mono fun e w' ⟨he, hb⟩ => ⟨.inr ⟨fun N u h => ?_, _, _, _, _, he⟩, hb⟩
      have a := h.num
      have b := h.h1
      omega
    · by_cases h3 : 4611686018427387904 < numS s
      · refine (right_high g c place B s w ho hc hby ⟨by omega, by omega, h3⟩).mono fun e w' ⟨he, hb⟩ => ⟨.inr ⟨fun N u h => ?_, _, _, _, _, he⟩, hb⟩
        have a := h.num
        have b := h.h2
        omega
      · have hb1 := hby 1
        obtain ⟨u, hu⟩ : ∃ u : Nat, s 1 = (u : Int) := ⟨(s 1).toNat, by omega⟩
        obtain ⟨N, hN⟩ : ∃ N : Nat, numS s = (N : Int) := ⟨(numS s).toNat, by omega⟩
        by_cases h4 : ∀ i, i < 128 → s i = lsec place N u (sh s 12) i
        · exact (right_yes g c place B N u s w ho hc hby hp ht hu hN (by omega) (by omega) (by omega) h4).mono fun e w' ⟨gL, cL, he, o, q1, q2, hb⟩ => ⟨.inl ⟨N, u, gL, cL, ⟨by omega, by omega, by omega, h4⟩, he, o, q1, q2⟩, hb⟩
        · refine (right_not g c place B N u s w ho hc hby hp ht hu hN (by omega) (by omega) (by omega) h4).mono fun e w' ⟨gL, cL, he, o, q1, q2, hb⟩ => ⟨.inr ⟨fun N' u' h => ?_, _, _, _, _, he⟩, hb⟩
          have a := h.used
          have b := h.num
          obtain rfl : u' = u := by omega
          obtain rfl : N' = N := by omega
          exact h4 h.eq

theorem lg_app (dur : Nat → Int) (k u : Nat) (hu : u ≤ 112) : lst (lg dur) (k * 112) ++ lst (sh (secAt dur k) 12) u = lst (lg dur) (k * 112 + u) := by
  apply List.ext_getElem?
  intro i
  rw [List.getElem?_append, lst_length]
  by_cases h1 : i < k * 112
  · rw [if_pos h1, lst_get _ _ _ h1, lst_get _ _ _ (by omega)]
  · rw [if_neg h1]
    by_cases h2 : i - k * 112 < u
    · rw [lst_get _ _ _ h2, lst_get _ _ _ (by omega), ← lg_at dur k _ (by omega), show k * 112 + (i - k * 112) = i by omega]
    · rw [List.getElem?_eq_none (by rw [lst_length]; omega), List.getElem?_eq_none (by rw [lst_length]; omega)]

set_option maxRecDepth 100000 in
set_option maxHeartbeats 2000000 in
theorem hasL (D n from_ sectors : Nat) (F : Nat → Prop) (dur : Nat → Int) (tf : Nat → Nat) (ld : Nat → Int) (w : World) (h : Dk w D F n dur 0 tf ld) (hp : from_ + sectors ≤ n) (hn : n ≤ 4096) (ht : Tab w) :
    Calls Tryz.prog 66 #[.agg #[.pointer (some ⟨D, 0, none⟩), .int .i64 (from_ : Int), .int .i64 (sectors : Int)]] w fun e w' => ∃ (first tot : Nat) (v : Value), e = .returned (.tuple #[.int .i64 (first : Int), v]) ∧ Own w' w.heap.size v (lst (lg (from0 dur from_)) tot) ∧ Has (from0 dur from_) sectors first tot ∧ Below w.heap.size w w' := by
  obtain ⟨i0, hi, hz0, hz1, hz2⟩ := info_parts info5
  have hby := h.by1
  obtain ⟨o, ho⟩ : ∃ o, Obj.cells #[.pointer (some ⟨D, 0, none⟩), .int .i64 (from_ : Int), .int .i64 (sectors : Int)] 127 = o := ⟨_, rfl⟩
  have hb0 : Below w.heap.size w (w.alloc o) := (Below.refl _ w).alloc (Nat.le_refl _) o
  have hh0 : (w.alloc o).heap[w.heap.size]? = some (.cells #[.pointer (some ⟨D, 0, none⟩), .int .i64 (from_ : Int), .int .i64 (sectors : Int)] 127 (0, 0)) := by rw [← ho]; exact heap_alloc_at _ _ _ rfl
  have hsz : (w.alloc o).heap.size = w.heap.size + 1 := by simp
  have HI : Hid (∀ wr, Below (w.alloc o).heap.size (w.alloc o) wr → Dk wr D F n dur 0 tf ld ∧ wr.cell? ⟨w.heap.size, 0, none⟩ = some (.pointer (some ⟨D, 0, none⟩)) ∧ wr.cell? ⟨w.heap.size, 1, none⟩ = some (.int .i64 (from_ : Int)) ∧ wr.cell? ⟨w.heap.size, 2, none⟩ = some (.int .i64 (sectors : Int)) ∧ Tab wr ∧ w.heap.size + 1 ≤ wr.heap.size) := fun wr hb => by
    have e := (hb.block w.heap.size (by omega)).trans hh0
    have hs := hb.size
    exact ⟨(h.below hb0).below hb, by rw [cells_at e 0]; rfl, by rw [cells_at e 1]; rfl, by rw [cells_at e 2]; rfl, (ht.below hb0 (Nat.le_refl _)).below hb (Nat.le_refl _), by omega⟩
  have HB : Hid (∀ wr, Below (w.alloc o).heap.size (w.alloc o) wr → Below w.heap.size w wr) := fun wr hb => hb0.trans (hb.mono (by omega))
  have d2 : (w.alloc o).cell? ⟨w.heap.size, 2, none⟩ = some (.int .i64 (sectors : Int)) := by rw [cells_at hh0 2]; rfl
  clear h ht hh0 hb0
  generalize hdur : from0 dur from_ = du at *
  have hbd : ∀ i, 0 ≤ du i ∧ du i ≤ 255 := fun i => by rw [← hdur]; exact hby _
  go_enter Tryz.func66, Tryz.ntmps66
  go_wp2
  try rw [ho]
  go_loopw [4, 5, 12] (fun s4 s5 s12 wr => ∃ first k : Nat, k ≤ sectors ∧ s12 = .int .i64 (k : Int) ∧ s4 = .int .i64 (first : Int) ∧ first ≤ 4611686018427387904 ∧ Hid (Taken du first (k * 112) k) ∧ Own wr (w.heap.size + 1) s5 (lst (lg du) (k * 112)) ∧ Below (w.alloc o).heap.size (w.alloc o) wr) (fun _ _ i _ => sectors - (intOf i).toNat)
  case atStart => exact ⟨0, 0, Nat.zero_le _, rfl, rfl, by omega, Taken.nil du, World.ownsRow_nil _ _ _ _, Below.refl _ _⟩
  case round =>
    obtain ⟨first, k, hk, rfl, rfl, hf9, hT, hO, hb⟩ := hrel
    obtain ⟨f1, f2, f3, f4, f5, f6⟩ := HI.out wr hb
    by_cases hlt : k < sectors
    · have hlt' : (k : Int) < (sectors : Int) := by omega
      have CR := areaReadD D n from_ sectors k F dur tf ld wr f1 (by omega) hn
      rw [hdur] at CR
      have hsl : (lst (lg du) (k * 112)).length + 112 ≤ 140737488355328 := by rw [lst_length]; omega
      clear f1 f2 f3 f4 f5
      obtain ⟨_, g2, g3, g4, _, _⟩ := HI.out wr hb
      go_wp2_with fail
      refine CR.mono ?_
      rintro e w1 ⟨g, c, rfl, o1, hc, b1⟩
      have hB1 : Below (w.alloc o).heap.size (w.alloc o) w1 := hb.trans (b1.mono (by omega))
      obtain ⟨_, _, _, _, t1, s1⟩ := HI.out w1 hB1
      have CT := rightL g c k _ (secAt du k) w1 o1 hc (secAt_by hbd k) (by omega) t1
      have hO1 := hO.below b1 (Nat.le_refl _)
      clear CR t1 o1 hO
      go_wp2_with fail
      refine CT.mono ?_
      rintro e w2 ⟨hans, b2⟩
      have hB2 : Below (w.alloc o).heap.size (w.alloc o) w2 := hB1.trans (b2.mono (by omega))
      have hO2 := hO1.below b2 (Nat.le_refl _)
      have hs2 := hB2.size
      clear CT hO1
      rcases hans with ⟨N, u, gL, cL, hr, rfl, oL, q1, q2⟩ | ⟨hno, x, a, m, c2, rfl⟩
      · have hu := hr.hu
        have hN := hr.h2
        by_cases hf : k = 0 ∨ N = first
        · have HT2 : Hid (Taken du N (k * 112 + u) (k + 1)) := hT.out.step rfl hr hf
          have hF : From w2 (some ⟨gL, 0, none⟩) u (sh (secAt du k) 12) := own_from oL
          have HA := lg_app du k u hu
          have hsl2 : (lst (lg du) (k * 112)).length + u ≤ 140737488355328 := by omega
          have hs3 : w.heap.size + 1 ≤ w2.heap.size := by omega
          have k1 : ((0 : Int) < (k : Int)) ∨ ¬ ((0 : Int) < (k : Int)) := by omega
          have k2 : (0 : Int) < (k : Int) → ((N : Int) == (first : Int)) = true := fun h0 => by
            rcases hf with e | rfl
            · omega
            · simp
          clear hf hT oL hr
          rcases k1 with k1 | k1
          · have k3 := k2 k1
            have HX : Hid (∀ v' w3, Own w3 (w.heap.size + 1) v' (lst (lg du) (k * 112) ++ lst (sh (secAt du k) 12) u) → Below (w.heap.size + 1) w2 w3 → Own w3 (w.heap.size + 1) v' (lst (lg du) (k * 112 + u)) ∧ Below (w.alloc o).heap.size (w.alloc o) w3) := fun v' w3 h1 h2 => ⟨by rw [← HA]; exact h1, hB2.trans (by rw [hsz]; exact h2)⟩
            clear HA
            by_cases hfull : u < 112
            · have hl : (u : Int) < 112 := by omega
              have HE : Hid (Has du sectors N (k * 112 + u)) := ⟨k + 1, by omega, HT2.out, .inr (.inl ⟨by omega, by omega⟩)⟩
              go_wp2_with (at_builtin; refine wpList_app rfl _ _ rfl (w.heap.size + 1) _ (lst (lg du) (k * 112)) rfl hO2 (some ⟨gL, 0, none⟩) u cL (sh (secAt du k) 12) rfl hF (fun h => by cases h) hsl2 hs3 ?_; intro v' w3 o3 b3)
              obtain ⟨o4, b4⟩ := HX.out v' w3 o3 b3
              have hBf := HB.out w3 b4
              clear o3 b3 HX
              go_wp2
              go_ret2
              exact ⟨N, k * 112 + u, v', rfl, o4.mono (by omega), HE.out, hBf⟩
            · obtain rfl : u = 112 := by omega
              have HT3 : Hid (Taken du N ((k + 1) * 112) (k + 1)) := by rw [show (k + 1) * 112 = k * 112 + 112 by omega]; exact HT2.out
              go_wp2_with (at_builtin; refine wpList_app rfl _ _ rfl (w.heap.size + 1) _ (lst (lg du) (k * 112)) rfl hO2 (some ⟨gL, 0, none⟩) 112 cL (sh (secAt du k) 12) rfl hF (fun h => by cases h) hsl2 hs3 ?_; intro v' w3 o3 b3)
              obtain ⟨o4, b4⟩ := HX.out v' w3 o3 b3
              clear o3 b3 HX
              go_wp2
              go_roundw
              case rel => exact ⟨N, k + 1, by omega, by go_num, rfl, hN, HT3, by rw [show (k + 1) * 112 = k * 112 + 112 by omega]; exact o4, b4⟩
              case measure => simp [intOf]; omega
          · have HX : Hid (∀ v' w3, Own w3 (w.heap.size + 1) v' (lst (lg du) (k * 112) ++ lst (sh (secAt du k) 12) u) → Below (w.heap.size + 1) w2 w3 → Own w3 (w.heap.size + 1) v' (lst (lg du) (k * 112 + u)) ∧ Below (w.alloc o).heap.size (w.alloc o) w3) := fun v' w3 h1 h2 => ⟨by rw [← HA]; exact h1, hB2.trans (by rw [hsz]; exact h2)⟩
            clear HA
            by_cases hfull : u < 112
            · have hl : (u : Int) < 112 := by omega
              have HE : Hid (Has du sectors N (k * 112 + u)) := ⟨k + 1, by omega, HT2.out, .inr (.inl ⟨by omega, by omega⟩)⟩
              go_wp2_with (at_builtin; refine wpList_app rfl _ _ rfl (w.heap.size + 1) _ (lst (lg du) (k * 112)) rfl hO2 (some ⟨gL, 0, none⟩) u cL (sh (secAt du k) 12) rfl hF (fun h => by cases h) hsl2 hs3 ?_; intro v' w3 o3 b3)
              obtain ⟨o4, b4⟩ := HX.out v' w3 o3 b3
              have hBf := HB.out w3 b4
              clear o3 b3 HX
              go_wp2
              go_ret2
              exact ⟨N, k * 112 + u, v', rfl, o4.mono (by omega), HE.out, hBf⟩
            · obtain rfl : u = 112 := by omega
              have HT3 : Hid (Taken du N ((k + 1) * 112) (k + 1)) := by rw [show (k + 1) * 112 = k * 112 + 112 by omega]; exact HT2.out
              go_wp2_with (at_builtin; refine wpList_app rfl _ _ rfl (w.heap.size + 1) _ (lst (lg du) (k * 112)) rfl hO2 (some ⟨gL, 0, none⟩) 112 cL (sh (secAt du k) 12) rfl hF (fun h => by cases h) hsl2 hs3 ?_; intro v' w3 o3 b3)
              obtain ⟨o4, b4⟩ := HX.out v' w3 o3 b3
              clear o3 b3 HX
              go_wp2
              go_roundw
              case rel => exact ⟨N, k + 1, by omega, by go_num, rfl, hN, HT3, by rw [show (k + 1) * 112 = k * 112 + 112 by omega]; exact o4, b4⟩
              case measure => simp [intOf]; omega
        · have HE : Hid (Has du sectors first (k * 112)) := ⟨k, hk, hT.out, .inr (.inr fun N' u' h' => by
            have := (h'.uniq hr).1
            constructor
            · omega
            · intro e
              exact hf (.inr (by omega)))⟩
          have hBf := HB.out w2 hB2
          have k1 : (0 : Int) < (k : Int) := by omega
          have k3 : ((N : Int) == (first : Int)) = false := by
            rw [beq_eq_false_iff_ne]
            intro e
            exact hf (.inr (by omega))
          clear hf hT oL hr
          go_wp2
          go_ret2
          exact ⟨first, k * 112, _, rfl, hO2.mono (by omega), HE.out, hBf⟩
      · have HE : Hid (Has du sectors first (k * 112)) := ⟨k, hk, hT.out, .inr (.inr fun N u h' => absurd h' (hno N u))⟩
        have hBf := HB.out w2 hB2
        clear hno hT
        go_wp2
        go_ret2
        exact ⟨first, k * 112, _, rfl, hO2.mono (by omega), HE.out, hBf⟩
    · obtain rfl : k = sectors := by omega
      have HE : Hid (Has du k first (k * 112)) := ⟨k, Nat.le_refl _, hT.out, .inl rfl⟩
      have hBf := HB.out wr hb
      go_wp2
      go_ret2
      exact ⟨first, k * 112, _, rfl, hO.mono (by omega), HE.out, hBf⟩
end Go.Proofs.YthfokciijcmhbaaGreatDoor
