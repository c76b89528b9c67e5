/-
  slices.SortFunc of a row of at most five buffers: the same buffers, in some order.
-/
import Derived.Test.YtnaobkpncfbnaaaGreatDoorGd
namespace Go.Proofs.YtnaobkpncfbnaaaGreatDoor
open Go.RowKit
set_option linter.unusedVariables false

theorem k_nan (x : Int) (w : World) : Calls Tryz.prog 115 #[.int .i64 x] w fun r w' => r = .returned (.bool false) ∧ w' = w := by
  go_enter Tryz.func115, Tryz.ntmps115
  go_wp2
  go_ret
  first | exact ⟨rfl, rfl⟩ | (refine ⟨?_, rfl⟩; simp)
def cmpV (x y : Int) : Int := if x < y then -1 else if y < x then 1 else 0
set_option maxRecDepth 100000 in
theorem k_cmpI (x y : Int) (w : World) : Calls Tryz.prog 79 #[.int .i64 x, .int .i64 y] w fun r w' => r = .returned (.int .i64 (cmpV x y)) ∧ w' = w := by
  have HN : Hid (∀ x, Calls Tryz.prog 115 #[.int .i64 x] w fun r w' => r = .returned (.bool false) ∧ w' = w) := fun x => k_nan x w
  have key : ∀ z : Int, Hid (cmpV x y = z) → (decide (x < y) = true → z = -1) → (decide (x < y) = false → decide (y < x) = true → z = 1) → (decide (x < y) = false → decide (y < x) = false → z = 0) → Calls Tryz.prog 79 #[.int .i64 x, .int .i64 y] w fun r w' => r = .returned (.int .i64 z) ∧ w' = w := fun z hz h1 h2 h3 => by
    have HH : Hid ((decide (x < y) = true → z = -1) ∧ (decide (x < y) = false → decide (y < x) = true → z = 1) ∧ (decide (x < y) = false → decide (y < x) = false → z = 0)) := ⟨h1, h2, h3⟩
    clear h1 h2 h3 hz
    have hc : (∃ d : Bool, decide (x < y) = d) := ⟨_, rfl⟩
    obtain ⟨d, hd⟩ := hc
    obtain ⟨d', hd'⟩ : ∃ d : Bool, decide (y < x) = d := ⟨_, rfl⟩
    cases d <;> cases d'
    all_goals
      have HZ := HH.out
      simp only [hd, hd', true_implies, false_implies, Bool.false_eq_true, Bool.true_eq_false, and_true, true_and] at HZ
      clear HH
      subst HZ
      go_enter Tryz.func79, Tryz.ntmps79
      go_wp2_with fail
      refine (HN.out x).mono ?_
      rintro r w1 ⟨rfl, hw⟩
      obtain rfl : w = w1 := hw.symm
      clear hw
      go_wp2_with fail
      refine (HN.out y).mono ?_
      rintro r w1 ⟨rfl, hw⟩
      obtain rfl : w = w1 := hw.symm
      clear hw
      go_wp2
      go_ret
      exact ⟨rfl, rfl⟩
  refine key _ rfl (fun h => ?_) (fun h h' => ?_) (fun h h' => ?_)
  · unfold cmpV; rw [if_pos (of_decide_eq_true h)]
  · unfold cmpV; rw [if_neg (of_decide_eq_false h), if_pos (of_decide_eq_true h')]
  · unfold cmpV; rw [if_neg (of_decide_eq_false h), if_neg (of_decide_eq_false h')]
/-- A buffer's block with its page's number. -/
def IsP (w : World) (b : Nat) (x : Int) : Prop := ∃ cs : Array Value, w.heap[b]? = some (.cells cs 111 (0, 0)) ∧ cs[0]? = some (.int .i64 x)
theorem IsP.cell {w : World} {b : Nat} {x : Int} (h : IsP w b x) : w.cell? ⟨b, 0, none⟩ = some (.int .i64 x) := by
  obtain ⟨cs, h1, h2⟩ := h
  rw [cells_at h1 0]
  exact h2
set_option maxRecDepth 100000 in
theorem k_cmpC (a b : Nat) (x y : Int) (w : World) (ha : IsP w a x) (hb : IsP w b y) : Calls Tryz.prog 78 #[.pointer (some ⟨a, 0, none⟩), .pointer (some ⟨b, 0, none⟩)] w fun r w' => r = .returned (.int .i64 (cmpV x y)) ∧ ∃ q, w' = w.drewN q := by
  have c1 := ha.cell
  have c2 := hb.cell
  have HC : Hid (∀ q, Calls Tryz.prog 79 #[.int .i64 x, .int .i64 y] (w.drewN q) fun r w' => r = .returned (.int .i64 (cmpV x y)) ∧ w' = w.drewN q) := fun q => k_cmpI x y _
  clear ha hb
  go_enter Tryz.func78, Tryz.ntmps78
  go_wp2_with fail
  go_quiet (first
    | (go_at_call 79; exact Calls.quiet_of_same (HC.out _)))
  go_wp2
  go_ret
  exact ⟨rfl, _, rfl⟩
/-- The same blocks, in some order. -/
def Sm (f g : Nat → Nat) (n : Nat) : Prop := (∀ j, j < n → ∃ i, i < n ∧ g j = f i) ∧ ∀ i, i < n → ∃ j, j < n ∧ g j = f i
theorem Sm.refl (f : Nat → Nat) (n : Nat) : Sm f f n := ⟨fun j hj => ⟨j, hj, rfl⟩, fun i hi => ⟨i, hi, rfl⟩⟩
def swp (g : Nat → Nat) (j : Nat) : Nat → Nat := fun i => if i = j - 1 then g j else if i = j then g (j - 1) else g i
theorem Sm.swap {f g : Nat → Nat} {n j : Nat} (h : Sm f g n) (h0 : 0 < j) (hj : j < n) : Sm f (swp g j) n := by
  refine ⟨fun i hi => ?_, fun i hi => ?_⟩
  · unfold swp
    by_cases e1 : i = j - 1
    · rw [if_pos e1]; exact h.1 j hj
    · rw [if_neg e1]
      by_cases e2 : i = j
      · rw [if_pos e2]; exact h.1 (j - 1) (by omega)
      · rw [if_neg e2]; exact h.1 i hi
  · obtain ⟨t, ht, e⟩ := h.2 i hi
    by_cases e1 : t = j
    · exact ⟨j - 1, by omega, by unfold swp; rw [if_pos rfl, ← e1, e]⟩
    · by_cases e2 : t = j - 1
      · exact ⟨j, hj, by unfold swp; rw [if_neg (by omega), if_pos rfl, ← e2, e]⟩
      · exact ⟨t, ht, by unfold swp; rw [if_neg e2, if_neg e1, e]⟩
/-- A row that is being sorted. -/
structure Srt (B0 : Nat) (w : World) (g n c : Nat) (f : Nat → Nat) (wr : World) (f' : Nat → Nat) : Prop where
  sm : Sm f f' n
  rw_ : Rw B0 wr (.slice (some ⟨g, 0, none⟩) n c) n f'
  part : Part (fun b => b = g) w wr
theorem Srt.drewN {B0 : Nat} {w : World} {g n c : Nat} {f : Nat → Nat} {wr : World} {f' : Nat → Nat} (h : Srt B0 w g n c f wr f') (q : Nat) : Srt B0 w g n c f (wr.drewN q) f' :=
  ⟨h.sm, h.rw_.part (Part.ofBelow (F := fun _ => False) (blw_drewN q (Below.refl _ wr))) (fun _ _ h => h), h.part.drewN q⟩
theorem Srt.swap {B0 : Nat} {w : World} {g n c : Nat} {f : Nat → Nat} {wr : World} {f' : Nat → Nat} {t : Nat} (h : Srt B0 w g n c f wr f') (ht : t + 1 < n) : Srt B0 w g n c f ((wr.setCell ⟨g, t + 1, none⟩ (.pointer (some ⟨f' t, 0, none⟩))).setCell ⟨g, t, none⟩ (.pointer (some ⟨f' (t + 1), 0, none⟩))) (swp f' (t + 1)) := by
  refine ⟨h.sm.swap (by omega) ht, ?_, (h.part.setCell (p := ⟨g, t + 1, none⟩) (fun _ => rfl) _).setCell (p := ⟨g, t, none⟩) (fun _ => rfl) _⟩
  exact (h.rw_.set (t + 1) ht (f' t)).set t (by omega) (f' (t + 1))
theorem Srt.at {B0 : Nat} {w : World} {g n c : Nat} {f : Nat → Nat} {wr : World} {f' : Nat → Nat} (h : Srt B0 w g n c f wr f') (h0 : Rw B0 w (.slice (some ⟨g, 0, none⟩) n c) n f) (hP : ∀ j, j < n → ∃ x, IsP w (f j) x) (j : Nat) (hj : j < n) : ∃ x, IsP wr (f' j) x ∧ wr.cell? ⟨g, j, none⟩ = some (.pointer (some ⟨f' j, 0, none⟩)) ∧ wr.frozen? ⟨g, j, none⟩ = false := by
  obtain ⟨i, hi, e⟩ := h.sm.1 j hj
  obtain ⟨x, cs, h1, h2⟩ := hP i hi
  have hg : ∃ cur, w.heap[g]? = some (.cells cur 97 (0, 0)) := by
    rcases h0.open with ⟨h, _⟩ | ⟨g', c', cur, h, hg, _⟩
    · cases h
    · injection h with h
      injection h with h
      injection h with h
      subst h
      exact ⟨cur, hg⟩
  obtain ⟨cur, hg⟩ := hg
  have hne : f i ≠ g := fun e' => by
    rw [e', hg] at h1
    injection h1 with h1
    injection h1 with _ h1
    exact absurd h1 (by decide)
  refine ⟨x, ⟨cs, ?_, h2⟩, (h.rw_.cell j hj).1, (h.rw_.cell j hj).2⟩
  rw [e]
  exact (h.part.block _ (Array.getElem?_eq_some_iff.1 h1).1 hne).trans h1
set_option maxRecDepth 100000 in
set_option maxHeartbeats 4000000 in
theorem k_insW {B0 : Nat} {w : World} {g n c : Nat} {f : Nat → Nat} (h : Rw B0 w (.slice (some ⟨g, 0, none⟩) n c) n f) (hn : n ≤ 5) (hP : ∀ j, j < n → ∃ x, IsP w (f j) x) :
    Calls Tryz.prog 136 #[.slice (some ⟨g, 0, none⟩) n c, .int .i64 0, .int .i64 (n : Int), .func (.func 78) #[] #[]] w fun r w' => r = .returned (.tuple #[]) ∧ Hid (∃ f', Srt B0 w g n c f w' f') := by
  have HA : Hid (∀ wr f', Srt B0 w g n c f wr f' → ∀ j, j < n → ∃ x, IsP wr (f' j) x ∧ wr.cell? ⟨g, j, none⟩ = some (.pointer (some ⟨f' j, 0, none⟩)) ∧ wr.frozen? ⟨g, j, none⟩ = false) := fun wr f' hs j hj => hs.at h hP j hj
  have HC : Hid (∀ wr f', Srt B0 w g n c f wr f' → ∀ t, t + 1 < n → ∃ z, ∀ q, Calls Tryz.prog 78 #[.pointer (some ⟨f' (t + 1), 0, none⟩), .pointer (some ⟨f' t, 0, none⟩)] (wr.drewN q) fun r w' => r = .returned (.int .i64 z) ∧ ∃ m, w' = (wr.drewN q).drewN m) := fun wr f' hs t ht => by
    obtain ⟨x, hx, _⟩ := hs.at h hP (t + 1) ht
    obtain ⟨y, hy, _⟩ := hs.at h hP t (by omega)
    refine ⟨cmpV x y, fun q => k_cmpC _ _ x y _ ?_ ?_⟩
    · obtain ⟨cs, h1, h2⟩ := hx; exact ⟨cs, by rw [← h1]; exact (blw_drewN q (Below.refl wr.heap.size wr)).block _ (Array.getElem?_eq_some_iff.1 h1).1, h2⟩
    · obtain ⟨cs, h1, h2⟩ := hy; exact ⟨cs, by rw [← h1]; exact (blw_drewN q (Below.refl wr.heap.size wr)).block _ (Array.getElem?_eq_some_iff.1 h1).1, h2⟩
  have H0 : Hid (Srt B0 w g n c f w f) := ⟨Sm.refl f n, h, Part.refl _ w⟩
  have hc : n ≤ c := by
    rcases h.open with ⟨h, _⟩ | ⟨g', c', cur, h, _, _, h4, _⟩
    · cases h
    · injection h with _ _ h
      omega
  clear h hP
  go_enter Tryz.func136, Tryz.ntmps136
  go_wp2
  go_loopw [8] (fun s wr => ∃ k : Nat, 1 ≤ k ∧ (k : Int) ≤ 6 ∧ s = .int .i64 (k : Int) ∧ Hid (∃ f', Srt B0 w g n c f wr f')) (fun s _ => 10 - (intOf s).toNat)
  case atStart => exact ⟨1, by omega, by omega, by go_num, ⟨f, H0.out⟩⟩
  case round =>
    obtain ⟨k, hk1, hk6, rfl, HF⟩ := hrel
    by_cases hlt : k < n
    · have l1 : (k : Int) < (n : Int) := by omega
      go_wp2
      go_loopw [9] (fun s wr => ∃ j : Nat, (j : Int) ≤ (k : Int) ∧ s = .int .i64 (j : Int) ∧ Hid (∃ f', Srt B0 w g n c f wr f')) (fun s _ => (intOf s).toNat)
      case atStart => exact ⟨k, by omega, rfl, HF⟩
      case round =>
        obtain ⟨j, hj, rfl, HG⟩ := hrel
        obtain ⟨f', hs⟩ := HG.out
        cases j with
        | zero =>
          go_wp2
          go_quiet (fail)
          go_wp2
          go_roundw
          case rel => exact ⟨k + 1, by omega, by omega, by go_num, ⟨f', hs.drewN _⟩⟩
          case measure => simp [intOf]; omega
        | succ t =>
          obtain ⟨z, hz⟩ := HC.out _ f' hs t (by omega)
          obtain ⟨_, _, x1, y1⟩ := HA.out _ f' hs (t + 1) (by omega)
          obtain ⟨_, _, x2, y2⟩ := HA.out _ f' hs t (by omega)
          have HZ : Hid (∀ q, Calls Tryz.prog 78 #[.pointer (some ⟨f' (t + 1), 0, none⟩), .pointer (some ⟨f' t, 0, none⟩)] (wr.drewN q) fun r w' => r = .returned (.int .i64 z) ∧ ∃ m, w' = (wr.drewN q).drewN m) := hz
          have HS : Hid (Srt B0 w g n c f wr f') := hs
          have HW : Hid (∀ q, Srt B0 w g n c f (((wr.drewN q).setCell ⟨g, t + 1, none⟩ (.pointer (some ⟨f' t, 0, none⟩))).setCell ⟨g, t, none⟩ (.pointer (some ⟨f' (t + 1), 0, none⟩))) (swp f' (t + 1))) := fun q => (hs.drewN q).swap (by omega)
          have l2 : (t : Int) + 1 < (n : Int) := by omega
          have l3 : (t : Int) < (n : Int) := by omega
          have l4 : (0 : Int) ≤ (t : Int) := by omega
          have l5 : (n : Int) ≤ 5 := by omega
          obtain ⟨d, hd⟩ : ∃ d : Bool, decide (z < 0) = d := ⟨_, rfl⟩
          clear hs hz HG
          cases d
          · go_wp2
            go_quiet (first
              | (go_at_call 78; exact Calls.quiet_of (HZ.out _)))
            go_wp2
            go_roundw
            case rel => exact ⟨k + 1, by omega, by omega, by go_num, ⟨f', HS.out.drewN _⟩⟩
            case measure => simp [intOf]; omega
          · go_wp2
            go_quiet (first
              | (go_at_call 78; exact Calls.quiet_of (HZ.out _)))
            go_wp2_with fail
            have HS2 : Hid (Srt B0 w g n c f (wr.drewN nq) f') := HS.out.drewN nq
            have HW2 : Hid (Srt B0 w g n c f (((wr.drewN nq).drew.setCell ⟨g, t + 1, none⟩ (.pointer (some ⟨f' t, 0, none⟩))).setCell ⟨g, t, none⟩ (.pointer (some ⟨f' (t + 1), 0, none⟩))) (swp f' (t + 1))) := HW.out (nq + 1)
            clear x1 x2 y1 y2 HW HS HZ
            generalize wr.drewN nq = W at *
            obtain ⟨_, _, x1, y1⟩ := HA.out _ f' HS2.out (t + 1) (by omega)
            obtain ⟨_, _, x2, y2⟩ := HA.out _ f' HS2.out t (by omega)
            clear HS2
            go_region
            all_goals
              go_wp2
              go_roundw
              case rel => exact ⟨t, by omega, by go_num, ⟨_, HW2.out⟩⟩
              case measure => simp [intOf]
    · have l1 : ¬ (k : Int) < (n : Int) := by omega
      go_wp2
      go_end0
      exact ⟨rfl, HF⟩
set_option maxRecDepth 100000 in
set_option maxHeartbeats 2000000 in
theorem k_len64W (n : Nat) (hn : n ≤ 5) (w : World) : Calls Tryz.prog 92 #[.int .u64 (n : Int)] w fun r w' => (∃ z : Int, r = .returned (.int .i64 z)) ∧ w' = w := by
  obtain rfl | rfl | rfl | rfl | rfl | rfl : n = 0 ∨ n = 1 ∨ n = 2 ∨ n = 3 ∨ n = 4 ∨ n = 5 := by omega
  all_goals
    go_enter Tryz.func92, Tryz.ntmps92
    go_wp2
    go_ret
    exact ⟨⟨_, rfl⟩, rfl⟩
set_option maxRecDepth 100000 in
set_option maxHeartbeats 2000000 in
theorem k_lenW (n : Nat) (hn : n ≤ 5) (w : World) : Calls Tryz.prog 54 #[.int .u64 (n : Int)] w fun r w' => (∃ z : Int, r = .returned (.int .i64 z)) ∧ w' = w := by
  have HL : Hid (Calls Tryz.prog 92 #[.int .u64 (n : Int)] w fun r w' => (∃ z : Int, r = .returned (.int .i64 z)) ∧ w' = w) := k_len64W n hn w
  have l1 : (n : Int) ≤ 5 := by omega
  go_enter Tryz.func54, Tryz.ntmps54
  go_wp2_with fail
  refine HL.out.mono ?_
  rintro r w1 ⟨⟨z, rfl⟩, hw⟩
  obtain rfl : w = w1 := hw.symm
  go_wp2
  go_ret
  exact ⟨⟨_, rfl⟩, rfl⟩
set_option maxRecDepth 100000 in
set_option maxHeartbeats 2000000 in
theorem k_pdqW {B0 : Nat} {w : World} {g n c : Nat} {f : Nat → Nat} (z : Int) (h : Rw B0 w (.slice (some ⟨g, 0, none⟩) n c) n f) (hn : n ≤ 5) (hP : ∀ j, j < n → ∃ x, IsP w (f j) x) : Calls Tryz.prog 114 #[.slice (some ⟨g, 0, none⟩) n c, .int .i64 0, .int .i64 (n : Int), .int .i64 z, .func (.func 78) #[] #[]] w fun r w' => r = .returned (.tuple #[]) ∧ Hid (∃ f', Srt B0 w g n c f w' f') := by
  have HI : Hid (Calls Tryz.prog 136 #[.slice (some ⟨g, 0, none⟩) n c, .int .i64 0, .int .i64 (n : Int), .func (.func 78) #[] #[]] w fun r w' => r = .returned (.tuple #[]) ∧ Hid (∃ f', Srt B0 w g n c f w' f')) := k_insW h hn hP
  have l1 : (n : Int) ≤ 5 := by omega
  have l2 : decide ((n : Int) ≤ 12) = true := decide_eq_true (by omega)
  clear h hP
  go_enter Tryz.func114, Tryz.ntmps114
  go_wp2
  go_loopw [1, 2] (fun a b wr => a = .int .i64 0 ∧ b = .int .i64 (n : Int) ∧ wr = w) (fun _ _ _ => 0)
  case atStart => exact ⟨rfl, rfl, rfl⟩
  case round =>
    obtain ⟨rfl, rfl, hw⟩ := hrel
    obtain rfl : w = wr := hw.symm
    clear hw
    go_wp2_with fail
    refine HI.out.mono ?_
    rintro r w1 ⟨rfl, HF⟩
    go_wp2
    refine bodyPost_ret (results_none rfl _ _ _) rfl ?_
    exact ⟨rfl, HF⟩
set_option maxRecDepth 100000 in
set_option maxHeartbeats 2000000 in
theorem k_sortW {B0 : Nat} {w : World} {g n c : Nat} {f : Nat → Nat} (h : Rw B0 w (.slice (some ⟨g, 0, none⟩) n c) n f) (hn : n ≤ 5) (hP : ∀ j, j < n → ∃ x, IsP w (f j) x) : Calls Tryz.prog 77 #[.slice (some ⟨g, 0, none⟩) n c, .func (.func 78) #[] #[]] w fun r w' => r = .returned (.tuple #[]) ∧ Hid (∃ f', Srt B0 w g n c f w' f') := by
  have HL : Hid (Calls Tryz.prog 54 #[.int .u64 (n : Int)] w fun r w' => (∃ z : Int, r = .returned (.int .i64 z)) ∧ w' = w) := k_lenW n hn w
  have HI : Hid (∀ z, Calls Tryz.prog 114 #[.slice (some ⟨g, 0, none⟩) n c, .int .i64 0, .int .i64 (n : Int), .int .i64 z, .func (.func 78) #[] #[]] w fun r w' => r = .returned (.tuple #[]) ∧ Hid (∃ f', Srt B0 w g n c f w' f')) := fun z => k_pdqW z h hn hP
  have l1 : (n : Int) ≤ 5 := by omega
  clear h hP
  go_enter Tryz.func77, Tryz.ntmps77
  go_wp2_with fail
  refine HL.out.mono ?_
  rintro r w1 ⟨⟨z, rfl⟩, hw⟩
  obtain rfl : w = w1 := hw.symm
  clear hw
  go_wp2_with fail
  refine (HI.out z).mono ?_
  rintro r w1 ⟨rfl, HF⟩
  go_wp2
  go_end0
  exact ⟨rfl, HF⟩
end Go.Proofs.YtnaobkpncfbnaaaGreatDoor
