/-
  AriesNobody: begin, and the law's walk.
-/
import Derived.Test.YtcifjpgimekcjaaGreatDoorArF
namespace Go.Proofs.YtcifjpgimekcjaaGreatDoor
open Go.RowKit
set_option linter.unusedVariables false
set_option maxRecDepth 100000
set_option maxHeartbeats 2000000

theorem infoBy : (Tryz.prog.info? 30).map (fun i => (i.zero, i.size, i.bytes)) = some (some (.slice none 0 0), 1, 24) := by kernel_rfl
theorem one_new (w : World) (x : Value) (t : TypeId) : ∀ j u, [x][j]? = some u → (w.alloc (.cells #[x] t)).cell? ((⟨w.heap.size, 0, none⟩ : Addr).add j) = some u := fun j u hu => by
  have hj : j = 0 := by
    have := (List.getElem?_eq_some_iff.1 hu).1
    simpa using this
  subst hj
  obtain rfl : x = u := by simpa using hu
  rw [Addr.add_lit, cells_at (heap_alloc_at w _ _ rfl) _]
  rfl
theorem row_slice {W : World} {base : Nat} {e : TypeId} {size : Nat} {v : Value} {k : Nat} {xs : List Value} (h : W.ownsRow base e size v k xs) : ∃ a c, v = .slice a k c := by
  rcases h.2 with ⟨rfl, h0⟩ | ⟨g, cap, cur, rfl, _⟩
  · rw [h0]; exact ⟨_, _, rfl⟩
  · exact ⟨_, _, rfl⟩
theorem row_off {W : World} {B : Nat} {e : TypeId} {sz n : Nat} {v : Value} {xs : List Value} (h : W.ownsRow B e sz v n xs) {g : Nat} {cs : Array Value} {t : TypeId} {z : Nat × Nat} (hg : W.heap[g]? = some (.cells cs t z)) (ht : t ≠ e) : v.ownBlock ≠ some g := fun he => by
  rcases h.2 with ⟨h1, _⟩ | ⟨g', cap, cur', h1, hb, h2, _⟩
  · rw [h1] at he; cases he
  · rw [h1] at he
    have he : some g' = some g := he
    injection he with he
    rw [he, hg] at h2
    injection h2 with h2
    injection h2 with _ h2 _
    exact ht h2
/-- The law's world under way: so many rows of noughts are there. -/
structure Bg (w wr : World) (B : Nat) (d m p : Value) (k : Nat) : Prop where
  ex : ∃ v xs, wr.heap[B]? = some (.cells #[d, m, v, p] 75 (0, 0)) ∧ wr.ownsRow w.heap.size 30 1 v k xs
  bel : Below w.heap.size w wr
  low : w.heap.size ≤ B
theorem Bg.step {w wr w2 : World} {B : Nat} {d m p v v2 : Value} {k : Nat} {xs ys : List Value} {o1 o2 : Obj} (hb : Below w.heap.size w wr) (hl : w.heap.size ≤ B) (hv : wr.heap[B]? = some (.cells #[d, m, v, p] 75 (0, 0))) (ho : wr.ownsRow w.heap.size 30 1 v k xs)
    (h2 : w2.ownsRow w.heap.size 30 1 v2 (k + 1) ys) (hg : ((wr.alloc o1).alloc o2).grownBy w2 v.ownBlock) :
    w2.cell? ⟨B, 2, none⟩ = some v ∧ w2.frozen? ⟨B, 2, none⟩ = false ∧ (∃ a c, v2 = .slice a (k + 1) c) ∧ Hid (Bg w (w2.setCell ⟨B, 2, none⟩ v2) B d m p (k + 1)) := by
  have hlt : B < wr.heap.size := (Array.getElem?_eq_some_iff.1 hv).1
  have n1 := row_off ho hv (by decide)
  have hv2 : w2.heap[B]? = some (.cells #[d, m, v, p] 75 (0, 0)) := by
    rw [hg.block B (by rw [World.size_alloc, World.size_alloc]; omega) (fun e => n1 e.symm), Below.heap_alloc _ _ _ (by rw [World.size_alloc]; omega), Below.heap_alloc _ _ _ hlt]
    exact hv
  have hbs := hb.size
  have hb2 : Below w.heap.size w ((wr.alloc o1).alloc o2) := (hb.alloc hb.size o1).alloc (by rw [World.size_alloc]; omega) o2
  have hb3 : Below w.heap.size w w2 := hb2.grown hg hb2.size (fun q e => (World.ownsRow.lt ho q e).1)
  refine ⟨cells_at hv2 2, cells_free hv2 2, row_slice h2, ⟨v2, ys, heap_set_at hv2 v2, row_set h2 (row_off h2 hv2 (by decide)) 2 v2⟩, hb3.setCell (p := ⟨B, 2, none⟩) hl _, hl⟩
theorem beginZ (w : World) : Calls Tryz.prog 14 #[] w fun r w' => ∃ B, r = .returned (.pointer (some ⟨B, 0, none⟩)) ∧ Below w.heap.size w w' := by
  obtain ⟨i0, hi0, hz0, hz1, hz2⟩ := info_parts infoBy
  have hmm := @run_makeMap Tryz.prog
  obtain ⟨MB, hMB⟩ : ∃ MB, madeCells #[.int .u8 0] 112 = MB := ⟨_, rfl⟩
  have hmb : ∀ w : World, (Instr.makeSlice 30 (.int .i64 112) (.int .i64 112)).run Tryz.prog w = .ok (.slice (some ⟨w.heap.size, 0, none⟩) 112 112) (w.alloc (.cells MB 5)) := fun w => by
    rw [← hMB]
    exact run_make_row' (P := Tryz.prog) 30 5 (.int .u8 0) 1 Tryz.underlying30 info5 rfl .i64 .i64 112 (by omega) (by omega) w
  clear hMB
  have HN : Calls Tryz.prog 29 #[.int .i64 46] w fun e w' => ∃ D, e = .returned (.tuple #[.pointer (some ⟨D, 0, none⟩), .int .i64 0]) ∧ Hid (Fresh w' D 46 ∧ Below w.heap.size w w') := by
    refine (newDisk 46 (by omega) (by omega) w).mono ?_
    rintro e w' ⟨D, rfl, h1, _, _, h2⟩
    exact ⟨D, rfl, h1, h2⟩
  have HA : Hid (∀ w1 D, Fresh w1 D 46 → Below w.heap.size w w1 → Calls Tryz.prog 13 #[.pointer (some ⟨D, 0, none⟩), .int .i64 40, .int .i64 6, .int .i64 2] w1 fun r w' => ∃ M, r = .returned (.tuple #[.pointer (some ⟨M, 0, none⟩), .int .i64 0]) ∧ Hid (Below w.heap.size w w')) := fun w1 D h1 h2 => by
    refine (ariesZ D w1 h1).mono ?_
    rintro r w' ⟨M, rfl, hb⟩
    exact ⟨M, rfl, h2.trans (hb.mono h2.size)⟩
  go_enter Tryz.func14, Tryz.ntmps14
  go_wp2_with first
    | (go_at_call 29; refine HN.mono ?_; clear HN; rintro r w1 ⟨D, rfl, HH⟩; have H13 := HA.out w1 D HH.out.1 HH.out.2; clear HA HH)
    | (go_at_call 13; refine H13.mono ?_; clear H13; rintro r w2 ⟨M, rfl, HB2⟩)
  have H0 : Hid (∀ wf, wf = (w2.alloc (.map #[] 0)).alloc (.cells #[.pointer (some ⟨D, 0, none⟩), .pointer (some ⟨M, 0, none⟩), .slice none 0 0, .map (some w2.heap.size)] 75) → Bg w wf (w2.heap.size + 1) (.pointer (some ⟨D, 0, none⟩)) (.pointer (some ⟨M, 0, none⟩)) (.map (some w2.heap.size)) 0) := fun wf hf => by
    subst hf
    have hb := HB2.out
    have hbs := hb.size
    refine ⟨⟨.slice none 0 0, [], heap_alloc_at _ _ _ (World.size_alloc ..).symm, World.ownsRow_nil _ _ _ _⟩, (hb.alloc hb.size _).alloc (by rw [World.size_alloc]; omega) _, by omega⟩
  have H0 := H0.out _ rfl
  generalize (Value.map (some w2.heap.size)) = mp at *
  generalize w2.heap.size + 1 = B at *
  go_loopw [26] (fun i wr => ∃ k : Nat, k ≤ 6 ∧ i = .int .i64 (k : Int) ∧ Hid (Bg w wr B (.pointer (some ⟨D, 0, none⟩)) (.pointer (some ⟨M, 0, none⟩)) mp k)) (fun i _ => 6 - (intOf i).toNat)
  case atStart => exact ⟨0, by omega, rfl, H0⟩
  case round =>
    clear H0 HB2
    obtain ⟨k, hk, rfl, HG⟩ := hrel
    by_cases hlt : k < 6
    · have hlt' : (k : Int) < 6 := by omega
      obtain ⟨v, xs, hv, ho⟩ := HG.out.ex
      have hbel := HG.out.bel
      have hlow := HG.out.low
      have hlB : B < wr.heap.size := (Array.getElem?_eq_some_iff.1 hv).1
      have k1 : wr.cell? ⟨B, 2, none⟩ = some v := cells_at hv 2
      have al1 : ∀ o, (wr.alloc o).cell? ⟨B, 2, none⟩ = some v := fun o => (World.cell?_alloc_past (w := wr) o _ 2 hlB).trans k1
      have al2 : ∀ o o', ((wr.alloc o).alloc o').cell? ⟨B, 2, none⟩ = some v := fun o o' => (World.cell?_alloc_past (w := wr.alloc o) o' _ 2 (by rw [World.size_alloc]; omega)).trans (al1 o)
      have HO : Hid (∀ o1 o2, ((wr.alloc o1).alloc o2).ownsRow w.heap.size 30 1 v k xs) := fun o1 o2 => World.ownsRow.alloc (World.ownsRow.alloc ho o1) o2
      have HN : Hid (∀ (o1 o2 : Obj) (v2 : Value) (w3 : World) (ys : List Value), w3.ownsRow w.heap.size 30 1 v2 (k + 1) ys → ((wr.alloc o1).alloc o2).grownBy w3 v.ownBlock → w3.cell? ⟨B, 2, none⟩ = some v ∧ w3.frozen? ⟨B, 2, none⟩ = false ∧ (∃ a c, v2 = .slice a (k + 1) c) ∧ Hid (Bg w (w3.setCell ⟨B, 2, none⟩ v2) B (.pointer (some ⟨D, 0, none⟩)) (.pointer (some ⟨M, 0, none⟩)) mp (k + 1))) := fun o1 o2 v2 w3 ys h2 hg => Bg.step hbel hlow hv ho h2 hg
      have hsz := hbel.size
      obtain ⟨av, cv, rfl⟩ := row_slice ho
      clear hv ho HG hbel
      go_wp2_with fail
      go_region_law (refine step_append_own_at rfl _ _ 73 rfl w.heap.size 30 i0 (.slice none 0 0) 1 24 Tryz.underlying73 hi0 hz0 hz1 hz2 rfl (by decide) (.slice av k cv) k xs (by go_simp) (by exact HO.out _ _) ⟨wr.heap.size + 1, 0, none⟩ 1 1 [.slice (some ⟨wr.heap.size, 0, none⟩) 112 112] (by go_simp) rfl (by first | exact one_new _ _ _ | (have := one_new (wr.alloc (.cells MB 5)) (.slice (some ⟨wr.heap.size, 0, none⟩) 112 112) 30; rw [World.size_alloc] at this; exact this)) (by intro u hu; simp at hu; subst hu; rfl) (by unfold maxLen; omega) (by omega) (by simp; omega) ?_; intro v2 w3 ho2 hg2 _; obtain ⟨x1, x2, ⟨gx, cx, hv2⟩, HE⟩ := HN.out _ _ v2 w3 _ ho2 (by first | exact grown_drew hg2 | exact hg2); subst hv2)
      all_goals
        go_wp2
        go_roundw
        case rel => exact ⟨k + 1, by omega, by first | rfl | go_num, HE.out⟩
        case measure => simp [intOf]; omega
    · obtain rfl : k = 6 := by omega
      go_wp2
      go_ret
      exact ⟨_, rfl, HG.out.bel⟩
end Go.Proofs.YtcifjpgimekcjaaGreatDoor
