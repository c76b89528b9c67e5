/-
  The law WireReads: the walk.
-/
import Derived.Test.YtabnclgmplihkaaCl
import Derived.Test.YtabnclgmplihkaaSpoil
namespace Go.Proofs.Ytabnclgmplihkaa
open Go.RowKit
set_option linter.unusedVariables false

/-- The list of looks: the k-th asks op k, at most most k. -/
def Looks (w : World) (ao : Option Addr) (len : Nat) (op most : Nat → Int) : Prop :=
  ∀ k, k < len → ∃ b o, ao = some ⟨b, o, none⟩ ∧ w.cell? ⟨b, o + k * 2, none⟩ = some (.int .i64 (op k)) ∧ w.cell? ⟨b, o + k * 2 + 1, none⟩ = some (.int .i64 (most k))

theorem wLeft_zero {w : World} {R : Nat} {ao : Option Addr} {cap : Nat} {f : Nat → Int} {n p : Nat} (h : RdInv w R ao cap f n p) (hz : n - p = 0) :
    Calls Try.prog 13 #[.pointer (some ⟨R, 0, none⟩)] w fun e w' => e = .returned (.int .i64 0) ∧ ∃ q, w' = w.drewN q := by
  have := wLeft h
  rw [hz] at this
  exact this
theorem wLeft_is {w : World} {R : Nat} {ao : Option Addr} {cap : Nat} {f : Nat → Int} {n p : Nat} (h : RdInv w R ao cap f n p) (m : Nat) (hm : n - p = m) :
    Calls Try.prog 13 #[.pointer (some ⟨R, 0, none⟩)] w fun e w' => e = .returned (.int .i64 (m : Int)) ∧ ∃ q, w' = w.drewN q := by
  have := wLeft h
  rw [hm] at this
  exact this
theorem wEnd_zero {w : World} {R : Nat} {ao : Option Addr} {cap : Nat} {f : Nat → Int} {n p : Nat} (h : RdInv w R ao cap f n p) (hz : n - p = 0) :
    Calls Try.prog 14 #[.pointer (some ⟨R, 0, none⟩)] w fun e w' => e = .returned (.int .i64 0) ∧ ∃ q, w' = w.drewN q := by
  have := wEnd h
  rw [if_pos hz] at this
  exact this
theorem wEnd_more {w : World} {R : Nat} {ao : Option Addr} {cap : Nat} {f : Nat → Int} {n p : Nat} (h : RdInv w R ao cap f n p) (hz : ¬ n - p = 0) :
    Calls Try.prog 14 #[.pointer (some ⟨R, 0, none⟩)] w fun e w' => e = .returned (.int .i64 14) ∧ ∃ q, w' = w.drewN q := by
  have := wEnd h
  rw [if_neg hz] at this
  exact this

def bV (f : Nat → Int) (n p : Nat) : Int := if n - p = 0 then 0 else f p
def bE (n p : Nat) : Int := if n - p = 0 then 10 else 0
def bP (n p : Nat) : Nat := if n - p = 0 then p else p + 1
theorem wByteD {w : World} {R : Nat} {ao : Option Addr} {cap : Nat} {f : Nat → Int} {n p : Nat} (h : RdInv w R ao cap f n p) :
    Calls Try.prog 9 #[.pointer (some ⟨R, 0, none⟩)] w fun e w' => e = .returned (.tuple #[.int .u8 (bV f n p), .int .i64 (bE n p)]) ∧ RdInv w' R ao cap f n (bP n p) ∧ Only R w w' := wByte h
theorem xByteD {w : World} {X L : Nat} {f : Nat → Int} {n p : Nat} (h : RefInv w X L f n p) :
    Calls Try.prog 10 #[.pointer (some ⟨X, 0, none⟩)] w fun e w' => e = .returned (.tuple #[.int .u8 (bV f n p), .int .i64 (bE n p)]) ∧ RefInv w' X L f n (bP n p) ∧ Only X w w' := xByte h

/-- The two readers stand apart: what is done to the one leaves the other. -/
theorem RdInv.beside {w w' : World} {R : Nat} {ao : Option Addr} {cap : Nat} {f : Nat → Int} {n p p' X L : Nat} (h : RdInv w R ao cap f n p) (hx : RefInv w X L f n p') (ho : Only X w w') (hne : R ≠ X) : RdInv w' R ao cap f n p := by
  refine h.kept (ho.block R hne) fun g hg hn => ho.block g ?_
  intro e
  subst e
  obtain ⟨ao', c', x1, _⟩ := hx.lies
  rcases h.lies with ⟨h1, _⟩ | ⟨g', h1, h2⟩
  · rw [h1] at hg; cases hg
  · rw [h1] at hg
    cases hg
    have := h2 0 hn
    rw [x1] at this
    cases this
theorem RefInv.lt {w : World} {X L : Nat} {f : Nat → Int} {n p : Nat} (h : RefInv w X L f n p) : X < w.heap.size := by
  obtain ⟨ao', c', x1, _⟩ := h.lies
  exact World.block_lt_of_cell? w ⟨X, 0, none⟩ x1
theorem RefInv.alloc {w : World} {X L : Nat} {f : Nat → Int} {n p : Nat} (h : RefInv w X L f n p) (o : Obj) : RefInv (w.alloc o) X L f n p :=
  h.kept (Below.heap_alloc _ _ _ h.lt) fun k hk => Below.heap_alloc _ _ _ (by have := h.lt; have := h.hL; omega)
theorem RefInv.beside {w w' : World} {X L R : Nat} {f : Nat → Int} {n p : Nat} (h : RefInv w X L f n p) (ho : Only R w w') (hne : R ≠ X) (hL : L ≤ R) : RefInv w' X L f n p :=
  h.kept (ho.block X (fun e => hne e.symm)) fun k hk => ho.block k (by omega)
theorem RefInv.drewN {w : World} {X L : Nat} {f : Nat → Int} {n p : Nat} (h : RefInv w X L f n p) (q : Nat) : RefInv (w.drewN q) X L f n p := h.kept rfl (fun _ _ => rfl)

theorem reads_start {w w1 w2 : World} {a0 ao2 ao3 : Option Addr} {n c cap2 cap3 R : Nat} {f : Nat → Int} (hbig : n ≤ 140737488351232) (hby : ∀ i, 0 ≤ f i ∧ f i ≤ 255) (hnc : n ≤ c) (hc : c ≤ 9223372036854775807) (hcell : From w a0 n f)
    (hown : Owned w1 w.heap.size ao2 n cap2 f) (hb1 : Below w.heap.size w w1) (hrd : RdInv w2 R ao3 cap3 f n 0) (r1 : w1.heap.size ≤ R) (r2 : ∀ g, ao3 = some ⟨g, 0, none⟩ → w1.heap.size ≤ g) (r3 : R < w2.heap.size) (hb2 : Below w1.heap.size w1 w2) (t : TypeId) :
    ∀ wr, SpoiltO ao2 n (w2.alloc (.cells #[.slice a0 n c] t)) wr → RdInv wr R ao3 cap3 f n 0 ∧ RefInv wr w2.heap.size w.heap.size f n 0 ∧ Below w.heap.size w wr ∧ R ≠ w2.heap.size ∧ w.heap.size ≤ R := by
  intro wr hs
  have s1 := hb1.size
  have s2 := hb2.size
  have hb : Below w.heap.size w (w2.alloc (.cells #[.slice a0 n c] t)) := (hb1.trans (hb2.mono s1)).alloc (by omega) _
  have hx : RefInv (w2.alloc (.cells #[.slice a0 n c] t)) w2.heap.size w.heap.size f n 0 := by
    refine ⟨Nat.zero_le _, by omega, hby, by rw [World.frozen?_alloc_at _ _ _ _ rfl], by omega, a0, c, by rw [World.cell?_alloc_at _ _ _ _ rfl]; rfl, by omega, hc, ?_⟩
    by_cases hn : n = 0
    · exact .inl (by omega)
    · right
      rcases hcell with ⟨_, h⟩ | ⟨⟨b, off, spot⟩, h1, h2⟩
      · exact absurd h hn
      · have h0 := h2 0 (by omega)
        have hspot : spot = none := by simpa [Addr.add] using World.cell?_spot h0
        subst hspot
        have hlt : b < w.heap.size := World.block_lt_of_cell? w ⟨b, off, none⟩ (by simpa [Addr.add] using h0)
        refine ⟨b, off, h1, hlt, fun i hi => ?_⟩
        rw [hb.cell (p := ⟨b, off + i, none⟩) hlt, ← Addr.add_lit, h2 i (by omega)]
        simp [sh]
  have hr := hrd.alloc (.cells #[.slice a0 n c] t)
  rcases hs with ⟨_, rfl⟩ | ⟨g, hg, hs⟩
  · exact ⟨hr, hx, hb, by omega, by omega⟩
  · rcases hown with ⟨h1, _⟩ | ⟨g', h1, _, h3, h4, _⟩
    · rw [h1] at hg; cases hg
    · rw [h1] at hg
      cases hg
      refine ⟨hr.kept (hs.only.block R (by omega)) (fun g2 hg2 _ => hs.only.block g2 (by have := r2 g2 hg2; omega)), hx.kept (hs.only.block _ (by omega)) (fun k hk => hs.only.block k (by omega)), hb.trans (hs.only.below h3), by omega, by omega⟩

set_option maxRecDepth 100000 in
set_option maxHeartbeats 1000000 in
theorem reads_walk (a0 : Option Addr) (n c : Nat) (f : Nat → Int) (ao1 : Option Addr) (len1 cap1 : Nat) (op most : Nat → Int) (w : World) (hbig : n ≤ 140737488351232) (hby : ∀ i, 0 ≤ f i ∧ f i ≤ 255) (hnc : n ≤ c) (hc : c ≤ 9223372036854775807)
    (hcell : From w a0 n f) (hlen : len1 * 16 ≤ 140737488351232) (hl : Looks w ao1 len1 op most) :
    Calls Try.prog 3 #[.slice a0 n c, .slice ao1 len1 cap1] w fun e w' => e = .returned (.bool true) ∧ Below w.heap.size w w' := by
  go_enter Try.func3, Try.ntmps3
  go_wp2_with fail
  refine (clone_any a0 n c f w (by omega) hcell).mono ?_
  rintro e w1 ⟨ao2, cap2, rfl, hown, hb1⟩
  go_wp2_with fail
  refine (over_any ao2 n cap2 f w1 (by omega) hby hown.from_ ?_).mono ?_
  · intro h0
    rcases hown with ⟨_, _, h⟩ | ⟨g, h, _⟩
    · exact h
    · rw [h] at h0; cases h0
  rintro e w2 ⟨R, ao3, cap3, rfl, hrd, r1, r2, r3, hb2⟩
  have Hstart : Hid (∀ wr, SpoiltO ao2 n (w2.alloc (.cells #[.slice a0 n c] 29)) wr → RdInv wr R ao3 cap3 f n 0 ∧ RefInv wr w2.heap.size w.heap.size f n 0 ∧ Below w.heap.size w wr ∧ R ≠ w2.heap.size ∧ w.heap.size ≤ R) := reads_start hbig hby hnc hc hcell hown hb1 hrd r1 r2 r3 hb2 29
  have hsp : SpoiltO ao2 n (w2.alloc (.cells #[.slice a0 n c] 29)) (w2.alloc (.cells #[.slice a0 n c] 29)) := by
    rcases hown with ⟨h1, h2, h3⟩ | ⟨g1, h1, h2, h3, h4, h5, h6⟩
    · exact .inl ⟨h2, rfl⟩
    · refine .inr ⟨g1, h1, Only.refl _ _, fun j hj => ⟨f j, ?_⟩, fun j hj => ?_⟩
      · rw [World.cell?_alloc_past _ _ _ (by have := hb2.size; omega), hb2.cell (p := ⟨g1, j, none⟩) h4]
        exact own_cell h2 j hj
      · rw [World.frozen?_alloc_past _ _ _ (by have := hb2.size; omega), hb2.frozen (p := ⟨g1, j, none⟩) h4]
        exact h2.frozenAt j
  clear hown hrd hb1 hb2 hcell r1 r2 r3
  go_wp2_with fail
  go_loopw [33] (fun i wr => ∃ k : Nat, k ≤ n ∧ i = .int .i64 k ∧ SpoiltO ao2 n (w2.alloc (.cells #[.slice a0 n c] 29)) wr) (fun i _ => n - (intOf i).toNat)
  case atStart => exact ⟨0, Nat.zero_le _, rfl, hsp⟩
  case round =>
    clear hsp
    obtain ⟨k, hk, rfl, hs⟩ := hrel
    by_cases hlt : k < n
    · obtain ⟨g1, rfl, hs1⟩ := hs.resolve_left (fun h => by omega)
      clear hs
      obtain ⟨v, hv⟩ := hs1.cells k hlt
      have hfz := hs1.free k hlt
      have hnext := hs1.set k hlt (bits .xor .u8 v 255)
      have hlt' : (k : Int) < (n : Int) := by omega
      go_wp2
      go_roundw
      case rel => exact ⟨k + 1, by omega, by go_num, .inr ⟨g1, rfl, hnext⟩⟩
      case measure => simp [intOf]; omega
    · obtain ⟨i1, i2, i3, i4, i5⟩ := Hstart.out wr hs
      clear Hstart hs
      have i2L := i2.hL
      generalize w2.heap.size = X at *
      go_wp2_with fail
      go_loopw [45] (fun i wr => ∃ k p : Nat, k ≤ len1 ∧ i = .int .i64 k ∧ RdInv wr R ao3 cap3 f n p ∧ RefInv wr X w.heap.size f n p ∧ Below w.heap.size w wr) (fun i _ => len1 - (intOf i).toNat)
      case atStart => exact ⟨0, 0, Nat.zero_le _, rfl, i1, i2, i3⟩
      case round =>
        clear i1 i2 i3
        obtain ⟨j, p, hj, rfl, i1, i2, i3⟩ := hrel
        by_cases hjl : j < len1
        · obtain ⟨bl, ol, rfl, c1, c2⟩ := hl j hjl
          have c1' := (i3.cell (p := ⟨bl, ol + j * 2, none⟩) (World.block_lt_of_cell? w _ c1)).trans c1
          have c2' := (i3.cell (p := ⟨bl, ol + j * 2 + 1, none⟩) (World.block_lt_of_cell? w _ c2)).trans c2
          have hlt' : (j : Int) < (len1 : Int) := by omega
          clear c1 c2
          go_wp2_with fail
          · refine (wUint (i1.alloc _)).mono ?_
            rintro e w3 ⟨rfl, j1, o1⟩
            have j2 := (i2.alloc (.cells #[.int .i64 (op j), .int .i64 (most j)] 31)).beside o1 i4 i5
            have jb := (i3.alloc i3.size (.cells #[.int .i64 (op j), .int .i64 (most j)] 31)).trans (o1.below i5)
            clear i1 i2 i3 o1
            go_wp2_with fail
            refine (xUint j2).mono ?_
            rintro e w4 ⟨rfl, j4, o2⟩
            have j5 := j1.beside j2 o2 i4
            have jb := jb.trans (o2.below i2L)
            clear j1 j2 o2
            generalize p + (Wm.num (sh f p) (n - p)).2.1.toNat = p' at *
            obtain ⟨ao, c', x1, x2, x3, x4⟩ := j4.lies
            clear x4
            obtain ⟨m, hm⟩ : ∃ m, n - p' = m := ⟨_, rfl⟩
            rw [hm] at x1
            have HM : Hid (n - p' = m) := hm
            clear hm x2 x3
            by_cases hz : m = 0
            · subst hz
              go_wp2_with fail
              go_quiet (first | (go_at_call 13; exact Calls.quiet_of (wLeft_zero (j5.drewN _) HM.out)) | (go_at_call 14; exact Calls.quiet_of (wEnd_zero (j5.drewN _) HM.out)))
              go_wp2
              go_roundw
              case rel => exact ⟨j + 1, p', by omega, by go_num, j5.drewN _, j4.drewN _, blw_drewN _ jb⟩
              case measure => simp [intOf]; omega
            · have hz1 : ((m : Int) == 0) = false := by simp; omega
              have HZ : Hid (¬ n - p' = 0) := (by rw [HM.out]; exact hz : ¬ n - p' = 0)
              clear hz
              go_wp2_with fail
              go_quiet (first | (go_at_call 13; exact Calls.quiet_of (wLeft_is (j5.drewN _) m HM.out)) | (go_at_call 14; exact Calls.quiet_of (wEnd_more (j5.drewN _) HZ.out)))
              go_wp2
              go_roundw
              case rel => exact ⟨j + 1, p', by omega, by go_num, j5.drewN _, j4.drewN _, blw_drewN _ jb⟩
              case measure => simp [intOf]; omega
          · refine (wByteD (i1.alloc _)).mono ?_
            rintro e w3 ⟨rfl, j1, o1⟩
            have j2 := (i2.alloc (.cells #[.int .i64 (op j), .int .i64 (most j)] 31)).beside o1 i4 i5
            have jb := (i3.alloc i3.size (.cells #[.int .i64 (op j), .int .i64 (most j)] 31)).trans (o1.below i5)
            clear i1 i2 i3 o1
            go_wp2_with fail
            refine (xByteD j2).mono ?_
            rintro e w4 ⟨rfl, j4, o2⟩
            have j5 := j1.beside j2 o2 i4
            have jb := jb.trans (o2.below i2L)
            clear j1 j2 o2
            generalize bP n p = p' at *
            obtain ⟨ao, c', x1, x2, x3, x4⟩ := j4.lies
            clear x4
            obtain ⟨m, hm⟩ : ∃ m, n - p' = m := ⟨_, rfl⟩
            rw [hm] at x1
            have HM : Hid (n - p' = m) := hm
            clear hm x2 x3
            by_cases hz : m = 0
            · subst hz
              go_wp2_with fail
              go_quiet (first | (go_at_call 13; exact Calls.quiet_of (wLeft_zero (j5.drewN _) HM.out)) | (go_at_call 14; exact Calls.quiet_of (wEnd_zero (j5.drewN _) HM.out)))
              go_wp2
              go_roundw
              case rel => exact ⟨j + 1, p', by omega, by go_num, j5.drewN _, j4.drewN _, blw_drewN _ jb⟩
              case measure => simp [intOf]; omega
            · have hz1 : ((m : Int) == 0) = false := by simp; omega
              have HZ : Hid (¬ n - p' = 0) := (by rw [HM.out]; exact hz : ¬ n - p' = 0)
              clear hz
              go_wp2_with fail
              go_quiet (first | (go_at_call 13; exact Calls.quiet_of (wLeft_is (j5.drewN _) m HM.out)) | (go_at_call 14; exact Calls.quiet_of (wEnd_more (j5.drewN _) HZ.out)))
              go_wp2
              go_roundw
              case rel => exact ⟨j + 1, p', by omega, by go_num, j5.drewN _, j4.drewN _, blw_drewN _ jb⟩
              case measure => simp [intOf]; omega
          · refine (wText (i1.alloc _) (most j)).mono ?_
            rintro e w3 ⟨rfl, j1, o1⟩
            have j2 := (i2.alloc (.cells #[.int .i64 (op j), .int .i64 (most j)] 31)).beside o1 i4 i5
            have jb := (i3.alloc i3.size (.cells #[.int .i64 (op j), .int .i64 (most j)] 31)).trans (o1.below i5)
            have cM : w3.cell? ⟨wr.heap.size, 1, none⟩ = some (.int .i64 (most j)) := (o1.cell (p := ⟨wr.heap.size, 1, none⟩) (by have := i1.lt; show wr.heap.size ≠ R; omega)).trans (by rw [World.cell?_alloc_at _ _ _ _ rfl]; rfl)
            clear i1 i2 i3 o1
            go_wp2_with fail
            refine (xText j2 (most j)).mono ?_
            rintro e w4 ⟨rfl, j4, o2⟩
            have j5 := j1.beside j2 o2 i4
            have jb := jb.trans (o2.below i2L)
            clear j1 j2 o2
            generalize (txt f n p (most j)).2.2 = p' at *
            obtain ⟨ao, c', x1, x2, x3, x4⟩ := j4.lies
            clear x4
            obtain ⟨m, hm⟩ : ∃ m, n - p' = m := ⟨_, rfl⟩
            rw [hm] at x1
            have HM : Hid (n - p' = m) := hm
            clear hm x2 x3
            by_cases hz : m = 0
            · subst hz
              go_wp2_with fail
              go_quiet (first | (go_at_call 13; exact Calls.quiet_of (wLeft_zero (j5.drewN _) HM.out)) | (go_at_call 14; exact Calls.quiet_of (wEnd_zero (j5.drewN _) HM.out)))
              go_wp2
              go_roundw
              case rel => exact ⟨j + 1, p', by omega, by go_num, j5.drewN _, j4.drewN _, blw_drewN _ jb⟩
              case measure => simp [intOf]; omega
            · have hz1 : ((m : Int) == 0) = false := by simp; omega
              have HZ : Hid (¬ n - p' = 0) := (by rw [HM.out]; exact hz : ¬ n - p' = 0)
              clear hz
              go_wp2_with fail
              go_quiet (first | (go_at_call 13; exact Calls.quiet_of (wLeft_is (j5.drewN _) m HM.out)) | (go_at_call 14; exact Calls.quiet_of (wEnd_more (j5.drewN _) HZ.out)))
              go_wp2
              go_roundw
              case rel => exact ⟨j + 1, p', by omega, by go_num, j5.drewN _, j4.drewN _, blw_drewN _ jb⟩
              case measure => simp [intOf]; omega
        · obtain ⟨ao, c', x1, x2, x3, x4⟩ := i2.lies
          clear x4
          obtain ⟨m, hm⟩ : ∃ m, n - p = m := ⟨_, rfl⟩
          rw [hm] at x1
          have HM : Hid (n - p = m) := hm
          clear hm x2 x3
          go_wp2_with fail
          go_quiet ((go_at_call 13; exact Calls.quiet_of (wLeft_is (i1.drewN _) m HM.out)))
          go_wp2
          go_ret
          exact ⟨rfl, blw_drewN _ i3⟩
end Go.Proofs.Ytabnclgmplihkaa
