/-
  Contract of the law's own records. Conditions: nothing pends on the disk; the library's table of sums is as it starts.
-/
import Derived.Test.YtmjoklppibfdmaaDoorLogJ
namespace Go.Proofs.YtmjoklppibfdmaaDoor
open Go.RowKit
set_option linter.unusedVariables false

set_option maxRecDepth 100000 in
set_option maxHeartbeats 1000000 in
theorem recsD (D n : Nat) (F : Nat → Prop) (e : Nat → Int) (w : World) (h : Sd w D F n 0 e) (ht : Tab w) :
    Calls Tryd.prog 20 #[.pointer (some ⟨D, 0, none⟩)] w fun r w' => ∃ v fi tot R size A C, r = .returned v ∧ Hid (Has e n fi tot) ∧ Hid (Parsed (lg e) tot R size) ∧ Hid (RecG w' w.heap.size v R.length A (lenF R) C (bytF (lg e) R)) ∧ Below w.heap.size w w' := by
  obtain ⟨n1, n2⟩ := h.n2
  have tl := ht.lt
  have HC : Hid (Calls Tryd.prog 17 #[.pointer (some ⟨D, 0, none⟩)] w fun r w1 => ∃ D', r = .returned (.pointer (some ⟨D', 0, none⟩)) ∧ Hid (Calls Tryd.prog 43 #[.pointer (some ⟨D, 0, none⟩)] w1 fun r w2 => r = .returned (.int .i64 (n : Int)) ∧ w2 = w1) ∧ Hid (Calls Tryd.prog 31 #[.pointer (some ⟨D', 0, none⟩), .int .i64 0, .int .i64 (n : Int)] w1 fun r w' => ∃ L v fi tot R size A C, r = .returned (.tuple #[.pointer (some ⟨L, 0, none⟩), v, .int .i64 0]) ∧ Hid (Has e n fi tot) ∧ Hid (Parsed (lg e) tot R size) ∧ Hid (RecG w' w.heap.size v R.length A (lenF R) C (bytF (lg e) R)) ∧ Below w.heap.size w w')) := by
    refine (sdCopy D n 0 F e w h (by omega)).mono ?_
    rintro r w1 ⟨D', rfl, s1, b1⟩
    have hs := b1.size
    refine ⟨D', rfl, sdSectors D n 0 F e w1 (h.below b1), ?_⟩
    refine (openL D' n 0 n _ e w1 s1 (by omega) (by omega) (ht.below b1 (Nat.le_refl _)) (by omega)).mono ?_
    rintro r w2 ⟨L, v, first, tot, size, R, rfl, hO⟩
    obtain ⟨e', P, hL, hP, A, C, hG, _⟩ := lgs_opened hO (fun k hk => hk.2) s1.by_
    have hH := hO.has
    have hp := hO.prs
    rw [from0_zero] at hH hp
    refine ⟨L, v, first, tot, R, size, A, C, rfl, hH, hp, hG.mono hs, ?_⟩
    exact b1.trans (hO.part.below (fun k hk => hk.1) hs)
  clear h ht
  go_enter Tryd.func20, Tryd.ntmps20
  go_wp2_with fail
  refine HC.out.mono ?_
  rintro r w1 ⟨D', rfl, HS, HO⟩
  go_wp2_with fail
  refine HS.out.mono ?_
  rintro r w2 ⟨rfl, hw⟩
  obtain rfl : w1 = w2 := hw.symm
  clear hw
  go_wp2_with fail
  refine HO.out.mono ?_
  rintro r w3 ⟨L, v, fi, tot, R, size, A, C, rfl, k1, k2, k3, k4⟩
  go_wp2
  go_ret
  exact ⟨v, fi, tot, R, size, A, C, rfl, k1, k2, k3, k4⟩

/-- The records of a disk that holds a log's bytes. -/
theorem Kept.recs {e : Nat → Int} {n first : Nat} {f : Nat → Int} {z : Nat} (h : Kept e n first f z) (hn : 0 < n) {fi tot size : Nat} {R R' : List (Nat × Nat)} (hH : Has e n fi tot) (hp : Parsed (lg e) tot R' size) (hR : PrsTo f z R z) : tot = z ∧ R' = R := by
  obtain ⟨fi', h1, _⟩ := h.has hn
  obtain ⟨_, rfl⟩ := hH.uniq h1
  have h2 : Parsed (lg e) tot R tot := ⟨hR.ext (fun i hi => (h.eq i hi).symm), stops_end _ _⟩
  exact ⟨rfl, (hp.uniq h2).1⟩
end Go.Proofs.YtmjoklppibfdmaaDoor
