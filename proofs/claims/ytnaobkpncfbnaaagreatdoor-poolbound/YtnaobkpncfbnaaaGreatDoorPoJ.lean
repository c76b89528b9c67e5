/-
  A pool's calls over clean pages: Held.
-/
import Derived.Test.YtnaobkpncfbnaaaGreatDoorPoI
namespace Go.Proofs.YtnaobkpncfbnaaaGreatDoor
open Go.RowKit
set_option linter.unusedVariables false

/-- The slice's numbers are xs, in memory from block B on. -/
def OwnI (w : World) (B : Nat) (v : Value) (xs : List Int) : Prop := w.ownsRow B 3 1 v xs.length (xs.map (Value.int .i64))
theorem lst_snoc1 (f : Nat → Int) (m : Nat) : lst f m ++ [f m] = lst f (m + 1) := by
  unfold lst
  rw [List.range_succ, List.map_append]
  rfl
theorem OwnI.nil (w : World) (B : Nat) (f : Nat → Int) : OwnI w B (.slice none 0 0) (lst f 0) := ⟨by simp, .inl ⟨rfl, by simp [lst_length]⟩⟩
theorem OwnI.any {w : World} {B n : Nat} {v : Value} {f : Nat → Int} (h : OwnI w B v (lst f n)) : ∃ a c, v = .slice a n c := by
  have h9 := h.2
  rw [lst_length] at h9
  rcases h9 with ⟨rfl, h0⟩ | ⟨g, cap, cur, rfl, _⟩
  · rw [h0]; exact ⟨none, 0, rfl⟩
  · exact ⟨_, cap, rfl⟩
/-- What Held leaves: the pages, as numbers in memory of their own. -/
def Hld [E : Ext] (wb w w' : World) (S D L bf n : Nat) (X : Nat → Bf) (v : Value) : Prop := Pz wb w' S 0 D L bf n X ∧ OwnI w' w.heap.size v (lst (fun j => ((X j).pg : Int)) n)
set_option maxRecDepth 100000 in
set_option maxHeartbeats 2000000 in
theorem z_held [E : Ext] {wb w : World} {S D L bf n : Nat} {X : Nat → Bf} (k : Pz wb w S 0 D L bf n X) : Calls Tryz.prog 21 #[.pointer (some ⟨S + 1, 0, none⟩)] w fun r w' => ∃ v, r = .returned v ∧ Hid (Hld wb w w' S D L bf n X v) := by
  obtain ⟨i0, hi0, hz0, hz1, hz2⟩ := info_parts info3
  have HM : Hid (Calls Tryz.prog 40 #[.pointer (some ⟨S + 1, 0, none⟩)] w fun r w' => r = .returned (.bool false) ∧ w' = w) := z_missing k
  have HL : Hid (Calls Tryz.prog 41 #[.pointer (some ⟨S, 0, none⟩)] w fun r w' => r = .returned (.tuple #[]) ∧ Hid (w'.heap.size = w.heap.size ∧ Pz wb w' S 1 D L bf n X)) := (p_lock S w k.lock_cell.1 k.lock_cell.2).mono fun r w' ⟨hr, hw⟩ => ⟨hr, by rw [hw]; exact ⟨by simp, k.locked 1⟩⟩
  have c0 := k.cells
  have nb : n ≤ 5 := by have := k.nb; omega
  have HC : Hid (∀ wq, Pz wb wq S 1 D L bf n X → wq.cell? ⟨S + 1, 0, none⟩ = some (.pointer (some ⟨S, 0, none⟩)) ∧ ∃ a c, wq.cell? ⟨S, 7, none⟩ = some (.slice a n c) ∧ Hid (0 < n → ∃ g, a = some ⟨g, 0, none⟩) ∧ Hid (∀ g, a = some ⟨g, 0, none⟩ → ∀ j, j < n → ∀ w9, Below wq.heap.size wq w9 → w9.cell? ⟨g, j, none⟩ = some (ptr (X j).b) ∧ w9.cell? ⟨(X j).b, 0, none⟩ = some (.int .i64 ((X j).pg : Int)))) := fun wq kq => by
    obtain ⟨held, h1, h2⟩ := kq.ps.lay
    have c7 : wq.cell? ⟨S, 7, none⟩ = some held := by rw [cells_at h1 7]; rfl
    rcases h2.open with ⟨rfl, rfl⟩ | ⟨g, c, cur, rfl, g2, g3, g4, g5, g6⟩
    · exact ⟨kq.cells, none, _, c7, fun h => absurd h (by omega), fun g e => by cases e⟩
    · refine ⟨kq.cells, _, c, c7, fun _ => ⟨g, rfl⟩, fun g' e j hj w9 h9 => ?_⟩
      injection e with e
      injection e with e
      subst e
      have k9 := kq.below h9
      refine ⟨?_, by rw [cells_at (k9.ps.buf j hj) 0]; rfl⟩
      rw [h9.cell (p := ⟨g, j, none⟩) (World.block_lt_of_cell? wq _ (h2.cell j hj).1)]
      exact (h2.cell j hj).1
  have HU : Hid (∀ wq w9 v, wq.heap.size = w.heap.size ∧ Pz wb wq S 1 D L bf n X → Below wq.heap.size wq w9 → OwnI w9 wq.heap.size v (lst (fun j => ((X j).pg : Int)) n) → CallsD Tryz.prog 42 #[.pointer (some ⟨S, 0, none⟩)] .returning w9 fun e u' w' => u' = .returning ∧ (e = .returned (.tuple #[]) ∧ Hid (Hld wb w w' S D L bf n X v))) := fun wq w9 v ⟨e1, kq⟩ h9 ho => by
    have k9 := kq.below h9
    refine (unlock_deferred ⟨S, 0, none⟩ .returning w9 k9.lock_cell.1 k9.lock_cell.2).mono fun e u' w' ⟨h1, h2, h3⟩ => ⟨h1, h2, ?_, ?_⟩
    · rw [h3]; exact k9.locked 0
    · rw [h3]
      have := kq.ps.lt
      unfold OwnI at ho ⊢
      rw [← e1]
      exact row_set ho (fun e => by have := (World.ownsRow.lt ho _ e).1; omega) 0 _
  clear k
  go_enter_defers Tryz.func21, Tryz.ntmps21
  go_wp2_with fail
  refine HM.out.mono ?_
  rintro r w1 ⟨rfl, hw⟩
  obtain rfl : w = w1 := hw.symm
  clear hw
  go_wp2_with fail
  refine HL.out.mono ?_
  rintro r w1 ⟨rfl, k1⟩
  obtain ⟨c1, a7, l7, c7, HG, HJ⟩ := HC.out _ k1.out.2
  clear c0 HM HL
  go_wp2
  go_loopw [3, 30] (fun s i wr => ∃ k : Nat, k ≤ n ∧ i = .int .i64 (k : Int) ∧ (∃ a c, s = .slice a k c) ∧ Hid (Below w1.heap.size w1 wr ∧ OwnI wr w1.heap.size s (lst (fun j => ((X j).pg : Int)) k))) (fun _ i _ => n - (intOf i).toNat)
  case atStart => exact ⟨0, Nat.zero_le _, rfl, ⟨none, 0, rfl⟩, Below.refl _ _, OwnI.nil _ _ _⟩
  case round =>
    obtain ⟨k, hk, rfl, ⟨a3, c3, rfl⟩, HI⟩ := hrel
    by_cases hlt : k < n
    · obtain ⟨g, rfl⟩ := HG.out (by omega)
      obtain ⟨x1, x2⟩ := HJ.out g rfl k hlt _ HI.out.1
      unfold ptr at x1
      have hg := World.block_lt_of_cell? _ _ x1
      obtain ⟨P, hP⟩ : ∃ P, (fun j => ((X j).pg : Int)) = P := ⟨_, rfl⟩
      have hPk : ((X k).pg : Int) = P k := by rw [← hP]
      rw [hP] at HI
      rw [hPk] at x2
      obtain ⟨nw, hnw⟩ : ∃ nw, ([.int .i64 (P k)] : List Value) = nw := ⟨_, rfl⟩
      have hl1 : nw.length = 1 * 1 := by rw [← hnw]; rfl
      have HO1 : Hid (∀ u ∈ nw, u.oneCell' = true) := by rw [← hnw]; exact fun u hu => by simp at hu; rw [hu]; rfl
      have hsz := HI.out.1.size
      have HA : Hid (∀ o, (wr.alloc o).ownsRow w1.heap.size 3 1 (.slice a3 k c3) k ((lst P k).map (Value.int .i64))) := fun o => by
        have := HI.out.2
        unfold OwnI at this
        rw [lst_length] at this
        exact World.ownsRow.alloc this o
      have HN : Hid (∀ v' w2, w2.ownsRow w1.heap.size 3 1 v' (k + 1) ((lst P k).map (Value.int .i64) ++ nw) → (wr.alloc (Obj.cells #[.int .i64 (P k)] 3)).grownBy w2 (Value.slice a3 k c3).ownBlock → Below w1.heap.size w1 w2 ∧ OwnI w2 w1.heap.size v' (lst P (k + 1))) := fun v' w2 h g => by
        refine ⟨(HI.out.1.trans ((Below.refl _ wr).alloc hsz _)).trans ((Below.refl _ _).grown g (by simp; omega) (fun q hq => (World.ownsRow.lt (HA.out (Obj.cells #[.int .i64 (P k)] 3)) q hq).1)), ?_⟩
        unfold OwnI
        rw [lst_length, ← lst_snoc1, List.map_append]
        rw [← hnw] at h
        exact h
      have HL : Hid (∀ (j : Nat) (u : Value), nw[j]? = some u → ([Value.int .i64 (P k)] : List Value)[j]? = some u) := fun j u hu => by rw [hnw]; exact hu
      have l1 : (k : Int) < (n : Int) := by omega
      have l2 : (0 : Int) ≤ (k : Int) := by omega
      clear hnw hPk HI
      go_wp2_with (at_builtin; refine wpList_append_own _ rfl _ _ 55 rfl w1.heap.size 3 i0 (.int .i64 0) 1 8 Tryz.underlying55 hi0 hz0 hz1 hz2 rfl (by decide) (.slice a3 k c3) k ((lst P k).map (Value.int .i64)) rfl (HA.out _) ⟨wr.heap.size, 0, none⟩ 1 1 nw rfl hl1 ?q1 ?q2 ?q3 ?q4 ?q5 ?_)
      case q1 => exact HL.out
      case q2 => exact HO1.out
      case q3 => unfold maxLen; omega
      case q4 => omega
      case q5 => first | omega | (simp; omega)
      intro v2 w2 ho2 hg2 _
      have HI2 : Hid (Below w1.heap.size w1 w2 ∧ OwnI w2 w1.heap.size v2 (lst P (k + 1))) := HN.out v2 w2 ho2 hg2
      obtain ⟨a4, c4, rfl⟩ := HI2.out.2.any
      clear HN HA HL ho2 hg2
      go_wp2
      go_roundw
      case rel => exact ⟨k + 1, by omega, by go_num, ⟨_, _, rfl⟩, by rw [hP]; exact HI2.out⟩
      case measure => simp [intOf]; omega
    · obtain rfl : k = n := by omega
      go_wp2
      refine leaves_cons (f := 42) (args := #[.pointer (some ⟨S, 0, none⟩)]) (by simp) (by simp [go_sem]) ?_
      refine (HU.out w1 _ _ k1.out HI.out.1 HI.out.2).mono ?_
      rintro e u' w9 ⟨rfl, rfl, HZ⟩
      exact ⟨_, results_tmp rfl _ _ _, .slice a3 k c3, rfl, HZ⟩
