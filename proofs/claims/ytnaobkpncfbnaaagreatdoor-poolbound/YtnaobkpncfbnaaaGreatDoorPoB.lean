/-
  A pool's state: the buffers that are held; find, idle, drop, use.
-/
import Derived.Test.YtnaobkpncfbnaaaGreatDoorPoA
namespace Go.Proofs.YtnaobkpncfbnaaaGreatDoor
open Go.RowKit
set_option linter.unusedVariables false

/-- A buffer: its block, page, record, the record that made it dirty, pins; its load. -/
structure Bf where
  b : Nat
  pg : Nat
  ls : Nat
  fi : Nat
  pn : Nat
  ld : Value
def bufO (x : Bf) : Obj := .cells #[.int .i64 (x.pg : Int), .int .i64 (x.ls : Int), x.ld, .int .i64 (x.fi : Int), .int .i64 (x.pn : Int)] 111
def stO (m : Int) (D L fr pg bf : Nat) (held : Value) : Obj := .cells #[.int .i32 m, .int .u32 0, .pointer (some ⟨D, 0, none⟩), .pointer (some ⟨L, 0, none⟩), .int .i64 (fr : Int), .int .i64 (pg : Int), .int .i64 (bf : Int), held] 91
/-- A pool's state in memory. -/
structure Ps (B0 : Nat) (w : World) (S : Nat) (m : Int) (D L fr pg bf n : Nat) (X : Nat → Bf) : Prop where
  lay : ∃ held, w.heap[S]? = some (stO m D L fr pg bf held) ∧ Rw B0 w held n (fun j => (X j).b)
  buf : ∀ j, j < n → w.heap[(X j).b]? = some (bufO (X j))
  apart : ∀ i j, i < n → j < n → (X i).b = (X j).b → i = j
  nn : n ≤ 100
  low : B0 ≤ S
variable {B0 : Nat}
theorem Ps.isB {w : World} {S D L fr pg bf n : Nat} {m : Int} {X : Nat → Bf} (k : Ps B0 w S m D L fr pg bf n X) (j : Nat) (hj : j < n) : IsB w (X j).b := ⟨_, k.buf j hj⟩
theorem Ps.lt {w : World} {S D L fr pg bf n : Nat} {m : Int} {X : Nat → Bf} (k : Ps B0 w S m D L fr pg bf n X) : S < w.heap.size := by
  obtain ⟨held, h, _⟩ := k.lay
  exact (Array.getElem?_eq_some_iff.1 h).1
/-- What may change of a pool: its state's block, and rows of pointers to buffers. -/
def Fr (B0 S : Nat) (w : World) (b : Nat) : Prop := B0 ≤ b ∧ (b = S ∨ ∃ cs fz, w.heap[b]? = some (.cells cs 97 fz))
theorem Rw.part {w w' : World} {v : Value} {n : Nat} {f : Nat → Nat} {F : Nat → Prop} (h : Rw B0 w v n f) (hp : Part F w w') (hn : ∀ k, v.ownBlock = some k → ¬ F k) : Rw B0 w' v n f := hp.row h hn
theorem Ps.part {w w' : World} {S D L fr pg bf n : Nat} {m : Int} {X : Nat → Bf} {F : Nat → Prop} (k : Ps B0 w S m D L fr pg bf n X) (hp : Part F w w') (hS : ¬ F S) (hF : ∀ b cs t, F b → w.heap[b]? = some (.cells cs t (0, 0)) → t ≠ 97 ∧ t ≠ 111) : Ps B0 w' S m D L fr pg bf n X := by
  obtain ⟨held, h1, h2⟩ := k.lay
  refine ⟨⟨held, (hp.block S (Array.getElem?_eq_some_iff.1 h1).1 hS).trans h1, h2.part hp (fun b hb hf => ?_)⟩, fun j hj => ?_, k.apart, k.nn, k.low⟩
  · rcases h2.open with ⟨e, _⟩ | ⟨g, c, cur, e, hg, _⟩
    · rw [e] at hb; cases hb
    · rw [e] at hb
      have hb : some g = some b := hb
      injection hb with hb
      subst hb
      exact (hF g _ _ hf hg).1 rfl
  · exact (hp.block _ (Array.getElem?_eq_some_iff.1 (k.buf j hj)).1 (fun hf => (hF _ _ _ hf (k.buf j hj)).2 rfl)).trans (k.buf j hj)
theorem Ps.below {w w' : World} {S D L fr pg bf n : Nat} {m : Int} {X : Nat → Bf} (k : Ps B0 w S m D L fr pg bf n X) (hb : Below w.heap.size w w') : Ps B0 w' S m D L fr pg bf n X :=
  k.part (Part.ofBelow (F := fun _ => False) hb) (fun h => h) (fun _ _ _ h => h.elim)

/-- What find tells. -/
def Fd (X : Nat → Bf) (n : Nat) (z : Int) (r : Value) : Prop := (∃ k, k < n ∧ ((X k).pg : Int) = z ∧ (∀ j, j < k → ((X j).pg : Int) ≠ z) ∧ r = ptr (X k).b) ∨ ((∀ j, j < n → ((X j).pg : Int) ≠ z) ∧ r = .pointer none)
set_option maxRecDepth 100000 in
set_option maxHeartbeats 2000000 in
theorem t_find {w : World} {S D L fr pg bf n : Nat} {m : Int} {X : Nat → Bf} (k : Ps B0 w S m D L fr pg bf n X) (z : Int) : Calls Tryz.prog 46 #[.pointer (some ⟨S, 7, none⟩), .int .i64 z] w fun r w' => ∃ v, r = .returned v ∧ Fd X n z v ∧ w' = w := by
  obtain ⟨held, h1, h2⟩ := k.lay
  have nn := k.nn
  have c7 : w.cell? ⟨S, 7, none⟩ = some held := by rw [cells_at h1 7]; rfl
  have HP : Hid (∀ j, j < n → w.cell? ⟨(X j).b, 0, none⟩ = some (.int .i64 ((X j).pg : Int))) := fun j hj => by rw [cells_at (k.buf j hj) 0]; rfl
  rcases h2.open with ⟨rfl, rfl⟩ | ⟨g, c, cur, rfl, g2, g3, g4, g5, g6⟩
  · clear k h1 h2 HP
    go_enter Tryz.func46, Tryz.ntmps46
    go_wp2
    go_loopw [12] (fun s wr => s = .int .i64 0 ∧ wr = w) (fun _ _ => 0)
    case atStart => exact ⟨rfl, rfl⟩
    case round =>
      obtain ⟨rfl, rfl⟩ := hrel
      go_wp2
      go_ret
      exact ⟨_, rfl, .inr ⟨fun j hj => absurd hj (by omega), rfl⟩, rfl⟩
  · have HR : Hid (∀ j, j < n → w.cell? ⟨g, j, none⟩ = some (ptr (X j).b)) := fun j hj => (h2.cell j hj).1
    clear k h1 h2 g2 g3 g6
    go_enter Tryz.func46, Tryz.ntmps46
    go_wp2
    go_loopw [12] (fun s wr => ∃ k : Nat, k ≤ n ∧ s = .int .i64 (k : Int) ∧ Hid (∀ j, j < k → ((X j).pg : Int) ≠ z) ∧ wr = w) (fun k _ => n - (intOf k).toNat)
    case atStart => exact ⟨0, Nat.zero_le _, rfl, fun j hj => absurd hj (by omega), rfl⟩
    case round =>
      obtain ⟨k, hk, rfl, HJ, rfl⟩ := hrel
      by_cases hlt : k < n
      · have hc := HR.out k hlt
        have hp := HP.out k hlt
        have l1 : (k : Int) < (n : Int) := by omega
        have l2 : (0 : Int) ≤ (k : Int) := by omega
        unfold ptr at hc
        by_cases he : ((X k).pg : Int) = z
        · have HF : Hid (Fd X n z (ptr (X k).b)) := .inl ⟨k, hlt, he, HJ.out, rfl⟩
          unfold ptr at HF
          have d1 : (((X k).pg : Int) == z) = true := by simpa using he
          clear he
          go_wp2
          go_ret
          exact ⟨_, rfl, HF.out, rfl⟩
        · have HF : Hid (∀ j, j < k + 1 → ((X j).pg : Int) ≠ z) := fun j hj => by
            by_cases h : j < k
            · exact HJ.out j h
            · obtain rfl : j = k := by omega
              exact he
          have d1 : (((X k).pg : Int) == z) = false := by simpa using he
          clear he
          go_wp2
          go_roundw
          case rel => exact ⟨k + 1, by omega, by go_num, HF, trivial⟩
          case measure => simp [intOf]; omega
      · obtain rfl : k = n := by omega
        go_wp2
        go_ret
        exact ⟨_, rfl, .inr ⟨HJ.out, rfl⟩, rfl⟩
/-- What idle tells. -/
def Id0 (X : Nat → Bf) (n : Nat) (r : Value) : Prop := (∃ k, k < n ∧ (X k).pn = 0 ∧ (∀ j, j < k → (X j).pn ≠ 0) ∧ r = ptr (X k).b) ∨ ((∀ j, j < n → (X j).pn ≠ 0) ∧ r = .pointer none)
set_option maxRecDepth 100000 in
set_option maxHeartbeats 2000000 in
theorem t_idle {w : World} {S D L fr pg bf n : Nat} {m : Int} {X : Nat → Bf} (k : Ps B0 w S m D L fr pg bf n X) : Calls Tryz.prog 108 #[.pointer (some ⟨S, 7, none⟩)] w fun r w' => ∃ v, r = .returned v ∧ Id0 X n v ∧ w' = w := by
  obtain ⟨held, h1, h2⟩ := k.lay
  have nn := k.nn
  have c7 : w.cell? ⟨S, 7, none⟩ = some held := by rw [cells_at h1 7]; rfl
  have HP : Hid (∀ j, j < n → w.cell? ⟨(X j).b, 4, none⟩ = some (.int .i64 ((X j).pn : Int))) := fun j hj => by rw [cells_at (k.buf j hj) 4]; rfl
  rcases h2.open with ⟨rfl, rfl⟩ | ⟨g, c, cur, rfl, g2, g3, g4, g5, g6⟩
  · clear k h1 h2 HP
    go_enter Tryz.func108, Tryz.ntmps108
    go_wp2
    go_loopw [10] (fun s wr => s = .int .i64 0 ∧ wr = w) (fun _ _ => 0)
    case atStart => exact ⟨rfl, rfl⟩
    case round =>
      obtain ⟨rfl, rfl⟩ := hrel
      go_wp2
      go_ret
      exact ⟨_, rfl, .inr ⟨fun j hj => absurd hj (by omega), rfl⟩, rfl⟩
  · have HR : Hid (∀ j, j < n → w.cell? ⟨g, j, none⟩ = some (ptr (X j).b)) := fun j hj => (h2.cell j hj).1
    clear k h1 h2 g2 g3 g6
    go_enter Tryz.func108, Tryz.ntmps108
    go_wp2
    go_loopw [10] (fun s wr => ∃ k : Nat, k ≤ n ∧ s = .int .i64 (k : Int) ∧ Hid (∀ j, j < k → (X j).pn ≠ 0) ∧ wr = w) (fun k _ => n - (intOf k).toNat)
    case atStart => exact ⟨0, Nat.zero_le _, rfl, fun j hj => absurd hj (by omega), rfl⟩
    case round =>
      obtain ⟨k, hk, rfl, HJ, rfl⟩ := hrel
      by_cases hlt : k < n
      · have hc := HR.out k hlt
        have hp := HP.out k hlt
        have l1 : (k : Int) < (n : Int) := by omega
        have l2 : (0 : Int) ≤ (k : Int) := by omega
        unfold ptr at hc
        by_cases he : (X k).pn = 0
        · have HF : Hid (Id0 X n (ptr (X k).b)) := .inl ⟨k, hlt, he, HJ.out, rfl⟩
          unfold ptr at HF
          have d1 : (((X k).pn : Int) == 0) = true := by simpa using he
          clear he
          go_wp2
          go_ret
          exact ⟨_, rfl, HF.out, rfl⟩
        · have HF : Hid (∀ j, j < k + 1 → (X j).pn ≠ 0) := fun j hj => by
            by_cases h : j < k
            · exact HJ.out j h
            · obtain rfl : j = k := by omega
              exact he
          have d1 : (((X k).pn : Int) == 0) = false := by simpa using he
          clear he
          go_wp2
          go_roundw
          case rel => exact ⟨k + 1, by omega, by go_num, HF, trivial⟩
          case measure => simp [intOf]; omega
      · obtain rfl : k = n := by omega
        go_wp2
        go_ret
        exact ⟨_, rfl, .inr ⟨HJ.out, rfl⟩, rfl⟩
end Go.Proofs.YtnaobkpncfbnaaaGreatDoor
