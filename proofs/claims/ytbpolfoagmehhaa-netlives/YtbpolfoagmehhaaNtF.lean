/-
  Contracts of slices.EqualFunc and SameImage over rows of messages that are the same.
-/
import Derived.Test.YtbpolfoagmehhaaNtE
namespace Go.Proofs.Ytbpolfoagmehhaa
open Go.RowKit
set_option linter.unusedVariables false
set_option maxRecDepth 100000
set_option maxHeartbeats 2000000

/-- The k-th message of a row, where there is one. -/
theorem Mq.get {w : World} {B : Nat} {v : Value} {zs : List Ms} (h : Mq w B v zs) {a : Option Addr} {n c : Nat} (hv : v = .slice a n c) (k : Nat) (hk : k < zs.length) : ∃ g ak ck, a = some ⟨g, 0, none⟩ ∧ w.cell? ⟨g, k, none⟩ = some (.slice ak zs[k].2.length ck) ∧ From w ak zs[k].2.length (fn zs[k].2) := by
  obtain ⟨g, c', e, _⟩ := h.some_ (by omega)
  have hat := h
  rw [e] at hat
  have hat := hat.at_ k hk
  obtain ⟨ak, ck, hu, hf, _⟩ := (h.own zs[k] (List.getElem_mem hk)).open
  rw [hu] at hat
  rw [hv] at e
  injection e with e
  exact ⟨g, ak, ck, e, hat, hf⟩
theorem equalQ {w : World} {B1 B2 : Nat} {v1 v2 : Value} {zs ys : List Ms} (h1 : Mq w B1 v1 zs) (h2 : Mq w B2 v2 ys) (he : zs.map Prod.snd = ys.map Prod.snd) (hn : zs.length ≤ 1000000) :
    Calls Try.prog 27 #[v1, v2, .func (.func 10) #[] #[]] w fun e w' => e = .returned (.bool true) ∧ w' = w := by
  have hl : ys.length = zs.length := by have := congrArg List.length he; simpa using this.symm
  obtain ⟨a1, c1, e1, _⟩ := row_slice h1.row
  obtain ⟨a2, c2, e2, _⟩ := row_slice h2.row
  rw [hl] at e2
  have HG : Hid (∀ k, k < zs.length → ∃ (g1 g2 : Nat) (k1 k2 : Option Addr) (d1 d2 : Nat) (xs : List Int), a1 = some ⟨g1, 0, none⟩ ∧ a2 = some ⟨g2, 0, none⟩ ∧ w.cell? ⟨g1, k, none⟩ = some (.slice k1 xs.length d1) ∧ w.cell? ⟨g2, k, none⟩ = some (.slice k2 xs.length d2) ∧ From w k1 xs.length (fn xs) ∧ From w k2 xs.length (fn xs)) := fun k hk => by
    obtain ⟨g1, k1, d1, p1, p2, p3⟩ := h1.get e1 k hk
    obtain ⟨g2, k2, d2, q1, q2, q3⟩ := h2.get e2 k (by omega)
    have e : zs[k].2 = (ys[k]'(by omega)).2 := by
      have := congrArg (fun l : List (List Int) => l[k]?) he
      simpa [List.getElem?_map, List.getElem?_eq_getElem hk, List.getElem?_eq_getElem (show k < ys.length by omega)] using this
    rw [← e] at q2 q3
    exact ⟨g1, g2, k1, k2, d1, d2, _, p1, q1, p2, q2, p3, q3⟩
  subst e1 e2
  generalize zs.length = n at *
  clear h1 h2 he hl
  go_enter Try.func27, Try.ntmps27
  go_wp2
  go_loopw [17] (fun i wr => ∃ k : Nat, k ≤ n ∧ i = .int .i64 (k : Int) ∧ wr = w) (fun i _ => n - (intOf i).toNat)
  case atStart => exact ⟨0, Nat.zero_le _, rfl, rfl⟩
  case round =>
    obtain ⟨k, hk, rfl, rfl⟩ := hrel
    by_cases hlt : k < n
    · have hlt' : (k : Int) < (n : Int) := by omega
      have hk0 : (0 : Int) ≤ (k : Int) := by omega
      obtain ⟨g1, g2, k1, k2, d1, d2, xs, rfl, rfl, p1, p2, p3, p4⟩ := HG.out k hlt
      have hE := equal_yes k1 k2 xs.length d1 xs.length d2 (fn xs) (fn xs) wr p3 p4 rfl
      clear HG p3 p4
      go_wp2_with fail
      refine hE.mono ?_
      rintro e w2 ⟨rfl, hw⟩
      obtain rfl : wr = w2 := hw.symm
      clear hw
      go_wp2
      go_roundw
      case rel => exact ⟨k + 1, by omega, by go_num, by trivial⟩
      case measure => simp [intOf]; omega
    · obtain rfl : k = n := by omega
      go_wp2
      go_ret
      exact ⟨rfl, rfl⟩
theorem sameQ {w : World} {B1 B2 : Nat} {v1 v2 : Value} {zs ys : List Ms} (h1 : Mq w B1 v1 zs) (h2 : Mq w B2 v2 ys) (he : zs.map Prod.snd = ys.map Prod.snd) (hn : zs.length ≤ 1000000) :
    Calls Try.prog 20 #[v1, v2] w fun e w' => e = .returned (.bool true) ∧ w' = w := by
  have H := equalQ h1 h2 he hn
  obtain ⟨a1, c1, e1, _⟩ := row_slice h1.row
  obtain ⟨a2, c2, e2, _⟩ := row_slice h2.row
  subst e1 e2
  clear h1 h2 he
  go_enter Try.func20, Try.ntmps20
  go_wp2_with fail
  refine H.mono ?_
  rintro e w2 ⟨rfl, hw⟩
  obtain rfl : w = w2 := hw.symm
  clear hw
  go_wp2
  go_ret
  exact ⟨rfl, rfl⟩
end Go.Proofs.Ytbpolfoagmehhaa
