/-
  Contracts of wire's Reader and of the document's own: what each call answers, and where the reader then stands. The conditions are those of RdInv (a reader that Over made, which has read p of n bytes) and RefInv (the document's).
-/
import Derived.Test.YtnaobkpncfbnaaaGreatDoorNum
import Derived.Test.YtnaobkpncfbnaaaGreatDoorGa
import Derived.Deep.QuietTactic
import Derived.BigQuiet
namespace Go.Proofs.YtnaobkpncfbnaaaGreatDoor
open Go.RowKit
set_option linter.unusedVariables false

theorem number_any (ao : Option Addr) (n c : Nat) (f : Nat → Int) (w : World) (hbig : n ≤ 140737488355328) (hby : ∀ i, 0 ≤ f i ∧ f i ≤ 255) (hl : Lay w ao n f) :
    Calls Tryz.prog 96 #[.slice ao n c] w fun e w' => e = .returned (.tuple #[.int .i64 (Wm.num f n).1, .int .i64 (Wm.num f n).2.1, .int .i64 (Wm.num f n).2.2]) ∧ w' = w := by
  rcases hl with rfl | ⟨b, off, rfl, hc⟩
  · exact number_none ao c f w
  · exact wnumber_at b off n c f w hbig hby hc
/-- A reader at block R, made by Over: it has read p of the n bytes f. -/
structure RdInv (w : World) (R : Nat) (ao : Option Addr) (cap : Nat) (f : Nat → Int) (n p : Nat) : Prop where
  all : w.cell? ⟨R, 0, none⟩ = some (.slice ao n cap)
  at_ : w.cell? ⟨R, 1, none⟩ = some (.int .i64 (p : Int))
  made : w.cell? ⟨R, 2, none⟩ = some (.bool true)
  free : w.frozen? ⟨R, 1, none⟩ = false
  hp : p ≤ n
  hn : n ≤ cap
  hc : cap ≤ 9223372036854775807
  big : n ≤ 140737488355328
  by_ : ∀ i, 0 ≤ f i ∧ f i ≤ 255
  lies : (ao = none ∧ n = 0 ∧ cap = 0) ∨ ∃ g, ao = some ⟨g, 0, none⟩ ∧ ∀ i, i < n → w.cell? ⟨g, i, none⟩ = some (.int .u8 (f i))

theorem RdInv.apart {w : World} {R : Nat} {ao : Option Addr} {cap : Nat} {f : Nat → Int} {n p g : Nat} (h : RdInv w R ao cap f n p) (hg : ao = some ⟨g, 0, none⟩) (hn : 0 < n) : g ≠ R := by
  intro e
  subst e
  rcases h.lies with ⟨h1, _⟩ | ⟨g', h1, h2⟩
  · rw [h1] at hg; cases hg
  · rw [h1] at hg
    cases hg
    have := h2 0 hn
    rw [h.all] at this
    cases this

theorem RdInv.kept {w w' : World} {R : Nat} {ao : Option Addr} {cap : Nat} {f : Nat → Int} {n p : Nat} (h : RdInv w R ao cap f n p) (hR : w'.heap[R]? = w.heap[R]?)
    (hg : ∀ g, ao = some ⟨g, 0, none⟩ → 0 < n → w'.heap[g]? = w.heap[g]?) : RdInv w' R ao cap f n p := by
  have e1 : ∀ i, w'.cell? ⟨R, i, none⟩ = w.cell? ⟨R, i, none⟩ := fun i => World.cell?_of_block (w := w) hR
  refine ⟨(e1 0).trans h.all, (e1 1).trans h.at_, (e1 2).trans h.made, (World.frozen?_of_block (w := w) hR).trans h.free, h.hp, h.hn, h.hc, h.big, h.by_, ?_⟩
  rcases h.lies with h1 | ⟨g, h1, h2⟩
  · exact .inl h1
  · exact .inr ⟨g, h1, fun i hi => (World.cell?_of_block (w := w) (hg g h1 (by omega))).trans (h2 i hi)⟩

theorem RdInv.lt {w : World} {R : Nat} {ao : Option Addr} {cap : Nat} {f : Nat → Int} {n p : Nat} (h : RdInv w R ao cap f n p) : R < w.heap.size := World.block_lt_of_cell? w ⟨R, 0, none⟩ h.all
theorem RdInv.alloc {w : World} {R : Nat} {ao : Option Addr} {cap : Nat} {f : Nat → Int} {n p : Nat} (h : RdInv w R ao cap f n p) (o : Obj) : RdInv (w.alloc o) R ao cap f n p := by
  refine h.kept (Below.heap_alloc _ _ _ h.lt) fun g hg hn => ?_
  rcases h.lies with ⟨h1, _⟩ | ⟨g', h1, h2⟩
  · rw [h1] at hg; cases hg
  · rw [h1] at hg
    cases hg
    exact Below.heap_alloc _ _ _ (World.block_lt_of_cell? w ⟨_, 0, none⟩ (h2 0 hn))

/-- The reader moved on. -/
theorem RdInv.moved {w w' : World} {R : Nat} {ao : Option Addr} {cap : Nat} {f : Nat → Int} {n p p' : Nat} (h : RdInv w R ao cap f n p) (ho : Only R w w') (h' : p' ≤ n)
    (e0 : w'.cell? ⟨R, 0, none⟩ = w.cell? ⟨R, 0, none⟩) (e1 : w'.cell? ⟨R, 1, none⟩ = some (.int .i64 (p' : Int))) (e2 : w'.cell? ⟨R, 2, none⟩ = w.cell? ⟨R, 2, none⟩) (e3 : w'.frozen? ⟨R, 1, none⟩ = false) : RdInv w' R ao cap f n p' := by
  refine ⟨e0.trans h.all, e1, e2.trans h.made, e3, h', h.hn, h.hc, h.big, h.by_, ?_⟩
  rcases h.lies with h1 | ⟨g, h1, h2⟩
  · exact .inl h1
  · exact .inr ⟨g, h1, fun i hi => (ho.cell (h.apart h1 (by omega))).trans (h2 i hi)⟩

set_option maxHeartbeats 400000 in
theorem missing_no (R : Nat) (w : World) (hm : w.cell? ⟨R, 2, none⟩ = some (.bool true)) :
    Calls Tryz.prog 95 #[.pointer (some ⟨R, 0, none⟩)] w fun e w' => e = .returned (.bool false) ∧ w' = w := by
  go_enter Tryz.func95, Tryz.ntmps95
  go_wp2
  go_ret
  exact ⟨rfl, rfl⟩

set_option maxHeartbeats 400000 in
theorem rest_some (R g p n cap : Nat) (w : World) (h0 : w.cell? ⟨R, 0, none⟩ = some (.slice (some ⟨g, 0, none⟩) n cap)) (h1 : w.cell? ⟨R, 1, none⟩ = some (.int .i64 (p : Int))) (hp : p ≤ n) (hc : n ≤ cap) (hm : cap ≤ 9223372036854775807) :
    Calls Tryz.prog 97 #[.pointer (some ⟨R, 0, none⟩)] w fun e w' => ∃ p' q, e = .returned (.slice (some ⟨g, p', none⟩) (n - p) (cap - p)) ∧ (p < n → p' = p) ∧ w' = w.drewN q := by
  have b1 : (0 : Int) ≤ (p : Int) := by omega
  have b2 : (p : Int) ≤ (n : Int) := by omega
  by_cases hcp : cap = p
  · obtain rfl : p = n := by omega
    subst hcp
    go_enter Tryz.func97, Tryz.ntmps97
    go_wp2
    go_quiet (fail)
    go_wp2
    go_ret
    exact ⟨0, _, (by simp only [Nat.sub_self]; rfl), fun h => absurd h (Nat.lt_irrefl _), rfl⟩
  · have hlt : p < cap := by omega
    go_enter Tryz.func97, Tryz.ntmps97
    go_wp2
    go_quiet (fail)
    go_wp2
    go_ret
    exact ⟨p, _, rfl, fun _ => rfl, rfl⟩

set_option maxHeartbeats 400000 in
theorem rest_nil (R : Nat) (w : World) (h0 : w.cell? ⟨R, 0, none⟩ = some (.slice none 0 0)) (h1 : w.cell? ⟨R, 1, none⟩ = some (.int .i64 0)) :
    Calls Tryz.prog 97 #[.pointer (some ⟨R, 0, none⟩)] w fun e w' => e = .returned (.slice none 0 0) ∧ ∃ q, w' = w.drewN q := by
  go_enter Tryz.func97, Tryz.ntmps97
  go_wp2
  go_quiet (fail)
  go_wp2
  go_ret
  exact ⟨rfl, _, rfl⟩

/-- What is left of a reader's bytes. -/
theorem rest_inv {w : World} {R : Nat} {ao : Option Addr} {cap : Nat} {f : Nat → Int} {n p : Nat} (h : RdInv w R ao cap f n p) :
    Calls Tryz.prog 97 #[.pointer (some ⟨R, 0, none⟩)] w fun e w' => ∃ ao' c', e = .returned (.slice ao' (n - p) c') ∧ n - p ≤ c' ∧ c' ≤ 9223372036854775807 ∧ Lay w' ao' (n - p) (sh f p) ∧ (∃ q, w' = w.drewN q) := by
  rcases h.lies with ⟨h1, h2, h3⟩ | ⟨g, h1, h2⟩
  · have hp := h.hp
    obtain rfl : p = 0 := by omega
    subst h1 h2 h3
    exact (rest_nil R w h.all h.at_).mono fun e w' ⟨he, hq⟩ => ⟨none, 0, he, Nat.le_refl _, by decide, .inl rfl, hq⟩
  · subst h1
    refine (rest_some R g p n cap w h.all h.at_ h.hp h.hn h.hc).mono fun e w' ⟨p', q, he, hp', hq⟩ => ⟨_, _, he, by have := h.hn; omega, by have := h.hc; omega, ?_, q, hq⟩
    by_cases hlt : p < n
    · obtain rfl := hp' hlt
      subst hq
      exact .inr ⟨g, p', rfl, fun i hi => h2 (p' + i) (by omega)⟩
    · exact .inl (by omega)

set_option maxHeartbeats 400000 in
theorem skip_at (R p : Nat) (s : Int) (w : World) (h1 : w.cell? ⟨R, 1, none⟩ = some (.int .i64 (p : Int))) (hf : w.frozen? ⟨R, 1, none⟩ = false) (hs : 0 ≤ s) (hps : (p : Int) + s ≤ 9223372036854775807) :
    Calls Tryz.prog 98 #[.pointer (some ⟨R, 0, none⟩), .int .i64 s] w fun e w' => e = .returned (.tuple #[]) ∧ w' = w.setCell ⟨R, 1, none⟩ (.int .i64 ((p : Int) + s)) := by
  go_enter Tryz.func98, Tryz.ntmps98
  go_wp2
  go_end0
  exact ⟨rfl, rfl⟩

theorem set_keeps (w : World) (R : Nat) (v u : Value) (h : w.cell? ⟨R, 1, none⟩ = some u) (hf : w.frozen? ⟨R, 1, none⟩ = false) :
    (w.setCell ⟨R, 1, none⟩ v).cell? ⟨R, 0, none⟩ = w.cell? ⟨R, 0, none⟩ ∧ (w.setCell ⟨R, 1, none⟩ v).cell? ⟨R, 1, none⟩ = some v ∧ (w.setCell ⟨R, 1, none⟩ v).cell? ⟨R, 2, none⟩ = w.cell? ⟨R, 2, none⟩ ∧ (w.setCell ⟨R, 1, none⟩ v).frozen? ⟨R, 1, none⟩ = false := by
  refine ⟨?_, ?_, ?_, ?_⟩
  · go_simp
  · go_simp
  · go_simp
  · go_simp
end Go.Proofs.YtnaobkpncfbnaaaGreatDoor
