/-
  Contract of the document's own log: Open. Conditions: nothing pends on the disk.
  Contract of the document's own log: Open. Conditions: the sectors are the disk's, nothing pends.
-/
import Derived.Test.YtmjoklppibfdmaaDoorLogZh
import Derived.Test.YtmjoklppibfdmaaDoorLogZc
namespace Go.Proofs.YtmjoklppibfdmaaDoor
open Go.RowKit
set_option linter.unusedVariables false

theorem Sx.head {w : World} {X : Nat} {F : Nat → Prop} {n M : Nat} {e : Nat → Int} (h : Sx w X F n M e) : ∃ gB cB, w.cell? ⟨X, 0, none⟩ = some (.slice (some ⟨gB, 0, none⟩) n cB) := by
  obtain ⟨_, _, _, _, ⟨gB, cB, _, _, _, _, _, h⟩, _⟩ := h
  exact ⟨gB, cB, by rw [cells_at h.hX 0]; rfl⟩

set_option maxRecDepth 100000 in
set_option maxHeartbeats 1000000 in
theorem zOpen_no {w : World} {X n M : Nat} {F : Nat → Prop} {e : Nat → Int} (h : Sx w X F n M e) (from_ sectors : Int) (hb : from_ < 0 ∨ sectors < 1 ∨ (n : Int) < from_ ∨ (n : Int) - from_ < sectors) :
    Calls Tryd.prog 32 #[.pointer (some ⟨X, 0, none⟩), .int .i64 from_, .int .i64 sectors] w fun r w' => r = .returned (.tuple #[.pointer none, .slice none 0 0, .int .i64 1]) ∧ w' = w := by
  obtain ⟨n1, n2⟩ := h.n2
  obtain ⟨gB, cB, c0⟩ := h.head
  clear h
  have hn0 : (0 : Int) ≤ (n : Int) := by omega
  have hn9 : (n : Int) ≤ 4096 := by omega
  by_cases h1 : from_ < 0
  · have d1 : decide (from_ < 0) = true := decide_eq_true h1
    clear hb
    go_enter Tryd.func32, Tryd.ntmps32
    go_wp2
    go_ret3
    exact ⟨rfl, rfl⟩
  · have d1 : decide (from_ < 0) = false := decide_eq_false h1
    by_cases h2 : sectors < 1
    · have d2 : decide (sectors < 1) = true := decide_eq_true h2
      clear hb
      go_enter Tryd.func32, Tryd.ntmps32
      go_wp2
      go_ret3
      exact ⟨rfl, rfl⟩
    · have d2 : decide (sectors < 1) = false := decide_eq_false h2
      by_cases h3 : (n : Int) < from_
      · have d3 : decide ((n : Int) < from_) = true := decide_eq_true h3
        clear hb
        go_enter Tryd.func32, Tryd.ntmps32
        go_wp2
        go_ret3
        exact ⟨rfl, rfl⟩
      · have d3 : decide ((n : Int) < from_) = false := decide_eq_false h3
        have h4 : (n : Int) - from_ < sectors := by omega
        have hw : IntKind.i64.wrap ((n : Int) - from_) = (n : Int) - from_ := by rw [IntKind.wrap_i64]; omega
        have d4 : decide ((n : Int) - from_ < sectors) = true := decide_eq_true h4
        clear hb
        go_enter Tryd.func32, Tryd.ntmps32
        go_wp2
        go_ret3
        exact ⟨rfl, rfl⟩
end Go.Proofs.YtmjoklppibfdmaaDoor

namespace Go.Proofs.YtmjoklppibfdmaaDoor
open Go.RowKit
set_option linter.unusedVariables false

/-- What the document's Open leaves: the log, its bytes, the disk, the records. -/
structure ZOpened (w w' : World) (X n from_ sectors : Nat) (F : Nat → Prop) (e : Nat → Int) (M : Nat) (v : Value) (first tot size : Nat) (R : List (Nat × Nat)) : Prop where
  has : Has (from0 e from_) sectors first tot
  prs : Parsed (lg (from0 e from_)) tot R size
  lay : ∃ (a0 : Option Addr) (cs : Nat) (A : Nat → Option Addr) (C : Nat → Nat) (e' : Nat → Int) (p : Nat), Zl w' M X from_ sectors (max first 1) (max first 1 + R.length - 1) (max first 1 + R.length - 1) (.slice a0 size cs) size ∧ (a0 = none ∧ cs = 0 ∨ ∃ g, a0 = some ⟨g, 0, none⟩ ∧ w.heap.size ≤ g ∧ g < p ∧ g ≠ M) ∧ From w' a0 size (lg (from0 e from_)) ∧ size ≤ cs ∧ cs ≤ 9223372036854775807 ∧ Sx w' X (fun k => F k ∨ (p ≤ k ∧ k < w'.heap.size)) n 0 e' ∧ Cleaned e e' from_ sectors first tot size ∧ RecG w' w.heap.size v R.length A (lenF R) C (bytF (lg (from0 e from_)) R) ∧ w.heap.size ≤ M ∧ M < p ∧ p ≤ w'.heap.size
  part : Part F w w'

theorem zTail {w we : World} {X n from_ sectors first tot cs used : Nat} {a0 : Option Addr} {F : Nat → Prop} {e : Nat → Int} (hS : Sx w X F n 0 e) (hp : from_ + sectors ≤ n) (hs1 : 1 ≤ sectors) (hfi : first ≤ 4611686018427387904) (hO : Own we (w.heap.size + 1) (.slice a0 tot cs) (lst (lg (from0 e from_)) tot)) (hZ : Zl we w.heap.size X from_ sectors (max first 1) 0 0 (.slice none 0 0) 0) (hB : Below w.heap.size w we) (hH : Has (from0 e from_) sectors first tot) (hu0 : used = 0 ↔ first = 0) (htu : tot ≤ used * 112) (hus : used ≤ sectors) :
    Calls Tryd.prog 67 #[.slice a0 tot cs] we fun r w3 => ∃ (v : Value) (size : Nat) (R : List (Nat × Nat)), r = .returned (.tuple #[v, .int .i64 (size : Int)]) ∧ size ≤ tot ∧ tot ≤ cs ∧ cs ≤ 9223372036854775807 ∧ R.length ≤ 458752 ∧ (∃ av cv, v = .slice av R.length cv) ∧ (a0 = none ∧ cs = 0 ∨ ∃ g, a0 = some ⟨g, 0, none⟩) ∧ Hid (Zl w3 w.heap.size X from_ sectors (max first 1) 0 0 (.slice none 0 0) 0) ∧
      Hid (∀ w4, Zl w4 w.heap.size X from_ sectors (max first 1) 0 0 (.slice a0 size cs) size → Part (fun k => k = w.heap.size) w3 w4 → w4.heap.size = w3.heap.size → ∀ y z : Int, y = (used : Int) → z = (tot : Int) → Calls Tryd.prog 68 #[.pointer (some ⟨w.heap.size, 0, none⟩), .int .i64 y, .int .i64 z] w4 fun r w5 => r = .returned (.tuple #[]) ∧ Hid (Zl w5 w.heap.size X from_ sectors (max first 1) 0 0 (.slice a0 size cs) size) ∧ Hid (∀ w6, Zl w6 w.heap.size X from_ sectors (max first 1) (max first 1 + R.length - 1) (max first 1 + R.length - 1) (.slice a0 size cs) size → Part (fun k => k = w.heap.size) w5 w6 → w6.heap.size = w5.heap.size → ZOpened w w6 X n from_ sectors F e w.heap.size v first tot size R)) := by
  obtain ⟨n1, n2⟩ := hS.n2
  have hby := hS.by_
  have hFl := hS.lt
  have htn : tot ≤ 458752 := by omega
  have hMl := (Array.getElem?_eq_some_iff.1 hZ).1
  obtain ⟨a1, c1, ea, hFst, hgb⟩ := Own.fst hO
  cases ea
  obtain ⟨hlt, hcm, hFs⟩ := hFst
  have hFe : From we a0 tot (lg (from0 e from_)) := by
    rcases hFs with ⟨h1, h2, _⟩ | ⟨g, h1, h2⟩
    · exact .inl ⟨h1, h2⟩
    · exact .inr ⟨_, h1, fun i hi => by rw [Addr.add_lit, Nat.zero_add]; exact h2 i hi⟩
  have hg0 : ∀ x, a0 = some x → ∃ g, x = ⟨g, 0, none⟩ := fun x hx => by
    rcases hFs with ⟨h1, _⟩ | ⟨g, h1, _⟩
    · rw [h1] at hx; cases hx
    · rw [h1] at hx; cases hx; exact ⟨g, rfl⟩
  have h00 : a0 = none → cs = 0 := fun h => by
    rcases hFs with ⟨_, _, h2⟩ | ⟨g, h1, _⟩
    · exact h2
    · rw [h] at h1; cases h1
  have hB1 := hB.size
  refine (zRecs a0 tot cs (lg (from0 e from_)) we (by omega) hlt hcm hFe h00 hg0 (fun i => hby _)).mono ?_
  rintro r w3 ⟨L, size, v, A, C, rfl, HG, HP, b3⟩
  have hs3 := b3.size
  have hst := HP.out.1.le
  have hln := HP.out.1.len
  obtain ⟨av, cv, hv⟩ := own_slice HG.out.own
  have hZ3 : Zl w3 w.heap.size X from_ sectors (max first 1) 0 0 (.slice none 0 0) 0 := hZ.below b3
  have hMF : ¬ F w.heap.size := fun h => by have := hFl _ h; omega
  have hGb : (∀ q, v.ownBlock = some q → we.heap.size ≤ q) ∧ ∀ j g, j < L.length → A j = some ⟨g, 0, none⟩ → we.heap.size ≤ g := ⟨fun q hq => (World.ownsRow.lt HG.out.own q hq).1, fun j g hj hA => by
    obtain ⟨g', _, _, k1, k2, _⟩ := HG.out.each j hj
    rw [k1] at hA
    cases hA
    exact k2⟩
  refine ⟨v, size, L, rfl, hst, hlt, hcm, by omega, ⟨av, cv, hv⟩, ?_, hZ3, fun w4 hz4 p4 hs4 y z hy hz => ?_⟩
  · rcases hFs with ⟨h1, _, h2⟩ | ⟨g, h1, _⟩
    · exact .inl ⟨h1, h2⟩
    · exact .inr ⟨g, h1⟩
  subst hy hz
  have hS4 : Sx w4 X F n 0 e := (((hS.below hB).below b3)).part p4 (fun k hk h => by have := hFl k hk; omega)
  have hFw : ∀ wq, Part (fun k => k = w.heap.size) w3 wq → From wq a0 size (lg (from0 e from_)) := fun wq hq => by
    rcases hFs with ⟨h1, h2, _⟩ | ⟨g, h1, h2⟩
    · exact .inl ⟨h1, by omega⟩
    · have hg := hgb g h1
      refine .inr ⟨_, h1, fun i hi => ?_⟩
      rw [Addr.add_lit, Nat.zero_add]
      refine hq.cell (p := ⟨g, i, none⟩) (fun h => by have : g = w.heap.size := h; omega) ?_
      rw [b3.cell (p := ⟨g, i, none⟩) hg.2]
      exact h2 i (by omega)
  have hF4 := hFw w4 p4
  have ha : a0 = none ∧ cs = 0 ∨ ∃ g, a0 = some ⟨g, 0, none⟩ ∧ ¬ F g := by
    rcases hFs with ⟨h1, _, h2⟩ | ⟨g, h1, _⟩
    · exact .inl ⟨h1, h2⟩
    · exact .inr ⟨g, h1, fun h => by have := hFl g h; have := hgb g h1; omega⟩
  refine (zClean hz4 hS4 hMF ha hF4 hlt hcm hst htu hu0 hus hs1 hp hfi).mono ?_
  rintro r w5 ⟨e', rfl, hR⟩
  obtain ⟨s5, hCl, p5⟩ := hR.out
  have hs5 := p5.size
  refine ⟨rfl, hz4.part p5 hMF, fun w6 hz6 p6 hs6 => ?_⟩
  have hG4 : RecG w4 we.heap.size v L.length A (lenF L) C (bytF (lg (from0 e from_)) L) := HG.out.part2 p4 (fun q hq h => by have := hGb.1 q hq; omega) (fun j g hj hA h => by have := hGb.2 j g hj hA; omega)
  have hG5 : RecG w5 we.heap.size v L.length A (lenF L) C (bytF (lg (from0 e from_)) L) := hG4.part2 p5 (fun q hq h => by have := hGb.1 q hq; have := hFl _ h; omega) (fun j g hj hA h => by have := hGb.2 j g hj hA; have := hFl _ h; omega)
  have hG6 : RecG w6 we.heap.size v L.length A (lenF L) C (bytF (lg (from0 e from_)) L) := hG5.part2 p6 (fun q hq h => by have := hGb.1 q hq; omega) (fun j g hj hA h => by have := hGb.2 j g hj hA; omega)
  have hF6 : From w6 a0 size (lg (from0 e from_)) := by
    rcases hF4 with ⟨h1, h2⟩ | ⟨x, h1, h2⟩
    · exact .inl ⟨h1, h2⟩
    · obtain ⟨g, rfl⟩ := hg0 x h1
      have hg := hgb g h1
      refine .inr ⟨_, h1, fun i hi => ?_⟩
      have h3 := h2 i hi
      rw [Addr.add_lit, Nat.zero_add] at h3 ⊢
      exact p6.cell (p := ⟨g, i, none⟩) (fun h => by have : g = w.heap.size := h; omega) (p5.cell (p := ⟨g, i, none⟩) (fun h => by have : g < w.heap.size := hFl _ h; omega) h3)
  refine ⟨hH, HP.out, ⟨a0, cs, A, C, e', w4.heap.size, hz6, ?_, hF6, by omega, hcm, ?_, hCl, hG6.mono hB1, Nat.le_refl _, by omega, by omega⟩, ?_⟩
  · rcases hFs with ⟨h1, _, h2⟩ | ⟨g, h1, _⟩
    · exact .inl ⟨h1, h2⟩
    · have hg := hgb g h1
      exact .inr ⟨g, h1, by omega, by omega, by omega⟩
  · rw [hs6]
    refine (s5.part p6 (fun k hk h => ?_))
    rcases hk with hk | hk
    · have := hFl k hk; omega
    · omega
  · exact ((((Part.ofBelow (F := F) hB).trans (Part.ofBelow (F := F) b3) (fun _ _ h => h)).trans p4 (fun k hk h => by omega)).trans p5 (fun _ _ h => h)).trans p6 (fun k hk h => by omega)
end Go.Proofs.YtmjoklppibfdmaaDoor
