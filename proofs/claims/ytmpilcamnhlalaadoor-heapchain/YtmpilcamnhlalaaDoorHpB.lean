/-
  A heap with its objects (Hp): contracts of Root, SetRoot, find, holder, Kind, Field, mayHave.
-/
import Derived.Test.YtmpilcamnhlalaaDoorHpA
namespace Go.Proofs.YtmpilcamnhlalaaDoor
open Go.RowKit
set_option linter.unusedVariables false

/-- An object's cells; those of so many objects. -/
def objC (K FB FL : Nat → Nat) (j : Nat) : List Value := [.int .i64 (K j : Int), .slice (some ⟨FB j, 0, none⟩) (FL j) (FL j), .string ⟨#[]⟩, .bool false]
def objL (K FB FL : Nat → Nat) (a : Nat) : Nat → List Value
  | 0 => []
  | m + 1 => objL K FB FL a m ++ objC K FB FL (a + m)
theorem objL_length (K FB FL : Nat → Nat) (a : Nat) : ∀ m, (objL K FB FL a m).length = m * 4
  | 0 => rfl
  | m + 1 => by rw [objL, List.length_append, objL_length K FB FL a m]; simp [objC]; omega
theorem objL_get (K FB FL : Nat → Nat) (a : Nat) : ∀ m i c, i < m → c < 4 → (objL K FB FL a m)[i * 4 + c]? = (objC K FB FL (a + i))[c]?
  | 0, i, c, h, _ => by omega
  | m + 1, i, c, h, hc => by
    rw [objL]
    by_cases e : i = m
    · subst e
      rw [List.getElem?_append_right (by rw [objL_length]; omega), objL_length, show i * 4 + c - i * 4 = c by omega]
    · rw [List.getElem?_append_left (by rw [objL_length]; omega), objL_get K FB FL a m i c (by omega) hc]
theorem objL_ext {K FB FL K' FB' FL' : Nat → Nat} {a : Nat} : ∀ {m}, (∀ j, a ≤ j → j < a + m → K j = K' j ∧ FB j = FB' j ∧ FL j = FL' j) → objL K FB FL a m = objL K' FB' FL' a m
  | 0, _ => rfl
  | m + 1, h => by
    rw [objL, objL, objL_ext (fun j h1 h2 => h j h1 (by omega))]
    obtain ⟨h1, h2, h3⟩ := h (a + m) (by omega) (by omega)
    unfold objC
    rw [h1, h2, h3]
def wrow (f : Nat → Int) (m : Nat) : Array Value := ((List.range m).map (fun i => Value.int .i64 (f i))).toArray
theorem wrow_get (f : Nat → Int) (m i : Nat) (h : i < m) : (wrow f m)[i]? = some (.int .i64 (f i)) := by simp [wrow, h]

/-- What a heap has: so many old and young objects; of each its kind, where its fields lie, how many there are, which; the root. -/
structure HV where
  no : Nat
  ny : Nat
  K : Nat → Nat
  FB : Nat → Nat
  FL : Nat → Nat
  FW : Nat → Nat → Int
  r : Option Nat
  oc : Nat
  yc : Nat
  sft : Nat
  mi : Nat
structure Hp (w : World) (h : Nat) (P : Nat → Prop) (x : HV) : Prop where
  lay : ∃ so sy sr, Hd w h so (x.oc : Int) 1000 sy (x.yc : Int) 32 sr (.slice none 0 0) (x.sft : Int) (x.mi : Int) 0 false ∧ w.ownsRow 0 60 4 so x.no (objL x.K x.FB x.FL 0 x.no) ∧ w.ownsRow 0 60 4 sy x.ny (objL x.K x.FB x.FL x.no x.ny) ∧ w.ownsRow 0 28 1 sr 1 [.int .i64 (kw x.r)] ∧ (∀ k, so.ownBlock = some k → sy.ownBlock ≠ some k) ∧ (∀ j, j < x.no + x.ny → sr.ownBlock ≠ some (x.FB j)) ∧ (∀ k, so.ownBlock = some k → P k) ∧ (∀ k, sy.ownBlock = some k → P k) ∧ ∀ k, sr.ownBlock = some k → P k
  ff : ∀ j, j < x.no + x.ny → w.heap[x.FB j]? = some (.cells (wrow (x.FW j) (x.FL j)) 28 (0, 0)) ∧ P (x.FB j)
  inj : ∀ i j, i < x.no + x.ny → j < x.no + x.ny → x.FB i = x.FB j → i = j
  hP : P h
  lt : ∀ k, P k → k < w.heap.size
  n1 : x.no ≤ 1000
  n2 : x.ny ≤ 1000
  rt : ∀ j, x.r = some j → j < x.no + x.ny
  s1 : x.sft ≤ 4000000
  s2 : x.sft % 2 = 0
theorem row_slice {w : World} {B : Nat} {e : TypeId} {s : Nat} {v : Value} {n : Nat} {xs : List Value} (h : w.ownsRow B e s v n xs) : ∃ a c, v = .slice a n c := by
  rcases h.2 with ⟨rfl, rfl⟩ | ⟨g, cap, cur, rfl, _⟩
  · exact ⟨none, 0, rfl⟩
  · exact ⟨_, cap, rfl⟩
theorem Hp.part {w w' : World} {h : Nat} {P G : Nat → Prop} {x : HV} (k : Hp w h P x) (hp : Part G w w') (hn : ∀ k, P k → ¬ G k) : Hp w' h P x := by
  obtain ⟨so, sy, sr, k1, k2, k3, k4, k5, k6, k7, k8, k9⟩ := k.lay
  have hs := hp.size
  refine ⟨⟨so, sy, sr, (hp.block h (k.lt _ k.hP) (hn _ k.hP)).trans k1, hp.row k2 (fun q hq => hn _ (k7 q hq)), hp.row k3 (fun q hq => hn _ (k8 q hq)), hp.row k4 (fun q hq => hn _ (k9 q hq)), k5, k6, k7, k8, k9⟩, fun j hj => ?_, k.inj, k.hP, fun q hq => by have := k.lt q hq; omega, k.n1, k.n2, k.rt, k.s1, k.s2⟩
  obtain ⟨f1, f2⟩ := k.ff j hj
  exact ⟨(hp.block _ (k.lt _ f2) (hn _ f2)).trans f1, f2⟩
theorem Hp.below {w w' : World} {h : Nat} {P : Nat → Prop} {x : HV} (k : Hp w h P x) (hb : Below w.heap.size w w') : Hp w' h P x := k.part (Part.ofBelow (F := fun _ => False) hb) (fun _ _ h => h)
/-- The root's cell. -/
theorem Hp.root {w : World} {h : Nat} {P : Nat → Prop} {x : HV} (k : Hp w h P x) : ∃ g c, w.cell? ⟨h, 6, none⟩ = some (.slice (some ⟨g, 0, none⟩) 1 c) ∧ w.cell? ⟨g, 0, none⟩ = some (.int .i64 (kw x.r)) := by
  obtain ⟨so, sy, sr, k1, k2, k3, k4, _⟩ := k.lay
  have hc := fun g => World.ownsRow.cells (g := g) k4
  rcases k4.2 with ⟨_, h0⟩ | ⟨g, cap, cur, rfl, _⟩
  · omega
  · have c6 := (hget k1).2.2.2.2.2.2.1
    have := hc g rfl 0 _ rfl
    rw [Addr.add_lit] at this
    exact ⟨g, cap, c6, this⟩
/-- Where an object lies. -/
theorem Hp.place {w : World} {h : Nat} {P : Nat → Prop} {x : HV} (k : Hp w h P x) (j : Nat) (hj : j < x.no + x.ny) : ∃ g off, (j < x.no → off = j * 4 ∧ ∃ c, w.cell? ⟨h, 0, none⟩ = some (.slice (some ⟨g, 0, none⟩) x.no c)) ∧ (¬ j < x.no → off = (j - x.no) * 4 ∧ ∃ c, w.cell? ⟨h, 3, none⟩ = some (.slice (some ⟨g, 0, none⟩) x.ny c)) ∧ w.cell? ⟨g, off, none⟩ = some (.int .i64 (x.K j : Int)) ∧ w.cell? ⟨g, off + 1, none⟩ = some (.slice (some ⟨x.FB j, 0, none⟩) (x.FL j) (x.FL j)) ∧ w.cell? ⟨g, off + 2, none⟩ = some (.string ⟨#[]⟩) := by
  obtain ⟨so, sy, sr, k1, k2, k3, k4, _⟩ := k.lay
  obtain ⟨c0, _, _, c3, _⟩ := hget k1
  by_cases hlt : j < x.no
  · have hc := fun g => World.ownsRow.cells (g := g) k2
    rcases k2.2 with ⟨_, h0⟩ | ⟨g, cap, cur, rfl, _⟩
    · omega
    · have e0 := hc g rfl (j * 4 + 0) (.int .i64 (x.K j : Int)) (by rw [objL_get _ _ _ 0 _ j 0 hlt (by decide), Nat.zero_add]; rfl)
      have e1 := hc g rfl (j * 4 + 1) (.slice (some ⟨x.FB j, 0, none⟩) (x.FL j) (x.FL j)) (by rw [objL_get _ _ _ 0 _ j 1 hlt (by decide), Nat.zero_add]; rfl)
      have e2 := hc g rfl (j * 4 + 2) (.string ⟨#[]⟩) (by rw [objL_get _ _ _ 0 _ j 2 hlt (by decide)]; rfl)
      rw [Addr.add_lit, Nat.zero_add] at e0 e1 e2
      exact ⟨g, j * 4, fun _ => ⟨rfl, cap, c0⟩, fun h => absurd hlt h, e0, e1, e2⟩
  · have hc := fun g => World.ownsRow.cells (g := g) k3
    rcases k3.2 with ⟨_, h0⟩ | ⟨g, cap, cur, rfl, _⟩
    · omega
    · have ej : x.no + (j - x.no) = j := by omega
      have e0 := hc g rfl ((j - x.no) * 4 + 0) (.int .i64 (x.K j : Int)) (by rw [objL_get _ _ _ _ _ (j - x.no) 0 (by omega) (by decide), ej]; rfl)
      have e1 := hc g rfl ((j - x.no) * 4 + 1) (.slice (some ⟨x.FB j, 0, none⟩) (x.FL j) (x.FL j)) (by rw [objL_get _ _ _ _ _ (j - x.no) 1 (by omega) (by decide), ej]; rfl)
      have e2 := hc g rfl ((j - x.no) * 4 + 2) (.string ⟨#[]⟩) (by rw [objL_get _ _ _ _ _ (j - x.no) 2 (by omega) (by decide)]; rfl)
      rw [Addr.add_lit, Nat.zero_add] at e0 e1 e2
      exact ⟨g, (j - x.no) * 4, fun h => absurd h hlt, fun _ => ⟨rfl, cap, c3⟩, e0, e1, e2⟩

theorem h_isRoot {w : World} {h : Nat} {g c : Nat} (c6 : w.cell? ⟨h, 6, none⟩ = some (.slice (some ⟨g, 0, none⟩) 1 c)) : Calls Tryd.prog 26 #[.pointer (some ⟨h, 0, none⟩), .int .i64 0] w fun r w' => r = .returned (.bool true) ∧ w' = w := by
  go_enter Tryd.func26, Tryd.ntmps26
  go_wp2
  go_ret
  exact ⟨rfl, rfl⟩
theorem h_root {w : World} {h : Nat} {P : Nat → Prop} {x : HV} (k : Hp w h P x) : Calls Tryd.prog 8 #[.pointer (some ⟨h, 0, none⟩), .int .i64 0] w fun r w' => r = .returned (.int .i64 (tw x.sft x.r)) ∧ w' = w := by
  obtain ⟨g, c, c6, c0⟩ := k.root
  obtain ⟨so, sy, sr, k1, _⟩ := k.lay
  have n1 := k.n1
  have n2 := k.n2
  have s1 := k.s1
  have HM : Hid (Calls Tryd.prog 22 #[.pointer (some ⟨h, 0, none⟩)] w fun r w' => r = .returned (.bool false) ∧ w' = w) := h_missing k1 rfl
  have HR : Hid (Calls Tryd.prog 26 #[.pointer (some ⟨h, 0, none⟩), .int .i64 0] w fun r w' => r = .returned (.bool true) ∧ w' = w) := h_isRoot c6
  have HT : Hid (Calls Tryd.prog 27 #[.pointer (some ⟨h, 0, none⟩), .int .i64 (kw x.r)] w fun r w' => r = .returned (.int .i64 (tw x.sft x.r)) ∧ w' = w) := h_told k1 x.r (fun j hj => by have := k.rt j hj; omega) (by omega)
  clear k k1
  generalize kw x.r = z at *
  generalize tw x.sft x.r = z2 at *
  go_enter Tryd.func8, Tryd.ntmps8
  go_wp2_with fail
  refine HM.out.mono ?_
  rintro r w1 ⟨rfl, hw⟩
  obtain rfl : w = w1 := hw.symm
  clear hw
  go_wp2_with fail
  refine HR.out.mono ?_
  rintro r w1 ⟨rfl, hw⟩
  obtain rfl : w = w1 := hw.symm
  clear hw
  go_wp2_with fail
  refine HT.out.mono ?_
  rintro r w1 ⟨rfl, hw⟩
  obtain rfl : w = w1 := hw.symm
  clear hw
  go_wp2
  go_ret
  exact ⟨rfl, rfl⟩
theorem h_isOld {w : World} {h : Nat} {no co : Nat} {ao : Option Addr} (c0 : w.cell? ⟨h, 0, none⟩ = some (.slice ao no co)) (hno : no ≤ 1000) (j : Nat) (hj : j ≤ 1000000000) : Calls Tryd.prog 38 #[.pointer (some ⟨h, 0, none⟩), .int .i64 (2 * (j : Int) + 2)] w fun r w' => r = .returned (.bool (decide (j < no))) ∧ Dr w w' := by
  have HN : Hid (∀ wq, Dr w wq → Calls Tryd.prog 39 #[.int .i64 (2 * (j : Int) + 2)] wq fun r w' => r = .returned (.int .i64 (j : Int)) ∧ Dr w w') := fun wq hq => (h_number j wq hj).mono fun r w' ⟨hr, hw⟩ => ⟨hr, by rw [hw]; exact hq⟩
  have HS : Hid (∀ wq, Dr w wq → wq.cell? ⟨h, 0, none⟩ = some (.slice ao no co)) := fun wq hq => by obtain ⟨q, rfl⟩ := hq; exact c0
  have k0 : Dr w w := Dr.refl w
  have hd : decide ((j : Int) < (no : Int)) = decide (j < no) := by simp
  generalize 2 * (j : Int) + 2 = z at *
  go_enter Tryd.func38, Tryd.ntmps38
  go_wp2_with fail
  go_region_held2 (fun wq => wq.cell? ⟨h, 0, none⟩ = some (.slice ao no co))
    (first | exact HS.out _ (by assumption) | exact HS.out _ (Dr.drew (by assumption)) | go_keep)
    (first
      | (go_at_call 39; refine (HN.out _ (by first | exact k0 | exact k0.drew)).mono ?_; rintro e' w1 ⟨rfl, k1⟩))
  go_wp2
  go_ret
  exact ⟨by simp, k1⟩
theorem h_texts_no (z : Int) (w : World) (h3 : (z == 3) = false) (h4 : (z == 4) = false) (h5 : (z == 5) = false) : Calls Tryd.prog 30 #[.int .i64 z] w fun r w' => r = .returned (.bool false) ∧ w' = w := by
  go_enter Tryd.func30, Tryd.ntmps30
  go_wp2
  go_ret
  exact ⟨rfl, rfl⟩
theorem h_have1 {w : World} (hw : w.cell? ⟨0, 1, none⟩ = some (.int .i64 2)) : Calls Tryd.prog 24 #[.int .i64 1, .int .i64 2] w fun r w' => r = .returned (.bool true) ∧ w' = w := by
  have HT : Hid (Calls Tryd.prog 30 #[.int .i64 1] w fun r w' => r = .returned (.bool false) ∧ w' = w) := h_texts_no 1 w rfl rfl rfl
  go_enter Tryd.func24, Tryd.ntmps24
  go_wp2_with fail
  refine HT.out.mono ?_
  rintro r w1 ⟨rfl, hw1⟩
  obtain rfl : w = w1 := hw1.symm
  clear hw1
  go_wp2
  go_ret
  exact ⟨rfl, rfl⟩
theorem h_have2 {w : World} : Calls Tryd.prog 24 #[.int .i64 2, .int .i64 1] w fun r w' => r = .returned (.bool true) ∧ w' = w := by
  have HT : Hid (Calls Tryd.prog 30 #[.int .i64 2] w fun r w' => r = .returned (.bool false) ∧ w' = w) := h_texts_no 2 w rfl rfl rfl
  go_enter Tryd.func24, Tryd.ntmps24
  go_wp2_with fail
  refine HT.out.mono ?_
  rintro r w1 ⟨rfl, hw1⟩
  obtain rfl : w = w1 := hw1.symm
  clear hw1
  go_wp2
  go_ret
  exact ⟨rfl, rfl⟩
end Go.Proofs.YtmpilcamnhlalaaDoor
