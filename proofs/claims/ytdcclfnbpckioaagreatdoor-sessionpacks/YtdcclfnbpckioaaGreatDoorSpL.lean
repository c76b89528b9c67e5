/-
  SameChanges over rows of changes that are the same; one: a row of one change.
-/
import Derived.Test.YtdcclfnbpckioaaGreatDoorSpJ
namespace Go.Proofs.YtdcclfnbpckioaaGreatDoor
open Go.RowKit Go.Shelf
set_option linter.unusedVariables false
set_option maxRecDepth 100000
set_option maxHeartbeats 2000000

abbrev Kx := List UInt8 × List Int
/-- A row of changes as it is read: keys and bytes. -/
def ChR (w : World) (v : Value) (L : List Kx) : Prop := ∃ a c, v = .slice a L.length c ∧ ∀ k x, L[k]? = some x → ∃ g ak ck, a = some ⟨g, 0, none⟩ ∧ w.cell? ⟨g, k * 3, none⟩ = some (.string ⟨x.1.toArray⟩) ∧ w.cell? ⟨g, k * 3 + 1, none⟩ = some (.slice ak x.2.length ck) ∧ w.cell? ⟨g, k * 3 + 2, none⟩ = some (.bool false) ∧ From w ak x.2.length (fn x.2)
theorem ChR.below {w w' : World} {v : Value} {L : List Kx} (h : ChR w v L) (hb : Below w.heap.size w w') : ChR w' v L := by
  obtain ⟨a, c, hv, hk⟩ := h
  have key : ∀ p v, w.cell? p = some v → w'.cell? p = some v := fun p v hp => by
    rw [hb.cell (p := p) (World.block_lt_of_cell? w _ hp)]; exact hp
  refine ⟨a, c, hv, fun k x hx => ?_⟩
  obtain ⟨g, ak, ck, h1, h2, h3, h4, h5⟩ := hk k x hx
  exact ⟨g, ak, ck, h1, key _ _ h2, key _ _ h3, key _ _ h4, h5.below hb (Nat.le_refl _)⟩
theorem flat_at : ∀ (zs : List Zc) (k : Nat) (z : Zc), zs[k]? = some z → ∀ j, j < 3 → (zs.flatMap Zc.cs)[k * 3 + j]? = z.cs[j]?
  | [], k, z, h, j, hj => by cases h
  | y :: r, 0, z, h, j, hj => by
    obtain rfl : y = z := by simpa using h
    rw [List.flatMap_cons, Nat.zero_mul, Nat.zero_add, List.getElem?_append_left (by show j < 3; exact hj)]
  | y :: r, k + 1, z, h, j, hj => by
    have ih := flat_at r k z (by simpa using h) j hj
    rw [List.flatMap_cons, List.getElem?_append_right (by show 3 ≤ _; omega)]
    rw [show (k + 1) * 3 + j - y.cs.length = k * 3 + j by show (k + 1) * 3 + j - 3 = _; omega]
    exact ih
theorem Rlc.rd {W : World} {B : Nat} {v : Value} {zs : List Zc} (h : Rlc W B v zs) : ChR W v (zs.map fun z => (z.ky, z.xs)) := by
  obtain ⟨a, c, hv⟩ := own_slice h.row
  refine ⟨a, c, by rw [List.length_map]; exact hv, fun k x hx => ?_⟩
  rw [List.getElem?_map] at hx
  cases hk : zs[k]? with
  | none => rw [hk] at hx; cases hx
  | some z =>
    rw [hk] at hx
    obtain rfl : (z.ky, z.xs) = x := by simpa using hx
    have hlt : k < zs.length := (List.getElem?_eq_some_iff.1 hk).1
    obtain ⟨ak, ck, hzv, hF, _⟩ := (h.own z (List.mem_of_getElem? hk)).open
    rcases h.row.2 with ⟨h1, h2⟩ | ⟨g, cap, cur, h1, _, h2, _, _, h3, h4⟩
    · omega
    · have key : ∀ j, j < 3 → W.cell? ⟨g, k * 3 + j, none⟩ = z.cs[j]? := fun j hj => by
        rw [cells_at h2, ← Array.getElem?_toList, ← flat_at zs k z hk j hj, ← h4, List.getElem?_take_of_lt (by omega)]
      rw [hv] at h1
      injection h1 with h1 _ _
      refine ⟨g, ak, ck, h1, key 0 (by omega), ?_, key 2 (by omega), hF⟩
      rw [key 1 (by omega)]
      show some z.val = _
      rw [hzv]
theorem ch_is (ky : ByteArray) (a1 a2 : Option Addr) (n c1 c2 : Nat) (f : Nat → Int) (w : World) (h1 : From w a1 n f) (h2 : From w a2 n f) :
    Calls Tryz.prog 34 #[.agg #[.string ky, .slice a1 n c1, .bool false], .agg #[.string ky, .slice a2 n c2, .bool false]] w fun e w' => e = .returned (.bool true) ∧ Below w.heap.size w w' := by
  have HB : Hid (∀ p q : Obj, Below w.heap.size w ((w.alloc p).alloc q)) := fun p q => ((Below.refl _ w).alloc (Nat.le_refl _) p).alloc (by simp) q
  have H1 : Hid (∀ wq, Below w.heap.size w wq → Calls Tryz.prog 16 #[.slice a1 n c1, .slice a2 n c2] wq fun e w' => e = .returned (.bool true) ∧ w' = wq) := fun wq hq => equal_yes a1 a2 n c1 n c2 f f wq (h1.below hq (Nat.le_refl _)) (h2.below hq (Nat.le_refl _)) (show Hid (lst f n = lst f n) from rfl)
  clear h1 h2
  go_enter Tryz.func34, Tryz.ntmps34
  go_wp2_with (go_at_call 16; refine (H1.out _ (HB.out _ _)).mono ?_; rintro e w2 ⟨rfl, hw⟩; subst hw)
  go_ret
  exact ⟨rfl, HB.out _ _⟩
theorem ch_eq (v1 v2 : Value) (L : List Kx) (w : World) (hL : L.length ≤ 1000) (h1 : ChR w v1 L) (h2 : ChR w v2 L) :
    Calls Tryz.prog 33 #[v1, v2, .func (.func 34) #[] #[]] w fun e w' => e = .returned (.bool true) ∧ Below w.heap.size w w' := by
  obtain ⟨a1, c1, rfl, y1⟩ := h1
  obtain ⟨a2, c2, rfl, y2⟩ := h2
  have H1 : Hid (ChR w (.slice a1 L.length c1) L) := ⟨a1, c1, rfl, y1⟩
  have H2 : Hid (ChR w (.slice a2 L.length c2) L) := ⟨a2, c2, rfl, y2⟩
  clear y1 y2
  obtain ⟨m, hm⟩ : ∃ m, L.length = m := ⟨_, rfl⟩
  rw [hm] at hL
  have HG : Hid (∀ wq, Below w.heap.size w wq → ∀ k, k < m → ∃ (g1 g2 : Nat) (ky : ByteArray) (k1 k2 : Option Addr) (n d1 d2 : Nat) (f : Nat → Int), a1 = some ⟨g1, 0, none⟩ ∧ a2 = some ⟨g2, 0, none⟩ ∧ wq.cell? ⟨g1, k * 3, none⟩ = some (.string ky) ∧ wq.cell? ⟨g1, k * 3 + 1, none⟩ = some (.slice k1 n d1) ∧ wq.cell? ⟨g1, k * 3 + 2, none⟩ = some (.bool false) ∧ wq.cell? ⟨g2, k * 3, none⟩ = some (.string ky) ∧ wq.cell? ⟨g2, k * 3 + 1, none⟩ = some (.slice k2 n d2) ∧ wq.cell? ⟨g2, k * 3 + 2, none⟩ = some (.bool false) ∧ From wq k1 n f ∧ From wq k2 n f ∧ g2 < wq.heap.size) := fun wq hq k hk => by
    obtain ⟨b1, e1, p1, q1⟩ := H1.out.below hq
    obtain ⟨b2, e2, p2, q2⟩ := H2.out.below hq
    injection p1 with p1 _ _
    injection p2 with p2 _ _
    obtain ⟨x, hx⟩ : ∃ x, L[k]? = some x := ⟨_, List.getElem?_eq_getElem (by omega)⟩
    obtain ⟨g1, k1, d1, r1, r2, r3, r4, r5⟩ := q1 k x hx
    obtain ⟨g2, k2, d2, s1, s2, s3, s4, s5⟩ := q2 k x hx
    exact ⟨g1, g2, _, k1, k2, _, d1, d2, _, p1.trans r1, p2.trans s1, r2, r3, r4, s2, s3, s4, r5, s5, World.block_lt_of_cell? wq _ s2⟩
  rw [hm]
  clear H1 H2 hm
  go_enter Tryz.func33, Tryz.ntmps33
  go_wp2
  go_loopw [17] (fun i wr => ∃ k : Nat, k ≤ m ∧ i = .int .i64 (k : Int) ∧ Below w.heap.size w wr) (fun i _ => m - (intOf i).toNat)
  case atStart => exact ⟨0, Nat.zero_le _, rfl, Below.refl _ _⟩
  case round =>
    obtain ⟨k, hk, rfl, hb⟩ := hrel
    have hs := hb.size
    by_cases hlt : k < m
    · have hlt' : (k : Int) < (m : Int) := by omega
      have hk0 : (0 : Int) ≤ (k : Int) := by omega
      obtain ⟨g1, g2, ky, k1, k2, n, d1, d2, f, rfl, rfl, p1, p2, p3, p4, p5, p6, p7, p8, p9⟩ := HG.out wr hb k hlt
      have HB : Hid (∀ p q : Obj, Below wr.heap.size wr ((wr.alloc p).alloc q)) := fun p q => ((Below.refl _ wr).alloc (Nat.le_refl _) p).alloc (by simp) q
      have HF : Hid (∀ wq, Below wr.heap.size wr wq → From wq k1 n f ∧ From wq k2 n f) := fun wq hq => ⟨p7.below hq (Nat.le_refl _), p8.below hq (Nat.le_refl _)⟩
      have al4 : ∀ o, (wr.alloc o).cell? ⟨g2, k * 3, none⟩ = some (.string ky) := fun o => (World.cell?_alloc_past (w := wr) o g2 (k * 3) p9).trans p4
      have al5 : ∀ o, (wr.alloc o).cell? ⟨g2, k * 3 + 1, none⟩ = some (.slice k2 n d2) := fun o => (World.cell?_alloc_past (w := wr) o g2 (k * 3 + 1) p9).trans p5
      have al6 : ∀ o, (wr.alloc o).cell? ⟨g2, k * 3 + 2, none⟩ = some (.bool false) := fun o => (World.cell?_alloc_past (w := wr) o g2 (k * 3 + 2) p9).trans p6
      clear p7 p8 HG
      go_wp2_with fail
      refine (ch_is ky k1 k2 n d1 d2 f _ (HF.out _ (HB.out _ _)).1 (HF.out _ (HB.out _ _)).2).mono ?_
      rintro e w2 ⟨rfl, hb2⟩
      have hb3 : Below w.heap.size w w2 := hb.trans (((HB.out _ _).trans (hb2.mono (HB.out _ _).size)).mono hs)
      clear hb2
      go_wp2
      go_roundw
      case rel => exact ⟨k + 1, by omega, by go_num, hb3⟩
      case measure => simp [intOf]; omega
    · obtain rfl : k = m := by omega
      go_wp2
      go_ret
      exact ⟨rfl, hb⟩
theorem same_ch (v1 v2 : Value) (L : List Kx) (w : World) (hL : L.length ≤ 1000) (h1 : ChR w v1 L) (h2 : ChR w v2 L) :
    Calls Tryz.prog 14 #[v1, v2] w fun e w' => e = .returned (.bool true) ∧ Below w.heap.size w w' := by
  have H := ch_eq v1 v2 L w hL h1 h2
  obtain ⟨a1, c1, rfl, _⟩ := h1
  obtain ⟨a2, c2, rfl, _⟩ := h2
  go_enter Tryz.func14, Tryz.ntmps14
  go_wp2_with (go_at_call 33; refine H.mono ?_; rintro e w2 ⟨rfl, hb⟩)
  go_ret
  exact ⟨rfl, hb⟩
/-- one: a row of one change. -/
theorem one_ch (ky : List UInt8) (v : Value) (xs : List Int) (B : Nat) (w : World) (ho : Own w B v xs) :
    Calls Tryz.prog 13 #[chg ky v] w fun e w' => ∃ v', e = .returned v' ∧ ChR w' v' [(ky, xs)] ∧ Below w.heap.size w w' := by
  obtain ⟨a, c, rfl, hF, _⟩ := ho.open
  have HB : Hid (∀ p q : Obj, Below w.heap.size w ((w.alloc p).alloc q)) := fun p q => ((Below.refl _ w).alloc (Nat.le_refl _) p).alloc (by simp) q
  have HC : Hid (∀ p, ChR ((w.alloc p).alloc (.cells #[.string ⟨ky.toArray⟩, .slice a xs.length c, .bool false] 31)) (.slice (some ⟨w.heap.size + 1, 0, none⟩) 1 1) [(ky, xs)]) := fun p => by
    have hn := heap_alloc_at (w.alloc p) (.cells #[.string ⟨ky.toArray⟩, .slice a xs.length c, .bool false] 31) (w.heap.size + 1) (World.size_alloc ..).symm
    refine ⟨_, 1, rfl, fun k x hx => ?_⟩
    have hk : k = 0 := by
      have := (List.getElem?_eq_some_iff.1 hx).1
      simpa using this
    subst hk
    obtain rfl : (ky, xs) = x := by simpa using hx
    exact ⟨w.heap.size + 1, a, c, rfl, cells_at hn 0, cells_at hn 1, cells_at hn 2, hF.below (HB.out _ _) (Nat.le_refl _)⟩
  unfold chg
  clear ho hF
  go_enter Tryz.func13, Tryz.ntmps13
  go_wp2
  go_ret
  exact ⟨_, rfl, HC.out _, HB.out _ _⟩
end Go.Proofs.YtdcclfnbpckioaaGreatDoor
