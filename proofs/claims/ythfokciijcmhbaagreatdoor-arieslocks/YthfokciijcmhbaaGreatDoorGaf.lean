/-
  Contracts of a log's sectors: read off the disk, encode, right. Conditions: the place is one of the disk's, nothing is pending; the library's table of sums is as it starts.
-/
import Derived.Test.YthfokciijcmhbaaGreatDoorGac
import Derived.Test.YthfokciijcmhbaaGreatDoorGae
import Derived.Deep.DeepCutAuto
namespace Go.Proofs.YthfokciijcmhbaaGreatDoor
open Go.RowKit
set_option linter.unusedVariables false

theorem seen0 (dur : Nat → Int) (tf : Nat → Nat) (ld : Nat → Int) (i : Nat) : seen dur 0 tf ld i = sh dur (i * 128) := by
  unfold seen
  rw [if_pos (by simp [lastAt])]
/-- The bytes from a sector on. -/
def from0 (dur : Nat → Int) (from_ : Nat) : Nat → Int := sh dur (from_ * 128)
theorem from0_sec (dur : Nat → Int) (from_ p : Nat) : secAt (from0 dur from_) p = sh dur ((from_ + p) * 128) := by
  funext i
  show dur _ = dur _
  congr 1
  omega
theorem from0_by {dur : Nat → Int} (h : ∀ i, 0 ≤ dur i ∧ dur i ≤ 255) (from_ i : Nat) : 0 ≤ from0 dur from_ i ∧ from0 dur from_ i ≤ 255 := h _
theorem Dk.by1 {w : World} {D : Nat} {F : Nat → Prop} {n : Nat} {dur : Nat → Int} {m : Nat} {tf : Nat → Nat} {ld : Nat → Int} (h : Dk w D F n dur m tf ld) : ∀ i, 0 ≤ dur i ∧ dur i ≤ 255 := by
  obtain ⟨_, _, _, _, _, _, _, h⟩ := h
  exact h.by1
theorem Own.open128 {w : World} {B : Nat} {v : Value} {f : Nat → Int} {k : Nat} (h : Own w B v (lst f (k + 1))) : ∃ g c, v = .slice (some ⟨g, 0, none⟩) (k + 1) c ∧ B ≤ g ∧ g < w.heap.size ∧ k + 1 ≤ c ∧ c ≤ 9223372036854775807 := by
  unfold Own at h
  rcases h.2 with ⟨_, e⟩ | ⟨g, cap, cur, h1, h2, h3, h4, h5, _⟩
  · rw [lst_length] at e; omega
  · rw [lst_length] at h1 h4
    refine ⟨g, cap, h1, h2, (Array.getElem?_eq_some_iff.1 h3).1, h4, ?_⟩
    unfold maxLen at h5
    omega

set_option maxRecDepth 100000 in
set_option maxHeartbeats 1000000 in
theorem areaReadD (D n from_ sectors place : Nat) (F : Nat → Prop) (dur : Nat → Int) (tf : Nat → Nat) (ld : Nat → Int) (w : World) (h : Dk w D F n dur 0 tf ld) (hp : from_ + place < n) (hn : n ≤ 4096) :
    Calls Tryz.prog 100 #[.agg #[.pointer (some ⟨D, 0, none⟩), .int .i64 (from_ : Int), .int .i64 (sectors : Int)], .int .i64 (place : Int)] w fun e w' => ∃ g c, e = .returned (.slice (some ⟨g, 0, none⟩) 128 c) ∧ Own w' w.heap.size (.slice (some ⟨g, 0, none⟩) 128 c) (lst (secAt (from0 dur from_) place) 128) ∧ 128 ≤ c ∧ Below w.heap.size w w' := by
  have hb0 : ∀ o, Below w.heap.size w (w.alloc o) := fun o => (Below.refl _ w).alloc (Nat.le_refl _) o
  have HR : Hid (∀ o, Calls Tryz.prog 136 #[.pointer (some ⟨D, 0, none⟩), .int .i64 ((from_ : Int) + (place : Int))] (w.alloc o) fun e w' => ∃ g c, e = .returned (.tuple #[.slice (some ⟨g, 0, none⟩) 128 c, .int .i64 0]) ∧ Own w' w.heap.size (.slice (some ⟨g, 0, none⟩) 128 c) (lst (secAt (from0 dur from_) place) 128) ∧ 128 ≤ c ∧ Below w.heap.size w w') := fun o => by
    rw [show (from_ : Int) + (place : Int) = ((from_ + place : Nat) : Int) by omega]
    refine (dkRead D (from_ + place) n 0 F dur tf ld (w.alloc o) (h.below (hb0 o)) hp (by omega)).mono ?_
    rintro e w1 ⟨v, rfl, ho, hb⟩
    rw [seen0, ← from0_sec] at ho
    obtain ⟨g, c, rfl, _, _, hc, _⟩ := Own.open128 (k := 127) ho
    exact ⟨g, c, rfl, ho.mono (by simp), hc, (hb0 o).trans (hb.mono (by simp))⟩
  clear hb0 h
  go_enter Tryz.func100, Tryz.ntmps100
  go_wp2_with fail
  refine (HR.out _).mono ?_
  rintro e w1 ⟨g, c, rfl, ho, hc, hb⟩
  clear HR
  go_wp2
  go_ret
  exact ⟨g, c, rfl, ho, hc, hb⟩

set_option maxRecDepth 100000 in
set_option maxHeartbeats 1000000 in
theorem encL (p N m c : Nat) (a0 : Option Addr) (f : Nat → Int) (w : World) (hp : p ≤ 4096) (hN : N ≤ 9223372036854775807) (hm : m ≤ 112) (hf : From w a0 m f) (hby : ∀ i, 0 ≤ f i ∧ f i ≤ 255) (ht : Tab w) :
    Calls Tryz.prog 105 #[.int .i64 (p : Int), .int .i64 (N : Int), .slice a0 m c] w fun e w' => ∃ g c', e = .returned (.slice (some ⟨g, 0, none⟩) 128 c') ∧ Own w' w.heap.size (.slice (some ⟨g, 0, none⟩) 128 c') (lst (lsec p N m f) 128) ∧ 128 ≤ c' ∧ Below w.heap.size w w' := by
  have hb0 : ∀ o, Below w.heap.size w (w.alloc o) := fun o => (Below.refl _ w).alloc (Nat.le_refl _) o
  have HS : Hid (∀ o, Calls Tryz.prog 142 #[.agg #[.int .u8 76, .int .u8 (m : Int), .int .u8 ((p : Int) % 256), .int .u8 ((p : Int) / 256)], .int .i64 (N : Int), .slice a0 m c] (w.alloc o) fun e w' => ∃ g c', e = .returned (.slice (some ⟨g, 0, none⟩) 128 c') ∧ Own w' w.heap.size (.slice (some ⟨g, 0, none⟩) 128 c') (lst (lsec p N m f) 128) ∧ 128 ≤ c' ∧ Below w.heap.size w w') := fun o => by
    have e2 : (p : Int) % 256 = ((p % 256 : Nat) : Int) := by omega
    have e3 : (p : Int) / 256 = ((p / 256 % 256 : Nat) : Int) := by omega
    rw [e2, e3]
    have hf' : From (w.alloc o) a0 m f := hf.below (hb0 o) (Nat.le_refl _)
    refine (seal_ok 76 (m : Int) _ _ a0 m c N f (w.alloc o) hm hN hf' hby (fun x hx => ?_) (ht.below (hb0 o) (Nat.le_refl _))).mono ?_
    · simp only [List.mem_cons, List.not_mem_nil, or_false] at hx
      rcases hx with rfl | rfl | rfl | rfl <;> omega
    · rintro e w1 ⟨v, rfl, ho, hb⟩
      obtain ⟨g, c', rfl, _, _, hc, _⟩ := Own.open128 (k := 127) ho
      exact ⟨g, c', rfl, ho.mono (by simp), hc, (hb0 o).trans (hb.mono (by simp))⟩
  have hp1 : (p : Int) < 65536 := by omega
  have hm1 : (m : Int) ≤ 112 := by omega
  clear hb0 hf ht
  go_enter Tryz.func105, Tryz.ntmps105
  go_wp2_with fail
  refine (HS.out _).mono ?_
  rintro e w1 ⟨g, c', rfl, ho, hc, hb⟩
  clear HS
  go_wp2
  go_ret
  exact ⟨g, c', rfl, ho, hc, hb⟩

theorem own_take {w : World} {B g u c n : Nat} {f : Nat → Int} (h : Own w B (.slice (some ⟨g, 0, none⟩) n c) (lst f n)) (hu : u ≤ n) : Own w B (.slice (some ⟨g, 0, none⟩) u c) (lst f u) := by
  unfold Own at h ⊢
  rw [lst_length] at h ⊢
  refine ⟨by simp [lst_length], .inr ?_⟩
  rcases h.2 with ⟨h1, _⟩ | ⟨b', cap', cur, h1, h2, h3, h4, h5, h6, h7⟩
  · cases h1
  · cases h1
    refine ⟨g, c, cur, rfl, h2, h3, by omega, h5, h6, ?_⟩
    rw [Nat.mul_one] at h7 ⊢
    have : List.take u (List.take n cur.toList) = cur.toList.take u := by rw [List.take_take]; congr 1; omega
    rw [← this, h7, ← List.map_take]
    congr 1
    unfold lst
    rw [← List.map_take, List.take_range]
    congr 2
    omega
theorem own_from {w : World} {B g u c : Nat} {f : Nat → Int} (h : Own w B (.slice (some ⟨g, 0, none⟩) u c) (lst f u)) : From w (some ⟨g, 0, none⟩) u f := .inr ⟨_, rfl, fun i hi => by rw [Addr.add_lit, Nat.zero_add]; exact h.cellF i hi⟩

set_option maxRecDepth 100000 in
set_option maxHeartbeats 1000000 in
theorem right_used (g c place B : Nat) (s : Nat → Int) (w : World) (ho : Own w B (.slice (some ⟨g, 0, none⟩) 128 c) (lst s 128)) (hc : 128 ≤ c) (hby : ∀ i, 0 ≤ s i ∧ s i ≤ 255) (hbad : 112 < s 1) :
    Calls Tryz.prog 99 #[.slice (some ⟨g, 0, none⟩) 128 c, .int .i64 (place : Int)] w fun e w' => e = .returned (.tuple #[.int .i64 0, .slice none 0 0, .bool false]) ∧ Below w.heap.size w w' := by
  have HC : Hid (∀ wq : World, Below w.heap.size w wq → ∀ i, i < 128 → wq.cell? ⟨g, 0 + i, none⟩ = some (.int .u8 (s i))) := fun wq hq i hi => by
    have h9 := ho.cellF i hi
    rw [Nat.zero_add, hq.cell (p := ⟨g, i, none⟩) (World.block_lt_of_cell? w _ h9)]
    exact h9
  obtain ⟨u, hu⟩ : ∃ u : Nat, s 1 = (u : Int) := ⟨(s 1).toNat, by have := hby 1; omega⟩
  have hu9 : u ≤ 255 := by have := hby 1; omega
  have h1 : w.cell? ⟨g, 1, none⟩ = some (.int .u8 (u : Int)) := by rw [← hu]; exact ho.cellF 1 (by omega)
  have hlt : g < w.heap.size := World.block_lt_of_cell? w _ h1
  have hwu : IntKind.i64.wrap (u : Int) = (u : Int) := by rw [IntKind.wrap_i64]; omega
  have HL : Hid (∀ wq, Below w.heap.size w wq → Calls Tryz.prog 135 #[.slice (some ⟨g, 0, none⟩) 128 c] wq fun e w' => ∃ gL cL, e = .returned (.slice (some ⟨gL, 0, none⟩) 112 cL) ∧ Hid (Own w' w.heap.size (.slice (some ⟨gL, 0, none⟩) 112 cL) (lst (sh s 12) 112)) ∧ 112 ≤ cL ∧ cL ≤ 9223372036854775807 ∧ Below w.heap.size w w' ∧ w'.cell? ⟨g, 1, none⟩ = some (.int .u8 (u : Int))) := fun wq hq => by
    refine (load_at g 0 c s wq hc (HC.out wq hq)).mono ?_
    rintro e w1 ⟨v, rfl, hv, hb⟩
    have hv' := hv.mono hq.size
    obtain ⟨gL, cL, rfl, _, _, k1, k2⟩ := Own.open128 (k := 111) hv'
    have hb2 := hq.trans (hb.mono hq.size)
    refine ⟨gL, cL, rfl, hv', k1, k2, hb2, ?_⟩
    have := HC.out w1 hb2 1 (by omega)
    rw [Nat.zero_add, hu] at this
    exact this
  have HN : Hid (∀ wq, Below w.heap.size w wq → Calls Tryz.prog 134 #[.slice (some ⟨g, 0, none⟩) 128 c] wq fun e w' => e = .returned (.int .i64 (numS s)) ∧ w' = wq) := fun wq hq => number_at g 0 c s wq hc hby (HC.out wq hq)
  have hb0 : Below w.heap.size w w.drew := blw_drewN 1 (Below.refl _ w)
  obtain ⟨z, hz⟩ : ∃ z, numS s = z := ⟨_, rfl⟩
  rw [hz] at HN
  have hz1 : (112 : Int) < (u : Int) := by rw [← hu]; exact hbad
  clear ho hu HC hz hbad
  go_enter Tryz.func99, Tryz.ntmps99
  go_upto_region 1 with fail
  go_cut [7, 8, 9] (fun s7 s8 s9 wc => s7 = .int .i64 (u : Int) ∧ s8 = .int .i64 z ∧ ∃ gL cL, s9 = .slice (some ⟨gL, 0, none⟩) 112 cL ∧ Hid (Own wc w.heap.size (.slice (some ⟨gL, 0, none⟩) 112 cL) (lst (sh s 12) 112)) ∧ 112 ≤ cL ∧ cL ≤ 9223372036854775807 ∧ Below w.heap.size w wc)
  case first =>
    go_region_with (first
      | (go_at_call 134; refine (HN.out _ (by first | exact hb0 | assumption)).mono ?_; rintro e1 w1 ⟨rfl, rfl⟩)
      | (go_at_call 135; refine (HL.out _ (by first | exact hb0 | assumption)).mono ?_; rintro e1 w2 ⟨gL, cL, rfl, hoL, q1, q2, hbL, hc3⟩))
    all_goals
      go_wp2_with fail
      go_meet
      exact ⟨rfl, rfl, gL, cL, rfl, hoL, q1, q2, hbL⟩
  case rest =>
    obtain ⟨rfl, rfl, gL, cL, rfl, hoL, q1, q2, hbL⟩ := hcut
    clear hoL
    go_wp2
    go_ret3
    exact ⟨rfl, hbL⟩

set_option maxRecDepth 100000 in
set_option maxHeartbeats 1000000 in
theorem right_low (g c place B : Nat) (s : Nat → Int) (w : World) (ho : Own w B (.slice (some ⟨g, 0, none⟩) 128 c) (lst s 128)) (hc : 128 ≤ c) (hby : ∀ i, 0 ≤ s i ∧ s i ≤ 255) (hbad : s 1 ≤ 112 ∧ numS s < 1) :
    Calls Tryz.prog 99 #[.slice (some ⟨g, 0, none⟩) 128 c, .int .i64 (place : Int)] w fun e w' => e = .returned (.tuple #[.int .i64 0, .slice none 0 0, .bool false]) ∧ Below w.heap.size w w' := by
  have HC : Hid (∀ wq : World, Below w.heap.size w wq → ∀ i, i < 128 → wq.cell? ⟨g, 0 + i, none⟩ = some (.int .u8 (s i))) := fun wq hq i hi => by
    have h9 := ho.cellF i hi
    rw [Nat.zero_add, hq.cell (p := ⟨g, i, none⟩) (World.block_lt_of_cell? w _ h9)]
    exact h9
  obtain ⟨u, hu⟩ : ∃ u : Nat, s 1 = (u : Int) := ⟨(s 1).toNat, by have := hby 1; omega⟩
  have hu9 : u ≤ 255 := by have := hby 1; omega
  have h1 : w.cell? ⟨g, 1, none⟩ = some (.int .u8 (u : Int)) := by rw [← hu]; exact ho.cellF 1 (by omega)
  have hlt : g < w.heap.size := World.block_lt_of_cell? w _ h1
  have hwu : IntKind.i64.wrap (u : Int) = (u : Int) := by rw [IntKind.wrap_i64]; omega
  have HL : Hid (∀ wq, Below w.heap.size w wq → Calls Tryz.prog 135 #[.slice (some ⟨g, 0, none⟩) 128 c] wq fun e w' => ∃ gL cL, e = .returned (.slice (some ⟨gL, 0, none⟩) 112 cL) ∧ Hid (Own w' w.heap.size (.slice (some ⟨gL, 0, none⟩) 112 cL) (lst (sh s 12) 112)) ∧ 112 ≤ cL ∧ cL ≤ 9223372036854775807 ∧ Below w.heap.size w w' ∧ w'.cell? ⟨g, 1, none⟩ = some (.int .u8 (u : Int))) := fun wq hq => by
    refine (load_at g 0 c s wq hc (HC.out wq hq)).mono ?_
    rintro e w1 ⟨v, rfl, hv, hb⟩
    have hv' := hv.mono hq.size
    obtain ⟨gL, cL, rfl, _, _, k1, k2⟩ := Own.open128 (k := 111) hv'
    have hb2 := hq.trans (hb.mono hq.size)
    refine ⟨gL, cL, rfl, hv', k1, k2, hb2, ?_⟩
    have := HC.out w1 hb2 1 (by omega)
    rw [Nat.zero_add, hu] at this
    exact this
  have HN : Hid (∀ wq, Below w.heap.size w wq → Calls Tryz.prog 134 #[.slice (some ⟨g, 0, none⟩) 128 c] wq fun e w' => e = .returned (.int .i64 (numS s)) ∧ w' = wq) := fun wq hq => number_at g 0 c s wq hc hby (HC.out wq hq)
  have hb0 : Below w.heap.size w w.drew := blw_drewN 1 (Below.refl _ w)
  obtain ⟨z, hz⟩ : ∃ z, numS s = z := ⟨_, rfl⟩
  rw [hz] at HN
  have hz1 : ¬ (112 : Int) < (u : Int) := by rw [← hu]; have := hbad.1; omega
  have hz2 : z < 1 := by rw [← hz]; exact hbad.2
  clear ho hu HC hz hbad
  go_enter Tryz.func99, Tryz.ntmps99
  go_upto_region 1 with fail
  go_cut [7, 8, 9] (fun s7 s8 s9 wc => s7 = .int .i64 (u : Int) ∧ s8 = .int .i64 z ∧ ∃ gL cL, s9 = .slice (some ⟨gL, 0, none⟩) 112 cL ∧ Hid (Own wc w.heap.size (.slice (some ⟨gL, 0, none⟩) 112 cL) (lst (sh s 12) 112)) ∧ 112 ≤ cL ∧ cL ≤ 9223372036854775807 ∧ Below w.heap.size w wc)
  case first =>
    go_region_with (first
      | (go_at_call 134; refine (HN.out _ (by first | exact hb0 | assumption)).mono ?_; rintro e1 w1 ⟨rfl, rfl⟩)
      | (go_at_call 135; refine (HL.out _ (by first | exact hb0 | assumption)).mono ?_; rintro e1 w2 ⟨gL, cL, rfl, hoL, q1, q2, hbL, hc3⟩))
    all_goals
      go_wp2_with fail
      go_meet
      exact ⟨rfl, rfl, gL, cL, rfl, hoL, q1, q2, hbL⟩
  case rest =>
    obtain ⟨rfl, rfl, gL, cL, rfl, hoL, q1, q2, hbL⟩ := hcut
    clear hoL
    go_wp2
    go_ret3
    exact ⟨rfl, hbL⟩

set_option maxRecDepth 100000 in
set_option maxHeartbeats 1000000 in
theorem right_high (g c place B : Nat) (s : Nat → Int) (w : World) (ho : Own w B (.slice (some ⟨g, 0, none⟩) 128 c) (lst s 128)) (hc : 128 ≤ c) (hby : ∀ i, 0 ≤ s i ∧ s i ≤ 255) (hbad : s 1 ≤ 112 ∧ 1 ≤ numS s ∧ 4611686018427387904 < numS s) :
    Calls Tryz.prog 99 #[.slice (some ⟨g, 0, none⟩) 128 c, .int .i64 (place : Int)] w fun e w' => e = .returned (.tuple #[.int .i64 0, .slice none 0 0, .bool false]) ∧ Below w.heap.size w w' := by
  have HC : Hid (∀ wq : World, Below w.heap.size w wq → ∀ i, i < 128 → wq.cell? ⟨g, 0 + i, none⟩ = some (.int .u8 (s i))) := fun wq hq i hi => by
    have h9 := ho.cellF i hi
    rw [Nat.zero_add, hq.cell (p := ⟨g, i, none⟩) (World.block_lt_of_cell? w _ h9)]
    exact h9
  obtain ⟨u, hu⟩ : ∃ u : Nat, s 1 = (u : Int) := ⟨(s 1).toNat, by have := hby 1; omega⟩
  have hu9 : u ≤ 255 := by have := hby 1; omega
  have h1 : w.cell? ⟨g, 1, none⟩ = some (.int .u8 (u : Int)) := by rw [← hu]; exact ho.cellF 1 (by omega)
  have hlt : g < w.heap.size := World.block_lt_of_cell? w _ h1
  have hwu : IntKind.i64.wrap (u : Int) = (u : Int) := by rw [IntKind.wrap_i64]; omega
  have HL : Hid (∀ wq, Below w.heap.size w wq → Calls Tryz.prog 135 #[.slice (some ⟨g, 0, none⟩) 128 c] wq fun e w' => ∃ gL cL, e = .returned (.slice (some ⟨gL, 0, none⟩) 112 cL) ∧ Hid (Own w' w.heap.size (.slice (some ⟨gL, 0, none⟩) 112 cL) (lst (sh s 12) 112)) ∧ 112 ≤ cL ∧ cL ≤ 9223372036854775807 ∧ Below w.heap.size w w' ∧ w'.cell? ⟨g, 1, none⟩ = some (.int .u8 (u : Int))) := fun wq hq => by
    refine (load_at g 0 c s wq hc (HC.out wq hq)).mono ?_
    rintro e w1 ⟨v, rfl, hv, hb⟩
    have hv' := hv.mono hq.size
    obtain ⟨gL, cL, rfl, _, _, k1, k2⟩ := Own.open128 (k := 111) hv'
    have hb2 := hq.trans (hb.mono hq.size)
    refine ⟨gL, cL, rfl, hv', k1, k2, hb2, ?_⟩
    have := HC.out w1 hb2 1 (by omega)
    rw [Nat.zero_add, hu] at this
    exact this
  have HN : Hid (∀ wq, Below w.heap.size w wq → Calls Tryz.prog 134 #[.slice (some ⟨g, 0, none⟩) 128 c] wq fun e w' => e = .returned (.int .i64 (numS s)) ∧ w' = wq) := fun wq hq => number_at g 0 c s wq hc hby (HC.out wq hq)
  have hb0 : Below w.heap.size w w.drew := blw_drewN 1 (Below.refl _ w)
  obtain ⟨z, hz⟩ : ∃ z, numS s = z := ⟨_, rfl⟩
  rw [hz] at HN
  have hz1 : ¬ (112 : Int) < (u : Int) := by rw [← hu]; have := hbad.1; omega
  have hz2 : ¬ z < 1 := by rw [← hz]; have := hbad.2.1; omega
  have hz3 : (4611686018427387904 : Int) < z := by rw [← hz]; exact hbad.2.2
  clear ho hu HC hz hbad
  go_enter Tryz.func99, Tryz.ntmps99
  go_upto_region 1 with fail
  go_cut [7, 8, 9] (fun s7 s8 s9 wc => s7 = .int .i64 (u : Int) ∧ s8 = .int .i64 z ∧ ∃ gL cL, s9 = .slice (some ⟨gL, 0, none⟩) 112 cL ∧ Hid (Own wc w.heap.size (.slice (some ⟨gL, 0, none⟩) 112 cL) (lst (sh s 12) 112)) ∧ 112 ≤ cL ∧ cL ≤ 9223372036854775807 ∧ Below w.heap.size w wc)
  case first =>
    go_region_with (first
      | (go_at_call 134; refine (HN.out _ (by first | exact hb0 | assumption)).mono ?_; rintro e1 w1 ⟨rfl, rfl⟩)
      | (go_at_call 135; refine (HL.out _ (by first | exact hb0 | assumption)).mono ?_; rintro e1 w2 ⟨gL, cL, rfl, hoL, q1, q2, hbL, hc3⟩))
    all_goals
      go_wp2_with fail
      go_meet
      exact ⟨rfl, rfl, gL, cL, rfl, hoL, q1, q2, hbL⟩
  case rest =>
    obtain ⟨rfl, rfl, gL, cL, rfl, hoL, q1, q2, hbL⟩ := hcut
    clear hoL
    go_wp2
    go_ret3
    exact ⟨rfl, hbL⟩

set_option maxRecDepth 100000 in
set_option maxHeartbeats 1000000 in
theorem right_yes (g c place B N u : Nat) (s : Nat → Int) (w : World) (ho : Own w B (.slice (some ⟨g, 0, none⟩) 128 c) (lst s 128)) (hc : 128 ≤ c) (hby : ∀ i, 0 ≤ s i ∧ s i ≤ 255) (hp : place ≤ 4096) (ht : Tab w) (hu : s 1 = (u : Int)) (hz : numS s = (N : Int)) (hu2 : u ≤ 112) (hN1 : 1 ≤ N) (hN2 : N ≤ 4611686018427387904) (heq : ∀ i, i < 128 → s i = lsec place N u (sh s 12) i) :
    Calls Tryz.prog 99 #[.slice (some ⟨g, 0, none⟩) 128 c, .int .i64 (place : Int)] w fun e w' => ∃ gL cL, e = .returned (.tuple #[.int .i64 (N : Int), .slice (some ⟨gL, 0, none⟩) u cL, .bool true]) ∧ Own w' w.heap.size (.slice (some ⟨gL, 0, none⟩) u cL) (lst (sh s 12) u) ∧ u ≤ cL ∧ cL ≤ 9223372036854775807 ∧ Below w.heap.size w w' := by
  have HC : Hid (∀ wq : World, Below w.heap.size w wq → ∀ i, i < 128 → wq.cell? ⟨g, 0 + i, none⟩ = some (.int .u8 (s i))) := fun wq hq i hi => by
    have h9 := ho.cellF i hi
    rw [Nat.zero_add, hq.cell (p := ⟨g, i, none⟩) (World.block_lt_of_cell? w _ h9)]
    exact h9
  have hu9 : u ≤ 255 := by have := hby 1; omega
  have h1 : w.cell? ⟨g, 1, none⟩ = some (.int .u8 (u : Int)) := by rw [← hu]; exact ho.cellF 1 (by omega)
  have hlt : g < w.heap.size := World.block_lt_of_cell? w _ h1
  have hwu : IntKind.i64.wrap (u : Int) = (u : Int) := by rw [IntKind.wrap_i64]; omega
  have HL : Hid (∀ wq, Below w.heap.size w wq → Calls Tryz.prog 135 #[.slice (some ⟨g, 0, none⟩) 128 c] wq fun e w' => ∃ gL cL, e = .returned (.slice (some ⟨gL, 0, none⟩) 112 cL) ∧ Hid (Own w' w.heap.size (.slice (some ⟨gL, 0, none⟩) 112 cL) (lst (sh s 12) 112)) ∧ 112 ≤ cL ∧ cL ≤ 9223372036854775807 ∧ Below w.heap.size w w' ∧ w'.cell? ⟨g, 1, none⟩ = some (.int .u8 (u : Int))) := fun wq hq => by
    refine (load_at g 0 c s wq hc (HC.out wq hq)).mono ?_
    rintro e w1 ⟨v, rfl, hv, hb⟩
    have hv' := hv.mono hq.size
    obtain ⟨gL, cL, rfl, _, _, k1, k2⟩ := Own.open128 (k := 111) hv'
    have hb2 := hq.trans (hb.mono hq.size)
    refine ⟨gL, cL, rfl, hv', k1, k2, hb2, ?_⟩
    have := HC.out w1 hb2 1 (by omega)
    rw [Nat.zero_add, hu] at this
    exact this
  have HN : Hid (∀ wq, Below w.heap.size w wq → Calls Tryz.prog 134 #[.slice (some ⟨g, 0, none⟩) 128 c] wq fun e w' => e = .returned (.int .i64 (numS s)) ∧ w' = wq) := fun wq hq => number_at g 0 c s wq hc hby (HC.out wq hq)
  have hb0 : Below w.heap.size w w.drew := blw_drewN 1 (Below.refl _ w)
  rw [hz] at HN
  have he : Hid (lst s 128 = lst (lsec place N u (sh s 12)) 128) := lst_ext heq
  have HE : Hid (∀ wq gL cL, Below w.heap.size w wq → Own wq w.heap.size (.slice (some ⟨gL, 0, none⟩) 112 cL) (lst (sh s 12) 112) → Calls Tryz.prog 105 #[.int .i64 (place : Int), .int .i64 (N : Int), .slice (some ⟨gL, 0, none⟩) u cL] wq fun e w' => ∃ g2 c2, e = .returned (.slice (some ⟨g2, 0, none⟩) 128 c2) ∧ Hid (Calls Tryz.prog 19 #[.slice (some ⟨g, 0, none⟩) 128 c, .slice (some ⟨g2, 0, none⟩) 128 c2] w' fun e w'' => e = .returned (.bool true) ∧ w'' = w') ∧ Hid (Own w' w.heap.size (.slice (some ⟨gL, 0, none⟩) u cL) (lst (sh s 12) u)) ∧ Below w.heap.size w w') := fun wq gL cL hq hoL => by
    have hof : Own wq w.heap.size (.slice (some ⟨gL, 0, none⟩) u cL) (lst (sh s 12) u) := own_take hoL hu2
    refine (encL place N u cL _ (sh s 12) wq hp (by omega) hu2 (own_from hof) (fun i => hby _) (ht.below hq (Nat.le_refl _))).mono ?_
    rintro e w2 ⟨g2, c2, rfl, ho2, hc2, hb2⟩
    have hb3 := hq.trans (hb2.mono hq.size)
    have hF1 : From w2 (some ⟨g, 0, none⟩) 128 s := .inr ⟨_, rfl, fun i hi => by rw [Addr.add_lit]; exact HC.out w2 hb3 i hi⟩
    have hF2 : From w2 (some ⟨g2, 0, none⟩) 128 (lsec place N u (sh s 12)) := .inr ⟨_, rfl, fun i hi => by rw [Addr.add_lit, Nat.zero_add]; exact ho2.cellF i hi⟩
    exact ⟨g2, c2, rfl, equal_yes _ _ 128 c 128 c2 s (lsec place N u (sh s 12)) w2 hF1 hF2 he, hof.below hb2 (Nat.le_refl _), hb3⟩
  have hz1 : ¬ (112 : Int) < (u : Int) := by omega
  have hz2 : ¬ (N : Int) < 1 := by omega
  have hz3 : decide ((4611686018427387904 : Int) < (N : Int)) = false := by simp; omega
  clear ho hu HC hz ht he heq
  go_enter Tryz.func99, Tryz.ntmps99
  go_upto_region 1 with fail
  go_cut [7, 8, 9] (fun s7 s8 s9 wc => s7 = .int .i64 (u : Int) ∧ s8 = .int .i64 (N : Int) ∧ ∃ gL cL, s9 = .slice (some ⟨gL, 0, none⟩) 112 cL ∧ Hid (Own wc w.heap.size (.slice (some ⟨gL, 0, none⟩) 112 cL) (lst (sh s 12) 112)) ∧ 112 ≤ cL ∧ cL ≤ 9223372036854775807 ∧ Below w.heap.size w wc)
  case first =>
    go_region_with (first
      | (go_at_call 134; refine (HN.out _ (by first | exact hb0 | assumption)).mono ?_; rintro e1 w1 ⟨rfl, rfl⟩)
      | (go_at_call 135; refine (HL.out _ (by first | exact hb0 | assumption)).mono ?_; rintro e1 w2 ⟨gL, cL, rfl, hoL, q1, q2, hbL, hc3⟩))
    all_goals
      go_wp2_with fail
      go_meet
      exact ⟨rfl, rfl, gL, cL, rfl, hoL, q1, q2, hbL⟩
  case rest =>
    obtain ⟨rfl, rfl, gL, cL, rfl, hoL, q1, q2, hbL⟩ := hcut
    have hu3 : (u : Int) ≤ (cL : Int) := by omega
    have CE := HE.out wc gL cL hbL hoL.out
    clear hoL HE HL HN
    go_wp2_with fail
    refine CE.mono ?_
    rintro e w3 ⟨g2, c2, rfl, CQ, hoF, hb3⟩
    clear CE
    go_wp2_with fail
    refine CQ.out.mono ?_
    rintro e w4 ⟨rfl, hw⟩
    obtain rfl : w3 = w4 := hw.symm
    clear CQ hw
    go_wp2
    go_ret3
    exact ⟨gL, cL, rfl, hoF.out, by omega, q2, hb3⟩

set_option maxRecDepth 100000 in
set_option maxHeartbeats 1000000 in
theorem right_not (g c place B N u : Nat) (s : Nat → Int) (w : World) (ho : Own w B (.slice (some ⟨g, 0, none⟩) 128 c) (lst s 128)) (hc : 128 ≤ c) (hby : ∀ i, 0 ≤ s i ∧ s i ≤ 255) (hp : place ≤ 4096) (ht : Tab w) (hu : s 1 = (u : Int)) (hz : numS s = (N : Int)) (hu2 : u ≤ 112) (hN1 : 1 ≤ N) (hN2 : N ≤ 4611686018427387904) (hne : ¬ ∀ i, i < 128 → s i = lsec place N u (sh s 12) i) :
    Calls Tryz.prog 99 #[.slice (some ⟨g, 0, none⟩) 128 c, .int .i64 (place : Int)] w fun e w' => ∃ gL cL, e = .returned (.tuple #[.int .i64 (N : Int), .slice (some ⟨gL, 0, none⟩) u cL, .bool false]) ∧ Own w' w.heap.size (.slice (some ⟨gL, 0, none⟩) u cL) (lst (sh s 12) u) ∧ u ≤ cL ∧ cL ≤ 9223372036854775807 ∧ Below w.heap.size w w' := by
  have HC : Hid (∀ wq : World, Below w.heap.size w wq → ∀ i, i < 128 → wq.cell? ⟨g, 0 + i, none⟩ = some (.int .u8 (s i))) := fun wq hq i hi => by
    have h9 := ho.cellF i hi
    rw [Nat.zero_add, hq.cell (p := ⟨g, i, none⟩) (World.block_lt_of_cell? w _ h9)]
    exact h9
  have hu9 : u ≤ 255 := by have := hby 1; omega
  have h1 : w.cell? ⟨g, 1, none⟩ = some (.int .u8 (u : Int)) := by rw [← hu]; exact ho.cellF 1 (by omega)
  have hlt : g < w.heap.size := World.block_lt_of_cell? w _ h1
  have hwu : IntKind.i64.wrap (u : Int) = (u : Int) := by rw [IntKind.wrap_i64]; omega
  have HL : Hid (∀ wq, Below w.heap.size w wq → Calls Tryz.prog 135 #[.slice (some ⟨g, 0, none⟩) 128 c] wq fun e w' => ∃ gL cL, e = .returned (.slice (some ⟨gL, 0, none⟩) 112 cL) ∧ Hid (Own w' w.heap.size (.slice (some ⟨gL, 0, none⟩) 112 cL) (lst (sh s 12) 112)) ∧ 112 ≤ cL ∧ cL ≤ 9223372036854775807 ∧ Below w.heap.size w w' ∧ w'.cell? ⟨g, 1, none⟩ = some (.int .u8 (u : Int))) := fun wq hq => by
    refine (load_at g 0 c s wq hc (HC.out wq hq)).mono ?_
    rintro e w1 ⟨v, rfl, hv, hb⟩
    have hv' := hv.mono hq.size
    obtain ⟨gL, cL, rfl, _, _, k1, k2⟩ := Own.open128 (k := 111) hv'
    have hb2 := hq.trans (hb.mono hq.size)
    refine ⟨gL, cL, rfl, hv', k1, k2, hb2, ?_⟩
    have := HC.out w1 hb2 1 (by omega)
    rw [Nat.zero_add, hu] at this
    exact this
  have HN : Hid (∀ wq, Below w.heap.size w wq → Calls Tryz.prog 134 #[.slice (some ⟨g, 0, none⟩) 128 c] wq fun e w' => e = .returned (.int .i64 (numS s)) ∧ w' = wq) := fun wq hq => number_at g 0 c s wq hc hby (HC.out wq hq)
  have hb0 : Below w.heap.size w w.drew := blw_drewN 1 (Below.refl _ w)
  rw [hz] at HN
  have he : Hid (lst s 128 ≠ lst (lsec place N u (sh s 12)) 128) := fun e => hne (fun i hi => lst_inj e i hi)
  have HE : Hid (∀ wq gL cL, Below w.heap.size w wq → Own wq w.heap.size (.slice (some ⟨gL, 0, none⟩) 112 cL) (lst (sh s 12) 112) → Calls Tryz.prog 105 #[.int .i64 (place : Int), .int .i64 (N : Int), .slice (some ⟨gL, 0, none⟩) u cL] wq fun e w' => ∃ g2 c2, e = .returned (.slice (some ⟨g2, 0, none⟩) 128 c2) ∧ Hid (Calls Tryz.prog 19 #[.slice (some ⟨g, 0, none⟩) 128 c, .slice (some ⟨g2, 0, none⟩) 128 c2] w' fun e w'' => e = .returned (.bool false) ∧ w'' = w') ∧ Hid (Own w' w.heap.size (.slice (some ⟨gL, 0, none⟩) u cL) (lst (sh s 12) u)) ∧ Below w.heap.size w w') := fun wq gL cL hq hoL => by
    have hof : Own wq w.heap.size (.slice (some ⟨gL, 0, none⟩) u cL) (lst (sh s 12) u) := own_take hoL hu2
    refine (encL place N u cL _ (sh s 12) wq hp (by omega) hu2 (own_from hof) (fun i => hby _) (ht.below hq (Nat.le_refl _))).mono ?_
    rintro e w2 ⟨g2, c2, rfl, ho2, hc2, hb2⟩
    have hb3 := hq.trans (hb2.mono hq.size)
    have hF1 : From w2 (some ⟨g, 0, none⟩) 128 s := .inr ⟨_, rfl, fun i hi => by rw [Addr.add_lit]; exact HC.out w2 hb3 i hi⟩
    have hF2 : From w2 (some ⟨g2, 0, none⟩) 128 (lsec place N u (sh s 12)) := .inr ⟨_, rfl, fun i hi => by rw [Addr.add_lit, Nat.zero_add]; exact ho2.cellF i hi⟩
    exact ⟨g2, c2, rfl, equal_no _ _ 128 c 128 c2 s (lsec place N u (sh s 12)) w2 hF1 hF2 hby (sec_by (hdL_by hu2) (fun i => hby _) N u) he.out, hof.below hb2 (Nat.le_refl _), hb3⟩
  have hz1 : ¬ (112 : Int) < (u : Int) := by omega
  have hz2 : ¬ (N : Int) < 1 := by omega
  have hz3 : decide ((4611686018427387904 : Int) < (N : Int)) = false := by simp; omega
  clear ho hu HC hz ht he hne
  go_enter Tryz.func99, Tryz.ntmps99
  go_upto_region 1 with fail
  go_cut [7, 8, 9] (fun s7 s8 s9 wc => s7 = .int .i64 (u : Int) ∧ s8 = .int .i64 (N : Int) ∧ ∃ gL cL, s9 = .slice (some ⟨gL, 0, none⟩) 112 cL ∧ Hid (Own wc w.heap.size (.slice (some ⟨gL, 0, none⟩) 112 cL) (lst (sh s 12) 112)) ∧ 112 ≤ cL ∧ cL ≤ 9223372036854775807 ∧ Below w.heap.size w wc)
  case first =>
    go_region_with (first
      | (go_at_call 134; refine (HN.out _ (by first | exact hb0 | assumption)).mono ?_; rintro e1 w1 ⟨rfl, rfl⟩)
      | (go_at_call 135; refine (HL.out _ (by first | exact hb0 | assumption)).mono ?_; rintro e1 w2 ⟨gL, cL, rfl, hoL, q1, q2, hbL, hc3⟩))
    all_goals
      go_wp2_with fail
      go_meet
      exact ⟨rfl, rfl, gL, cL, rfl, hoL, q1, q2, hbL⟩
  case rest =>
    obtain ⟨rfl, rfl, gL, cL, rfl, hoL, q1, q2, hbL⟩ := hcut
    have hu3 : (u : Int) ≤ (cL : Int) := by omega
    have CE := HE.out wc gL cL hbL hoL.out
    clear hoL HE HL HN
    go_wp2_with fail
    refine CE.mono ?_
    rintro e w3 ⟨g2, c2, rfl, CQ, hoF, hb3⟩
    clear CE
    go_wp2_with fail
    refine CQ.out.mono ?_
    rintro e w4 ⟨rfl, hw⟩
    obtain rfl : w3 = w4 := hw.symm
    clear CQ hw
    go_wp2
    go_ret3
    exact ⟨gL, cL, rfl, hoF.out, by omega, q2, hb3⟩
end Go.Proofs.YthfokciijcmhbaaGreatDoor
