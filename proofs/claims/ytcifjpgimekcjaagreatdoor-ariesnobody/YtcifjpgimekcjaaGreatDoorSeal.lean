/-
  Contract of sector.Seal: the sector of a head, a number and a load. Conditions: the number is none below 0, the load has at most 112 bytes; the table is laid.
-/
import Derived.Test.YtcifjpgimekcjaaGreatDoorSec2
namespace Go.Proofs.YtcifjpgimekcjaaGreatDoor
open Go.RowKit
set_option linter.unusedVariables false

/-- A sector's first 124 bytes: head, number, load, noughts behind it. -/
def body (hd : Nat → Int) (s m : Nat) (f : Nat → Int) : Nat → Int := ov (ov (ov (fun _ => 0) 0 4 hd) 4 8 (leAt s)) 12 m f
def sec (hd : Nat → Int) (s m : Nat) (f : Nat → Int) : Nat → Int := ov (body hd s m f) 124 4 (leAt (sumS (body hd s m f)))
theorem ov_by {F f : Nat → Int} (h1 : ∀ i, 0 ≤ F i ∧ F i ≤ 255) (h2 : ∀ i, 0 ≤ f i ∧ f i ≤ 255) (off m : Nat) : ∀ i, 0 ≤ ov F off m f i ∧ ov F off m f i ≤ 255 := fun i => by
  unfold ov
  split
  · exact h2 _
  · exact h1 _
theorem body_by {hd f : Nat → Int} (h1 : ∀ i, 0 ≤ hd i ∧ hd i ≤ 255) (h2 : ∀ i, 0 ≤ f i ∧ f i ≤ 255) (s m : Nat) : ∀ i, 0 ≤ body hd s m f i ∧ body hd s m f i ≤ 255 :=
  ov_by (ov_by (ov_by (fun _ => by decide) h1 _ _) (leAt_by s) _ _) h2 _ _
theorem sec_by {hd f : Nat → Int} (h1 : ∀ i, 0 ≤ hd i ∧ hd i ≤ 255) (h2 : ∀ i, 0 ≤ f i ∧ f i ≤ 255) (s m : Nat) : ∀ i, 0 ≤ sec hd s m f i ∧ sec hd s m f i ≤ 255 :=
  ov_by (body_by h1 h2 s m) (leAt_by _) _ _

theorem Tab.below {w w' : World} {B : Nat} (h : Tab w) (hb : Below B w w') (hB : w.heap.size ≤ B) : Tab w' := fun i hi => by
  have := h i hi
  rw [hb.cell (p := ⟨0, i, none⟩) (Nat.lt_of_lt_of_le (World.block_lt_of_cell? w _ this) hB)]
  exact this
theorem Tab.lt {w : World} (h : Tab w) : 0 < w.heap.size := World.block_lt_of_cell? w ⟨0, 0, none⟩ (h 0 (by decide))
theorem Tab.drew {w : World} (h : Tab w) (q : Nat) : Tab (w.drewN q) := fun i hi => h i hi
theorem made_zero (n : Nat) : (madeCells (Value.int .u8 0).cells (n * 1)).toList = (lst (fun _ => 0) n).map (Value.int .u8) := by
  apply List.ext_getElem?
  intro i
  by_cases h : i < n
  · simp [lst, madeCells, h, Value.cells]
    rw [Nat.mod_one]
    rfl
  · simp [lst, madeCells, h]
section
variable {w : World} {ops : Array Oper} {rest : List Oper} {o : Oper} {a : Act} {Q : Exit → Act → World → Prop}
/-- 'make([]byte, n)'. -/
theorem wpList_mk (hgd : o.guard = none) (l c : Operand) (hop : o.op = Op.makeSlice 30 l c) (n : Nat) (L C : Int) (hl : a.eval l = .int .i64 L) (hc : a.eval c = .int .i64 C) (hL : L = (n : Int)) (hC : C = (n : Int)) (hn : n ≤ 140737488355328) (B : Nat) (hB : B ≤ w.heap.size)
    (h : ∀ w', Own w' B (.slice (some ⟨w.heap.size, 0, none⟩) n n) (lst (fun _ => 0) n) → Below B w w' → wpList Tryz.prog ops Q rest (a.put o.dst (.slice (some ⟨w.heap.size, 0, none⟩) n n)) w') : wpList Tryz.prog ops Q (o :: rest) a w := by
  obtain ⟨i0, hi, hz0, hz1, hz2⟩ := info_parts info5
  refine wpList_make_full w hgd l c 30 hop B 5 i0 (.int .u8 0) 1 Tryz.underlying30 hi hz0 hz1 .i64 .i64 L C n hl hc hL hC (by rw [hz2]; omega) (by unfold maxLen; omega) hB ?_
  intro w' h1 h2
  refine h w' ?_ ((Below.refl _ w).grown h2 hB (fun k hk => by cases hk))
  unfold Own
  rw [made_zero] at h1
  rw [lst_length]
  exact h1
end

set_option maxRecDepth 100000 in
set_option maxHeartbeats 2000000 in
theorem seal_ok (x0 x1 x2 x3 : Int) (a0 : Option Addr) (m c s : Nat) (f : Nat → Int) (w : World) (hm : m ≤ 112) (hs : s ≤ 9223372036854775807) (hf : From w a0 m f) (hby : ∀ i, 0 ≤ f i ∧ f i ≤ 255) (hx : ∀ x ∈ [x0, x1, x2, x3], 0 ≤ x ∧ x ≤ 255) (ht : Tab w) :
    Calls Tryz.prog 132 #[.agg #[.int .u8 x0, .int .u8 x1, .int .u8 x2, .int .u8 x3], .int .i64 (s : Int), .slice a0 m c] w fun e w' => ∃ v', e = .returned v' ∧ Own w' w.heap.size v' (lst (sec (fn [x0, x1, x2, x3]) s m f) 128) ∧ Below w.heap.size w w' := by
  obtain ⟨i0, hi, hz0, hz1, hz2⟩ := info_parts info5
  have HF : Hid (From w a0 m f) := hf
  have HT : Hid (Tab w) := ht
  clear hf ht
  go_enter Tryz.func132, Tryz.ntmps132
  go_wp2_with (at_make; refine wpList_mk rfl _ _ rfl 128 _ _ rfl rfl rfl rfl (by omega) (w.heap.size + 1) (by simp) ?_)
  intro w1 ho1 hb1
  have hsz : (w.alloc (.cells #[.int .u8 x0, .int .u8 x1, .int .u8 x2, .int .u8 x3] 198)).heap.size = w.heap.size + 1 := by simp
  have hbA : Below w.heap.size w w1 := ((Below.refl _ w).alloc (Nat.le_refl _) _).trans (hb1.mono (by omega))
  have hH : From w1 (some ⟨w.heap.size, 0, none⟩) 4 (fn [x0, x1, x2, x3]) := From.below (w := w.alloc (.cells #[.int .u8 x0, .int .u8 x1, .int .u8 x2, .int .u8 x3] 198)) (.inr ⟨_, rfl, fun i hi => by
    rw [Addr.add_lit, Nat.zero_add, World.cell?_alloc_at _ _ _ _ rfl]
    have hk : i = 0 ∨ i = 1 ∨ i = 2 ∨ i = 3 := by omega
    rcases hk with h | h | h | h <;> subst h <;> rfl⟩) hb1 (by omega)
  have hs1 := hb1.size
  rw [hsz] at hs1
  obtain ⟨g, hg⟩ : ∃ g, w.heap.size + 1 = g := ⟨_, rfl⟩
  rw [hg] at ho1 ⊢
  have HG : Hid (w.heap.size + 1 = g) := hg
  have hgw : w.heap.size ≤ g := by omega
  obtain ⟨h0, hh0⟩ : ∃ h0, h0 = w.heap.size := ⟨_, rfl⟩
  have HO1 : Hid (Own w1 g (.slice (some ⟨g, 0, none⟩) 128 128) (lst (fun _ => 0) 128)) := ho1
  have HH : Hid (From w1 (some ⟨w.heap.size, 0, none⟩) 4 (fn [x0, x1, x2, x3])) := hH
  have HL : Hid (128 = (lst (fun _ => 0) 128).length) := (lst_length _ _).symm
  clear ho1 hH hb1 hsz hg
  go_wp2_with (refine wpList_copyF rfl _ _ rfl g g 128 128 (lst (fun _ => 0) 128) HO1.out HL.out 0 128 _ _ rfl _ 4 _ (fn [x0, x1, x2, x3]) rfl HH.out (by rw [lst_length]; omega) (by omega) (fun _ => rfl) ?_)
  intro w2 ho2 hb2
  rw [lst_ov _ _ _ _ _ (by omega)] at ho2
  have hs2 := hb2.size
  have hbB : Below w.heap.size w w2 := hbA.trans (hb2.mono hgw)
  clear HO1 HH HL hb2 hbA
  go_wp2_with fail
  refine (put g 4 8 _ 128 128 g s _ w2 (Nat.le_refl _) hs (by omega) (by omega) ho2).mono ?_
  rintro e w3 ⟨rfl, ho3, hb3⟩
  have hs3 := hb3.size
  have hbC : Below w.heap.size w w3 := hbB.trans (hb3.mono hgw)
  have HF3 : Hid (From w3 a0 m f) := HF.out.below hbC (Nat.le_refl _)
  have HO3 : Hid (Own w3 g (.slice (some ⟨g, 0, none⟩) 128 128) (lst (ov (ov (fun _ => 0) 0 4 (fn [x0, x1, x2, x3])) 4 8 (leAt s)) 128)) := ho3
  have HL : Hid (128 = (lst (ov (ov (fun _ => 0) 0 4 (fn [x0, x1, x2, x3])) 4 8 (leAt s)) 128).length) := (lst_length _ _).symm
  clear ho2 ho3 hb3 hbB
  go_wp2_with (refine wpList_copyF rfl _ _ rfl g g 128 128 _ HO3.out HL.out 12 112 _ _ rfl a0 m c f rfl HF3.out (by rw [lst_length]; omega) (by omega) (fun _ => rfl) ?_)
  intro w4 ho4 hb4
  rw [lst_ov _ _ _ _ _ (by omega)] at ho4
  have hs4 := hb4.size
  have hbD : Below w.heap.size w w4 := hbC.trans (hb4.mono hgw)
  have hH : ∀ i, 0 ≤ fn [x0, x1, x2, x3] i ∧ fn [x0, x1, x2, x3] i ≤ 255 := fn_by hx
  have HBY : Hid (∀ i, 0 ≤ body (fn [x0, x1, x2, x3]) s m f i ∧ body (fn [x0, x1, x2, x3]) s m f i ≤ 255) := body_by hH hby s m
  have HO4 : Hid (Own w4 g (.slice (some ⟨g, 0, none⟩) 128 128) (lst (body (fn [x0, x1, x2, x3]) s m f) 128)) := ho4
  have HS : Hid (sumS (body (fn [x0, x1, x2, x3]) s m f) < 2 ^ 32) := Crc.sum_lt _ (lstN_by HBY.out 124)
  have HT4 : Hid (Tab w4) := HT.out.below hbD (Nat.le_refl _)
  have HRES : Hid (lst (ov (body (fn [x0, x1, x2, x3]) s m f) 124 4 (leAt (sumS (body (fn [x0, x1, x2, x3]) s m f)))) 128 = lst (sec (fn [x0, x1, x2, x3]) s m f) 128) := rfl
  have HSE : Hid (Crc.sum (lstN (body (fn [x0, x1, x2, x3]) s m f) 124) = sumS (body (fn [x0, x1, x2, x3]) s m f)) := rfl
  clear ho4 hb4 hbC HO3 HF3 HL hH hby hx HF HT
  generalize body (fn [x0, x1, x2, x3]) s m f = G at *
  generalize hZ : sumS G = Z at *
  have hZ' : Z < 4294967296 := HS.out
  have HW : Hid (IntKind.i64.wrap (Z : Int) = (Z : Int)) := (by simp only [IntKind.wrap, IntKind.bits, IntKind.signed]; simp; omega : IntKind.i64.wrap (Z : Int) = (Z : Int))
  have HSE : Hid (Crc.sum (lstN G 124) = Z) := HSE
  clear hZ HS
  have HQ : Hid (∀ wq : World, wq.heap = w4.heap → Lay wq (some ⟨g, 0, none⟩) 124 G ∧ Tab wq ∧ Own wq g (.slice (some ⟨g, 0, none⟩) 128 128) (lst G 128)) := fun wq hq => by
    have hc : ∀ p, wq.cell? p = w4.cell? p := fun p => World.cell?_of_block (w := w4) (by rw [hq])
    refine ⟨.inr ⟨g, 0, rfl, fun i hi => ?_⟩, fun i hi => ?_, ?_⟩
    · rw [Nat.zero_add, hc]; exact HO4.out.cellF i (by omega)
    · rw [hc]; exact HT4.out i hi
    · have h4 := HO4.out
      unfold Own World.ownsRow at h4 ⊢
      rw [hq]
      exact h4
  clear HO4 HT4
  go_wp2_with fail
  go_region_with (first
    | (go_at_call 157; refine (wSum (some ⟨g, 0, none⟩) 124 _ G (by omega) HBY.out (by exact (HQ.out _ rfl).1) (by exact (HQ.out _ rfl).2.1)).mono ?_; rintro e1 w5 ⟨rfl, rfl⟩; rw [HSE.out])
    | (go_at_call 156; rw [HW.out]; refine (put g 124 4 _ 128 128 g Z G _ (Nat.le_refl _) (by omega) (by omega) (by omega) (by exact (HQ.out _ rfl).2.2)).mono ?_; rintro e' w' ⟨rfl, ho5, hb5⟩))
  have hbE := (blw_drewN 1 hbD).trans (hb5.mono hgw)
  go_wp2
  go_ret
  refine ⟨_, rfl, ?_, hbE⟩
  rw [← HRES.out]
  exact ho5.mono hgw
end Go.Proofs.YtcifjpgimekcjaaGreatDoor
