/-
  Contract of the document's own Encode, its last way: byte by byte it makes the same sector.
  Contract of page.Decode: the page of a sector, or the error. Condition: the table is laid.
  Words for memory: what stays where other blocks change (Part), blocks of cells, a row of one's own.
-/
import Derived.Test.YthfokciijcmhbaaGreatDoorGap
import Derived.Deep.OwnRows
import Derived.WalkKit
import Derived.Deep.QuietTactic
import Derived.Test.YthfokciijcmhbaaGreatDoorProg
import Derived.WalkLawsBesides
import Derived.WalkSpells
import Derived.Laws.AppendOwnNone
import Derived.Deep.RegionWith
import Derived.BigQuiet
import Derived.BigRegion
import Derived.Maps.AppendAt
import Derived.OwnWalk
import Derived.Deep.RegionHeld
import Derived.Deep.RegionHeld2
namespace Go.Proofs.YthfokciijcmhbaaGreatDoor
open Go.RowKit
set_option linter.unusedVariables false

theorem lst_succ (G : Nat → Int) (n : Nat) : lst G (n + 1) = lst G n ++ [G n] := by simp [lst, List.range_succ]
theorem lst_cat (G f : Nat → Int) (k : Nat) : ∀ m, (∀ i, i < m → f i = G (k + i)) → lst G k ++ lst f m = lst G (k + m)
  | 0, _ => by simp [lst]
  | m + 1, h => by
    rw [lst_succ f m, ← List.append_assoc, lst_cat G f k m (fun i hi => h i (by omega)), h m (by omega), ← Nat.add_assoc, lst_succ G (k + m)]
theorem lst4 (G : Nat → Int) : lst G 4 = [G 0, G 1, G 2, G 3] := rfl

theorem pg_head (s : Nat) (f : Nat → Int) (i : Nat) (hi : i < 4) : pg s f i = hdP i := by
  unfold pg sec body ov
  rw [if_neg (by omega), if_neg (by omega), if_neg (by omega), if_pos (by omega), Nat.sub_zero]
theorem pg_num (s : Nat) (f : Nat → Int) (i : Nat) (hi : i < 8) : pg s f (4 + i) = leAt s i := by
  unfold pg sec body ov
  rw [if_neg (by omega), if_neg (by omega), if_pos (by omega), show 4 + i - 4 = i by omega]
theorem pg_load (s : Nat) (f : Nat → Int) (i : Nat) (hi : i < 112) : pg s f (12 + i) = f i := by
  unfold pg sec body ov
  rw [if_neg (by omega), if_pos (by omega), show 12 + i - 12 = i by omega]
theorem pg_sum (s : Nat) (f : Nat → Int) (i : Nat) (hi : i < 4) : pg s f (124 + i) = leAt (sumS (body hdP s 112 f)) i := by
  show ov _ 124 4 _ (124 + i) = _
  unfold ov
  rw [if_pos (by omega), show 124 + i - 124 = i by omega]
theorem pg_body (s : Nat) (f : Nat → Int) (i : Nat) (hi : i < 124) : pg s f i = body hdP s 112 f i := by
  show ov _ 124 4 _ i = _
  unfold ov
  rw [if_neg (by omega)]
theorem lstN_ext {f g : Nat → Int} {n : Nat} (h : ∀ i, i < n → f i = g i) : lstN f n = lstN g n := by
  unfold lstN
  apply List.map_congr_left
  intro i hi
  rw [h i (List.mem_range.1 hi)]
theorem pg_sumS (s : Nat) (f : Nat → Int) : sumS (pg s f) = sumS (body hdP s 112 f) := by
  unfold sumS
  rw [lstN_ext (pg_body s f)]
theorem pg_by (s : Nat) {f : Nat → Int} (h : ∀ i, 0 ≤ f i ∧ f i ≤ 255) : ∀ i, 0 ≤ pg s f i ∧ pg s f i ≤ 255 := sec_by hdP_by h s 112

end Go.Proofs.YthfokciijcmhbaaGreatDoor

namespace Go.Proofs.YthfokciijcmhbaaGreatDoor
open Go.RowKit
set_option linter.unusedVariables false

def DecOk (f : Nat → Int) : Prop := EncOk (numS f) 112 ∧ lst (encF (numS f) (sh f 12)) 128 = lst f 128
instance (f : Nat → Int) : Decidable (DecOk f) := by unfold DecOk; exact inferInstance
/-- The page of a sector: its number, its load, the error. -/
def dec (f : Nat → Int) (n : Nat) : Int × List Int × Int :=
  if n ≠ 128 then (0, [], 5) else if Nil f 128 then (0, lst (fun _ => 0) 112, 0) else if rd (sh f 124) 4 ≠ sumS f then (0, [], 13) else if DecOk f then (numS f, lst (sh f 12) 112, 0) else (0, [], 5)

set_option maxHeartbeats 400000 in
theorem wDec_len (a0 : Option Addr) (n c : Nat) (w : World) (h : n ≠ 128) :
    Calls Tryz.prog 153 #[.slice a0 n c] w fun e w' => e = .returned (.tuple #[.int .i64 0, .slice none 0 0, .int .i64 5]) ∧ w' = w := by
  have h' : ((n : Int) == 128) = false := by simp; omega
  go_enter Tryz.func153, Tryz.ntmps153
  go_wp2
  go_ret3
  exact ⟨rfl, rfl⟩
theorem made_own (w : World) (n : Nat) (hn : n ≤ 140737488355328) : Own (w.alloc (.cells (madeCells #[.int .u8 0] n) 5)) w.heap.size (.slice (some ⟨w.heap.size, 0, none⟩) n n) (lst (fun _ => 0) n) := by
  have hm := made_zero n
  rw [Nat.mul_one] at hm
  have hm : (madeCells #[.int .u8 0] n).toList = (lst (fun _ => 0) n).map (Value.int .u8) := hm
  unfold Own
  rw [lst_length]
  refine ⟨by simp [lst_length], .inr ⟨w.heap.size, n, madeCells #[.int .u8 0] n, rfl, Nat.le_refl _, by simp only [World.alloc, Array.getElem?_push_size], Nat.le_refl _, by unfold maxLen; omega, by rw [size_madeCells, Nat.mul_one], ?_⟩⟩
  rw [hm, List.take_of_length_le (by simp [lst_length])]
theorem Own.drew {w : World} {B : Nat} {v : Value} {xs : List Int} (h : Own w B v xs) (q : Nat) : Own (w.drewN q) B v xs := h.below (B' := w.heap.size) (blw_drewN q (Below.refl _ w)) (Nat.le_refl _)
theorem From.drew {w : World} {ao : Option Addr} {n : Nat} {f : Nat → Int} (h : From w ao n f) (q : Nat) : From (w.drewN q) ao n f := h.below (B := w.heap.size) (blw_drewN q (Below.refl _ w)) (Nat.le_refl _)

set_option maxHeartbeats 1000000 in
theorem wDec_nil (b off c : Nat) (f : Nat → Int) (w : World) (hc : Hid (∀ i, i < 128 → w.cell? ⟨b, off + i, none⟩ = some (.int .u8 (f i)))) (hz : Nil f 128) :
    Calls Tryz.prog 153 #[.slice (some ⟨b, off, none⟩) 128 c] w fun e w' => ∃ v', e = .returned (.tuple #[.int .i64 0, v', .int .i64 0]) ∧ Own w' w.heap.size v' (lst (fun _ => 0) 112) ∧ Below w.heap.size w w' := by
  have HD : Hid (decide (Nil f 128) = true) := decide_eq_true hz
  obtain ⟨MC, hMC⟩ : ∃ MC, madeCells #[.int .u8 0] 112 = MC := ⟨_, rfl⟩
  have hmk : ∀ w : World, (Instr.makeSlice 47 (.int .i64 112) (.int .i64 112)).run Tryz.prog w = .ok (.slice (some ⟨w.heap.size, 0, none⟩) 112 112) (w.alloc (.cells MC 5)) := fun w => by
    rw [← hMC]
    exact run_make_row' (P := Tryz.prog) 47 5 (.int .u8 0) 1 Tryz.underlying47 info5 rfl .i64 .i64 112 (by omega) (by omega) w
  have HO : Hid (∀ w : World, Own (w.alloc (.cells MC 5)) w.heap.size (.slice (some ⟨w.heap.size, 0, none⟩) 112 112) (lst (fun _ => 0) 112)) := fun w => hMC ▸ made_own w 112 (by omega)
  clear hMC
  go_enter Tryz.func153, Tryz.ntmps153
  go_wp2_with fail
  refine (blank_at b off 128 c f w (by omega) hc).mono ?_
  rintro e w1 ⟨rfl, hw⟩
  obtain rfl : w = w1 := hw.symm
  rw [HD.out]
  clear hw
  go_wp2_with fail
  go_region
  go_wp2
  go_ret3
  exact ⟨_, rfl, HO.out _, ((blw_drewN 1 (Below.refl _ w)).alloc (by simp) _)⟩

set_option maxHeartbeats 1000000 in
theorem wDec_sum (b off c : Nat) (f : Nat → Int) (w : World) (hcap : 128 ≤ c) (hby : ∀ i, 0 ≤ f i ∧ f i ≤ 255) (hc : Hid (∀ i, i < 128 → w.cell? ⟨b, off + i, none⟩ = some (.int .u8 (f i)))) (ht : Tab w) (hz : ¬ Nil f 128) (hs : rd (sh f 124) 4 ≠ sumS f) :
    Calls Tryz.prog 153 #[.slice (some ⟨b, off, none⟩) 128 c] w fun e w' => e = .returned (.tuple #[.int .i64 0, .slice none 0 0, .int .i64 13]) ∧ ∃ q, w' = w.drewN q := by
  have HD : Hid (decide (Nil f 128) = false) := decide_eq_false hz
  have HS : Hid (decide (rd (sh f 124) 4 = sumS f) = false) := decide_eq_false hs
  have HT : Hid (∀ q, Tab (w.drewN q)) := fun q => ht.drew q
  have HB : Hid (∀ i, 0 ≤ f i ∧ f i ≤ 255) := hby
  clear hz hs ht hby
  go_enter Tryz.func153, Tryz.ntmps153
  go_wp2_with fail
  refine (blank_at b off 128 c f w (by omega) hc).mono ?_
  rintro e w1 ⟨rfl, hw⟩
  obtain rfl : w = w1 := hw.symm
  rw [HD.out]
  clear hw
  go_wp2_with fail
  refine (sealed_at b off c f w hcap HB.out hc HT).mono ?_
  rintro e w1 ⟨rfl, q, rfl⟩
  rw [HS.out]
  go_wp2
  go_ret3
  exact ⟨rfl, q, rfl⟩

set_option maxRecDepth 100000 in
set_option maxHeartbeats 1000000 in
theorem wDec_enc (b off c : Nat) (f : Nat → Int) (w : World) (hcap : 128 ≤ c) (hby : ∀ i, 0 ≤ f i ∧ f i ≤ 255) (hc : Hid (∀ i, i < 128 → w.cell? ⟨b, off + i, none⟩ = some (.int .u8 (f i)))) (ht : Tab w) (hz : ¬ Nil f 128) (hs : rd (sh f 124) 4 = sumS f) :
    Calls Tryz.prog 153 #[.slice (some ⟨b, off, none⟩) 128 c] w fun e w' => ∃ v', e = .returned (.tuple #[.int .i64 (if DecOk f then numS f else 0), v', .int .i64 (if DecOk f then 0 else 5)]) ∧ Own w' w.heap.size v' (if DecOk f then lst (sh f 12) 112 else []) ∧ Below w.heap.size w w' := by
  have HD : Hid (decide (Nil f 128) = false) := decide_eq_false hz
  have HS : Hid (decide (rd (sh f 124) 4 = sumS f) = true) := decide_eq_true hs
  have HT : Hid (∀ q, Tab (w.drewN q)) := fun q => ht.drew q
  have HB : Hid (∀ i, 0 ≤ f i ∧ f i ≤ 255) := hby
  have HFb : Hid (From w (some ⟨b, off, none⟩) 128 f) := .inr ⟨_, rfl, fun i hi => by rw [Addr.add_lit]; exact hc.out i hi⟩
  have HDK : Hid (DecOk f ↔ (EncOk (numS f) 112 ∧ lst (encF (numS f) (sh f 12)) 128 = lst f 128)) := Iff.rfl
  have HBE : Hid (∀ z i, 0 ≤ encF z (sh f 12) i ∧ encF z (sh f 12) i ≤ 255) := fun z i => by
    unfold encF
    split
    · exact ⟨Int.le_refl _, by show (0 : Int) ≤ 255; decide⟩
    · exact pg_by _ (sh_by hby 12) i
  clear hz hs ht hby
  generalize hNS : numS f = z at *
  have HNS : Hid (numS f = z) := hNS
  clear hNS
  go_enter Tryz.func153, Tryz.ntmps153
  go_wp2_with fail
  refine (blank_at b off 128 c f w (by omega) hc).mono ?_
  rintro e w1 ⟨rfl, hw⟩
  obtain rfl : w = w1 := hw.symm
  rw [HD.out]
  clear hw
  go_wp2_with fail
  refine (sealed_at b off c f w hcap HB.out hc HT).mono ?_
  rintro e w1 ⟨rfl, q, rfl⟩
  rw [HS.out]
  go_wp2_with fail
  refine (number_at b off c f (w.drewN q) hcap HB.out (fun i hi => hc.out i hi)).mono ?_
  rintro e w1 ⟨rfl, rfl⟩
  rw [HNS.out]
  go_wp2_with fail
  refine (load_at b off c f (w.drewN q) hcap (fun i hi => hc.out i hi)).mono ?_
  rintro e w2 ⟨vP, rfl, hoP, hb2⟩
  have hs2 := hb2.size
  obtain ⟨aP, cP, rfl, hfP, hcP, hcP1, hcP2, hgP⟩ := hoP.openF
  have HT2 : Hid (Tab w2) := (HT.out q).below hb2 (Nat.le_refl _)
  have HP : Hid (Own w2 (w.drewN q).heap.size (.slice aP 112 cP) (lst (sh f 12) 112)) := hoP
  have HfP : Hid (From w2 aP 112 (sh f 12)) := hfP
  clear hoP hfP
  go_wp2_with fail
  refine (wEncode aP 112 cP z (sh f 12) w2 HfP.out (sh_by HB.out 12) HT2.out).mono ?_
  rintro e w3 ⟨vA, rfl, hoA, hb3⟩
  have hs3 := hb3.size
  have HB3 : Hid (Below w.heap.size w w3) := ((blw_drewN q (Below.refl _ w)).trans hb2).trans (hb3.mono hs2)
  have HF3 : Hid (From w3 (some ⟨b, off, none⟩) 128 f) := HFb.out.below HB3.out (Nat.le_refl _)
  have HP3 : Hid (Own w3 w.heap.size (.slice aP 112 cP) (lst (sh f 12) 112)) := HP.out.below hb3 (Nat.le_refl _)
  unfold encE
  unfold encPL at hoA
  by_cases hk : EncOk z 112
  · rw [if_pos hk] at hoA ⊢
    obtain ⟨aA, cA, rfl, hfA, _⟩ := hoA.openF
    by_cases he : lst (encF z (sh f 12)) 128 = lst f 128
    · have hd : DecOk f := HDK.out.2 ⟨hk, he⟩
      have HE : Hid (lst (encF z (sh f 12)) 128 = lst f 128) := he
      have HDD : Hid (DecOk f) := hd
      clear hk he hd HDK hoA hb3 HP HfP hb2 HBE
      go_wp2_with fail
      refine (equal_yes aA (some ⟨b, off, none⟩) 128 cA 128 c (encF z (sh f 12)) f w3 hfA HF3.out HE).mono ?_
      rintro e w4 ⟨rfl, rfl⟩
      go_wp2
      go_ret3
      refine ⟨_, ?_, (by first | exact HP3.out | (rw [if_pos HDD.out]; exact HP3.out)), HB3.out⟩
      first | rfl | (rw [if_pos HDD.out, if_pos HDD.out]; rfl)
    · have hd : ¬ DecOk f := fun h => he (HDK.out.1 h).2
      have HDD : Hid (¬ DecOk f) := hd
      have HE : Hid (lst (encF z (sh f 12)) 128 ≠ lst f 128) := he
      clear hk he hd HDK hoA hb3 HP HfP hb2
      go_wp2_with fail
      refine (equal_no aA (some ⟨b, off, none⟩) 128 cA 128 c (encF z (sh f 12)) f w3 hfA HF3.out (HBE.out z) HB.out HE.out).mono ?_
      rintro e w4 ⟨rfl, rfl⟩
      go_wp2
      go_ret3
      refine ⟨_, ?_, (by first | exact World.ownsRow_nil _ _ _ _ | (rw [if_neg HDD.out]; exact World.ownsRow_nil _ _ _ _)), HB3.out⟩
      first | rfl | (rw [if_neg HDD.out, if_neg HDD.out]; rfl)
  · have hd : ¬ DecOk f := fun h => hk (HDK.out.1 h).1
    have HDD : Hid (¬ DecOk f) := hd
    rw [if_neg hk] at hoA ⊢
    clear hk hd HDK hoA hb3 HP HfP hb2 HBE
    go_wp2
    go_ret3
    refine ⟨_, ?_, (by first | exact World.ownsRow_nil _ _ _ _ | (rw [if_neg HDD.out]; exact World.ownsRow_nil _ _ _ _)), HB3.out⟩
    first | rfl | (rw [if_neg HDD.out, if_neg HDD.out]; rfl)

theorem wDecode (a0 : Option Addr) (n c : Nat) (f : Nat → Int) (w : World) (hf : From w a0 n f) (hcap : n ≤ c) (hby : ∀ i, 0 ≤ f i ∧ f i ≤ 255) (ht : Tab w) :
    Calls Tryz.prog 153 #[.slice a0 n c] w fun e w' => ∃ v', e = .returned (.tuple #[.int .i64 (dec f n).1, v', .int .i64 (dec f n).2.2]) ∧ Own w' w.heap.size v' (dec f n).2.1 ∧ Below w.heap.size w w' := by
  unfold dec
  by_cases h1 : n = 128
  · subst h1
    rw [if_neg (by simp)]
    obtain ⟨b, off, rfl, hc⟩ := hf.lay.resolve_left (by omega)
    by_cases h2 : Nil f 128
    · rw [if_pos h2]
      exact wDec_nil b off c f w hc h2
    · rw [if_neg h2]
      by_cases h3 : rd (sh f 124) 4 = sumS f
      · rw [if_neg (by simpa using h3)]
        refine (wDec_enc b off c f w hcap hby hc ht h2 h3).mono fun e w' ⟨v, k1, k2, k3⟩ => ⟨v, ?_, ?_, k3⟩
        · rw [k1]
          by_cases h4 : DecOk f
          · rw [if_pos h4, if_pos h4, if_pos h4]
          · rw [if_neg h4, if_neg h4, if_neg h4]
        · by_cases h4 : DecOk f
          · rw [if_pos h4] at k2 ⊢; exact k2
          · rw [if_neg h4] at k2 ⊢; exact k2
      · rw [if_pos h3]
        exact (wDec_sum b off c f w hcap hby hc ht h2 h3).mono fun e w' ⟨k1, q, k2⟩ => ⟨_, k1, World.ownsRow_nil _ _ _ _, by rw [k2]; exact blw_drewN q (Below.refl _ w)⟩
  · rw [if_pos h1]
    exact (wDec_len a0 n c w h1).mono fun e w' ⟨k1, k2⟩ => ⟨_, k1, World.ownsRow_nil _ _ _ _, by rw [k2]; exact Below.refl _ w⟩
end Go.Proofs.YthfokciijcmhbaaGreatDoor

namespace Go.Proofs.YthfokciijcmhbaaGreatDoor
open Go.RowKit
set_option linter.unusedVariables false

theorem heap_setCell_same (w : World) (T i : Nat) (cs : Array Value) (t : TypeId) (v : Value) (h : w.heap[T]? = some (.cells cs t (0, 0))) : (w.setCell ⟨T, i, none⟩ v).heap[T]? = some (.cells (cs.setIfInBounds i v) t (0, 0)) := by
  simp [World.setCell, Array.getElem?_modify, h]
end Go.Proofs.YthfokciijcmhbaaGreatDoor
