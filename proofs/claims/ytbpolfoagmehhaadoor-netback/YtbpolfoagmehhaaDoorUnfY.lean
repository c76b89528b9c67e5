/-
  Contracts of the document's own Unframe, and of both in one word (unf): what a frame's bytes come to, or the error.
-/
import Derived.Test.YtbpolfoagmehhaaDoorUnf
import Derived.Deep.RegionWith
import Derived.Outline
import Derived.Deep.DeepCutAuto
namespace Go.Proofs.YtbpolfoagmehhaaDoor
open Go.RowKit
set_option linter.unusedVariables false

set_option maxHeartbeats 400000 in
theorem xUnf_err (ao : Option Addr) (n c : Nat) (f : Nat → Int) (w : World) (hbig : n ≤ 140737488355328) (hby : ∀ i, 0 ≤ f i ∧ f i ≤ 255) (hl : Lay w ao n f) (a s e : Int) (hN : Hid (Wm.num f n = (a, s, e))) (he : (e != 0) = true) :
    Calls Tryd.prog 25 #[.slice ao n c] w fun e' w' => e' = .returned (.tuple #[.slice none 0 0, .slice none 0 0, .int .i64 e]) ∧ w' = w := by
  go_enter Tryd.func25, Tryd.ntmps25
  go_wp2_with fail
  refine (uint_any _ _ _ f w hbig hby hl).mono ?_
  rintro e' w' ⟨rfl, hw⟩
  obtain rfl : w = w' := hw.symm
  rw [hN.out]
  go_wp2
  go_ret3
  exact ⟨rfl, rfl⟩
set_option maxHeartbeats 400000 in
theorem xUnf_long (ao : Option Addr) (n c : Nat) (f : Nat → Int) (w : World) (hbig : n ≤ 140737488355328) (hby : ∀ i, 0 ≤ f i ∧ f i ≤ 255) (hl : Lay w ao n f) (a s : Int) (hN : Hid (Wm.num f n = (a, s, 0))) (ha : 65536 < a) :
    Calls Tryd.prog 25 #[.slice ao n c] w fun e' w' => e' = .returned (.tuple #[.slice none 0 0, .slice none 0 0, .int .i64 12]) ∧ w' = w := by
  go_enter Tryd.func25, Tryd.ntmps25
  go_wp2_with fail
  refine (uint_any _ _ _ f w hbig hby hl).mono ?_
  rintro e' w' ⟨rfl, hw⟩
  obtain rfl : w = w' := hw.symm
  rw [hN.out]
  go_wp2
  go_ret3
  exact ⟨rfl, rfl⟩
set_option maxHeartbeats 400000 in
theorem xUnf_short (ao : Option Addr) (n c m k : Nat) (f : Nat → Int) (w : World) (hbig : n ≤ 140737488355328) (hby : ∀ i, 0 ≤ f i ∧ f i ≤ 255) (hl : Lay w ao n f) (hN : Hid (Wm.num f n = ((m : Int), (k : Int), 0)))
    (hk : k ≤ n) (hm : m ≤ 65536) (hs : (n : Int) - (k : Int) < (m : Int) + 4) :
    Calls Tryd.prog 25 #[.slice ao n c] w fun e' w' => e' = .returned (.tuple #[.slice none 0 0, .slice none 0 0, .int .i64 10]) ∧ w' = w := by
  have hm' : ¬ (65536 : Int) < (m : Int) := by omega
  go_enter Tryd.func25, Tryd.ntmps25
  go_wp2_with fail
  refine (uint_any _ _ _ f w hbig hby hl).mono ?_
  rintro e' w' ⟨rfl, hw⟩
  obtain rfl : w = w' := hw.symm
  rw [hN.out]
  go_wp2
  go_ret3
  exact ⟨rfl, rfl⟩

theorem rd4 (f : Nat → Int) : rd f 4 = (f 0).toNat + (f 1).toNat * 256 + (f 2).toNat * 65536 + (f 3).toNat * 16777216 := by
  simp only [rd, Nat.pow_zero, Nat.mul_one, Nat.zero_add]
theorem four_of_rd {f : Nat → Int} (h : ∀ i, 0 ≤ f i ∧ f i ≤ 255) (Z : Nat) (e : rd f 4 = Z) (i : Nat) (hi : i < 4) : fourAt Z i = f i := by
  have h0 := h 0
  have h1 := h 1
  have h2 := h 2
  have h3 := h 3
  rw [rd4] at e
  have hk : i = 0 ∨ i = 1 ∨ i = 2 ∨ i = 3 := by omega
  unfold fourAt
  rcases hk with r | r | r | r <;> subst r <;> simp <;> omega
theorem rd_of_four {f : Nat → Int} (Z : Nat) (hZ : Z < 2 ^ 32) (e : ∀ i, i < 4 → fourAt Z i = f i) : rd f 4 = Z := by
  have h0 := e 0 (by omega)
  have h1 := e 1 (by omega)
  have h2 := e 2 (by omega)
  have h3 := e 3 (by omega)
  rw [rd4, ← h0, ← h1, ← h2, ← h3]
  unfold fourAt
  simp
  omega
theorem text_eq {f : Nat → Int} (h : ∀ i, 0 ≤ f i ∧ f i ≤ 255) (Z : Nat) (e : rd f 4 = Z) : strF (fourAt Z) 4 = strF f 4 := by
  unfold strF
  rw [lst_ext (fun i hi => four_of_rd h Z e i hi)]
theorem fourAt_by (Z i : Nat) : 0 ≤ fourAt Z i ∧ fourAt Z i ≤ 255 := by unfold fourAt; omega
theorem text_ne {f : Nat → Int} (h : ∀ i, 0 ≤ f i ∧ f i ≤ 255) (Z : Nat) (hZ : Z < 2 ^ 32) (e : rd f 4 ≠ Z) : strF (fourAt Z) 4 ≠ strF f 4 := fun hs => e (rd_of_four Z hZ (fun i hi => lst_inj (strF_inj (fourAt_by Z) h hs) i hi))
theorem wrapI (z : Int) (h : -9223372036854775808 ≤ z ∧ z ≤ 9223372036854775807) : IntKind.i64.wrap z = z := by rw [IntKind.wrap_i64]; omega
theorem From.drew1 {w : World} {ao : Option Addr} {n : Nat} {f : Nat → Int} (h : From w ao n f) : From w.drew ao n f := h

set_option maxHeartbeats 2000000 in
theorem xUnf_full (b off n c m k : Nat) (f : Nat → Int) (w : World) (hbig : n ≤ 140737488355328) (hby : ∀ i, 0 ≤ f i ∧ f i ≤ 255) (hcell : Hid (∀ i, i < n → w.cell? ⟨b, off + i, none⟩ = some (.int .u8 (f i)))) (hnc : n ≤ c) (hc : c ≤ 9223372036854775807) (hN : Hid (Wm.num f n = ((m : Int), (k : Int), 0)))
    (hk : k ≤ n) (hm : m ≤ 65536) (hs : k + (m + 4) ≤ n) (bb : Bool) (hbb : (rd (sh f (k + m)) 4 ≠ Crc.sum (lstN (sh f k) m)) ↔ bb = true) :
    Calls Tryd.prog 25 #[.slice (some ⟨b, off, none⟩) n c] w fun e' w' => Below w.heap.size w w' ∧ ((bb = true ∧ e' = .returned (.tuple #[.slice none 0 0, .slice none 0 0, .int .i64 13])) ∨ (bb = false ∧ ∃ v1 v2, e' = .returned (.tuple #[v1, v2, .int .i64 0]) ∧ Own w' w.heap.size v1 (lst (sh f k) m) ∧ Own w' w.heap.size v2 (lst (sh f (k + m + 4)) (n - k - (m + 4))))) := by
  obtain ⟨Z, hZ⟩ : ∃ Z, Crc.sum (lstN (sh f k) m) = Z := ⟨_, rfl⟩
  have HZ : Hid (Crc.sum (lstN (sh f k) m) = Z) := hZ
  have hsum : Z < 2 ^ 32 := by rw [← hZ]; exact Crc.sum_lt _ (lstN_by (sh_by hby k) m)
  obtain ⟨TA, hTA⟩ : ∃ TA, strF (fourAt Z) 4 = TA := ⟨_, rfl⟩
  have HTA : Hid (strF (fourAt Z) 4 = TA) := hTA
  obtain ⟨s, hs9⟩ : ∃ s, k + m = s := ⟨_, rfl⟩
  have HS9 : Hid (k + m = s) := hs9
  obtain ⟨TB, hTB⟩ : ∃ TB, strF (sh f s) 4 = TB := ⟨_, rfl⟩
  have HTB : Hid (strF (sh f s) 4 = TB) := hTB
  have HBB : Hid ((!TA.toList == TB.toList) = bb) := by
    rw [hs9, hZ] at hbb
    have key : (!(strF (fourAt Z) 4).toList == (strF (sh f s) 4).toList) = bb := by
      cases bb with
      | true =>
        have h3 : (strF (fourAt Z) 4).toList ≠ (strF (sh f s) 4).toList := fun h => text_ne (sh_by hby _) _ hsum (hbb.2 rfl) (by
          have e : (strF (fourAt Z) 4).data.toList = (strF (sh f s) 4).data.toList := by
            have p := Lib.strOfNums_toList (lst (fourAt Z) 4)
            have q := Lib.strOfNums_toList (lst (sh f s) 4)
            exact (p.symm.trans (h.trans q))
          exact ByteArray.ext (Array.toList_inj.1 e))
        simpa using h3
      | false =>
        have h4 : strF (fourAt Z) 4 = strF (sh f s) 4 := text_eq (sh_by hby _) _ (by
          by_cases e : rd (sh f s) 4 = Z
          · exact e
          · exact absurd (hbb.1 e) (by decide))
        rw [h4]
        simp
    rw [hTA, hTB] at key
    exact key
  obtain ⟨t, ht9⟩ : ∃ t, s + 4 = t := ⟨_, rfl⟩
  have r1 : IntKind.i64.wrap ((k : Int) + (m : Int)) = (s : Int) := by rw [IntKind.wrap_i64]; omega
  have r2 : IntKind.i64.wrap ((s : Int) + 4) = (t : Int) := by rw [IntKind.wrap_i64]; omega
  have r3 : (s : Int) ≤ (t : Int) := by omega
  have r4 : (t : Int) ≤ (c : Int) := by omega
  have r5 : s < c := by omega
  have r6 : ¬ c = s := by omega
  have r7 : t - s = 4 := by omega
  have r8 : (0 : Int) ≤ (s : Int) := by omega
  have r9 : (0 : Int) ≤ (t : Int) := by omega
  have HM : Hid (m ≤ 140737488355328) := (by omega : m ≤ 140737488355328)
  have HR : Hid (IntKind.i64.wrap ((k : Int) + (m : Int)) = (s : Int) ∧ IntKind.i64.wrap ((s : Int) + 4) = (t : Int) ∧ (s : Int) ≤ (t : Int) ∧ (t : Int) ≤ (c : Int) ∧ s < c ∧ ¬ c = s ∧ t - s = 4 ∧ (0 : Int) ≤ (s : Int) ∧ (0 : Int) ≤ (t : Int)) := ⟨r1, r2, r3, r4, r5, r6, r7, r8, r9⟩
  clear hbb hZ hTA hTB hs9 r1 r2 r3 r4 r5 r6 r7 r8 r9 ht9
  have hm' : ¬ (65536 : Int) < (m : Int) := by omega
  have hs' : ¬ (n : Int) - (k : Int) < (m : Int) + 4 := by omega
  have q0 : k < c := by omega
  have ekm : Hid (k + m - k = m) := (by omega : k + m - k = m)
  have q1 : (k : Int) + (m : Int) ≤ (c : Int) := by omega
  have hl : Lay w (some ⟨b, off, none⟩) n f := .inr ⟨b, off, rfl, hcell⟩
  have hm0 : Own (w.alloc (.cells #[] 5)) w.heap.size (.slice (some ⟨w.heap.size, 0, none⟩) 0 0) [] := World.ownsRow_made w #[] 0 (Nat.le_refl _) (Nat.zero_le _) rfl
  have hf : From w (some ⟨b, off + k, none⟩) m (sh f k) := .inr ⟨_, rfl, fun i hi => by rw [Addr.add_lit, Nat.add_assoc]; exact hcell.out (k + i) (by omega)⟩
  have HF : Hid (From (w.alloc (.cells #[] 5)) (some ⟨b, off + k, none⟩) (k + m - k) (sh f k)) := (by rw [ekm.out]; exact hf.alloc _ : From (w.alloc (.cells #[] 5)) (some ⟨b, off + k, none⟩) (k + m - k) (sh f k))
  have HFB : Hid (From w (some ⟨b, off + s, none⟩) 4 (sh f s)) := by
    rw [← HS9.out]
    exact .inr ⟨_, rfl, fun i hi => by rw [Addr.add_lit, Nat.add_assoc]; exact hcell.out (k + m + i) (by omega)⟩
  have HFR : Hid (∀ w', Below w.heap.size w w' → ∀ i, i < n - k - (m + 4) → w'.cell? ⟨b, off + (k + m + 4) + i, none⟩ = some (.int .u8 (sh f (k + m + 4) i))) := fun w' hb i hi => by
    have h9 := hcell.out (k + m + 4 + i) (by omega)
    rw [hb.cell (p := ⟨b, off + (k + m + 4) + i, none⟩) (World.block_lt_of_cell? w _ (by rw [Nat.add_assoc]; exact h9)), Nat.add_assoc]
    exact h9
  have HW3 : Hid (IntKind.i64.wrap ((k : Int) + (m : Int)) = (k : Int) + (m : Int)) := wrapI _ (by omega)
  have HW4 : Hid (IntKind.i64.wrap ((k : Int) + (m : Int) + 4) = (k : Int) + (m : Int) + 4) := wrapI _ (by omega)
  have HSum : Hid (Z < 2 ^ 32) := hsum
  clear hf hsum
  go_enter Tryd.func25, Tryd.ntmps25
  go_wp2_with fail
  refine (uint_any _ _ _ f w hbig hby hl).mono ?_
  rintro e' w' ⟨rfl, hw⟩
  obtain rfl : w = w' := hw.symm
  rw [hN.out]
  go_wp2_with (at_builtin; refine wpList_app rfl _ _ rfl w.heap.size _ [] rfl hm0 (some ⟨b, off + k, none⟩) (k + m - k) (c - k) (sh f k) rfl HF.out ?q1 ?q2 ?q3 ?_)
  case q1 => first | (intro h; cases h) | trivial
  case q2 => simp; omega
  case q3 => simp
  intro vP w1 hoP hb1
  have HOP : Hid (Own w1 w.heap.size vP (lst (sh f k) m)) := by first | exact hoP | (rw [← ekm.out]; exact hoP)
  obtain ⟨aP, cP, rfl, hfP, _, hcP, hcP2, hgP⟩ := Own.openF HOP.out
  have hb1' : Below w.heap.size w w1 := ((Below.refl _ w).alloc (Nat.le_refl _) _).trans hb1
  have hs1 := hb1'.size
  have hfB : From w1 (some ⟨b, off + s, none⟩) 4 (sh f s) := HFB.out.below hb1' (Nat.le_refl _)
  have HCB : Hid (∀ cc, (convert 24 9 (.slice (some ⟨b, off + s, none⟩) 4 cc)).run Tryd.prog w1.drew = .ok (.string TB) w1.drew) := fun cc => by rw [← HTB.out]; exact conv_from cc hfB.drew1
  have HCB2 : Hid (∀ cc, (convert 24 9 (.slice (some ⟨b, off + s, none⟩) 4 cc)).run Tryd.prog (w1.alloc (.cells #[.int .u8 (fourAt Z 0), .int .u8 (fourAt Z 1), .int .u8 (fourAt Z 2), .int .u8 (fourAt Z 3)] 5)).drew = .ok (.string TB) (w1.alloc (.cells #[.int .u8 (fourAt Z 0), .int .u8 (fourAt Z 1), .int .u8 (fourAt Z 2), .int .u8 (fourAt Z 3)] 5)).drew) := fun cc => by rw [← HTB.out]; exact conv_from cc (hfB.alloc _).drew1
  have hfA : From (w1.alloc (.cells #[.int .u8 (fourAt Z 0), .int .u8 (fourAt Z 1), .int .u8 (fourAt Z 2), .int .u8 (fourAt Z 3)] 5)) (some ⟨w1.heap.size, 0, none⟩) 4 (fourAt Z) := by
    refine .inr ⟨_, rfl, fun i hi => ?_⟩
    rw [Addr.add_lit, Nat.zero_add, World.cell?_alloc_at _ _ _ _ rfl]
    have hk : i = 0 ∨ i = 1 ∨ i = 2 ∨ i = 3 := by omega
    rcases hk with h | h | h | h <;> subst h <;> rfl
  have HCA : Hid ((convert 24 9 (.slice (some ⟨w1.heap.size, 0, none⟩) 4 4)).run Tryd.prog (w1.alloc (.cells #[.int .u8 (fourAt Z 0), .int .u8 (fourAt Z 1), .int .u8 (fourAt Z 2), .int .u8 (fourAt Z 3)] 5)).drew = .ok (.string TA) (w1.alloc (.cells #[.int .u8 (fourAt Z 0), .int .u8 (fourAt Z 1), .int .u8 (fourAt Z 2), .int .u8 (fourAt Z 3)] 5)).drew) := by rw [← HTA.out]; exact conv_from 4 hfA.drew1
  have HBd : Hid (Below w1.heap.size w1 (w1.alloc (.cells #[.int .u8 (fourAt Z 0), .int .u8 (fourAt Z 1), .int .u8 (fourAt Z 2), .int .u8 (fourAt Z 3)] 5))) := (Below.refl _ w1).alloc (Nat.le_refl _) _
  have HfP : Hid (From w1 aP m (sh f k)) := hfP
  clear hfP hl HF hm0 hoP hcell hN hfA hfB
  go_wp2_with fail
  go_cut [52] (fun s wx => s = .bool bb ∧ Below w1.heap.size w1 wx)
  case first =>
    obtain ⟨r1, r2, r3, r4, r5, r6, r7, r8, r9⟩ := HR.out
    have cB1 := HCB.out
    have cB2 := HCB2.out
    have cA := HCA.out
    have hsum := HSum.out
    clear HW3 HW4 q0 q1 hb1 hb1' hs1 hgP hcP hcP2 hbig hnc hc hk hm hs hm' hs' HOP HFR HFB ekm
    go_region_with (first
      | (go_at_call 39; refine (xSum aP m cP (sh f k) HM.out (sh_by hby k) ?_).mono ?_; exact HfP.out.lay; rintro e' w' ⟨rfl, rfl⟩; rw [HZ.out])
      | (go_at_call 38; refine (four Z hsum _).mono ?_; rintro e' w' ⟨rfl, rfl⟩))
    all_goals
      go_wp2_with fail
      go_meet
      exact ⟨congrArg Value.bool HBB.out, by first | exact HBd.out | exact HBd.out.drew⟩
  case rest =>
  obtain ⟨rfl, hbx⟩ := hcut
  have hbx' : Below w.heap.size w wc := hb1'.trans (hbx.mono hs1)
  have HPx : Hid (Own wc w.heap.size (.slice aP m cP) (lst (sh f k) m)) := HOP.out.below hbx (Nat.le_refl _)
  have hsx := hbx'.size
  clear HOP HCB HCB2 HCA HBd
  cases bb with
  | true =>
    go_wp2
    go_ret3
    exact ⟨hbx', rfl⟩
  | false =>
    have q2 : (k : Int) + (m : Int) + 4 ≤ (c : Int) := by omega
    have q4 : (0 : Int) ≤ (k : Int) + (m : Int) + 4 := by omega
    have e2 : ((k : Int) + (m : Int) + 4).toNat = k + m + 4 := by omega
    have q5 : (k : Int) + (m : Int) + 4 ≤ (n : Int) := by omega
    have hw2 : wrap64 ((k : Int) + (m : Int) + 4) = (k : Int) + (m : Int) + 4 := Wm.w64 _ (by omega)
    have hw4 := HW4.out
    have hmX : Own (wc.alloc (.cells #[] 5)) wc.heap.size (.slice (some ⟨wc.heap.size, 0, none⟩) 0 0) [] := World.ownsRow_made wc #[] 0 (Nat.le_refl _) (Nat.zero_le _) rfl
    have hbO : Below w.heap.size w (wc.alloc (.cells #[] 5)) := hbx'.alloc hsx _
    have HPo : Hid (∀ w2, Below wc.heap.size (wc.alloc (.cells #[] 5)) w2 → Own w2 w.heap.size (.slice aP m cP) (lst (sh f k) m) ∧ Below w.heap.size w w2) := fun w2 hb => by
      have h9 : Below wc.heap.size wc w2 := ((Below.refl _ wc).alloc (Nat.le_refl _) _).trans hb
      exact ⟨HPx.out.below h9 (Nat.le_refl _), hbO.trans (hb.mono hsx)⟩
    have HRn : Hid (n - (k + m + 4) = n - k - (m + 4)) := (by omega : n - (k + m + 4) = n - k - (m + 4))
    have HFr : Hid (From (wc.alloc (.cells #[] 5)) (some ⟨b, off + (k + m + 4), none⟩) (n - (k + m + 4)) (sh f (k + m + 4))) := .inr ⟨_, rfl, fun i hi => by
      rw [Addr.add_lit]
      exact HFR.out _ hbO i (by rw [← HRn.out]; exact hi)⟩
    by_cases hCe : c = k + m + 4
    · have hn0 : n = k + m + 4 := by omega
      subst hn0
      subst hCe
      have HF0 : Hid (From (wc.alloc (.cells #[] 5)) (some ⟨b, off, none⟩) 0 (sh f (k + m + 4))) := .inr ⟨_, rfl, fun i hi => by omega⟩
      have HR0 : Hid (k + m + 4 - k - (m + 4) = 0) := (by omega : k + m + 4 - k - (m + 4) = 0)
      go_wp2_with (at_builtin; refine wpList_app rfl _ _ rfl wc.heap.size _ [] rfl hmX (some ⟨b, off, none⟩) 0 0 (sh f (k + m + 4)) rfl HF0.out (fun h => by cases h) ?q2 ?q3 ?_)
      case q2 => simp
      case q3 => simp
      intro v2 w2 ho2 hb2
      obtain ⟨z1, z2⟩ := HPo.out w2 hb2
      have z3 := ho2.mono (B' := w.heap.size) hsx
      go_wp2
      go_ret3
      refine ⟨z2, _, _, rfl, z1, ?_⟩
      rw [HR0.out]
      exact z3
    · have hCl : k + m + 4 < c := by omega
      have hCl' : (k : Int) + (m : Int) + 4 < (c : Int) := by omega
      go_wp2_with (at_builtin; refine wpList_app rfl _ _ rfl wc.heap.size _ [] rfl hmX (some ⟨b, off + (k + m + 4), none⟩) (n - (k + m + 4)) (c - (k + m + 4)) (sh f (k + m + 4)) rfl HFr.out (fun h => by cases h) ?q2 ?q3 ?_)
      case q2 => simp; omega
      case q3 => simp
      intro v2 w2 ho2 hb2
      obtain ⟨z1, z2⟩ := HPo.out w2 hb2
      have z3 := ho2.mono (B' := w.heap.size) hsx
      go_wp2
      go_ret3
      refine ⟨z2, _, _, rfl, z1, ?_⟩
      rw [← HRn.out]
      exact z3
end Go.Proofs.YtbpolfoagmehhaaDoor
