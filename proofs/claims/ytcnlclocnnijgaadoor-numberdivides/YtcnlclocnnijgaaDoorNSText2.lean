/-
  Contract of a size's text: a number's digits. Conditions: at most a thousand limbs; the library's table of powers of ten is as it starts.
-/
import Derived.Test.YtcnlclocnnijgaaDoorNSText
namespace Go.Proofs.YtcnlclocnnijgaaDoor
open Go.RowKit Go.Shelf
set_option linter.unusedVariables false
attribute [local go_sem] Oper.semAt_some

/-- What a round of text needs to know of the limb. -/
theorem sText_digits (n j : Nat) : (⟨(Lib.decDigits (lb n j)).toArray⟩ : ByteArray).size ≤ 9 ∧ (⟨(Lib.decDigits (lb n j)).toArray⟩ : ByteArray).size = Lib.nDigits (lb n j) := by
  have e : (⟨(Lib.decDigits (lb n j)).toArray⟩ : ByteArray).size = Lib.nDigits (lb n j) := by rw [← bytes_len]; simp [Lib.decDigits_length]
  exact ⟨by rw [e]; exact limb_digits n j, e⟩

set_option maxRecDepth 100000 in
set_option maxHeartbeats 4000000 in
theorem sText_some (vs : Value) (n : Nat) (w : World) (hs : Sz w vs n) (h0 : n ≠ 0) (hl : ln n ≤ 1000) (htab : Lib.TabIs Tryd.prog w "internal/strconv.uint64pow10" .u64 Lib.pow10Tab) :
    Calls Tryd.prog 75 #[vs] w fun e w' => e = .returned (.string ⟨(Lib.decDigits n).toArray⟩) ∧ Below w.heap.size w w' := by
  obtain ⟨ao, c, rfl, h1, h2, h3, _⟩ := hs.open
  have l1 := hs.lims
  have hn := lt_pow_ln n
  have hlo := pow_ln_le n h0
  have hpos : 0 < ln n := by have := ln_pos h0; omega
  have g1 : ((ln n : Int) == 0) = false := by rw [beq_eq_false_iff_ne]; omega
  obtain ⟨L, hL⟩ : ∃ L, ln n = L := ⟨_, rfl⟩
  rw [hL] at l1 h1 h3 hn hpos g1 hlo hl
  rw [hL]
  clear hs hL
  refine (callsIn_wide (n := 8)).1 ?_
  have hro : Fence.wide.round = none := rfl
  have h1' : 1 ≤ 8 := by decide
  refine callsIn_of_wp_marks Tryd.func75 rfl trivial ?_ hro
  simp only [Tryd.ntmps75, List.size_toArray, List.length_cons, List.length_nil, Nat.reduceAdd, Nat.reduceSub, Array.replicate_succ, Array.replicate_zero, List.push_toArray, List.append_toArray, List.nil_append, List.cons_append]
  gi_wp2_with (refine ⟨trivial, ?_⟩; gi_at_call 62; refine (back_in Fence.wide (8 - 1) trivial hro _ _ _ _).mono ?_; rintro e w' ⟨rfl, rfl⟩)
  have bA := Boxed.new w 46 (.slice ao L c)
  have bN := Boxed.new ((w.alloc (.cells #[.slice ao L c] 46)).alloc (.cells #[.pointer none, .slice none 0 0] 106)) 46 (.slice ao L c)
  simp only [World.size_alloc] at bN
  have hB0 : Below w.heap.size w (((w.alloc (.cells #[.slice ao L c] 46)).alloc (.cells #[.pointer none, .slice none 0 0] 106)).alloc (.cells #[.slice ao L c] 46)) := (((Below.refl _ w).alloc (Nat.le_refl _) _).alloc (by simp) _).alloc (by simp; omega) _
  have hT0 : Tx w.heap.size (w.heap.size + 1) (w.heap.size + 1 + 1) (.slice ao L c) [] (((w.alloc (.cells #[.slice ao L c] 46)).alloc (.cells #[.pointer none, .slice none 0 0] 106)).alloc (.cells #[.slice ao L c] 46)) := by
    refine ⟨?_, ?_, .inl ⟨Nat.le_refl _, .slice none 0 0, ?_, World.ownsRowF_nil _ _ _ _, by simp [Value.ownBlock]⟩⟩
    · rw [Below.heap_alloc _ _ _ (by simp; omega), Below.heap_alloc _ _ _ (by simp)]
      exact heap_alloc_at _ _ _ rfl
    · exact heap_alloc_at _ _ _ (by simp)
    · rw [Below.heap_alloc _ _ _ (by simp)]
      exact heap_alloc_at _ _ _ (by simp)
  refine wpIn_rangeFunc_ownG hro h1' (gf := 79) (lb := #[.pointer (some ⟨w.heap.size + 1 + 1, 0, none⟩)]) rfl trivial (enters_of Tryd.func79 (by kernel_rfl) rfl)
    (back_stops Fence.wide (8 - 1) trivial hro (by decide) (w.heap.size + 1 + 1) w.heap.size L c ao _ h3 h1 _ (by simp) (by simp; omega) bN.cell (l1.below hB0)) Kb.trans (Kb.put (by simp; omega) (by simp)) (Below.refl _ _) (fun _ => rfl)
    (fun pre W => Tx w.heap.size (w.heap.size + 1) (w.heap.size + 1 + 1) (.slice ao L c) (cat n L pre) W ∧ Below w.heap.size w W)
    (fun _ _ _ => False)
    (OwnFrom.and (fun s A B row hs hg hr => hs.kept (fun k o hk ho => by
      refine (hg.block k (Array.getElem?_eq_some_iff.1 hk).1 (fun e => ?_)).trans hk
      obtain ⟨_, o', ho', hc⟩ := hr k e.symm
      rw [hk] at ho'
      cases ho'
      rw [ho] at hc
      cases hc)) (ownFrom_below (Nat.le_refl _) (by simp; omega)))
    (fun _ _ _ _ _ hs _ _ => hs)
    ⟨hT0, hB0⟩
    (fun x => { tmps := #[.slice ao L c, .pointer (some ⟨w.heap.size, 0, none⟩), .string ⟨#[]⟩, .pointer (some ⟨w.heap.size + 1, 0, none⟩), .int .i64 (x.1 : Int), .int .u64 (lb n x.1 : Int), undef, .slice ao L c, .int .i64 (L : Int), .bool false, .slice ao L c, .func (.func 79) #[] #[.pointer (some ⟨w.heap.size + 1 + 1, 0, none⟩)], .int .i64 (x.1 : Int), .int .u64 (lb n x.1 : Int), undef, undef, undef, undef, undef, undef, undef, undef, undef, undef, undef, undef, undef, undef, undef], defers := [] }) ?assign ?body ?done ?stop
  case assign =>
    intro l x W K hK
    gi_wp2
    exact hK
  case body =>
    rintro l pre x W ⟨hT, hB⟩ hlen
    obtain ⟨j, hj⟩ := x
    have hcl := cat_length n L pre
    have htabW := tab_below htab hB (Nat.le_refl _)
    have hlb := lb_lt n j
    obtain ⟨hd9, hdn⟩ := sText_digits n j
    have hsz := hB.size
    have hBsW : w.heap.size + 1 + 1 < W.heap.size := (Array.getElem?_eq_some_iff.1 hT.hs).1
    have C1 := formatUint (lb n j) (by omega) W htabW
    have hpc : piece n L j = (if j < L - 1 then List.replicate (9 - Lib.nDigits (lb n j)) 48 else []) ++ Lib.decDigits (lb n j) := by
      unfold piece
      by_cases e : j < L - 1
      · rw [if_pos e, if_pos e]
      · rw [if_neg e, if_neg e]; rfl
    generalize hD : (⟨(Lib.decDigits (lb n j)).toArray⟩ : ByteArray) = D at *
    have hDl : D.data.toList = Lib.decDigits (lb n j) := by rw [← hD]
    have HF : Hid (∀ W1, Below W.heap.size W W1 → Tx w.heap.size (w.heap.size + 1) (w.heap.size + 1 + 1) (.slice ao L c) (cat n L pre) W1 ∧ Stp (w.heap.size + 1) (w.heap.size + 1 + 1) W W1) := fun W1 hb => ⟨hT.kept (cellsKept_below hb), Stp.of_below hb (by omega) hBsW⟩
    have HE : Hid (∀ W4, Tx w.heap.size (w.heap.size + 1) (w.heap.size + 1 + 1) (.slice ao L c) (cat n L pre ++ piece n L j) W4 → Stp (w.heap.size + 1) (w.heap.size + 1 + 1) W W4 →
        KeepsFrom (((w.alloc (.cells #[.slice ao L c] 46)).alloc (.cells #[.pointer none, .slice none 0 0] 106)).alloc (.cells #[.slice ao L c] 46)).heap.size W W4 ∧ Kb (w.heap.size + 1 + 1) w.heap.size W W4 ∧ Tx w.heap.size (w.heap.size + 1) (w.heap.size + 1 + 1) (.slice ao L c) (cat n L (pre ++ [⟨j, hj⟩])) W4 ∧ Below w.heap.size w W4) := fun W4 ht hst =>
      ⟨hst.keeps _, ⟨hst.box, hst.bel.mono (by omega)⟩, by rw [cat_snoc]; exact ht, hB.trans (hst.bel.mono (by omega))⟩
    have HG : Hid (∀ (q : List UInt8) W1 W2, Tx w.heap.size (w.heap.size + 1) (w.heap.size + 1 + 1) (.slice ao L c) q W1 → Below W1.heap.size W1 W2 → Tx w.heap.size (w.heap.size + 1) (w.heap.size + 1 + 1) (.slice ao L c) q W2 ∧ Stp (w.heap.size + 1) (w.heap.size + 1 + 1) W1 W2) := fun q W1 W2 h hb => by
      have := (Array.getElem?_eq_some_iff.1 h.hs).1
      exact ⟨h.kept (cellsKept_below hb), Stp.of_below hb (by omega) this⟩
    have HW : Hid (∀ (q : List UInt8) (s : ByteArray) W1, Tx w.heap.size (w.heap.size + 1) (w.heap.size + 1 + 1) (.slice ao L c) q W1 → q.length ≤ 1000000 → s.size ≤ 1000000 → Calls Tryd.prog 90 #[.pointer (some ⟨w.heap.size + 1, 0, none⟩), .string s] W1 fun e W' => e = .returned (.tuple #[.int .i64 s.size, .nilIface]) ∧ Tx w.heap.size (w.heap.size + 1) (w.heap.size + 1 + 1) (.slice ao L c) (q ++ s.data.toList) W' ∧ Stp (w.heap.size + 1) (w.heap.size + 1 + 1) W1 W') := fun q s W1 h a b => wrote s W1 h (by omega) (by omega) a b
    have hq1 : (cat n L pre).length ≤ 10000 := by omega
    have cA : ∀ W1, Tx w.heap.size (w.heap.size + 1) (w.heap.size + 1 + 1) (.slice ao L c) (cat n L pre) W1 → W1.cell? ⟨w.heap.size, 0, none⟩ = some (.slice ao L c) := fun W1 h => by rw [cells_at h.ha 0]; rfl
    have HCA : Hid (∀ W1, Tx w.heap.size (w.heap.size + 1) (w.heap.size + 1 + 1) (.slice ao L c) (cat n L pre) W1 → W1.cell? ⟨w.heap.size, 0, none⟩ = some (.slice ao L c)) := cA
    clear cA
    by_cases hlast : j < L - 1
    · have e1 : (j : Int) < (L : Int) - 1 := by omega
      rw [if_pos hlast] at hpc
      have hR : (9 : Int) - (Lib.nDigits (lb n j) : Int) = ((9 - Lib.nDigits (lb n j) : Nat) : Int) := by omega
      have HR : Hid (∀ W1, Calls Tryd.prog 91 #[.string ⟨#[48]⟩, .int .i64 ((9 : Int) - (Lib.nDigits (lb n j) : Int))] W1 fun e w' => e = .returned (.string ⟨(List.replicate (9 - Lib.nDigits (lb n j)) 48).toArray⟩) ∧ Below W1.heap.size W1 w') := fun W1 => by rw [hR]; exact repeat0 _ (by omega) W1
      have hZs : (⟨(List.replicate (9 - Lib.nDigits (lb n j)) 48).toArray⟩ : ByteArray).size ≤ 9 := by rw [← bytes_len]; simp
      have hZl : (⟨(List.replicate (9 - Lib.nDigits (lb n j)) (48 : UInt8)).toArray⟩ : ByteArray).data.toList = List.replicate (9 - Lib.nDigits (lb n j)) 48 := rfl
      generalize (⟨(List.replicate (9 - Lib.nDigits (lb n j)) 48).toArray⟩ : ByteArray) = Z at *
      have hpc2 : cat n L pre ++ piece n L j = cat n L pre ++ Z.data.toList ++ D.data.toList := by rw [hpc, hZl, hDl, List.append_assoc]
      rw [hpc2] at HE
      clear hpc hpc2 hZl hDl hR hlast
      gi_wp2_with (refine ⟨trivial, ?_⟩; gi_at_call 89; refine (CallsIn.inRound l (callsIn_wide.2 C1)).mono ?_; rintro e W1 ⟨rfl, b1⟩; obtain ⟨T1, S1⟩ := HF.out W1 b1; have c1 := HCA.out W1 T1)
      refine ⟨trivial, (CallsIn.inRound l (callsIn_wide.2 (HR.out W1))).mono ?_⟩
      rintro e W2 ⟨rfl, b2⟩
      obtain ⟨T2, S2⟩ := HG.out _ W1 W2 T1 b2
      have C3 := HW.out (cat n L pre) Z W2 T2 (by omega) (by omega)
      gi_wp2_with fail
      refine ⟨trivial, (CallsIn.inRound l (callsIn_wide.2 C3)).mono ?_⟩
      rintro e W3 ⟨rfl, T3, S3⟩
      have hq2 : (cat n L pre ++ Z.data.toList).length ≤ 1000000 := by rw [List.length_append, bytes_len]; omega
      have C4 := HW.out (cat n L pre ++ Z.data.toList) D W3 T3 hq2 (by omega)
      gi_wp2_with fail
      refine ⟨trivial, (CallsIn.inRound l (callsIn_wide.2 C4)).mono ?_⟩
      rintro e W4 ⟨rfl, T4, S4⟩
      have HX := HE.out W4 T4 (((S1.trans S2).trans S3).trans S4)
      clear HE C1 C3 C4
      gi_wp2
      exact HX
    · have e1 : ¬ (j : Int) < (L : Int) - 1 := by omega
      rw [if_neg hlast] at hpc
      have hpc2 : cat n L pre ++ piece n L j = cat n L pre ++ D.data.toList := by rw [hpc, hDl]; rfl
      rw [hpc2] at HE
      clear hpc hpc2 hDl hlast
      gi_wp2_with (refine ⟨trivial, ?_⟩; gi_at_call 89; refine (CallsIn.inRound l (callsIn_wide.2 C1)).mono ?_; rintro e W1 ⟨rfl, b1⟩; obtain ⟨T1, S1⟩ := HF.out W1 b1; have c1 := HCA.out W1 T1)
      refine ⟨trivial, (CallsIn.inRound l (callsIn_wide.2 (HW.out (cat n L pre) D W1 T1 (by omega) (by omega)))).mono ?_⟩
      rintro e W4 ⟨rfl, T4, S4⟩
      have HX := HE.out W4 T4 (S1.trans S4)
      clear HE C1
      gi_wp2
      exact HX
  case done =>
    rintro D ys W hD rfl ⟨hT, hB⟩ hK
    have hcat : cat n L (bk L L (Nat.le_refl _)) = Lib.decDigits n := by
      obtain ⟨k, rfl⟩ : ∃ k, L = k + 1 := ⟨L - 1, by omega⟩
      rw [cat_bk hn hlo k (Nat.le_refl _), Nat.sub_self]
      simp
    rw [hcat] at hT
    have hbW : w.heap.size + 1 ≤ W.heap.size := by have := (Array.getElem?_eq_some_iff.1 hT.hs).1; omega
    have C5 := Tryd.Builder_String_any_k (w.heap.size + 1) (w.heap.size + 1) (Lib.decDigits n) W hT.bd hbW
    gi_wp2_with fail
    refine ⟨trivial, (callsIn_wide.2 C5).mono ?_⟩
    rintro e W5 ⟨rfl, _, hb5, hok⟩
    have hK5 : W5.heap[D]? = some (.deferred (some [])) := hok D _ hK (fun e => by injection e with e; simp at hD; omega) (fun c fz e => by cases e)
    have hB5 : Below w.heap.size w W5 := hB.trans (hb5.mono (by omega))
    gi_wp2
    refine ⟨by simp, .inl ⟨_, _, rfl, run_takeDeferred hK5, ?_⟩⟩
    exact ⟨_, results_tmp rfl _ _ _, rfl, hB5.trans (belowK_b (w := w) (Nat.le_refl _) W5 D _ _ (by simp at hD; omega) hK5 rfl rfl)⟩
  case stop =>
    rintro D c pre W _ _ h _
    exact h.elim
end Go.Proofs.YtcnlclocnnijgaaDoor
