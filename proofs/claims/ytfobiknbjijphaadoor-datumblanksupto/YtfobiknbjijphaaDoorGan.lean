/-
  The program's reader: take, skipComment, skipBlanks, closed.
  The program's reader: closed, pieceEnd, dot.
-/
import Derived.Test.YtfobiknbjijphaaDoorGam
namespace Go.Proofs.YtfobiknbjijphaaDoor
open Go.RowKit
set_option linter.unusedVariables false
set_option linter.unusedSimpArgs false

theorem list_eq (s : ByteArray) : s.toList = s.data.toList := ByteArray.toList_eq s
theorem pre_take (s t : ByteArray) (h : t.size ≤ s.size) : ((s.extract 0 t.size).toList == t.toList) = t.data.toList.isPrefixOf s.data.toList := by
  rw [list_eq, list_eq, ext_list]
  unfold rst
  rw [List.drop_zero, Nat.sub_zero]
  rw [Bool.eq_iff_iff]
  rw [List.isPrefixOf_iff_prefix, List.prefix_iff_eq_take, beq_iff_eq]
  have e : t.data.toList.length = t.size := by simp
  rw [e]
  exact ⟨fun h => h.symm, fun h => h.symm⟩
theorem pre_no (s t : ByteArray) (h : ¬ t.size ≤ s.size) : t.data.toList.isPrefixOf s.data.toList = false := by
  rw [Bool.eq_false_iff]
  intro e
  rw [List.isPrefixOf_iff_prefix] at e
  have := e.length_le
  simp at this
  omega
theorem hp_any (s t : ByteArray) (w : World) : Calls Tryd.prog 62 #[.string s, .string t] w fun e w' => e = .returned (.bool (t.data.toList.isPrefixOf s.data.toList)) ∧ w' = w := by
  by_cases h : t.size ≤ s.size
  · have e := pre_take s t h
    rw [← e]
    have l1 : (t.size : Int) ≤ (s.size : Int) := by omega
    have l2 : (0 : Int) ≤ (t.size : Int) := by omega
    clear e h
    go_enter Tryd.func62, Tryd.ntmps62
    go_wp2
    go_ret
    exact ⟨rfl, rfl⟩
  · rw [pre_no s t h]
    have l1 : ¬ (t.size : Int) ≤ (s.size : Int) := by omega
    clear h
    go_enter Tryd.func62, Tryd.ntmps62
    go_wp2
    go_ret
    exact ⟨rfl, rfl⟩
theorem rd_take {b : Nat} {s : ByteArray} {p o : Nat} {w : World} (h : Rr b s p o w) (t : ByteArray) :
    Calls Tryd.prog 46 #[.pointer (some ⟨b, 0, none⟩), .string t] w fun e w' => (e = .returned (.bool true) ∧ Hid (t.data.toList.isPrefixOf (rst s p) = true ∧ Rr b s (p + t.size) o w' ∧ Pt b w w')) ∨ (e = .returned (.bool false) ∧ Hid (t.data.toList.isPrefixOf (rst s p) = false ∧ Below w.heap.size w w')) := by
  have hB : Hid (∀ q, Below w.heap.size w (w.drewN q)) := fun q => blw_drewN q (Below.refl _ _)
  obtain ⟨y0, y1, y2, y3, y4, f1, -, -, -⟩ := h.cells
  have hp := h.1.1
  have lM : (s.size : Int) ≤ 1099511627776 := by have := h.1.2.1; omega
  have l0 : (0 : Int) ≤ (p : Int) := by omega
  have l1 : (p : Int) ≤ (s.size : Int) := by omega
  have HH : Hid (∀ V, Calls Tryd.prog 62 #[.string (s.extract p s.size), .string t] V fun e w' => e = .returned (.bool (t.data.toList.isPrefixOf (rst s p))) ∧ w' = V) := fun V => by
    have := hp_any (s.extract p s.size) t V
    rw [ext_all] at this
    exact this
  have hqq : t.data.toList.isPrefixOf (rst s p) = false ∨ t.data.toList.isPrefixOf (rst s p) = true := by cases t.data.toList.isPrefixOf (rst s p) <;> simp
  rcases hqq with hq | hq
  · rw [hq] at HH
    have HQ : Hid (t.data.toList.isPrefixOf (rst s p) = false) := hq
    clear h hp y2 y3 y4 hq
    go_enter Tryd.func46, Tryd.ntmps46
    go_wp2
    go_quiet ((go_at_call 62; exact Calls.quiet_of_same (HH.out _)))
    go_wp2
    go_ret
    exact .inr ⟨rfl, HQ.out, hB.out _⟩
  · rw [hq] at HH
    have ht : p + t.size ≤ s.size := by
      rw [List.isPrefixOf_iff_prefix] at hq
      have := hq.length_le
      rw [rst_len] at this
      simp at this
      omega
    have HE : Hid (∀ q, Rr b s (p + t.size) o ((w.drewN q).setCell ⟨b, 1, none⟩ (.int .i64 ((p + t.size : Nat) : Int))) ∧ Pt b w ((w.drewN q).setCell ⟨b, 1, none⟩ (.int .i64 ((p + t.size : Nat) : Int)))) := fun q => ⟨(h.under (hB.out q)).at_ _ ht, Pt.set (Part.ofBelow (hB.out q)) _ _⟩
    have HQ : Hid (t.data.toList.isPrefixOf (rst s p) = true) := hq
    obtain ⟨z, hz⟩ : ∃ z, p + t.size = z := ⟨_, rfl⟩
    have e0 : (p : Int) + (t.size : Int) = (z : Int) := by omega
    have l2 : (z : Int) ≤ (s.size : Int) := by omega
    rw [hz] at HE ⊢
    clear h hp y2 y3 y4 ht hq hz
    go_enter Tryd.func46, Tryd.ntmps46
    go_wp2
    go_quiet ((go_at_call 62; exact Calls.quiet_of_same (HH.out _)))
    go_wp2
    go_ret
    exact .inl ⟨rfl, HQ.out, HE.out _⟩
theorem sk_idx : ∀ r : List UInt8, (Lib.indexByte r 10 = -1 → skB true r = []) ∧ ∀ k : Nat, Lib.indexByte r 10 = (k : Int) → skB true r = skB false (r.drop k) ∧ k ≤ r.length
  | [] => ⟨fun _ => rfl, fun k h => by simp [Lib.indexByte] at h⟩
  | c :: r => by
    obtain ⟨h1, h2⟩ := sk_idx r
    by_cases hc : c = 10
    · subst hc
      refine ⟨fun h => by simp [Lib.indexByte] at h, fun k h => ?_⟩
      have : k = 0 := by simp [Lib.indexByte] at h; omega
      subst this
      exact ⟨by simp [skB, blB], Nat.zero_le _⟩
    · have hb : (c == 10) = false := by simpa using hc
      have ei : Lib.indexByte (c :: r) 10 = if Lib.indexByte r 10 == -1 then -1 else Lib.indexByte r 10 + 1 := by
        show (if c == 10 then (0 : Int) else _) = _
        rw [hb]; rfl
      have es : skB true (c :: r) = skB true r := by simp [skB, hc]
      by_cases hi : Lib.indexByte r 10 = -1
      · rw [ei, if_pos (by simp [hi])]
        refine ⟨fun _ => by rw [es, h1 hi], fun k h => by omega⟩
      · rw [ei, if_neg (by simpa using hi)]
        have hg := Lib.indexByte_ge r 10
        refine ⟨fun h => by omega, fun k h => ?_⟩
        obtain ⟨j, rfl⟩ : ∃ j, k = j + 1 := ⟨k - 1, by omega⟩
        obtain ⟨e1, e2⟩ := h2 j (by omega)
        exact ⟨by rw [es, e1]; rfl, by simp; omega⟩
theorem rd_comment {b : Nat} {s : ByteArray} {p o : Nat} {w : World} (h : Rr b s p o w) :
    Calls Tryd.prog 44 #[.pointer (some ⟨b, 0, none⟩)] w fun e w' => e = .returned (.tuple #[]) ∧ Hid (∃ q, Rr b s q o w' ∧ skB true (rst s p) = skB false (rst s q) ∧ (∀ hp : p < s.size, s[p] ≠ 10 → p < q) ∧ Pt b w w') := by
  have hB : Hid (∀ q, Below w.heap.size w (w.drewN q)) := fun q => blw_drewN q (Below.refl _ _)
  obtain ⟨y0, y1, y2, y3, y4, f1, -, -, -⟩ := h.cells
  have hp := h.1.1
  have lM : (s.size : Int) ≤ 1099511627776 := by have := h.1.2.1; omega
  have l0 : (0 : Int) ≤ (p : Int) := by omega
  have l1 : (p : Int) ≤ (s.size : Int) := by omega
  obtain ⟨k1, k2⟩ := sk_idx (rst s p)
  have hg := Lib.indexByte_ge (rst s p) 10
  have HH : Hid (∀ V, Calls Tryd.prog 61 #[.string (s.extract p s.size), .int .u8 10] V fun e w' => e = .returned (.int .i64 (Lib.indexByte (rst s p) 10)) ∧ w' = V) := fun V => by
    have := Go.Proofs.Tryd.strings_IndexByte (s.extract p s.size) 10 V
    rw [ext_all] at this
    exact this
  have HE : Hid (∀ q z, z ≤ s.size → Rr b s z o ((w.drewN q).setCell ⟨b, 1, none⟩ (.int .i64 (z : Int))) ∧ Pt b w ((w.drewN q).setCell ⟨b, 1, none⟩ (.int .i64 (z : Int)))) := fun q z hz => ⟨(h.under (hB.out q)).at_ _ hz, Pt.set (Part.ofBelow (hB.out q)) _ _⟩
  by_cases hi : Lib.indexByte (rst s p) 10 = -1
  · have HK := hid (k1 hi)
    rw [hi] at HH
    clear h hp y2 y3 y4 k1 k2 hg hi
    go_enter Tryd.func44, Tryd.ntmps44
    go_wp2
    go_quiet ((go_at_call 61; exact Calls.quiet_of_same (HH.out _)))
    go_wp2
    refine bodyPost_end (results_none rfl _ _ _) rfl ?_
    refine ⟨rfl, s.size, (HE.out _ s.size (Nat.le_refl _)).1, ?_, fun h _ => h, (HE.out _ s.size (Nat.le_refl _)).2⟩
    rw [HK.out, rst_nil (Nat.le_refl _)]; rfl
  · obtain ⟨k, hk⟩ : ∃ k : Nat, Lib.indexByte (rst s p) 10 = (k : Int) := ⟨(Lib.indexByte (rst s p) 10).toNat, by omega⟩
    obtain ⟨e1, e2⟩ := k2 k hk
    rw [rst_len] at e2
    rw [rst_drop] at e1
    have HK := hid e1
    rw [hk] at HH
    obtain ⟨z, hz⟩ : ∃ z, p + k = z := ⟨_, rfl⟩
    have e0 : (p : Int) + (k : Int) = (z : Int) := by omega
    have hzs : z ≤ s.size := by omega
    have l2 : (z : Int) ≤ (s.size : Int) := by omega
    have l3 : (0 : Int) ≤ (k : Int) := by omega
    rw [hz] at HK
    have HS := hid hzs
    have HG : Hid (∀ hp : p < s.size, s[p] ≠ 10 → p < z) := fun hp hc => by
      by_cases h0 : k = 0
      · subst h0
        have e3 := (Lib.indexByte_some hk).1
        rw [rst_cons hp] at e3
        exact absurd (by simpa using e3) hc
      · omega
    clear h hp y2 y3 y4 k1 k2 hg hi e1 e2 hk hz hzs
    go_enter Tryd.func44, Tryd.ntmps44
    go_wp2
    go_quiet ((go_at_call 61; exact Calls.quiet_of_same (HH.out _)))
    go_wp2
    refine bodyPost_end (results_none rfl _ _ _) rfl ?_
    exact ⟨rfl, z, (HE.out _ z HS.out).1, HK.out, HG.out, (HE.out _ z HS.out).2⟩
theorem u8b {c : UInt8} {k : Nat} (hk : k < 256) : ((c.toNat : Int) == (k : Int)) = decide (c = UInt8.ofNat k) := by
  by_cases h : c = UInt8.ofNat k
  · subst h
    have : (UInt8.ofNat k).toNat = k := by simp [UInt8.toNat_ofNat']; omega
    rw [this]; simp
  · have : ¬ c.toNat = k := fun e => h (by rw [← e]; simp)
    rw [decide_eq_false h]
    simp
    omega
theorem skB_comment_step {s : ByteArray} {q : Nat} {c : UInt8} (h : q < s.size) (hc : s[q] = c) (h59 : c = 59) (hbl : blB c = false) : skB false (rst s q) = skB true (rst s q) := by
  rw [rst_cons h, hc]
  subst h59
  simp [skB, blB]
set_option maxHeartbeats 2000000 in
theorem rd_skip {b : Nat} {s : ByteArray} {p o : Nat} {w : World} (h : Rr b s p o w) :
    Calls Tryd.prog 28 #[.pointer (some ⟨b, 0, none⟩)] w fun e w' => e = .returned (.tuple #[]) ∧ Hid (∃ q, Rr b s q o w' ∧ rst s q = skB false (rst s p) ∧ Pt b w w') := by
  have HR : Hid (Rr b s p o w) := h
  clear h
  go_enter Tryd.func28, Tryd.ntmps28
  go_wp2
  go_loopw [] (fun wr => ∃ q, Hid (Rr b s q o wr ∧ skB false (rst s q) = skB false (rst s p) ∧ Pt b w wr)) (fun wr => s.size - posOf b wr)
  case atStart => exact ⟨p, HR.out, rfl, Part.refl _ _⟩
  case round =>
    obtain ⟨q, HQ⟩ := hrel
    clear HR
    have HE := hid (rd_ended HQ.out.1)
    have hq0 := HQ.out.1.pos
    go_wp2_with fail
    refine HE.out.mono ?_
    rintro e w1 ⟨rfl, hb1⟩
    have HQ1 : Hid (Rr b s q o w1 ∧ skB false (rst s q) = skB false (rst s p) ∧ Pt b w w1) := hid ⟨HQ.out.1.under hb1.out, HQ.out.2.1, HQ.out.2.2.trans (Part.ofBelow (F := fun k => k = b) hb1.out) (fun _ _ h => h)⟩
    clear hb1 HE
    by_cases hlt : s.size ≤ q
    · have hd : decide (s.size ≤ q) = true := decide_eq_true hlt
      have HF : Hid (rst s q = skB false (rst s p)) := by
        have := HQ1.out.2.1
        rw [rst_nil hlt] at this
        rw [rst_nil hlt]
        exact this
      clear hlt
      go_wp2
      refine bodyPost_end (results_none rfl _ _ _) rfl ?_
      exact ⟨rfl, q, HQ1.out.1, HF.out, HQ1.out.2.2⟩
    · have hd : decide (s.size ≤ q) = false := decide_eq_false hlt
      have hlt2 : q < s.size := by omega
      obtain ⟨y0, y1, -, -, -, f1, -, -, -⟩ := HQ1.out.1.cells
      have l0 : (0 : Int) ≤ (q : Int) := by omega
      have l1 : (q : Int) < (s.size : Int) := by omega
      have lM : (s.size : Int) ≤ 1099511627776 := by have := HQ1.out.1.1.2.1; omega
      obtain ⟨c, hc⟩ : ∃ c, s[q]'hlt2 = c := ⟨_, rfl⟩
      have hcs : (blB c = true ∧ (((c.toNat : Int) == 32) = true ∨ ((c.toNat : Int) == 32) = false ∧ ((c.toNat : Int) == 9) = true ∨ ((c.toNat : Int) == 32) = false ∧ ((c.toNat : Int) == 9) = false ∧ ((c.toNat : Int) == 10) = true ∨ ((c.toNat : Int) == 32) = false ∧ ((c.toNat : Int) == 9) = false ∧ ((c.toNat : Int) == 10) = false ∧ ((c.toNat : Int) == 13) = true)) ∨ (blB c = false ∧ ((c.toNat : Int) == 32) = false ∧ ((c.toNat : Int) == 9) = false ∧ ((c.toNat : Int) == 10) = false ∧ ((c.toNat : Int) == 13) = false) := by
        have q1 : ((c.toNat : Int) == 32) = decide (c = 32) := @u8b c 32 (by decide)
        have q2 : ((c.toNat : Int) == 9) = decide (c = 9) := @u8b c 9 (by decide)
        have q3 : ((c.toNat : Int) == 10) = decide (c = 10) := @u8b c 10 (by decide)
        have q4 : ((c.toNat : Int) == 13) = decide (c = 13) := @u8b c 13 (by decide)
        rw [q1, q2, q3, q4]
        unfold blB
        by_cases h1 : c = 32
        · simp [h1]
        · by_cases h2 : c = 9
          · simp [h1, h2]
          · by_cases h3 : c = 10
            · simp [h1, h2, h3]
            · by_cases h4 : c = 13
              · simp [h1, h2, h3, h4]
              · simp [h1, h2, h3, h4]
      rcases hcs with ⟨hbl, hcs⟩ | ⟨hbl, q1, q2, q3, q4⟩
      · have HN : Hid (∀ n, Rr b s (q + 1) o ((w1.drewN n).setCell ⟨b, 1, none⟩ (.int .i64 ((q : Int) + 1))) ∧ skB false (rst s (q + 1)) = skB false (rst s p) ∧ Pt b w ((w1.drewN n).setCell ⟨b, 1, none⟩ (.int .i64 ((q : Int) + 1)))) := fun n => by
          have h1 := (HQ1.out.1.under (blw_drewN n (Below.refl _ w1))).at_ (q + 1) hlt2
          refine ⟨h1, ?_, Pt.set (HQ1.out.2.2.drewN n) _ _⟩
          rw [← HQ1.out.2.1, rst_cons hlt2, hc]
          simp [skB, hbl]
        have HQ2 := hid hq0
        clear HQ HQ1 hbl hq0
        rcases hcs with q1 | ⟨q1, q2⟩ | ⟨q1, q2, q3⟩ | ⟨q1, q2, q3, q4⟩
        all_goals
          go_wp2
          go_region
          all_goals
            go_wp2
            go_roundw
            case rel => exact ⟨q + 1, HN.out _⟩
            case measure => exact Nat.lt_of_le_of_lt (Nat.le_of_eq (congrArg (s.size - ·) (HN.out 1).1.pos)) (by rw [HQ2.out]; omega)
      · by_cases h59 : c = 59
        · have q5 : ((c.toNat : Int) == 59) = true := by rw [h59]; rfl
          have HK := hid (skB_comment_step hlt2 hc h59 hbl)
          have HC := hid (fun n => rd_comment (HQ1.out.1.under (blw_drewN n (Below.refl _ w1))))
          have HQ2 := hid hq0
          have hne : Hid (c ≠ 10) := by rw [h59]; exact (by decide : (59 : UInt8) ≠ 10)
          clear HQ hq0 hbl h59
          go_wp2
          go_region
          all_goals
            go_wp2_with fail
            refine (HC.out _).mono ?_
            rintro e w2 ⟨rfl, HX⟩
            obtain ⟨z, hz1, hz2, hz3, hz4⟩ := HX.out
            have HZ : Hid (Rr b s z o w2 ∧ skB false (rst s z) = skB false (rst s p) ∧ Pt b w w2) := hid ⟨hz1, by rw [← hz2, ← HK.out, HQ1.out.2.1], (HQ1.out.2.2.drewN _).trans hz4 (fun _ _ h => h)⟩
            have hz5 : q < z := hz3 hlt2 (by rw [hc]; exact hne.out)
            have hz6 := hz1.pos
            clear HX hz1 hz2 hz3 hz4 HQ1 HK
            go_wp2
            go_roundw
            case rel => exact ⟨z, HZ⟩
            case measure => rw [hz6, HQ2.out]; omega
        · have q5 : ((c.toNat : Int) == 59) = false := by
            have : ((c.toNat : Int) == 59) = decide (c = 59) := @u8b c 59 (by decide)
            rw [this, decide_eq_false h59]
          have HF : Hid (rst s q = skB false (rst s p)) := by
            have := HQ1.out.2.1
            rw [rst_cons hlt2, hc] at this
            rw [rst_cons hlt2, hc]
            simp only [skB, hbl, h59, if_false] at this
            exact this
          have HR := hid (fun n => HQ1.out.1.under (blw_drewN n (Below.refl _ w1)))
          clear HQ hq0 hbl h59
          go_wp2
          go_region
          all_goals
            go_wp2
            refine bodyPost_ret (results_none rfl _ _ _) rfl ?_
            exact ⟨rfl, q, HR.out 1, HF.out, HQ1.out.2.2.drewN 1⟩
end Go.Proofs.YtfobiknbjijphaaDoor

namespace Go.Proofs.YtfobiknbjijphaaDoor
open Go.RowKit
set_option linter.unusedVariables false
set_option linter.unusedSimpArgs false

theorem Pt.trans_ {b : Nat} {a w w' : World} (h : Pt b a w) (k : Pt b w w') : Pt b a w' := Part.trans h k (fun _ _ h => h)
theorem Pt.ofB {b : Nat} {w w' : World} (h : Below w.heap.size w w') : Pt b w w' := Part.ofBelow h
def pre1 (c : UInt8) (l : List UInt8) : Bool := match l with | [] => false | d :: _ => c == d
theorem pre1_eq (c : UInt8) (l : List UInt8) : [c].isPrefixOf l = pre1 c l := by
  cases l with
  | nil => rfl
  | cons d r => simp [pre1, List.isPrefixOf]
/-- What closed answers. -/
def Cld (b : Nat) (s : ByteArray) (p o : Nat) (w : World) (e : Ending) (w' : World) : Prop :=
  (∃ q, e = .returned (.bool true) ∧ Hid (skB false (rst s p) = 41 :: rst s q ∧ Rr b s q o w' ∧ Pt b w w')) ∨
  (∃ q, e = .returned (.bool false) ∧ Hid (skB false (rst s p) = rst s q ∧ (∃ h : q < s.size, s[q] ≠ 41) ∧ Rr b s q o w' ∧ Pt b w w')) ∨
  (Pnc e ∧ Hid (skB false (rst s p) = [] ∧ Flt b s 0 100 w' ∧ Pt b w w'))
theorem rd_closed {b : Nat} {s : ByteArray} {p o : Nat} {w : World} (h : Rr b s p o w) : Calls Tryd.prog 63 #[.pointer (some ⟨b, 0, none⟩)] w fun e w' => Cld b s p o w e w' := by
  have HS := hid (rd_skip h)
  clear h
  go_enter Tryd.func63, Tryd.ntmps63
  go_wp2_with fail
  refine HS.out.mono ?_
  rintro e w1 ⟨rfl, HQ⟩
  obtain ⟨q, hq1, hq2, hq3⟩ := HQ.out
  have HE := hid (rd_ended hq1)
  have HX : Hid (∀ w2, Below w1.heap.size w1 w2 → Rr b s q o w2 ∧ Pt b w w2) := fun w2 h2 => ⟨hq1.under h2, hq3.trans_ (Pt.ofB h2)⟩
  have HR : Hid (rst s q = skB false (rst s p)) := hq2
  clear hq1 hq2 hq3 HQ HS
  go_wp2_with fail
  refine HE.out.mono ?_
  rintro e w2 ⟨rfl, hb2⟩
  have HX2 := hid (HX.out w2 hb2.out)
  clear HX HE hb2
  by_cases hlt : s.size ≤ q
  · have hd : decide (s.size ≤ q) = true := decide_eq_true hlt
    obtain rfl : q = s.size := by have := HX2.out.1.1.1; omega
    have HG := hid (rd_giveUp HX2.out.1 s.size 100 (Nat.le_refl _))
    obtain ⟨-, y1, -, -, -, -, -, -, -⟩ := HX2.out.1.cells
    have HN : Hid (skB false (rst s p) = []) := hid (by rw [← HR.out]; exact rst_nil (Nat.le_refl _))
    clear hlt
    go_wp2_with fail
    refine HG.out.mono ?_
    rintro e w3 ⟨⟨v, rfl⟩, hf, hp⟩
    have HF : Hid (skB false (rst s p) = [] ∧ Flt b s 0 100 w3 ∧ Pt b w w3) := hid ⟨HN.out, by have := hf.out 100 rfl; rwa [Nat.sub_self] at this, HX2.out.2.trans_ hp.out⟩
    clear hf hp HG HX2 HR HN y1
    go_wp2
    refine ⟨rfl, ?_⟩
    exact .inr (.inr ⟨⟨v, rfl⟩, HF⟩)
  · have hd : decide (s.size ≤ q) = false := decide_eq_false hlt
    have hlt2 : q < s.size := by omega
    have HT := hid (rd_take HX2.out.1 ⟨#[41]⟩)
    have hsz : (⟨#[41]⟩ : ByteArray).size = 1 := rfl
    have hpr : (⟨#[41]⟩ : ByteArray).data.toList.isPrefixOf (rst s q) = (41 == s[q]) := by
      rw [rst_cons hlt2]
      show [41].isPrefixOf _ = _
      rw [pre1_eq]; rfl
    rw [hpr, hsz] at HT
    have HI : Hid (∀ w3, ((41 == s[q]) = true → Rr b s (q + 1) o w3 → Pt b w2 w3 → Cld b s p o w (.returned (.bool true)) w3) ∧ ((41 == s[q]) = false → Below w2.heap.size w2 w3 → Cld b s p o w (.returned (.bool false)) w3)) := fun w3 => by
      refine ⟨fun h1 h2 h3 => .inl ⟨q + 1, rfl, ?_, h2, HX2.out.2.trans_ h3⟩, fun h1 h2 => .inr (.inl ⟨q, rfl, HR.out.symm, ⟨hlt2, ?_⟩, HX2.out.1.under h2, HX2.out.2.trans_ (Pt.ofB h2)⟩)⟩
      · rw [← HR.out, rst_cons hlt2, ← eq_of_beq h1]
      · intro e
        rw [e] at h1
        cases h1
    clear hlt hsz hpr HX2 HR
    go_wp2_with fail
    refine HT.out.mono ?_
    rintro e w3 (⟨rfl, h3⟩ | ⟨rfl, h3⟩)
    · go_wp2
      go_ret
      exact (HI.out w3).1 h3.out.1 h3.out.2.1 h3.out.2.2
    · go_wp2
      go_ret
      exact (HI.out w3).2 h3.out.1 h3.out.2
theorem pcL_step {s : ByteArray} {p n : Nat} (h1 : p + n ≤ s.size) (h2 : ∀ j, j < n → enB (rst s (p + j)) = false) (h3 : enB (rst s (p + n)) = true) : pcL (rst s p) = n :=
  pcL_end _ n (by rw [rst_len]; omega) (fun j hj => by rw [rst_drop]; exact h2 j hj) (by rw [rst_drop]; exact h3)
theorem enB_size (s : ByteArray) : enB (rst s s.size) = true := by rw [rst_nil (Nat.le_refl _)]; rfl
def dlm (x : Int) : Prop := (x == 40) = true ∨ (x == 40) = false ∧ ((x == 41) = true ∨ (x == 41) = false ∧ ((x == 34) = true ∨ (x == 34) = false ∧ ((x == 39) = true ∨ (x == 39) = false ∧ ((x == 59) = true ∨ (x == 59) = false ∧ ((x == 32) = true ∨ (x == 32) = false ∧ ((x == 9) = true ∨ (x == 9) = false ∧ ((x == 10) = true ∨ (x == 10) = false ∧ (x == 13) = true)))))))
theorem dl_ways (c : UInt8) : (dlB c = true ∧ dlm (c.toNat : Int)) ∨ (dlB c = false ∧ ((c.toNat : Int) == 40) = false ∧ ((c.toNat : Int) == 41) = false ∧ ((c.toNat : Int) == 34) = false ∧ ((c.toNat : Int) == 39) = false ∧ ((c.toNat : Int) == 59) = false ∧ ((c.toNat : Int) == 32) = false ∧ ((c.toNat : Int) == 9) = false ∧ ((c.toNat : Int) == 10) = false ∧ ((c.toNat : Int) == 13) = false) := by
  have q1 : ((c.toNat : Int) == 40) = decide (c = 40) := @u8b c 40 (by decide)
  have q2 : ((c.toNat : Int) == 41) = decide (c = 41) := @u8b c 41 (by decide)
  have q3 : ((c.toNat : Int) == 34) = decide (c = 34) := @u8b c 34 (by decide)
  have q4 : ((c.toNat : Int) == 39) = decide (c = 39) := @u8b c 39 (by decide)
  have q5 : ((c.toNat : Int) == 59) = decide (c = 59) := @u8b c 59 (by decide)
  have q6 : ((c.toNat : Int) == 32) = decide (c = 32) := @u8b c 32 (by decide)
  have q7 : ((c.toNat : Int) == 9) = decide (c = 9) := @u8b c 9 (by decide)
  have q8 : ((c.toNat : Int) == 10) = decide (c = 10) := @u8b c 10 (by decide)
  have q9 : ((c.toNat : Int) == 13) = decide (c = 13) := @u8b c 13 (by decide)
  unfold dlm
  rw [q1, q2, q3, q4, q5, q6, q7, q8, q9]
  unfold dlB blB
  by_cases h1 : c = 40 <;> by_cases h2 : c = 41 <;> by_cases h3 : c = 34 <;> by_cases h4 : c = 39 <;> by_cases h5 : c = 59 <;> by_cases h6 : c = 32 <;> by_cases h7 : c = 9 <;> by_cases h8 : c = 10 <;> by_cases h9 : c = 13 <;> simp [h1, h2, h3, h4, h5, h6, h7, h8, h9]
theorem pre2_eq (l : List UInt8) (c : UInt8) : [35, 40].isPrefixOf (c :: l) = (c == 35 && l.head? == some 40) := by
  cases l with
  | nil => simp [List.isPrefixOf]
  | cons d r =>
    simp only [List.isPrefixOf, List.head?_cons]
    by_cases h1 : c = 35
    · subst h1
      by_cases h2 : d = 40
      · subst h2; rfl
      · have : (40 == d) = false := by simpa using fun e => h2 e.symm
        simp [this, h2]
    · have : (35 == c) = false := by simpa using fun e => h1 e.symm
      simp [this, h1]
set_option maxRecDepth 100000 in
set_option maxHeartbeats 8000000 in
theorem rd_end {b : Nat} {s : ByteArray} {p o : Nat} {w : World} (h : Rr b s p o w) : Calls Tryd.prog 67 #[.pointer (some ⟨b, 0, none⟩)] w fun e w' => e = .returned (.int .i64 (((p + pcL (rst s p) : Nat)) : Int)) ∧ w' = w := by
  obtain ⟨y0, y1, -, -, -, -, -, -, -⟩ := h.cells
  have lM : (s.size : Int) ≤ 1099511627776 := by have := h.1.2.1; omega
  have HM := hid h.1.1
  have l0 : (0 : Int) ≤ (p : Int) := by omega
  have HH := hid (fun (t : ByteArray) (V : World) => hp_any t ⟨#[35, 40]⟩ V)
  obtain ⟨N, hN⟩ : ∃ N, p + pcL (rst s p) = N := ⟨_, rfl⟩
  have HP : Hid (∀ z, p ≤ z → z ≤ s.size → (∀ j, p ≤ j → j < z → enB (rst s j) = false) → enB (rst s z) = true → N = z) := fun z h1 h2 h3 h4 => by
    have := pcL_step (s := s) (p := p) (n := z - p) (by omega) (fun j hj => h3 (p + j) (by omega) (by omega)) (by rw [show p + (z - p) = z by omega]; exact h4)
    omega
  rw [hN]
  clear h hN
  go_enter Tryd.func67, Tryd.ntmps67
  go_wp2
  go_loopw [3] (fun i wr => ∃ k : Nat, i = .int .i64 (k : Int) ∧ Hid (p ≤ k ∧ k ≤ s.size ∧ ∀ j, p ≤ j → j < k → enB (rst s j) = false) ∧ wr = w) (fun i _ => s.size - (intOf i).toNat)
  case atStart => exact ⟨p, rfl, ⟨Nat.le_refl _, HM.out, fun j h1 h2 => by omega⟩, rfl⟩
  case round =>
    obtain ⟨k, rfl, HJ, hw⟩ := hrel
    obtain rfl : w = wr := hw.symm
    clear hw
    by_cases hlt : k < s.size
    · have l1 : (k : Int) < (s.size : Int) := by omega
      have l2 : (0 : Int) ≤ (k : Int) := by omega
      obtain ⟨c, hc⟩ : ∃ c, s[k]'hlt = c := ⟨_, rfl⟩
      have HR : Hid (rst s k = c :: rst s (k + 1)) := hid (by rw [rst_cons hlt, hc])
      have HC : Hid (k < s.size) := hlt
      rcases dl_ways c with ⟨hd, hm⟩ | ⟨hd, q1, q2, q3, q4, q5, q6, q7, q8, q9⟩
      · have HN : Hid (N = k) := hid (HP.out k HJ.out.1 HJ.out.2.1 HJ.out.2.2 (by rw [HR.out]; simp [enB, hd]))
        clear hd
        rcases hm with q1 | ⟨q1, q2 | ⟨q2, q3 | ⟨q3, q4 | ⟨q4, q5 | ⟨q5, q6 | ⟨q6, q7 | ⟨q7, q8 | ⟨q8, q9⟩⟩⟩⟩⟩⟩⟩⟩
        all_goals
          go_wp2
          go_ret
          exact ⟨by rw [HN.out]; rfl, rfl⟩
      · have HG : Hid (enB (rst s k) = false → p ≤ k + 1 ∧ k + 1 ≤ s.size ∧ ∀ j, p ≤ j → j < k + 1 → enB (rst s j) = false) := fun he => ⟨by have := HJ.out.1; omega, hlt, fun j h1 h2 => by
          by_cases e : j = k
          · subst e; exact he
          · exact HJ.out.2.2 j h1 (by omega)⟩
        by_cases h35 : c = 35
        · have q10 : ((c.toNat : Int) == 35) = true := by rw [h35]; rfl
          have HPr : Hid (∀ V, Calls Tryd.prog 62 #[.string (s.extract k s.size), .string ⟨#[35, 40]⟩] V fun e w' => e = .returned (.bool (enB (rst s k))) ∧ w' = V) := fun V => by
            have := HH.out (s.extract k s.size) V
            rw [ext_all] at this
            have e2 : (⟨#[35, 40]⟩ : ByteArray).data.toList.isPrefixOf (rst s k) = enB (rst s k) := by
              show [35, 40].isPrefixOf _ = _
              rw [HR.out, pre2_eq]
              simp [enB, hd]
            rw [e2] at this
            exact this
          have hee : enB (rst s k) = true ∨ enB (rst s k) = false := by cases enB (rst s k) <;> simp
          have l3 : (k : Int) ≤ (s.size : Int) := by omega
          rcases hee with he | he
          · have HN : Hid (N = k) := hid (HP.out k HJ.out.1 HJ.out.2.1 HJ.out.2.2 he)
            rw [he] at HPr
            clear he hd h35 HG HJ HR HC
            go_wp2_with fail
            refine (HPr.out _).mono ?_
            rintro e w2 ⟨rfl, hw⟩
            obtain rfl : w = w2 := hw.symm
            clear hw
            go_wp2
            go_ret
            exact ⟨by rw [HN.out]; rfl, rfl⟩
          · have HK := hid (HG.out he)
            rw [he] at HPr
            clear he hd h35 HG HJ HR HC
            go_wp2_with fail
            refine (HPr.out _).mono ?_
            rintro e w2 ⟨rfl, hw⟩
            obtain rfl : w = w2 := hw.symm
            clear hw
            go_wp2
            go_roundw
            case rel => exact ⟨k + 1, by go_num, HK, trivial⟩
            case measure => simp [intOf]; omega
        · have q10 : ((c.toNat : Int) == 35) = false := by
            have : ((c.toNat : Int) == 35) = decide (c = 35) := @u8b c 35 (by decide)
            rw [this, decide_eq_false h35]
          have HK := hid (HG.out (by rw [HR.out]; simp [enB, hd, h35]))
          clear hd h35 HG HJ HR HC
          go_wp2
          go_roundw
          case rel => exact ⟨k + 1, by go_num, HK, trivial⟩
          case measure => simp [intOf]; omega
    · obtain rfl : k = s.size := by have := HJ.out.2.1; omega
      have HN : Hid (N = s.size) := hid (HP.out _ HJ.out.1 (Nat.le_refl _) HJ.out.2.2 (enB_size s))
      clear hlt
      go_wp2
      go_ret
      exact ⟨by rw [HN.out]; rfl, rfl⟩
theorem rd_dot {b : Nat} {s : ByteArray} {p o : Nat} {w : World} (h : Rr b s p o w) (hlt : p < s.size) : Calls Tryd.prog 64 #[.pointer (some ⟨b, 0, none⟩)] w fun e w' => (e = .returned (.bool true) ∧ Hid ((s[p] = 46 ∧ pcL (rst s p) = 1) ∧ Rr b s (p + 1) o w' ∧ Pt b w w')) ∨ (e = .returned (.bool false) ∧ Hid (¬ (s[p] = 46 ∧ pcL (rst s p) = 1) ∧ Rr b s p o w' ∧ Pt b w w')) := by
  have HE := hid (fun n => rd_end (h.under (blw_drewN n (Below.refl w.heap.size w))))
  have hB : Hid (∀ q, Below w.heap.size w (w.drewN q)) := fun q => blw_drewN q (Below.refl _ _)
  obtain ⟨y0, y1, -, -, -, f1, -, -, -⟩ := h.cells
  have lM : (s.size : Int) ≤ 1099511627776 := by have := h.1.2.1; omega
  have l0 : (0 : Int) ≤ (p : Int) := by omega
  have l1 : (p : Int) < (s.size : Int) := by omega
  obtain ⟨c, hc⟩ : ∃ c, s[p]'hlt = c := ⟨_, rfl⟩
  rw [hc]
  have HT : Hid (∀ n, Rr b s (p + 1) o ((w.drewN n).setCell ⟨b, 1, none⟩ (.int .i64 ((p : Int) + 1))) ∧ Pt b w ((w.drewN n).setCell ⟨b, 1, none⟩ (.int .i64 ((p : Int) + 1)))) := fun n => ⟨(h.under (hB.out n)).at_ (p + 1) hlt, Pt.set (Pt.ofB (hB.out n)) _ _⟩
  have HF : Hid (∀ n, Rr b s p o (w.drewN n) ∧ Pt b w (w.drewN n)) := fun n => ⟨h.under (hB.out n), Pt.ofB (hB.out n)⟩
  by_cases h46 : c = 46
  · have d0 : ((c.toNat : Int) != 46) = false := by rw [h46]; rfl
    obtain ⟨N, hN⟩ : ∃ N, p + pcL (rst s p) = N := ⟨_, rfl⟩
    rw [hN] at HE
    have lN : N ≤ s.size := by
      have := pcL_le (rst s p)
      rw [rst_len] at this
      omega
    by_cases hp1 : pcL (rst s p) = 1
    · have d1 : ((N : Int) != (p : Int) + 1) = false := by simp; omega
      have HY : Hid (c = 46 ∧ pcL (rst s p) = 1) := ⟨h46, hp1⟩
      clear h hN h46 hp1 lN
      go_enter Tryd.func64, Tryd.ntmps64
      go_wp2
      go_quiet ((go_at_call 67; exact Calls.quiet_of_same (HE.out _)))
      go_wp2
      go_ret
      exact .inl ⟨rfl, HY.out, HT.out _⟩
    · have d1 : ((N : Int) != (p : Int) + 1) = true := by simp; omega
      have HY : Hid (¬ (c = 46 ∧ pcL (rst s p) = 1)) := fun e => hp1 e.2
      clear h hN h46 hp1 lN
      go_enter Tryd.func64, Tryd.ntmps64
      go_wp2
      go_quiet ((go_at_call 67; exact Calls.quiet_of_same (HE.out _)))
      go_wp2
      go_ret
      exact .inr ⟨rfl, HY.out, HF.out _⟩
  · have d0 : ((c.toNat : Int) != 46) = true := by
      have : ((c.toNat : Int) == 46) = decide (c = 46) := @u8b c 46 (by decide)
      rw [bne, this, decide_eq_false h46]; rfl
    have HY : Hid (¬ (c = 46 ∧ pcL (rst s p) = 1)) := fun e => h46 e.1
    clear h h46
    go_enter Tryd.func64, Tryd.ntmps64
    go_wp2
    go_quiet (fail)
    go_wp2
    go_ret
    exact .inr ⟨rfl, HY.out, HF.out _⟩
end Go.Proofs.YtfobiknbjijphaaDoor
