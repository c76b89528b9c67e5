/-
  prims.Number and Digits over a new heap.
-/
import Derived.Test.YtnekefchbienoaaDoorPnD
namespace Go.Proofs.YtnekefchbienoaaDoor
open Go.RowKit
set_option linter.unusedVariables false

/-- The law's heap: new, or with one great number. -/
def St (w : World) (h : Nat) : Option ByteArray → Prop
  | none => Fh 3000 w h
  | some s => Tx 3000 w h 5 s
theorem St.below {w w' : World} {h B : Nat} {o : Option ByteArray} (k : St w h o) (d : Below B w w') (hB : w.heap.size ≤ B) : St w' h o := by
  cases o with
  | none => exact (d.block h (by have := (Array.getElem?_eq_some_iff.1 (show Hd w h _ _ _ _ _ _ _ _ _ _ _ _ from k)).1; omega)).trans k
  | some s => exact Tx.below k d hB
theorem Std.part {w w' : World} {k : Nat} (h : Std w) (hp : Part (fun q => q = k) w w') (h1 : 1 < k) (h2 : 2 < k) : Std w' := by
  obtain ⟨te, pe, he⟩ := h.err
  have hlt : 2 < w.heap.size := Lib.lt_of_cell (h.tab.cell gPow 0 (by decide))
  refine ⟨?_, te, pe, hp.cell (p := ⟨1, 0, none⟩) (fun e => by have e : 1 = k := e; omega) he⟩
  have ht := h.tab
  unfold Lib.TabIs World.var? at *
  rw [gPow] at *
  simp only [Option.bind_some] at *
  rw [hp.block _ hlt (by omega)]
  exact ht
/-- The heap's block is the only one of w0 that changed. -/
structure Cx (w0 w : World) (h : Nat) (o : Option ByteArray) : Prop where
  std : Std w0
  ge : 1 < h ∧ 2 < h
  prt : Part (fun q => q = h) w0 w
  st : St w h o
theorem Cx.below {w0 w w' : World} {h : Nat} {o : Option ByteArray} (k : Cx w0 w h o) (d : Below w.heap.size w w') : Cx w0 w' h o := ⟨k.std, k.ge, k.prt.trans (Part.ofBelow (F := fun _ => False) d) (fun _ _ h => h.elim), k.st.below d (Nat.le_refl _)⟩
theorem Cx.stdW {w0 w : World} {h : Nat} {o : Option ByteArray} (k : Cx w0 w h o) : Std w := k.std.part k.prt k.ge.1 k.ge.2
theorem Cx.self {w0 w : World} {h : Nat} {o : Option ByteArray} (k : Cx w0 w h o) : Cx w w h o := ⟨k.stdW, k.ge, Part.refl _ _, k.st⟩
theorem Cx.dr {w0 w w' : World} {h : Nat} {o : Option ByteArray} (k : Cx w0 w h o) (d : Dr w w') : Cx w0 w' h o := k.below d.below
theorem Cx.part {w0 w w' : World} {h : Nat} {o o' : Option ByteArray} (k : Cx w0 w h o) (d : Part (fun q => q = h) w w') (s : St w' h o') : Cx w0 w' h o' := ⟨k.std, k.ge, k.prt.trans d (fun _ _ h => h), s⟩
theorem cx_missing {w0 w : World} {h : Nat} {o : Option ByteArray} (k : Cx w0 w h o) : Calls Tryd.prog 12 #[.pointer (some ⟨h, 0, none⟩)] w fun r w' => r = .returned (.bool false) ∧ Hid (Cx w0 w' h o) := by
  cases o with
  | none => exact (p_missing (show Hd w h _ _ _ _ _ _ _ _ _ _ _ _ from k.st) rfl).mono fun r w' ⟨hr, HF⟩ => ⟨hr, k.part HF.out.2 HF.out.1⟩
  | some s =>
    obtain ⟨g, c, k1, k2, k3, k4, k5, k6⟩ := k.st
    refine (p_missing k1 rfl).mono fun r w' ⟨hr, HF⟩ => ⟨hr, k.part HF.out.2 ⟨g, c, HF.out.1, HF.out.2.cell k5 k2, HF.out.2.cell k5 k3, HF.out.2.cell k5 k4, k5, by have := HF.out.2.size; omega⟩⟩
theorem cx_kind_odd {w0 w : World} {h : Nat} {o : Option ByteArray} (k : Cx w0 w h o) (n : Int) : Calls Tryd.prog 10 #[.pointer (some ⟨h, 0, none⟩), .int .i64 (2 * n + 1)] w fun r w' => r = .returned (.int .i64 0) ∧ Hid (Cx w0 w' h o) := by
  cases o with
  | none => exact (o_kind (show Hd w h _ _ _ _ _ _ _ _ _ _ _ _ from k.st) rfl n).mono fun r w' ⟨hr, hw⟩ => ⟨hr, by rw [hw]; exact k⟩
  | some s =>
    obtain ⟨g, c, k1, _⟩ := k.st
    exact (o_kind k1 rfl n).mono fun r w' ⟨hr, hw⟩ => ⟨hr, by rw [hw]; exact k⟩
theorem p_small (n : Int) (w : World) (h1 : -4611686018427387904 ≤ n) (h2 : n ≤ 4611686018427387903) : Calls Tryd.prog 15 #[.int .i64 n] w fun r w' => r = .returned (.int .i64 (2 * n + 1)) ∧ w' = w := by
  go_enter Tryd.func15, Tryd.ntmps15
  go_wp2
  go_ret
  exact ⟨rfl, rfl⟩
theorem p_digits_odd {w0 w : World} {h : Nat} {o : Option ByteArray} (k : Cx w0 w h o) (n : Int) (h1 : -4611686018427387904 ≤ n) (h2 : n ≤ 4611686018427387903) : Calls Tryd.prog 7 #[.pointer (some ⟨h, 0, none⟩), .int .i64 (2 * n + 1)] w fun r w' => r = .returned (.tuple #[.string (txt n), .bool true]) ∧ Hid (Cx w0 w' h o) := by
  have HM : Hid (Calls Tryd.prog 12 #[.pointer (some ⟨h, 0, none⟩)] w fun r w' => r = .returned (.bool false) ∧ Hid (Cx w0 w' h o)) := cx_missing k
  have HE : Hid (∀ w, Cx w0 w h o → Calls Tryd.prog 19 #[.int .i64 n] w fun e w' => e = .returned (.string (txt n)) ∧ Hid (Cx w0 w' h o)) := fun w c => (nOf n (by omega) (by omega) w c.stdW.tab).mono fun r w' ⟨hr, hb⟩ => ⟨hr, c.below hb⟩
  have a1 := and_oddI n
  generalize txt n = T at *
  obtain ⟨z, hz⟩ : ∃ z, 2 * n + 1 = z := ⟨_, rfl⟩
  rw [hz] at a1 ⊢
  have hz2 : n = z / 2 := by omega
  rw [hz2] at HE
  clear k hz hz2 h1 h2
  go_enter Tryd.func7, Tryd.ntmps7
  go_wp2_with fail
  refine HM.out.mono ?_
  rintro r w1 ⟨rfl, HF⟩
  clear HM
  go_wp2_with fail
  refine (HE.out w1 HF.out).mono ?_
  rintro r w2 ⟨rfl, HG⟩
  go_wp2
  go_ret2
  exact ⟨rfl, HG⟩
theorem num_size {s : ByteArray} {v : Int} (h : IsNum s v) : s.size ≤ 201 := by
  have d := h.dgs
  have h1 := d.size
  have h2 := d.le
  have h3 := d.p1
  omega
theorem p_digits_big {w0 w : World} {h : Nat} {s : ByteArray} {v : Int} (k : Cx w0 w h (some s)) (hn : IsNum s v) : Calls Tryd.prog 7 #[.pointer (some ⟨h, 0, none⟩), .int .i64 2] w fun r w' => r = .returned (.tuple #[.string s, .bool true]) ∧ Hid (Cx w0 w' h (some s)) := by
  have HM : Hid (Calls Tryd.prog 12 #[.pointer (some ⟨h, 0, none⟩)] w fun r w' => r = .returned (.bool false) ∧ Hid (Cx w0 w' h (some s))) := cx_missing k
  have HK : Hid (∀ w, Cx w0 w h (some s) → Calls Tryd.prog 10 #[.pointer (some ⟨h, 0, none⟩), .int .i64 2] w fun r w' => r = .returned (.int .i64 5) ∧ Hid (Cx w0 w' h (some s))) := fun w c => (t_kind (show Tx 3000 w h 5 s from c.st) rfl).mono fun r w' ⟨hr, hd⟩ => ⟨hr, c.dr hd⟩
  have HS : Hid (∀ w, Cx w0 w h (some s) → Calls Tryd.prog 20 #[.pointer (some ⟨h, 0, none⟩), .int .i64 2] w fun r w' => r = .returned (.string s) ∧ Hid (Cx w0 w' h (some s))) := fun w c => (t_string (show Tx 3000 w h 5 s from c.st) rfl).mono fun r w' ⟨hr, hd⟩ => ⟨hr, c.dr hd⟩
  have HN : Hid (∀ w, Calls Tryd.prog 13 #[.string s] w fun e w' => e = .returned (.bool true) ∧ w' = w) := fun w => nCan_yes hn w
  have a1 : bits .and .i64 2 1 = 0 := by decide
  clear k hn
  go_enter Tryd.func7, Tryd.ntmps7
  go_wp2_with fail
  refine HM.out.mono ?_
  rintro r w1 ⟨rfl, HF⟩
  clear HM
  go_wp2_with fail
  refine (HK.out w1 HF.out).mono ?_
  rintro r w2 ⟨rfl, HG⟩
  go_wp2_with fail
  refine (HS.out w2 HG.out).mono ?_
  rintro r w3 ⟨rfl, HH⟩
  go_wp2_with fail
  refine (HN.out w3).mono ?_
  rintro r w4 ⟨rfl, hw⟩
  obtain rfl : w3 = w4 := hw.symm
  clear hw
  go_wp2_with fail
  refine (HS.out w3 HH.out).mono ?_
  rintro r w4 ⟨rfl, HI⟩
  go_wp2
  go_ret2
  exact ⟨rfl, HI⟩
theorem pn_no {w0 w : World} {h : Nat} {s : ByteArray} (k : Cx w0 w h none) (hn : ¬ ∃ v, IsNum s v) : Calls Tryd.prog 5 #[.pointer (some ⟨h, 0, none⟩), .string s] w fun r w' => r = .returned (.tuple #[.int .i64 0, .int .i64 90]) ∧ Hid (Cx w0 w' h none) := by
  have HM : Hid (Calls Tryd.prog 12 #[.pointer (some ⟨h, 0, none⟩)] w fun r w' => r = .returned (.bool false) ∧ Hid (Cx w0 w' h none)) := cx_missing k
  have HN : Hid (∀ w, Calls Tryd.prog 13 #[.string s] w fun e w' => e = .returned (.bool false) ∧ w' = w) := fun w => nCan_false hn w
  clear k hn
  go_enter Tryd.func5, Tryd.ntmps5
  go_wp2_with fail
  refine HM.out.mono ?_
  rintro r w1 ⟨rfl, HF⟩
  clear HM
  go_wp2_with fail
  refine (HN.out w1).mono ?_
  rintro r w2 ⟨rfl, hw⟩
  obtain rfl : w1 = w2 := hw.symm
  clear hw
  go_wp2
  go_ret2
  exact ⟨rfl, HF⟩
theorem pn_small {w0 w : World} {h : Nat} {s : ByteArray} {v : Int} (k : Cx w0 w h none) (hn : IsNum s v) (h1 : -1099511627776 ≤ v) (h2 : v ≤ 1099511627776) : Calls Tryd.prog 5 #[.pointer (some ⟨h, 0, none⟩), .string s] w fun r w' => r = .returned (.tuple #[.int .i64 (2 * v + 1), .int .i64 0]) ∧ Hid (Cx w0 w' h none) := by
  have HM : Hid (Calls Tryd.prog 12 #[.pointer (some ⟨h, 0, none⟩)] w fun r w' => r = .returned (.bool false) ∧ Hid (Cx w0 w' h none)) := cx_missing k
  have HN : Hid (∀ w, Calls Tryd.prog 13 #[.string s] w fun e w' => e = .returned (.bool true) ∧ w' = w) := fun w => nCan_yes hn w
  have HS : Hid (∀ w, Cx w0 w h none → Calls Tryd.prog 14 #[.string s] w fun e w' => e = .returned (.tuple #[.int .i64 v, .bool true]) ∧ Hid (Cx w0 w' h none)) := fun w c => (nSmall_in hn (by omega) (by omega) w).mono fun r w' ⟨hr, hb⟩ => ⟨hr, c.below hb⟩
  have HP : Hid (∀ w, Calls Tryd.prog 15 #[.int .i64 v] w fun r w' => r = .returned (.int .i64 (2 * v + 1)) ∧ w' = w) := fun w => p_small v w (by omega) (by omega)
  generalize 2 * v + 1 = z at *
  have d1 : decide (-1099511627776 ≤ v) = true := decide_eq_true h1
  have d2 : decide (v ≤ 1099511627776) = true := decide_eq_true h2
  clear k hn h1 h2
  go_enter Tryd.func5, Tryd.ntmps5
  go_wp2_with fail
  refine HM.out.mono ?_
  rintro r w1 ⟨rfl, HF⟩
  clear HM
  go_wp2_with fail
  refine (HN.out w1).mono ?_
  rintro r w2 ⟨rfl, hw⟩
  obtain rfl : w1 = w2 := hw.symm
  clear hw
  go_wp2_with fail
  refine (HS.out w1 HF.out).mono ?_
  rintro r w2 ⟨rfl, HG⟩
  go_wp2_with fail
  refine (HP.out w2).mono ?_
  rintro r w3 ⟨rfl, hw⟩
  obtain rfl : w2 = w3 := hw.symm
  clear hw
  go_wp2
  go_ret2
  exact ⟨rfl, HG⟩
/-- What number.Small tells of a great number: none, or one that is no small word. -/
def Gt (x : Int) (b : Bool) : Prop := b = false ∨ (b = true ∧ (x < -1099511627776 ∨ 1099511627776 < x))
theorem pn_text {w0 w : World} {h : Nat} {s : ByteArray} {v : Int} (k : Cx w0 w h none) (hn : IsNum s v) : Calls Tryd.prog 16 #[.pointer (some ⟨h, 0, none⟩), .int .i64 5, .string s] w fun r w' => r = .returned (.tuple #[.int .i64 2, .int .i64 0]) ∧ Hid (Cx w0 w' h (some s)) :=
  (t_text (show Fh 3000 w h from k.st) s (by have := num_size hn; omega) (by decide)).mono fun r w' ⟨hr, HF⟩ => ⟨hr, k.part HF.out.2 HF.out.1⟩
theorem pn_big {w0 w : World} {h : Nat} {s : ByteArray} {v : Int} (k : Cx w0 w h none) (hn : IsNum s v) (hv : v < -1099511627776 ∨ 1099511627776 < v) : Calls Tryd.prog 5 #[.pointer (some ⟨h, 0, none⟩), .string s] w fun r w' => r = .returned (.tuple #[.int .i64 2, .int .i64 0]) ∧ Hid (Cx w0 w' h (some s)) := by
  have HM : Hid (Calls Tryd.prog 12 #[.pointer (some ⟨h, 0, none⟩)] w fun r w' => r = .returned (.bool false) ∧ Hid (Cx w0 w' h none)) := cx_missing k
  have HN : Hid (∀ w, Calls Tryd.prog 13 #[.string s] w fun e w' => e = .returned (.bool true) ∧ w' = w) := fun w => nCan_yes hn w
  have HT : Hid (∀ w, Cx w0 w h none → Calls Tryd.prog 16 #[.pointer (some ⟨h, 0, none⟩), .int .i64 5, .string s] w fun r w' => r = .returned (.tuple #[.int .i64 2, .int .i64 0]) ∧ Hid (Cx w0 w' h (some s))) := fun w c => pn_text c hn
  obtain ⟨x, b, hg, HS⟩ : ∃ x b, Gt x b ∧ Hid (∀ w, Cx w0 w h none → Calls Tryd.prog 14 #[.string s] w fun e w' => e = .returned (.tuple #[.int .i64 x, .bool b]) ∧ Hid (Cx w0 w' h none)) := by
    by_cases hr : -9223372036854775808 ≤ v ∧ v ≤ 9223372036854775807
    · exact ⟨v, true, .inr ⟨rfl, hv⟩, fun w c => (nSmall_in hn hr.1 hr.2 w).mono fun r w' ⟨hr, hb⟩ => ⟨hr, c.below hb⟩⟩
    · exact ⟨0, false, .inl rfl, fun w c => (nSmall_out hn (by omega) w c.stdW).mono fun r w' ⟨hr, hb⟩ => ⟨hr, c.below hb⟩⟩
  clear k hn hv
  have step : ∀ (d : (b = false) ∨ (b = true ∧ decide (-1099511627776 ≤ x) = false) ∨ (b = true ∧ decide (-1099511627776 ≤ x) = true ∧ decide (x ≤ 1099511627776) = false)), Calls Tryd.prog 5 #[.pointer (some ⟨h, 0, none⟩), .string s] w fun r w' => r = .returned (.tuple #[.int .i64 2, .int .i64 0]) ∧ Hid (Cx w0 w' h (some s)) := fun d => by
    clear hg
    rcases d with rfl | ⟨rfl, d1⟩ | ⟨rfl, d1, d2⟩
    all_goals
      go_enter Tryd.func5, Tryd.ntmps5
      go_wp2_with fail
      refine HM.out.mono ?_
      rintro r w1 ⟨rfl, HF⟩
      clear HM
      go_wp2_with fail
      refine (HN.out w1).mono ?_
      rintro r w2 ⟨rfl, hw⟩
      obtain rfl : w1 = w2 := hw.symm
      clear hw
      go_wp2_with fail
      refine (HS.out w1 HF.out).mono ?_
      rintro r w2 ⟨rfl, HG⟩
      go_wp2_with fail
      refine (HT.out w2 HG.out).mono ?_
      rintro r w3 ⟨rfl, HH⟩
      go_wp2
      go_ret2
      exact ⟨rfl, HH⟩
  refine step ?_
  rcases hg with hg | ⟨hb, hg⟩
  · exact .inl hg
  · by_cases h1 : -1099511627776 ≤ x
    · exact .inr (.inr ⟨hb, decide_eq_true h1, decide_eq_false (by omega)⟩)
    · exact .inr (.inl ⟨hb, decide_eq_false h1⟩)
end Go.Proofs.YtnekefchbienoaaDoor
