/-
  PrimsNumbers, walked. Conditions: the text has at most 2^48 bytes; the library's table of powers of ten and its variable ErrRange are as they start.
-/
import Derived.Test.YtnekefchbienoaaDoorPnG
namespace Go.Proofs.YtnekefchbienoaaDoor
open Go.RowKit
set_option linter.unusedVariables false

set_option maxRecDepth 100000 in
set_option maxHeartbeats 4000000 in
theorem numbers_walk (s : ByteArray) (n : Int) (w : World) (hs : s.size ≤ 281474976710656) (h1 : -9223372036854775808 ≤ n) (h2 : n ≤ 9223372036854775807) (hw : Std w) :
    Calls Tryd.prog 3 #[.string s, .int .i64 n] w fun e w' => e = .returned (.bool true) ∧ Below w.heap.size w w' := by
  obtain ⟨h, hh⟩ : ∃ h, w.heap.size = h := ⟨_, rfl⟩
  have hge : 1 < h ∧ 2 < h := by
    obtain ⟨te, pe, he⟩ := hw.err
    have e1 := Lib.lt_of_cell he
    have e2 : 2 < w.heap.size := Lib.lt_of_cell (hw.tab.cell gPow 0 (by decide))
    omega
  have HR : Hid (Calls Tryd.prog 4 #[] w fun r w' => r = .returned (.pointer (some ⟨h, 0, none⟩)) ∧ Hid (Cx w' w' h none) ∧ Hid (∀ o w5 o5 z5 p5, o5 = Obj.cells #[.int .i64 z5, .pointer p5] 36 → Cx w' w5 h o → Hid (∀ wq, Cx (w5.alloc o5) wq h o → wq.cell? ⟨w5.heap.size, 1, none⟩ = some (.pointer p5) ∧ Hid (Below w.heap.size w wq)) ∧ Hid (Cx (w5.alloc o5) (w5.alloc o5) h o)) ∧ Hid (∀ o wq, Cx w' wq h o → Below w.heap.size w wq)) := by
    rw [← hh]
    refine (p_room15 w).mono fun r w' ⟨hr, hf, hb⟩ => ⟨hr, ⟨hw.below hb (Nat.le_refl _), by rw [hh]; exact hge, Part.refl _ _, hf⟩, fun o w5 o5 z5 p5 ho5 k5 => ?_, fun o wq k => hb.trans (k.prt.below (fun q hq => by have hq : q = w.heap.size := hq; omega) hb.size)⟩
    have b5 : Below w5.heap.size w5 (w5.alloc o5) := (Below.refl _ _).alloc (Nat.le_refl _) o5
    have hh5 : w.heap.size < w5.heap.size := by
      have := k5.prt.size
      have h3 := (Array.getElem?_eq_some_iff.1 (show Hd w' w.heap.size _ _ _ _ _ _ _ _ _ _ _ _ from hf)).1
      omega
    have hx : (w5.alloc o5).cell? ⟨w5.heap.size, 1, none⟩ = some (.pointer p5) := by
      have hb0 : (w5.alloc o5).heap[w5.heap.size]? = some (.cells #[.int .i64 z5, .pointer p5] 36 (0, 0)) := by rw [ho5]; exact heap_alloc_at _ _ _ rfl
      rw [cells_at hb0 1]; rfl
    refine ⟨fun wq kq => ⟨kq.prt.cell (p := ⟨w5.heap.size, 1, none⟩) (fun e => by have e : w5.heap.size = w.heap.size := e; omega) hx, ?_⟩, (k5.below b5).self⟩
    have p1 : Part (fun q => q = w.heap.size) w' wq := (k5.below b5).prt.trans kq.prt (fun _ _ h => h)
    exact hb.trans (p1.below (fun q hq => by have hq : q = w.heap.size := hq; omega) hb.size)
  have hm : -4611686018427387904 ≤ n / 4 ∧ n / 4 ≤ 4611686018427387903 := by omega
  obtain ⟨m, hm0⟩ : ∃ m, n / 4 = m := ⟨_, rfl⟩
  rw [hm0] at hm
  obtain ⟨hm1, hm2⟩ := hm
  have b1 : -9223372036854775808 ≤ 2 * m ∧ 2 * m ≤ 9223372036854775806 := by omega
  have b2 : -9223372036854775808 ≤ 2 * m + 1 ∧ 2 * m + 1 ≤ 9223372036854775807 := by omega
  by_cases hn : ∃ v, IsNum s v
  · obtain ⟨v, hn⟩ := hn
    have HC : Hid (∀ v0 wq o, Cx v0 wq h o → Calls Tryd.prog 6 #[.agg #[.int .i64 1, .string s, .slice none 0 0, .slice none 0 0]] wq fun r w' => r = .returned (.bool true) ∧ Hid (Cx v0 w' h o)) := fun v0 wq o c => (z_can (b := true) (fun w => rCan_yes hn w) wq).mono fun r w' ⟨hr, hb⟩ => ⟨hr, c.below hb⟩
    have HD : Hid (∀ v0 wq o, Cx v0 wq h o → Calls Tryd.prog 7 #[.pointer (some ⟨h, 0, none⟩), .int .i64 (2 * m + 1)] wq fun r w' => r = .returned (.tuple #[.string (txt m), .bool true]) ∧ Hid (Cx v0 w' h o)) := fun v0 wq o c => p_digits_odd c m hm1 hm2
    have HV : Hid (∀ v0 wq o, Cx v0 wq h o → Calls Tryd.prog 9 #[.agg #[.int .i64 (2 * m + 1), .pointer none]] wq fun r w' => r = .returned (.tuple #[.string (txt m), .bool true]) ∧ Hid (Cx v0 w' h o)) := fun v0 wq o c => (v_digits m hm1 hm2 wq).mono fun r w' ⟨hr, hb⟩ => ⟨hr, c.below hb⟩
    obtain ⟨z, o, b, HN, HG, HW, HK⟩ : ∃ (z : Int) (o : Option ByteArray) (b : Bool), Hid (∀ v0 wq, Cx v0 wq h none → Calls Tryd.prog 5 #[.pointer (some ⟨h, 0, none⟩), .string s] wq fun r w' => r = .returned (.tuple #[.int .i64 z, .int .i64 0]) ∧ Hid (Cx v0 w' h o)) ∧ Hid (∀ v0 wq, Cx v0 wq h o → Calls Tryd.prog 7 #[.pointer (some ⟨h, 0, none⟩), .int .i64 z] wq fun r w' => r = .returned (.tuple #[.string s, .bool true]) ∧ Hid (Cx v0 w' h o)) ∧ Hid (∀ v0 wq, Cx v0 wq h o → Calls Tryd.prog 8 #[.string s] wq fun r w' => Vn b r ∧ Hid (Cx v0 w' h o)) ∧ Hid (∀ v0 wq, Cx v0 wq h o → Calls Tryd.prog 10 #[.pointer (some ⟨h, 0, none⟩), .int .i64 z] wq fun r w' => r = .returned (.int .i64 (if b then 0 else 5)) ∧ ∃ m, w' = wq.drewN m) := by
      by_cases hv : -1099511627776 ≤ v ∧ v ≤ 1099511627776
      · refine ⟨2 * v + 1, none, true, fun v0 wq c => pn_small c hn hv.1 hv.2, fun v0 wq c => ?_, fun v0 wq c => (v_number_small hn hv.1 hv.2 wq).mono fun r w' ⟨hr, hb⟩ => ⟨hr, c.below hb⟩, fun v0 wq c => (o_kind (show Hd wq h _ _ _ _ _ _ _ _ _ _ _ _ from c.st) rfl v).mono fun r w' ⟨hr, hw⟩ => ⟨hr, 0, hw⟩⟩
        have := p_digits_odd c v (by omega) (by omega)
        rw [← hn.1] at this
        exact this
      · have hv' : v < -1099511627776 ∨ 1099511627776 < v := by omega
        exact ⟨2, some s, false, fun v0 wq c => pn_big c hn hv', fun v0 wq c => p_digits_big c hn, fun v0 wq c => (v_number_big hn hv' wq).mono fun r w' ⟨hr, hb⟩ => ⟨hr, c.below hb⟩, fun v0 wq c => (t_kind (show Tx 3000 wq h 5 s from c.st) rfl).mono fun r w' ⟨hr, hd⟩ => ⟨hr, hd⟩⟩
    replace HR : Hid (Calls Tryd.prog 4 #[] w fun r w' => r = .returned (.pointer (some ⟨h, 0, none⟩)) ∧ Hid (Cx w' w' h none) ∧ Hid (∀ w5 o5 z5 p5, o5 = Obj.cells #[.int .i64 z5, .pointer p5] 36 → Cx w' w5 h o → Hid (∀ wq, Cx (w5.alloc o5) wq h o → wq.cell? ⟨w5.heap.size, 1, none⟩ = some (.pointer p5) ∧ Hid (Below w.heap.size w wq)) ∧ Hid (Cx (w5.alloc o5) (w5.alloc o5) h o))) := HR.out.mono fun r w' ⟨hr, hc, hq, _⟩ => ⟨hr, hc, hq.out o⟩
    generalize txt m = T at *
    rw [← hm0] at HD HV b1 b2
    clear hn hw hs h1 h2 hm0 hm1 hm2 hh hge
    cases b with
    | true =>
      go_enter Tryd.func3, Tryd.ntmps3
      go_wp2_with fail
      refine HR.out.mono ?_
      rintro r w1 ⟨rfl, k1, HQ⟩
      clear HR
      go_wp2_with fail
      refine (HN.out _ _ k1.out).mono ?_
      rintro r w2 ⟨rfl, k2⟩
      clear HN
      go_wp2_with fail
      refine (HC.out _ _ _ (k2.out.below ((Below.refl _ _).alloc (Nat.le_refl _) _))).mono ?_
      rintro r w3 ⟨rfl, k3⟩
      clear HC
      go_wp2_with fail
      refine (HG.out _ _ k3.out).mono ?_
      rintro r w4 ⟨rfl, k4⟩
      clear HG
      go_wp2_with fail
      refine (HW.out _ _ k4.out).mono ?_
      rintro r w5 ⟨⟨z5, p5, rfl, hp5⟩, k5⟩
      clear HW
      obtain rfl : p5 = none := by cases p5 with | none => rfl | some _ => simp at hp5
      clear hp5
      obtain ⟨o5, ho5⟩ : ∃ o5, Obj.cells #[.int .i64 z5, .pointer none] 36 = o5 := ⟨_, rfl⟩
      obtain ⟨HX, j5⟩ := HQ.out w5 o5 z5 none ho5.symm k5.out
      have HO5 : Hid (Obj.cells #[.int .i64 z5, .pointer none] 36 = o5) := ho5
      clear ho5
      go_wp2_with fail
      try rw [HO5.out]
      refine (HD.out _ _ _ j5.out).mono ?_
      rintro r w6 ⟨rfl, k6⟩
      clear HD
      go_wp2_with fail
      refine (HV.out _ _ _ k6.out).mono ?_
      rintro r w7 ⟨rfl, k7⟩
      clear HV
      obtain ⟨x7, _⟩ := HX.out _ k7.out
      go_wp2_with fail
      go_quiet (first
        | (go_at_call 10; exact Calls.quiet_of (HK.out _ _ (k7.out.dr ⟨_, rfl⟩))))
      obtain ⟨_, b8⟩ := HX.out _ (k7.out.dr ⟨nq, rfl⟩)
      go_wp2
      go_ret
      exact ⟨rfl, b8.out⟩
    | false =>
      go_enter Tryd.func3, Tryd.ntmps3
      go_wp2_with fail
      refine HR.out.mono ?_
      rintro r w1 ⟨rfl, k1, HQ⟩
      clear HR
      go_wp2_with fail
      refine (HN.out _ _ k1.out).mono ?_
      rintro r w2 ⟨rfl, k2⟩
      clear HN
      go_wp2_with fail
      refine (HC.out _ _ _ (k2.out.below ((Below.refl _ _).alloc (Nat.le_refl _) _))).mono ?_
      rintro r w3 ⟨rfl, k3⟩
      clear HC
      go_wp2_with fail
      refine (HG.out _ _ k3.out).mono ?_
      rintro r w4 ⟨rfl, k4⟩
      clear HG
      go_wp2_with fail
      refine (HW.out _ _ k4.out).mono ?_
      rintro r w5 ⟨⟨z5, p5, rfl, hp5⟩, k5⟩
      clear HW
      obtain ⟨p, rfl⟩ : ∃ p, p5 = some p := by cases p5 with | none => simp at hp5 | some p => exact ⟨p, rfl⟩
      clear hp5
      obtain ⟨o5, ho5⟩ : ∃ o5, Obj.cells #[.int .i64 z5, .pointer (some p)] 36 = o5 := ⟨_, rfl⟩
      obtain ⟨HX, j5⟩ := HQ.out w5 o5 z5 (some p) ho5.symm k5.out
      have HO5 : Hid (Obj.cells #[.int .i64 z5, .pointer (some p)] 36 = o5) := ho5
      clear ho5
      go_wp2_with fail
      try rw [HO5.out]
      refine (HD.out _ _ _ j5.out).mono ?_
      rintro r w6 ⟨rfl, k6⟩
      clear HD
      go_wp2_with fail
      refine (HV.out _ _ _ k6.out).mono ?_
      rintro r w7 ⟨rfl, k7⟩
      clear HV
      obtain ⟨x7, _⟩ := HX.out _ k7.out
      go_wp2_with fail
      go_quiet (first
        | (go_at_call 10; exact Calls.quiet_of (HK.out _ _ (k7.out.dr ⟨_, rfl⟩))))
      obtain ⟨_, b8⟩ := HX.out _ (k7.out.dr ⟨nq, rfl⟩)
      go_wp2
      go_ret
      exact ⟨rfl, b8.out⟩
  · have HC : Hid (∀ v0 wq o, Cx v0 wq h o → Calls Tryd.prog 6 #[.agg #[.int .i64 1, .string s, .slice none 0 0, .slice none 0 0]] wq fun r w' => r = .returned (.bool false) ∧ Hid (Cx v0 w' h o)) := fun v0 wq o c => (z_can (b := false) (fun w => rCan_no hn w hs) wq).mono fun r w' ⟨hr, hb⟩ => ⟨hr, c.below hb⟩
    have HN : Hid (∀ v0 wq, Cx v0 wq h none → Calls Tryd.prog 5 #[.pointer (some ⟨h, 0, none⟩), .string s] wq fun r w' => r = .returned (.tuple #[.int .i64 0, .int .i64 90]) ∧ Hid (Cx v0 w' h none)) := fun v0 wq c => pn_no c hn
    clear hn hw hs h1 h2 hm0 hm1 hm2 hh hge
    go_enter Tryd.func3, Tryd.ntmps3
    go_wp2_with fail
    refine HR.out.mono ?_
    rintro r w1 ⟨rfl, k1, _, HB⟩
    clear HR
    go_wp2_with fail
    refine (HN.out _ _ k1.out).mono ?_
    rintro r w2 ⟨rfl, k2⟩
    clear HN
    go_wp2_with fail
    refine (HC.out _ _ _ (k2.out.below ((Below.refl _ _).alloc (Nat.le_refl _) _))).mono ?_
    rintro r w3 ⟨rfl, k3⟩
    clear HC
    go_wp2
    go_ret
    exact ⟨rfl, HB.out _ _ k3.out⟩
end Go.Proofs.YtnekefchbienoaaDoor
