/-
  The document's reader in memory; its least calls: fail, blank, blanks.
  The library's strings.Trim and TrimLeft at an ASCII cutset, laid at this dump.
-/
import Derived.Test.YtfobiknbjijphaaDoorGal
import Derived.Shelf.Strings.SlTrimAscii
import Derived.Test.YtfobiknbjijphaaDoorProg
namespace Go.Proofs.YtfobiknbjijphaaDoor
open Go.RowKit
set_option linter.unusedVariables false
set_option linter.unusedSimpArgs false

/-- The document's reader at block b: where it stands; no fault. -/
def Zr (b : Nat) (s : ByteArray) (p : Nat) (w : World) : Prop := (p ≤ s.size ∧ s.size ≤ 1099511627776) ∧ w.heap[b]? = some (.cells #[.string s, .int .i64 (p : Int), .int .i64 (-1), .int .i64 0] 50 (0, 0))
/-- It has a fault. -/
def Zf (b : Nat) (s : ByteArray) (k n : Nat) (w : World) : Prop := k ≤ s.size ∧ ∃ p : Nat, p ≤ s.size + 1 ∧ s.size ≤ 1099511627776 ∧ w.heap[b]? = some (.cells #[.string s, .int .i64 (p : Int), .int .i64 ((s.size - k : Nat) : Int), .int .i64 (n : Int)] 50 (0, 0))
theorem Zr.lt {b : Nat} {s : ByteArray} {p : Nat} {w : World} (h : Zr b s p w) : b < w.heap.size := (Array.getElem?_eq_some_iff.1 h.2).1
theorem Zr.under {b : Nat} {s : ByteArray} {p : Nat} {w w' : World} (h : Zr b s p w) (hb : Below w.heap.size w w') : Zr b s p w' := ⟨h.1, (hb.block b h.lt).trans h.2⟩
theorem Zr.part {b : Nat} {s : ByteArray} {p : Nat} {F : Nat → Prop} {w w' : World} (h : Zr b s p w) (hb : Part F w w') (hB : ¬ F b) : Zr b s p w' := ⟨h.1, (hb.block b h.lt hB).trans h.2⟩
theorem Zf.part {b : Nat} {s : ByteArray} {k n : Nat} {F : Nat → Prop} {w w' : World} (h : Zf b s k n w) (hb : Part F w w') (hB : ¬ F b) : Zf b s k n w' := by
  obtain ⟨h1, p, h2, h3, h4⟩ := h
  exact ⟨h1, p, h2, h3, (hb.block b (Array.getElem?_eq_some_iff.1 h4).1 hB).trans h4⟩
theorem Zf.under {b : Nat} {s : ByteArray} {k n : Nat} {w w' : World} (h : Zf b s k n w) (hb : Below w.heap.size w w') : Zf b s k n w' := by
  obtain ⟨h1, p, h2, h3, h4⟩ := h
  exact ⟨h1, p, h2, h3, (hb.block b (Array.getElem?_eq_some_iff.1 h4).1).trans h4⟩
structure Zc (b : Nat) (s : ByteArray) (p : Nat) (w : World) : Prop where
  c0 : w.cell? ⟨b, 0, none⟩ = some (.string s)
  c1 : w.cell? ⟨b, 1, none⟩ = some (.int .i64 (p : Int))
  c2 : w.cell? ⟨b, 2, none⟩ = some (.int .i64 (-1))
  c3 : w.cell? ⟨b, 3, none⟩ = some (.int .i64 0)
  f1 : w.frozen? ⟨b, 1, none⟩ = false
  f2 : w.frozen? ⟨b, 2, none⟩ = false
  f3 : w.frozen? ⟨b, 3, none⟩ = false
theorem Zr.cells {b : Nat} {s : ByteArray} {p : Nat} {w : World} (h : Zr b s p w) : Zc b s p w := by
  have e := h.2
  exact ⟨by rw [cells_at e 0]; rfl, by rw [cells_at e 1]; rfl, by rw [cells_at e 2]; rfl, by rw [cells_at e 3]; rfl, cells_free e 1, cells_free e 2, cells_free e 3⟩
theorem Zr.at_ {b : Nat} {s : ByteArray} {p : Nat} {w : World} (h : Zr b s p w) (q : Nat) (hq : q ≤ s.size) : Zr b s q (w.setCell ⟨b, 1, none⟩ (.int .i64 (q : Int))) := ⟨⟨hq, h.1.2⟩, heap_set_at h.2 _⟩
noncomputable def zM (b : Nat) (n : Nat) (w : World) : Nat := if intOf ((w.cell? ⟨b, 2, none⟩).getD .nilIface) < 0 then n - posOf b w + 1 else 0
theorem Zr.pos {b : Nat} {s : ByteArray} {p : Nat} {w : World} (h : Zr b s p w) : posOf b w = p := by
  unfold posOf
  rw [h.cells.c1]
  simp [intOf]
theorem Zr.zM {b : Nat} {s : ByteArray} {p : Nat} {w : World} (h : Zr b s p w) : zM b s.size w = s.size - p + 1 := by
  unfold Proofs.YtfobiknbjijphaaDoor.zM
  rw [h.pos, h.cells.c2]
  simp [intOf]
theorem Zf.zM {b : Nat} {s : ByteArray} {k n : Nat} {w : World} (h : Zf b s k n w) : zM b s.size w = 0 := by
  obtain ⟨h1, p, h2, h3, h4⟩ := h
  have h6 : w.cell? ⟨b, 2, none⟩ = some (.int .i64 ((s.size - k : Nat) : Int)) := by rw [cells_at h4 2]; rfl
  have h5 : ¬ intOf ((w.cell? ⟨b, 2, none⟩).getD .nilIface) < 0 := by
    rw [h6]
    show ¬ ((s.size - k : Nat) : Int) < 0
    omega
  unfold Proofs.YtfobiknbjijphaaDoor.zM
  rw [if_neg h5]
theorem z_fail {b : Nat} {s : ByteArray} {p : Nat} {w : World} (h : Zr b s p w) (a : Nat) (n : Int) (ha : a ≤ s.size) : Calls Tryd.prog 32 #[.pointer (some ⟨b, 0, none⟩), .int .i64 (a : Int), .int .i64 n] w fun e w' => e = .returned (.tuple #[]) ∧ Hid ((∀ m : Nat, n = (m : Int) → Zf b s (s.size - a) m w') ∧ Pt b w w') := by
  obtain ⟨c0, c1, c2, c3, f1, f2, f3⟩ := h.cells
  have HF : Hid ((∀ m : Nat, n = (m : Int) → Zf b s (s.size - a) m ((w.setCell ⟨b, 2, none⟩ (.int .i64 (a : Int))).setCell ⟨b, 3, none⟩ (.int .i64 n))) ∧ Pt b w ((w.setCell ⟨b, 2, none⟩ (.int .i64 (a : Int))).setCell ⟨b, 3, none⟩ (.int .i64 n))) := hid ⟨fun m hm => by
    refine ⟨by omega, p, by have := h.1.1; omega, h.1.2, ?_⟩
    have := heap_set_at (heap_set_at h.2 (i := 2) (.int .i64 (a : Int))) (i := 3) (.int .i64 n)
    rw [this, hm]
    have e2 : s.size - (s.size - a) = a := by omega
    rw [e2]
    rfl, Pt.set (Pt.set (Part.refl _ w) 2 _) 3 _⟩
  clear h ha
  go_enter Tryd.func32, Tryd.ntmps32
  go_wp2
  refine bodyPost_end (results_none rfl _ _ _) rfl ?_
  exact ⟨rfl, HF⟩
theorem z_blank (c : UInt8) (w : World) : Calls Tryd.prog 31 #[.int .u8 (c.toNat : Int)] w fun e w' => e = .returned (.bool (blB c)) ∧ w' = w := by
  have q1 : ((c.toNat : Int) == 32) = decide (c = 32) := @u8b c 32 (by decide)
  have q2 : ((c.toNat : Int) == 9) = decide (c = 9) := @u8b c 9 (by decide)
  have q3 : ((c.toNat : Int) == 10) = decide (c = 10) := @u8b c 10 (by decide)
  have q4 : ((c.toNat : Int) == 13) = decide (c = 13) := @u8b c 13 (by decide)
  have HR : Hid (blB c = (decide (c = 32) || decide (c = 9) || decide (c = 10) || decide (c = 13))) := hid (by
    have hb : ∀ x : UInt8, (c == x) = decide (c = x) := fun x => by rw [Bool.eq_iff_iff, beq_iff_eq, decide_eq_true_iff]
    unfold blB
    rw [hb, hb, hb, hb])
  by_cases h1 : c = 32 <;> by_cases h2 : c = 9 <;> by_cases h3 : c = 10 <;> by_cases h4 : c = 13
  all_goals
    try rw [decide_eq_true h1] at q1 HR
    try rw [decide_eq_false h1] at q1 HR
    try rw [decide_eq_true h2] at q2 HR
    try rw [decide_eq_false h2] at q2 HR
    try rw [decide_eq_true h3] at q3 HR
    try rw [decide_eq_false h3] at q3 HR
    try rw [decide_eq_true h4] at q4 HR
    try rw [decide_eq_false h4] at q4 HR
    clear h1 h2 h3 h4
    go_enter Tryd.func31, Tryd.ntmps31
    go_wp2
    go_ret
    exact ⟨by rw [HR.out]; rfl, rfl⟩
theorem quiet_at {P : Program} {f : FuncId} {args : Array Value} {v : Value} (h : ∀ V, Calls P f args V fun e w' => e = .returned v ∧ w' = V) (w : World) (k n : Nat) : Calls P f args (w.drewN (k + n)) fun e w'' => e = .returned v ∧ ∃ m, w'' = w.drewN (k + m) :=
  (h _).mono fun _ _ ⟨he, hm⟩ => ⟨he, n, hm⟩
theorem skT_end {l : List UInt8} (h : l = [] ∨ ∃ r, l = 10 :: r) : skB true l = skB false l := by
  rcases h with rfl | ⟨r, rfl⟩
  · rfl
  · simp [skB, blB]
theorem skT_step {c : UInt8} {r : List UInt8} (h : c ≠ 10) : skB true (c :: r) = skB true r := by simp [skB, h]
theorem skF_blank {c : UInt8} {r : List UInt8} (h : blB c = true) : skB false (c :: r) = skB false r := by simp [skB, h]
theorem skF_stop {c : UInt8} {r : List UInt8} (h : blB c = false) (h2 : c ≠ 59) : skB false (c :: r) = c :: r := by simp [skB, h, h2]
set_option maxHeartbeats 4000000 in
theorem z_blanks {b : Nat} {s : ByteArray} {p : Nat} {w : World} (h : Zr b s p w) :
    Calls Tryd.prog 19 #[.pointer (some ⟨b, 0, none⟩)] w fun e w' => e = .returned (.tuple #[]) ∧ Hid (∃ q, Zr b s q w' ∧ rst s q = skB false (rst s p) ∧ Pt b w w') := by
  have HR : Hid (Zr b s p w) := h
  have HBl : Hid (∀ (c : UInt8) V, Calls Tryd.prog 31 #[.int .u8 (c.toNat : Int)] V fun e w' => e = .returned (.bool (blB c)) ∧ w' = V) := hid fun c V => z_blank c V
  have lM : (s.size : Int) ≤ 1099511627776 := by have := h.1.2; omega
  clear h
  go_enter Tryd.func19, Tryd.ntmps19
  go_wp2
  go_loopw [] (fun wr => ∃ q, Hid (Zr b s q wr ∧ skB false (rst s q) = skB false (rst s p) ∧ Pt b w wr)) (fun wr => s.size - posOf b wr)
  case atStart => exact ⟨p, HR.out, rfl, Part.refl _ _⟩
  case round =>
    obtain ⟨q, HQ⟩ := hrel
    obtain ⟨v0, rfl⟩ : ∃ v0, v0 = wr := ⟨_, rfl⟩
    clear HR
    have hq0 := hid HQ.out.1.pos
    obtain ⟨y0, y1, -, -, f1, -, -⟩ := HQ.out.1.cells
    have HV : Hid (∀ V, Below v0.heap.size v0 V → Zr b s q V ∧ Pt b w V) := hid fun V hV => ⟨HQ.out.1.under hV, HQ.out.2.2.trans_ (Pt.ofB hV)⟩
    by_cases hlt : q < s.size
    · have l0 : (0 : Int) ≤ (q : Int) := by omega
      have l1 : (q : Int) < (s.size : Int) := by omega
      obtain ⟨c, hc⟩ : ∃ c, s[q]'hlt = c := ⟨_, rfl⟩
      have hcons : rst s q = c :: rst s (q + 1) := by rw [rst_cons hlt, hc]
      by_cases h59 : c = 59
      · have q59 : ((c.toNat : Int) == 59) = true := by rw [h59]; rfl
        have HI : Hid (∀ V, Below v0.heap.size v0 V → Zr b s q V ∧ skB true (rst s q) = skB false (rst s p) ∧ Pt b w V) := hid fun V hV => ⟨(HV.out V hV).1, by rw [← skB_comment_step hlt hc h59 (by rw [h59]; rfl)]; exact HQ.out.2.1, (HV.out V hV).2⟩
        have Hc : Hid (∀ z (h : z < s.size), q ≤ z → s[z] = 10 → q < z) := hid fun z h1 h2 h3 => by
          rcases Nat.lt_or_ge q z with h | h
          · exact h
          · have : z = q := by omega
            subst this
            rw [hc, h59] at h3
            exact absurd h3 (by decide)
        clear HQ HV hcons h59
        go_wp2
        go_quiet (fail)
        go_wp2
        go_quiet (fail)
        go_wp2
        go_loopw [] (fun wr => ∃ z, q ≤ z ∧ Hid (Zr b s z wr ∧ skB true (rst s z) = skB false (rst s p) ∧ Pt b w wr)) (fun wr => s.size - posOf b wr)
        case atStart => exact ⟨q, Nat.le_refl _, HI.out _ (blw_drewN _ (blw_drewN _ (Below.refl _ _)))⟩
        case round =>
          obtain ⟨v1, rfl⟩ : ∃ v1, v1 = wr := ⟨_, rfl⟩
          obtain ⟨z, hz, HZ⟩ := hrel
          clear HI y0 y1 f1
          have hz0 := hid HZ.out.1.pos
          obtain ⟨y0, y1, -, -, f1, -, -⟩ := HZ.out.1.cells
          have HX : Hid (∀ V, Below v1.heap.size v1 V → Zr b s z V ∧ Pt b w V) := hid fun V hV => ⟨HZ.out.1.under hV, HZ.out.2.2.trans_ (Pt.ofB hV)⟩
          by_cases hzl : z < s.size
          · have m0 : (0 : Int) ≤ (z : Int) := by omega
            have m1 : (z : Int) < (s.size : Int) := by omega
            obtain ⟨x, hx⟩ : ∃ x, s[z]'hzl = x := ⟨_, rfl⟩
            have hzc : rst s z = x :: rst s (z + 1) := by rw [rst_cons hzl, hx]
            by_cases h10 : x = 10
            · have x10 : ((x.toNat : Int) != 10) = false := by rw [h10]; rfl
              have HN : Hid (∀ V, Below v1.heap.size v1 V → Zr b s z V ∧ skB false (rst s z) = skB false (rst s p) ∧ Pt b w V) := hid fun V hV => ⟨(HX.out V hV).1, by rw [← skT_end (.inr ⟨_, by rw [hzc, h10]⟩)]; exact HZ.out.2.1, (HX.out V hV).2⟩
              have hqz := hid (Hc.out z hzl hz (by rw [hx]; exact h10))
              clear HZ HX hzc h10
              go_wp2
              go_quiet (fail)
              go_wp2
              go_roundw
              case rel => exact ⟨z, HN.out _ (blw_drewN _ (Below.refl _ _))⟩
              case measure =>
                refine Nat.lt_of_le_of_lt (Nat.le_of_eq (congrArg (s.size - ·) (HN.out _ (blw_drewN _ (Below.refl _ _))).1.pos)) ?_
                rw [hq0.out]
                have h3 := hqz.out
                omega
            · have x10 : ((x.toNat : Int) != 10) = true := by
                have : ((x.toNat : Int) == 10) = decide (x = 10) := @u8b x 10 (by decide)
                rw [bne, this, decide_eq_false h10]; rfl
              have HN : Hid (∀ V, Below v1.heap.size v1 V → Zr b s (z + 1) (V.setCell ⟨b, 1, none⟩ (.int .i64 ((z : Int) + 1))) ∧ skB true (rst s (z + 1)) = skB false (rst s p) ∧ Pt b w (V.setCell ⟨b, 1, none⟩ (.int .i64 ((z : Int) + 1)))) := hid fun V hV => ⟨(HX.out V hV).1.at_ (z + 1) hzl, by rw [← HZ.out.2.1, hzc, skT_step h10], Pt.set (HX.out V hV).2 1 _⟩
              clear HZ HX hzc h10
              go_wp2
              go_quiet (fail)
              go_wp2
              go_roundw
              case rel => exact ⟨z + 1, by omega, HN.out _ (blw_drewN _ (Below.refl _ _))⟩
              case measure =>
                refine Nat.lt_of_le_of_lt (Nat.le_of_eq (congrArg (s.size - ·) (HN.out _ (blw_drewN _ (Below.refl _ _))).1.pos)) ?_
                rw [hz0.out]
                omega
          · have hze : z = s.size := by have := HZ.out.1.1.1; omega
            have m1 : ¬ (z : Int) < (s.size : Int) := by omega
            have m2 : decide (z < s.size) = false := decide_eq_false hzl
            have HN : Hid (∀ V, Below v1.heap.size v1 V → Zr b s z V ∧ skB false (rst s z) = skB false (rst s p) ∧ Pt b w V) := hid fun V hV => ⟨(HX.out V hV).1, by rw [← skT_end (.inl (rst_nil (by omega)))]; exact HZ.out.2.1, (HX.out V hV).2⟩
            have hqz : Hid (q < z) := hid (by omega)
            clear HZ HX hzl hze
            go_wp2
            go_quiet (fail)
            go_wp2
            go_roundw
            case rel => exact ⟨z, HN.out _ (blw_drewN _ (Below.refl _ _))⟩
            case measure =>
              refine Nat.lt_of_le_of_lt (Nat.le_of_eq (congrArg (s.size - ·) (HN.out _ (blw_drewN _ (Below.refl _ _))).1.pos)) ?_
              rw [hq0.out]
              have h3 := hqz.out
              omega
      · have q59 : ((c.toNat : Int) == 59) = false := by
          have : ((c.toNat : Int) == 59) = decide (c = 59) := @u8b c 59 (by decide)
          rw [this, decide_eq_false h59]
        rcases Bool.eq_false_or_eq_true (blB c) with hbl | hbl
        · have HN : Hid (∀ V, Below v0.heap.size v0 V → Zr b s (q + 1) (V.setCell ⟨b, 1, none⟩ (.int .i64 ((q : Int) + 1))) ∧ skB false (rst s (q + 1)) = skB false (rst s p) ∧ Pt b w (V.setCell ⟨b, 1, none⟩ (.int .i64 ((q : Int) + 1)))) := hid fun V hV => ⟨(HV.out V hV).1.at_ (q + 1) hlt, by rw [← HQ.out.2.1, hcons, skF_blank hbl], Pt.set (HV.out V hV).2 1 _⟩
          have HB : Hid (∀ V, Calls Tryd.prog 31 #[.int .u8 (c.toNat : Int)] V fun e w' => e = .returned (.bool true) ∧ w' = V) := hid fun V => by
            have := HBl.out c V
            rw [hbl] at this
            exact this
          clear HQ HV hcons h59 hbl HBl
          go_wp2
          go_quiet (fail)
          go_wp2
          go_quiet (fail)
          go_wp2
          go_quiet ((go_at_call 31; exact quiet_at HB.out _ _ _))
          go_wp2
          go_roundw
          case rel => exact ⟨q + 1, HN.out _ (blw_drewN _ (Below.refl _ _))⟩
          case measure =>
            refine Nat.lt_of_le_of_lt (Nat.le_of_eq (congrArg (s.size - ·) (HN.out _ (blw_drewN _ (Below.refl _ _))).1.pos)) ?_
            rw [hq0.out]
            omega
        · have HN : Hid (∀ V, Below v0.heap.size v0 V → Zr b s q V ∧ rst s q = skB false (rst s p) ∧ Pt b w V) := hid fun V hV => ⟨(HV.out V hV).1, by rw [← HQ.out.2.1, hcons, skF_stop hbl h59], (HV.out V hV).2⟩
          have HB : Hid (∀ V, Calls Tryd.prog 31 #[.int .u8 (c.toNat : Int)] V fun e w' => e = .returned (.bool false) ∧ w' = V) := hid fun V => by
            have := HBl.out c V
            rw [hbl] at this
            exact this
          clear HQ HV hcons h59 hbl HBl
          go_wp2
          go_quiet (fail)
          go_wp2
          go_quiet (fail)
          go_wp2
          go_quiet ((go_at_call 31; exact quiet_at HB.out _ _ _))
          go_wp2
          refine bodyPost_ret (results_none rfl _ _ _) rfl ?_
          exact ⟨rfl, q, HN.out _ (blw_drewN _ (blw_drewN _ (blw_drewN _ (Below.refl _ _))))⟩
    · have hqe : q = s.size := by have := HQ.out.1.1.1; omega
      have l1 : ¬ (q : Int) < (s.size : Int) := by omega
      have HN : Hid (∀ V, Below v0.heap.size v0 V → Zr b s q V ∧ rst s q = skB false (rst s p) ∧ Pt b w V) := hid fun V hV => ⟨(HV.out V hV).1, by
        have := HQ.out.2.1
        rw [rst_nil (by omega)] at this
        rw [rst_nil (by omega)]
        exact this, (HV.out V hV).2⟩
      clear HQ HV hlt hqe
      go_wp2
      go_quiet (fail)
      go_wp2
      refine bodyPost_end (results_none rfl _ _ _) rfl ?_
      exact ⟨rfl, q, HN.out _ (blw_drewN _ (Below.refl _ _))⟩
end Go.Proofs.YtfobiknbjijphaaDoor

namespace Go.Proofs
open Go.Shelf Go.RowKit
def Tryd.lays160_ren : Go.Shelf.Ren := ⟨fun | 160 => 79 | 232 => 85 | 231 => 84 | 227 => 86 | 234 => 88 | 233 => 87 | 236 => 90 | 235 => 89 | 228 => 92 | 271 => 95 | 151 => 94 | 197 => 93 | 120 => 98 | 152 => 97 | 260 => 96 | 137 => 61 | 119 => 99 | 224 => 100 | 225 => 101 | 217 => 74 | 266 => 82 | n => n, fun | 9 => 9 | 4 => 4 | 3 => 3 | 5 => 5 | 117 => 103 | 116 => 102 | 0 => 0 | 124 => 106 | 21 => 21 | 105 => 107 | 46 => 39 | 119 => 111 | 139 => 114 | 138 => 113 | n => n, fun | 3 => 1 | 4 => 2 | n => n⟩
theorem Tryd.lays160 : Go.Proofs.Lays.n160 Tryd.prog Tryd.lays160_ren := {
  mixed := by kernel_rfl
  f119 := Tryd.func99.trans (congrArg some (by kernel_rfl))
  f120 := Tryd.func98.trans (congrArg some (by kernel_rfl))
  f137 := Tryd.func61.trans (congrArg some (by kernel_rfl))
  f151 := Tryd.func94.trans (congrArg some (by kernel_rfl))
  f152 := Tryd.func97.trans (congrArg some (by kernel_rfl))
  f160 := Tryd.func79.trans (congrArg some (by kernel_rfl))
  f197 := Tryd.func93.trans (congrArg some (by kernel_rfl))
  f217 := Tryd.func74.trans (congrArg some (by kernel_rfl))
  f224 := Tryd.func100.trans (congrArg some (by kernel_rfl))
  f225 := Tryd.func101.trans (congrArg some (by kernel_rfl))
  f227 := Tryd.func86.trans (congrArg some (by kernel_rfl))
  f228 := Tryd.func92.trans (congrArg some (by kernel_rfl))
  f231 := Tryd.func84.trans (congrArg some (by kernel_rfl))
  f232 := Tryd.func85.trans (congrArg some (by kernel_rfl))
  f233 := Tryd.func87.trans (congrArg some (by kernel_rfl))
  f234 := Tryd.func88.trans (congrArg some (by kernel_rfl))
  f235 := Tryd.func89.trans (congrArg some (by kernel_rfl))
  f236 := Tryd.func90.trans (congrArg some (by kernel_rfl))
  f260 := Tryd.func96.trans (congrArg some (by kernel_rfl))
  f266 := Tryd.func82.trans (congrArg some (by kernel_rfl))
  f271 := Tryd.func95.trans (congrArg some (by kernel_rfl))
  t0 := Tryd.underlying0
  a0 := Tryd.isAgg0
  z0 := Tryd.sizeOf0
  v0 := Tryd.zeroValue0
  t3 := Tryd.underlying3
  a3 := Tryd.isAgg3
  z3 := Tryd.sizeOf3
  v3 := Tryd.zeroValue3
  t4 := Tryd.underlying4
  a4 := Tryd.isAgg4
  z4 := Tryd.sizeOf4
  v4 := Tryd.zeroValue4
  t5 := Tryd.underlying5
  a5 := Tryd.isAgg5
  z5 := Tryd.sizeOf5
  v5 := Tryd.zeroValue5
  t9 := Tryd.underlying9
  a9 := Tryd.isAgg9
  z9 := Tryd.sizeOf9
  v9 := Tryd.zeroValue9
  t21 := Tryd.underlying21
  a21 := Tryd.isAgg21
  z21 := Tryd.sizeOf21
  v21 := Tryd.zeroValue21
  t46 := Tryd.underlying39
  a46 := Tryd.isAgg39
  z46 := Tryd.sizeOf39
  v46 := Tryd.zeroValue39
  t105 := Tryd.underlying107
  a105 := Tryd.isAgg107
  z105 := Tryd.sizeOf107
  v105 := Tryd.zeroValue107
  t116 := Tryd.underlying102
  a116 := Tryd.isAgg102
  z116 := Tryd.sizeOf102
  t117 := Tryd.underlying103
  a117 := Tryd.isAgg103
  z117 := Tryd.sizeOf103
  v117 := Tryd.zeroValue103
  t119 := Tryd.underlying111
  a119 := Tryd.isAgg111
  z119 := Tryd.sizeOf111
  t124 := Tryd.underlying106
  a124 := Tryd.isAgg106
  z124 := Tryd.sizeOf106
  v124 := Tryd.zeroValue106
  t138 := Tryd.underlying113
  a138 := Tryd.isAgg113
  z138 := Tryd.sizeOf113
  v138 := Tryd.zeroValue113
  t139 := Tryd.underlying114
  a139 := Tryd.isAgg114
  z139 := Tryd.sizeOf114
  v139 := Tryd.zeroValue114
  g3 := by kernel_rfl
  g4 := by kernel_rfl }
def Tryd.lays161_ren : Go.Shelf.Ren := ⟨fun | 161 => 80 | 231 => 84 | 227 => 86 | 233 => 87 | 235 => 89 | 228 => 92 | 197 => 93 | 151 => 94 | 260 => 96 | 152 => 97 | 137 => 61 | 119 => 99 | 224 => 100 | 225 => 101 | 217 => 74 | 266 => 82 | n => n, fun | 9 => 9 | 4 => 4 | 3 => 3 | 5 => 5 | 117 => 103 | 116 => 102 | 0 => 0 | 124 => 106 | 105 => 107 | 21 => 21 | 119 => 111 | 46 => 39 | 139 => 114 | 138 => 113 | n => n, fun | 3 => 1 | 4 => 2 | n => n⟩
theorem Tryd.lays161 : Go.Proofs.Lays.n161 Tryd.prog Tryd.lays161_ren := {
  mixed := by kernel_rfl
  f119 := Tryd.func99.trans (congrArg some (by kernel_rfl))
  f137 := Tryd.func61.trans (congrArg some (by kernel_rfl))
  f151 := Tryd.func94.trans (congrArg some (by kernel_rfl))
  f152 := Tryd.func97.trans (congrArg some (by kernel_rfl))
  f161 := Tryd.func80.trans (congrArg some (by kernel_rfl))
  f197 := Tryd.func93.trans (congrArg some (by kernel_rfl))
  f217 := Tryd.func74.trans (congrArg some (by kernel_rfl))
  f224 := Tryd.func100.trans (congrArg some (by kernel_rfl))
  f225 := Tryd.func101.trans (congrArg some (by kernel_rfl))
  f227 := Tryd.func86.trans (congrArg some (by kernel_rfl))
  f228 := Tryd.func92.trans (congrArg some (by kernel_rfl))
  f231 := Tryd.func84.trans (congrArg some (by kernel_rfl))
  f233 := Tryd.func87.trans (congrArg some (by kernel_rfl))
  f235 := Tryd.func89.trans (congrArg some (by kernel_rfl))
  f260 := Tryd.func96.trans (congrArg some (by kernel_rfl))
  f266 := Tryd.func82.trans (congrArg some (by kernel_rfl))
  t0 := Tryd.underlying0
  a0 := Tryd.isAgg0
  z0 := Tryd.sizeOf0
  v0 := Tryd.zeroValue0
  t3 := Tryd.underlying3
  a3 := Tryd.isAgg3
  z3 := Tryd.sizeOf3
  v3 := Tryd.zeroValue3
  t4 := Tryd.underlying4
  a4 := Tryd.isAgg4
  z4 := Tryd.sizeOf4
  v4 := Tryd.zeroValue4
  t5 := Tryd.underlying5
  a5 := Tryd.isAgg5
  z5 := Tryd.sizeOf5
  v5 := Tryd.zeroValue5
  t9 := Tryd.underlying9
  a9 := Tryd.isAgg9
  z9 := Tryd.sizeOf9
  v9 := Tryd.zeroValue9
  t21 := Tryd.underlying21
  a21 := Tryd.isAgg21
  z21 := Tryd.sizeOf21
  v21 := Tryd.zeroValue21
  t46 := Tryd.underlying39
  a46 := Tryd.isAgg39
  z46 := Tryd.sizeOf39
  v46 := Tryd.zeroValue39
  t105 := Tryd.underlying107
  a105 := Tryd.isAgg107
  z105 := Tryd.sizeOf107
  v105 := Tryd.zeroValue107
  t116 := Tryd.underlying102
  a116 := Tryd.isAgg102
  z116 := Tryd.sizeOf102
  t117 := Tryd.underlying103
  a117 := Tryd.isAgg103
  z117 := Tryd.sizeOf103
  v117 := Tryd.zeroValue103
  t119 := Tryd.underlying111
  a119 := Tryd.isAgg111
  z119 := Tryd.sizeOf111
  t124 := Tryd.underlying106
  a124 := Tryd.isAgg106
  z124 := Tryd.sizeOf106
  v124 := Tryd.zeroValue106
  t138 := Tryd.underlying113
  a138 := Tryd.isAgg113
  z138 := Tryd.sizeOf113
  v138 := Tryd.zeroValue113
  t139 := Tryd.underlying114
  a139 := Tryd.isAgg114
  z139 := Tryd.sizeOf114
  v139 := Tryd.zeroValue114
  g3 := by kernel_rfl
  g4 := by kernel_rfl }
theorem Tryd.info102 : (Tryd.prog.info? 102).map (fun i => (i.zero, i.size)) = some (some (.agg (Array.replicate 256 (.bool false))), 256) := by kernel_rfl
theorem Tryd.trim_ascii (s cutset : ByteArray) (w : World) (hs : s.size ≤ 9223372036854775807) (hcs : cutset.size < 4294967281) (ha : ∀ (j : Nat) b, cutset.data.toList[j]? = some b → b.toNat < 128) :
    Calls Tryd.prog 79 #[.string s, .string cutset] w fun e w' => e = .returned (.string ⟨(Lib.trimS s.data.toList cutset.data.toList).toArray⟩) ∧ Below w.heap.size w w' := Any.strings_Trim_laid Tryd.lays160 Tryd.info102 s cutset w hs hcs ha
theorem Tryd.trimLeft_ascii (s cutset : ByteArray) (w : World) (hcs : cutset.size < 4294967281) (ha : ∀ (j : Nat) b, cutset.data.toList[j]? = some b → b.toNat < 128) :
    Calls Tryd.prog 80 #[.string s, .string cutset] w fun e w' => e = .returned (.string ⟨(Lib.trimLeftS s.data.toList cutset.data.toList).toArray⟩) ∧ Below w.heap.size w w' := Any.strings_TrimLeft_laid Tryd.lays161 Tryd.info102 s cutset w hcs ha
end Go.Proofs
