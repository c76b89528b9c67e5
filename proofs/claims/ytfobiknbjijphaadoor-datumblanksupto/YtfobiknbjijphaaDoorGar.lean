/-
  The program's reader: stringText.
  The program's reader: within.
-/
import Derived.Test.YtfobiknbjijphaaDoorGaq
import Derived.Test.YtfobiknbjijphaaDoorGap
namespace Go.Proofs.YtfobiknbjijphaaDoor
open Go.RowKit
set_option linter.unusedVariables false
set_option linter.unusedSimpArgs false

theorem Pt.kp {b g : Nat} {w wr w' : World} (h : Pt b w wr) (k : Below g wr w') (hg : w.heap.size ≤ g) : Pt b w w' :=
  Part.trans (G := fun i => g ≤ i) h ⟨k.os, k.tape, k.output, k.size, fun i hi hn => k.block i (by omega)⟩ (fun i hi hgi => by omega)
theorem Bd.pt {B b g : Nat} {l : List UInt8} {w w' : World} (h : Bd B g l w) (k : Pt b w w') (hb : b < B) : Bd B g l w' := by
  obtain ⟨h1, h2⟩ := h
  refine ⟨?_, Nat.le_trans h2 k.size⟩
  have one : ∀ p, Lib.BuilderAtF 57 5 B g p (Lib.byteCells l) w → Lib.BuilderAtF 57 5 B g p (Lib.byteCells l) w' := fun p hp => by
    obtain ⟨e1, v, e2, e3, e4⟩ := hp
    have hlt : g < w.heap.size := (Array.getElem?_eq_some_iff.1 e2).1
    refine ⟨e1, v, (k.block g hlt (by omega)).trans e2, e3.kept (row := some b) ⟨k.os, k.tape, k.output, k.size, fun i hi hn => k.block i hi (fun e => hn (by rw [e]))⟩ (.inr ?_), e4⟩
    intro e
    have := (World.ownsRowF.lt e3 b e).1
    omega
  exact h1.elim (fun x => .inl (one _ x)) (fun x => .inr (one _ x))
/-- What stringText answers. -/
def StrT (b : Nat) (s : ByteArray) (p o k : Nat) (w : World) (e : Ending) (w' : World) : Prop :=
  (∃ t q, e = .returned (.string (ba t)) ∧ Hid (stL k [] (rst s p) = .ok t (rst s q) ∧ Rr b s q o w' ∧ Pt b w w')) ∨
  (Pnc e ∧ Hid (∃ j n, stL k [] (rst s p) = .bad j n ∧ j ≤ s.size ∧ Flt b s j n w' ∧ Pt b w w'))
set_option maxHeartbeats 8000000 in
theorem rd_string {b : Nat} {s : ByteArray} {p o : Nat} {w : World} (h : Rr b s p o w) (k : Nat) (hk : k ≤ s.size) :
    Calls Tryd.prog 51 #[.pointer (some ⟨b, 0, none⟩), .int .i64 ((s.size - k : Nat) : Int)] w fun e w' => StrT b s p o k w e w' := by
  obtain ⟨g, hg⟩ : ∃ g, w.heap.size = g := ⟨_, rfl⟩
  obtain ⟨W1, hW⟩ : ∃ W1, w.alloc (.cells #[.pointer none, .slice none 0 0] 57) = W1 := ⟨_, rfl⟩
  have hbg : b < g := by rw [← hg]; exact h.lt
  have H0 : Hid (Rr b s p o W1 ∧ Pt b w W1 ∧ Bd g g [] W1) := by
    refine hid ⟨?_, ?_, ?_⟩
    · rw [← hW]; exact h.under ((Below.refl _ w).alloc (Nat.le_refl _) _)
    · rw [← hW]; exact Pt.ofB ((Below.refl _ w).alloc (Nat.le_refl _) _)
    · rw [← hW, ← hg]
      exact ⟨.inl ⟨Nat.le_refl _, .slice none 0 0, heap_alloc_at _ _ _ rfl, World.ownsRowF_nil _ _ _ _, by simp [Value.ownBlock]⟩, by rw [World.size_alloc]; omega⟩
  obtain ⟨K, hK⟩ : ∃ K, s.size - k = K := ⟨_, rfl⟩
  rw [hK]
  have HK : Hid (s.size - K = k ∧ K ≤ s.size ∧ p ≤ s.size) := hid ⟨by omega, by omega, h.1.1⟩
  have Hgb := hid hbg
  have Hgw : Hid (w.heap.size ≤ g) := hid (by omega)
  clear h hk hK hbg
  go_enter Tryd.func51, Tryd.ntmps51
  go_wp2
  try rw [hW]
  try rw [hg]
  clear hW hg
  go_loopw [] (fun wr => ∃ q acc, Hid (Rr b s q o wr ∧ Pt b w wr ∧ Bd g g acc wr ∧ stL k [] (rst s p) = stL k acc (rst s q) ∧ acc.length + (s.size - q) ≤ s.size)) (fun wr => s.size - posOf b wr)
  case atStart => exact ⟨p, [], H0.out.1, H0.out.2.1, H0.out.2.2, rfl, by simp⟩
  case round =>
    clear H0
    obtain ⟨q, acc, HQ⟩ := hrel
    have hq0 := hid HQ.out.1.pos
    have HT := hid (rd_take HQ.out.1 ⟨#[34]⟩)
    go_wp2_with fail
    refine HT.out.mono ?_
    clear HT
    have hpr : (⟨#[34]⟩ : ByteArray).data.toList.isPrefixOf (rst s q) = pre1 34 (rst s q) := by
      show [34].isPrefixOf _ = _
      rw [pre1_eq]
    have hsz : (⟨#[34]⟩ : ByteArray).size = 1 := rfl
    rw [hpr, hsz]
    rintro e w1 (⟨rfl, h1⟩ | ⟨rfl, h1⟩)
    · clear hpr hsz
      have HB := hid (Bd.pt HQ.out.2.2.1 h1.out.2.2 Hgb.out)
      have HS := hid (Go.Proofs.Tryd.Builder_String_any_k g g acc w1 HB.out.1 HB.out.2)
      have HX : Hid (stL k [] (rst s p) = .ok acc (rst s (q + 1)) ∧ Rr b s (q + 1) o w1 ∧ Pt b w w1) := by
        refine hid ⟨?_, h1.out.2.1, HQ.out.2.1.trans_ h1.out.2.2⟩
        rw [HQ.out.2.2.2.1]
        have h2 := h1.out.2.1.1.1
        have h3 := h1.out.1
        rw [rst_cons (by omega : q < s.size)] at h3 ⊢
        have : (34 : UInt8) = s[q] := eq_of_beq h3
        rw [← this, stL_quote]
      go_wp2_with fail
      refine HS.out.mono ?_
      rintro r w4 ⟨rfl, -, hb4, -⟩
      have HF : Hid (stL k [] (rst s p) = .ok acc (rst s (q + 1)) ∧ Rr b s (q + 1) o w4 ∧ Pt b w w4) := hid ⟨HX.out.1, HX.out.2.1.below hb4 Hgb.out, HX.out.2.2.kp hb4 Hgw.out⟩
      clear hb4 HX HS HB
      go_wp2
      go_ret
      exact .inl ⟨acc, q + 1, rfl, HF⟩
    · clear hpr hsz
      have HB1 : Hid (Rr b s q o w1 ∧ Pt b w w1 ∧ Bd g g acc w1) := hid ⟨HQ.out.1.under h1.out.2, HQ.out.2.1.trans_ (Pt.ofB h1.out.2), Bd.pt HQ.out.2.2.1 (Pt.ofB h1.out.2) Hgb.out⟩
      have HE := hid (rd_ended HB1.out.1)
      go_wp2_with fail
      refine HE.out.mono ?_
      rintro e w2 ⟨rfl, hb2⟩
      have HB2 : Hid (Rr b s q o w2 ∧ Pt b w w2 ∧ Bd g g acc w2) := hid ⟨HB1.out.1.under hb2.out, HB1.out.2.1.trans_ (Pt.ofB hb2.out), Bd.pt HB1.out.2.2 (Pt.ofB hb2.out) Hgb.out⟩
      clear HB1 HE hb2
      by_cases hlt : s.size ≤ q
      · have hd : decide (s.size ≤ q) = true := decide_eq_true hlt
        have HG := hid (rd_giveUp HB2.out.1 K 100 HK.out.2.1)
        have HN : Hid (stL k [] (rst s p) = .bad k 100) := hid (by rw [HQ.out.2.2.2.1, rst_nil hlt]; rfl)
        clear hlt
        go_wp2_with fail
        refine HG.out.mono ?_
        rintro e w3 ⟨⟨v, rfl⟩, hf, hp⟩
        have HF : Hid (∃ j n, stL k [] (rst s p) = .bad j n ∧ j ≤ s.size ∧ Flt b s j n w3 ∧ Pt b w w3) := hid ⟨k, 100, HN.out, by have := HK.out; omega, by have := hf.out 100 rfl; rwa [HK.out.1] at this, HB2.out.2.1.trans_ hp.out⟩
        clear hf hp HG HB2 HN HQ h1
        go_wp2
        refine ⟨rfl, ?_⟩
        exact .inr ⟨⟨v, rfl⟩, HF⟩
      · have hd : decide (s.size ≤ q) = false := decide_eq_false hlt
        have hlt2 : q < s.size := by omega
        obtain ⟨c, hc⟩ : ∃ c, s[q]'hlt2 = c := ⟨_, rfl⟩
        have hne : c ≠ 34 := fun e => by
          have h3 := h1.out.1
          rw [rst_cons hlt2, hc, e] at h3
          simp [pre1] at h3
        have HR : Hid (rst s q = c :: rst s (q + 1)) := hid (by rw [rst_cons hlt2, hc])
        obtain ⟨y0, y1, -, -, -, f1, -, -, -⟩ := HB2.out.1.cells
        have lM : (s.size : Int) ≤ 1099511627776 := by have := HB2.out.1.1.2.1; omega
        have l0 : (0 : Int) ≤ (q : Int) := by omega
        have l1 : (q : Int) < (s.size : Int) := by omega
        have HL : Hid (acc.length + 1 ≤ 140737488355328 ∧ q < s.size) := hid ⟨by have h5 := HQ.out.2.2.2.2; have h6 := HB2.out.1.1.2.1; omega, hlt2⟩
        have HQa := hid (⟨HQ.out.2.2.2.1, HQ.out.2.2.2.2⟩ : stL k [] (rst s p) = stL k acc (rst s q) ∧ acc.length + (s.size - q) ≤ s.size)
        clear HQ h1
        by_cases h92 : c = 92
        · have d2 : ((c.toNat : Int) == 92) = true := by rw [h92]; rfl
          have HE := hid (fun n => rd_esc (HB2.out.1.under (blw_drewN n (Below.refl _ w2))) hlt2 (by rw [hc]; exact h92) K HK.out.2.1)
          have HH : Hid (rst s q = 92 :: rst s (q + 1)) := hid (by rw [HR.out, h92])
          clear hne h92 HR
          go_wp2
          go_region
          all_goals
            go_wp2_with fail
            refine (HE.out _).mono ?_
            clear HE
            rintro e w3 (⟨x, rfl, hx⟩ | ⟨⟨v, rfl⟩, hx⟩)
            · obtain ⟨y, e1, e2, e3, e4⟩ := hx.out
              have HB3 : Hid (Rr b s (q + 2) o w3 ∧ Pt b w w3 ∧ Bd g g acc w3) := hid ⟨e3, Pt.trans_ (HB2.out.2.1.drewN _) e4, Bd.pt (Bd.pt HB2.out.2.2 (Pt.ofB (blw_drewN _ (Below.refl _ w2))) Hgb.out) e4 Hgb.out⟩
              have HW := hid (b_byte HB3.out.2.2 x HL.out.1)
              have HS : Hid (stL k [] (rst s p) = stL k (acc ++ [x]) (rst s (q + 2)) ∧ (acc ++ [x]).length + (s.size - (q + 2)) ≤ s.size) := by
                refine hid ⟨?_, ?_⟩
                · rw [HQa.out.1, e1, stL_esc, e2]
                · rw [List.length_append]
                  have h5 := HQa.out.2
                  have h6 := e3.1.1
                  simp only [List.length_cons, List.length_nil]
                  omega
              clear e1 e2 e3 e4 hx HB2
              go_wp2_with fail
              refine HW.out.mono ?_
              rintro e w4 ⟨rfl, hw4⟩
              have HF : Hid (Rr b s (q + 2) o w4 ∧ Pt b w w4 ∧ Bd g g (acc ++ [x]) w4 ∧ stL k [] (rst s p) = stL k (acc ++ [x]) (rst s (q + 2)) ∧ (acc ++ [x]).length + (s.size - (q + 2)) ≤ s.size) := hid ⟨HB3.out.1.below hw4.out.2.1 Hgb.out, HB3.out.2.1.kp hw4.out.2.1 Hgw.out, hw4.out.1, HS.out⟩
              clear HW HB3 hw4 HS
              go_wp2
              go_roundw
              case rel => exact ⟨q + 2, acc ++ [x], HF⟩
              case measure => rw [HF.out.1.pos, hq0.out]; have := HL.out.2; omega
            · have HF : Hid (∃ j n, stL k [] (rst s p) = .bad j n ∧ j ≤ s.size ∧ Flt b s j n w3 ∧ Pt b w w3) := by
                refine hid ?_
                obtain ⟨hz, hp3⟩ := hx.out
                have hP3 : Pt b w w3 := Pt.trans_ (HB2.out.2.1.drewN _) hp3
                rcases hz with ⟨e1, e2⟩ | ⟨y, r, e1, e2, e3⟩
                · exact ⟨k, 100, by rw [HQa.out.1, e1]; simp [stL], by have := HK.out; omega, by rw [HK.out.1] at e2; exact e2, hP3⟩
                · have hl := congrArg List.length e1
                  rw [rst_len] at hl
                  simp only [List.length_cons] at hl
                  exact ⟨_, 100, by rw [HQa.out.1, e1, stL_esc, e2], by omega, e3, hP3⟩
              clear hx HB2 HQa
              go_wp2
              refine ⟨rfl, ?_⟩
              exact .inr ⟨⟨v, rfl⟩, HF⟩
        · have d2 : ((c.toNat : Int) == 92) = false := by
            have : ((c.toNat : Int) == 92) = decide (c = 92) := @u8b c 92 (by decide)
            rw [this, decide_eq_false h92]
          have HS : Hid (stL k [] (rst s p) = stL k (acc ++ [c]) (rst s (q + 1)) ∧ (acc ++ [c]).length + (s.size - (q + 1)) ≤ s.size) := by
            refine hid ⟨?_, ?_⟩
            · rw [HQa.out.1, HR.out, stL_plain _ _ _ _ hne h92]
            · rw [List.length_append]
              have h5 := HQa.out.2
              simp only [List.length_cons, List.length_nil]
              omega
          have HW : Hid (∀ n m, Calls Tryd.prog 55 #[.pointer (some ⟨g, 0, none⟩), .int .u8 (c.toNat : Int)] ((w2.drewN n).drewN m) fun e w' => e = .returned .nilIface ∧ Hid (∀ i, Rr b s (q + 1) o ((w'.drewN i).setCell ⟨b, 1, none⟩ (.int .i64 ((q : Int) + 1))) ∧ Pt b w ((w'.drewN i).setCell ⟨b, 1, none⟩ (.int .i64 ((q : Int) + 1))) ∧ Bd g g (acc ++ [c]) ((w'.drewN i).setCell ⟨b, 1, none⟩ (.int .i64 ((q : Int) + 1)))) ∧ w'.cell? ⟨b, 1, none⟩ = some (.int .i64 (q : Int)) ∧ w'.frozen? ⟨b, 1, none⟩ = false) := fun n m => by
            have hb := blw_drewN m (blw_drewN n (Below.refl w2.heap.size w2))
            refine (b_byte (Bd.pt HB2.out.2.2 (Pt.ofB hb) Hgb.out) c HL.out.1).mono ?_
            rintro e w' ⟨rfl, hw'⟩
            have r1 : Rr b s q o w' := (HB2.out.1.under hb).below hw'.out.2.1 Hgb.out
            have r2 : Pt b w w' := (HB2.out.2.1.trans_ (Pt.ofB hb)).kp hw'.out.2.1 Hgw.out
            refine ⟨rfl, fun i => ?_, r1.cells.c1, r1.cells.f1⟩
            have hi := blw_drewN i (Below.refl w'.heap.size w')
            exact ⟨(r1.under hi).at_ (q + 1) HL.out.2, Pt.set (r2.drewN i) 1 _, Bd.pt (Bd.pt hw'.out.1 (Pt.ofB hi) Hgb.out) (Pt.set (Part.refl _ _) 1 _) Hgb.out⟩
          clear hne h92 HR HB2 HQa
          go_wp2
          go_region
          all_goals
            go_wp2_with fail
            go_region_with (go_at_call 55; refine (HW.out _ _).mono ?_; rintro e w4 ⟨rfl, hw4, c4, f4⟩)
            all_goals
              go_wp2
              go_roundw
              case rel => exact ⟨q + 1, acc ++ [c], (hw4.out 0).1, (hw4.out 0).2.1, (hw4.out 0).2.2, HS.out⟩
              case measure => exact Nat.lt_of_le_of_lt (Nat.le_of_eq (congrArg (s.size - ·) (hw4.out 0).1.pos)) (by rw [hq0.out]; have := HL.out.2; omega)
end Go.Proofs.YtfobiknbjijphaaDoor

namespace Go.Proofs.YtfobiknbjijphaaDoor
open Go.RowKit
set_option linter.unusedVariables false
set_option linter.unusedSimpArgs false

/-- What a reader of a datum answers. -/
def RdO (b : Nat) (s : ByteArray) (o : Nat) (w : World) (R : Rs Dt) (e : Ending) (w' : World) : Prop :=
  (∃ d a c a2 c2 q, e = .returned (.agg #[.int .i64 d.kd, .string d.tx, .slice a d.its.length c, .slice a2 d.tl.length c2]) ∧ Hid (R = .ok d (rst s q) ∧ Rr b s q o w' ∧ Pt b w w' ∧ DS w.heap.size none w' d (.agg #[.int .i64 d.kd, .string d.tx, .slice a d.its.length c, .slice a2 d.tl.length c2]))) ∨
  (Pnc e ∧ Hid (∃ k m, R = .bad k m ∧ k ≤ s.size ∧ Flt b s k m w' ∧ Pt b w w'))
theorem ds_keep {lo B : Nat} {w w' : World} {d : Dt} {v : Value} (h : DS lo none w d v) (k : ∀ q, lo ≤ q → q < w.heap.size → w'.heap[q]? = w.heap[q]?) (hB : B ≤ lo) : DS B none w' d v :=
  h.nx fun q q1 q2 q3 => ⟨k q q1 q3, Nat.le_trans hB q1, q2⟩
theorem slc2 {lo : Nat} {x : Option Nat} {w : World} {d : Dt} {v : Value} (h : DS lo x w d v) : ∃ a c a2 c2, v = .agg #[.int .i64 d.kd, .string d.tx, .slice a d.its.length c, .slice a2 d.tl.length c2] ∧ d.its.length ≤ 9223372036854775807 ∧ d.tl.length ≤ 9223372036854775807 := by
  obtain ⟨v1, v2, rfl, ⟨a, c, X, rfl, h1, _⟩, ⟨a2, c2, X2, rfl, h2, _⟩⟩ := h.parts
  exact ⟨a, c, a2, c2, rfl, by omega, by omega⟩
set_option maxHeartbeats 4000000 in
theorem rd_withinL {b : Nat} {s : ByteArray} {p o : Nat} {w : World} (h : Rr b s p o w) (st : Nat) (hst : st ≤ s.size) (R : Rs Dt)
    (hC : ∀ V, Rr b s p (o + 1) V → Calls Tryd.prog 48 #[.pointer (some ⟨b, 0, none⟩)] V fun e w' => RdO b s (o + 1) V R e w') :
    Calls Tryd.prog 47 #[.pointer (some ⟨b, 0, none⟩), .int .i64 (st : Int), .func (.func 48) #[.pointer (some ⟨b, 0, none⟩)] #[]] w fun e w' =>
      (o = 64 ∧ Pnc e ∧ Hid (Flt b s (s.size - st) 7 w' ∧ Pt b w w')) ∨ (o < 64 ∧ RdO b s o w R e w') := by
  obtain ⟨G, hG⟩ : ∃ G, w.heap.size = G := ⟨_, rfl⟩
  obtain ⟨W1, hW⟩ : ∃ W1, w.alloc (.cells #[.int .i64 0, .string ⟨#[]⟩, .slice none 0 0, .slice none 0 0] 34) = W1 := ⟨_, rfl⟩
  have hbG : b < G := by rw [← hG]; exact h.lt
  have hB1 : Below w.heap.size w W1 := by rw [← hW]; exact (Below.refl _ w).alloc (Nat.le_refl _) _
  have r1 : Rr b s p o W1 := h.under hB1
  have d1 : D4 W1 G (.int .i64 0) (.string ⟨#[]⟩) (.slice none 0 0) (.slice none 0 0) := by rw [← hW]; exact heap_alloc_at _ _ _ hG.symm
  have ho := h.1.2.2
  obtain ⟨-, -, c2, -, -, -, f2, -, -⟩ := r1.cells
  by_cases h64 : o = 64
  · subst h64
    have HG := hid (rd_giveUp r1 st 7 hst)
    have HP := hid (Pt.ofB (b := b) hB1)
    have e1 : ((64 : Nat) : Int) = 64 := rfl
    rw [e1] at c2
    clear hC h hbG r1 d1 hB1
    go_enter Tryd.func47, Tryd.ntmps47
    go_wp2_with fail
    try rw [hW]
    try rw [hG]
    try go_wp2_with fail
    refine HG.out.mono ?_
    rintro e w3 ⟨⟨v, rfl⟩, hf, hp⟩
    have HF : Hid (Flt b s (s.size - st) 7 w3 ∧ Pt b w w3) := hid ⟨hf.out 7 rfl, HP.out.trans_ hp.out⟩
    clear hf hp HG
    go_wp2
    refine ⟨rfl, ?_⟩
    exact .inl ⟨trivial, ⟨v, rfl⟩, HF⟩
  · have ho2 : o < 64 := by omega
    have b1 : ((o : Int) == 64) = false := by simp; omega
    have HW2 := hid (r1.open_ (o + 1) (by omega))
    have HD2 := hid ((heap_set_other W1 (show G ≠ b by omega) 2 (.int .i64 ((o + 1 : Nat) : Int))).trans d1)
    have HP2 := hid (Pt.set (Pt.ofB (b := b) hB1) 2 (.int .i64 ((o + 1 : Nat) : Int)))
    have HZ : Hid (w.heap.size ≤ G ∧ b < G ∧ o < 64) := hid ⟨by omega, hbG, ho2⟩
    obtain ⟨W2, hW2⟩ : ∃ W2, W1.setCell ⟨b, 2, none⟩ (.int .i64 ((o + 1 : Nat) : Int)) = W2 := ⟨_, rfl⟩
    have hW2' : Hid (W1.setCell ⟨b, 2, none⟩ (.int .i64 ((o : Int) + 1)) = W2) := hW2
    rw [hW2] at HW2 HD2 HP2
    have HC := hid (hC W2 HW2.out)
    have l1 : (o : Int) < 64 := by omega
    have l0 : (0 : Int) ≤ (o : Int) := by omega
    clear hC h hbG r1 d1 hB1 hst hW2 h64 ho ho2
    go_enter Tryd.func47, Tryd.ntmps47
    go_wp2_with fail
    try rw [hW]
    try rw [hG]
    try go_wp2_with fail
    rw [hW2'.out]
    refine HC.out.mono ?_
    clear HC hW2' hW hG
    rintro e w3 (⟨d, a, c, a2, c2, q, rfl, HR⟩ | ⟨⟨v, rfl⟩, HR⟩)
    · obtain ⟨G2, hG2⟩ : ∃ G2, w3.heap.size = G2 := ⟨_, rfl⟩
      have hGG : G < G2 := by
        have h1 := HR.out.2.2.1.size
        have h2 := (Array.getElem?_eq_some_iff.1 HD2.out).1
        omega
      have hbG2 : b < G2 := by rw [← hG2]; exact HR.out.2.1.lt
      obtain ⟨-, -, k2, -, -, -, g2, -, -⟩ := HR.out.2.1.cells
      have D3 : D4 w3 G (.int .i64 0) (.string ⟨#[]⟩) (.slice none 0 0) (.slice none 0 0) := D4.part HD2.out HR.out.2.2.1 (fun e => by have := HZ.out.2.1; omega)
      obtain ⟨e0, e1, e2, e3, q0, q1, q2, q3⟩ := D3.c4
      have n1 : ¬ b = G := by have := HZ.out.2.1; omega
      have n2 : ¬ G = b := by have := HZ.out.2.1; omega
      have n3 : ¬ b = G2 := by omega
      have n4 : ¬ G2 = b := by omega
      have n5 : ¬ G = G2 := by omega
      have n6 : ¬ G2 = G := by omega
      have HE : Hid (∀ V, V = (set4 (w3.setCell ⟨b, 2, none⟩ (.int .i64 (o : Int))) G (.int .i64 d.kd) (.string d.tx) (.slice a d.its.length c) (.slice a2 d.tl.length c2)).alloc (.cells #[.int .i64 d.kd, .string d.tx, .slice a d.its.length c, .slice a2 d.tl.length c2] 34) → D4 V G (.int .i64 d.kd) (.string d.tx) (.slice a d.its.length c) (.slice a2 d.tl.length c2) ∧ (o < 64 ∧ RdO b s o w R (.returned (.agg #[.int .i64 d.kd, .string d.tx, .slice a d.its.length c, .slice a2 d.tl.length c2])) V)) := hid fun V hV => by
        have f1 := HR.out.2.1.open_ o (by have := HZ.out.2.2; omega)
        have f2 : D4 (w3.setCell ⟨b, 2, none⟩ (.int .i64 (o : Int))) G (.int .i64 0) (.string ⟨#[]⟩) (.slice none 0 0) (.slice none 0 0) := (heap_set_other w3 n2 2 _).trans D3
        have f3 := f2.set (.int .i64 d.kd) (.string d.tx) (.slice a d.its.length c) (.slice a2 d.tl.length c2)
        have f4 := f1.part (set4_part _ G (.int .i64 d.kd) (.string d.tx) (.slice a d.its.length c) (.slice a2 d.tl.length c2)) (fun e => n1 e)
        have f5 : Pt b w (w3.setCell ⟨b, 2, none⟩ (.int .i64 (o : Int))) := Pt.set (HP2.out.trans_ HR.out.2.2.1) 2 _
        have f6 := Pt.set4_ f5 HZ.out.1 (.int .i64 d.kd) (.string d.tx) (.slice a d.its.length c) (.slice a2 d.tl.length c2)
        obtain ⟨U, hU⟩ : ∃ U, set4 (w3.setCell ⟨b, 2, none⟩ (.int .i64 (o : Int))) G (.int .i64 d.kd) (.string d.tx) (.slice a d.its.length c) (.slice a2 d.tl.length c2) = U := ⟨_, rfl⟩
        have hUs : U.heap.size = w3.heap.size := by rw [← hU]; simp [set4, World.setCell]
        have hUq : ∀ q, q ≠ G → q ≠ b → U.heap[q]? = w3.heap[q]? := fun q h1 h2 => by
          rw [← hU, set4_other _ h1, heap_set_other _ h2]
        rw [hU] at hV f3 f4 f6
        have g0 : Below U.heap.size U V := by rw [hV]; exact (Below.refl _ U).alloc (Nat.le_refl _) _
        refine ⟨f3.under g0, HZ.out.2.2, .inl ⟨d, _, _, _, _, q, rfl, hid ⟨HR.out.1, f4.under g0, f6.trans_ (Pt.ofB g0), ?_⟩⟩⟩
        have hW2 := (Array.getElem?_eq_some_iff.1 HD2.out).1
        refine ds_keep HR.out.2.2.2 (fun k k1 k2 => ?_) (by have := HP2.out.size; omega)
        rw [g0.block k (by omega), hUq k (by omega) (by have := HZ.out.2.1; omega)]
      clear HR HZ HP2 HD2 HW2
      go_wp2
      obtain ⟨i1, i2⟩ := HE.out _ rfl
      exact bodyPost_ret (v := .agg #[.int .i64 d.kd, .string d.tx, .slice a d.its.length c, .slice a2 d.tl.length c2]) (res4 i1 Tryd.results47 rfl) rfl (.inr i2)
    · have HF : Hid (o < 64 ∧ RdO b s o w R (.panicked [{ v := .iface 44 v, recovered := false }]) w3) := hid (by
        obtain ⟨k, m, h1, h2, h3, h4⟩ := HR.out
        exact ⟨HZ.out.2.2, .inr ⟨⟨v, rfl⟩, hid ⟨k, m, h1, h2, h3, HP2.out.trans_ h4⟩⟩⟩)
      clear HR HZ HP2 HD2 HW2
      go_wp2
      refine ⟨rfl, ?_⟩
      exact .inr HF.out
set_option maxHeartbeats 4000000 in
theorem rd_withinV {b : Nat} {s : ByteArray} {p o : Nat} {w : World} (h : Rr b s p o w) (st : Nat) (hst : st ≤ s.size) (R : Rs Dt)
    (hC : ∀ V, Rr b s p (o + 1) V → Calls Tryd.prog 49 #[.pointer (some ⟨b, 0, none⟩)] V fun e w' => RdO b s (o + 1) V R e w') :
    Calls Tryd.prog 47 #[.pointer (some ⟨b, 0, none⟩), .int .i64 (st : Int), .func (.func 49) #[.pointer (some ⟨b, 0, none⟩)] #[]] w fun e w' =>
      (o = 64 ∧ Pnc e ∧ Hid (Flt b s (s.size - st) 7 w' ∧ Pt b w w')) ∨ (o < 64 ∧ RdO b s o w R e w') := by
  obtain ⟨G, hG⟩ : ∃ G, w.heap.size = G := ⟨_, rfl⟩
  obtain ⟨W1, hW⟩ : ∃ W1, w.alloc (.cells #[.int .i64 0, .string ⟨#[]⟩, .slice none 0 0, .slice none 0 0] 34) = W1 := ⟨_, rfl⟩
  have hbG : b < G := by rw [← hG]; exact h.lt
  have hB1 : Below w.heap.size w W1 := by rw [← hW]; exact (Below.refl _ w).alloc (Nat.le_refl _) _
  have r1 : Rr b s p o W1 := h.under hB1
  have d1 : D4 W1 G (.int .i64 0) (.string ⟨#[]⟩) (.slice none 0 0) (.slice none 0 0) := by rw [← hW]; exact heap_alloc_at _ _ _ hG.symm
  have ho := h.1.2.2
  obtain ⟨-, -, c2, -, -, -, f2, -, -⟩ := r1.cells
  by_cases h64 : o = 64
  · subst h64
    have HG := hid (rd_giveUp r1 st 7 hst)
    have HP := hid (Pt.ofB (b := b) hB1)
    have e1 : ((64 : Nat) : Int) = 64 := rfl
    rw [e1] at c2
    clear hC h hbG r1 d1 hB1
    go_enter Tryd.func47, Tryd.ntmps47
    go_wp2_with fail
    try rw [hW]
    try rw [hG]
    try go_wp2_with fail
    refine HG.out.mono ?_
    rintro e w3 ⟨⟨v, rfl⟩, hf, hp⟩
    have HF : Hid (Flt b s (s.size - st) 7 w3 ∧ Pt b w w3) := hid ⟨hf.out 7 rfl, HP.out.trans_ hp.out⟩
    clear hf hp HG
    go_wp2
    refine ⟨rfl, ?_⟩
    exact .inl ⟨trivial, ⟨v, rfl⟩, HF⟩
  · have ho2 : o < 64 := by omega
    have b1 : ((o : Int) == 64) = false := by simp; omega
    have HW2 := hid (r1.open_ (o + 1) (by omega))
    have HD2 := hid ((heap_set_other W1 (show G ≠ b by omega) 2 (.int .i64 ((o + 1 : Nat) : Int))).trans d1)
    have HP2 := hid (Pt.set (Pt.ofB (b := b) hB1) 2 (.int .i64 ((o + 1 : Nat) : Int)))
    have HZ : Hid (w.heap.size ≤ G ∧ b < G ∧ o < 64) := hid ⟨by omega, hbG, ho2⟩
    obtain ⟨W2, hW2⟩ : ∃ W2, W1.setCell ⟨b, 2, none⟩ (.int .i64 ((o + 1 : Nat) : Int)) = W2 := ⟨_, rfl⟩
    have hW2' : Hid (W1.setCell ⟨b, 2, none⟩ (.int .i64 ((o : Int) + 1)) = W2) := hW2
    rw [hW2] at HW2 HD2 HP2
    have HC := hid (hC W2 HW2.out)
    have l1 : (o : Int) < 64 := by omega
    have l0 : (0 : Int) ≤ (o : Int) := by omega
    clear hC h hbG r1 d1 hB1 hst hW2 h64 ho ho2
    go_enter Tryd.func47, Tryd.ntmps47
    go_wp2_with fail
    try rw [hW]
    try rw [hG]
    try go_wp2_with fail
    rw [hW2'.out]
    refine HC.out.mono ?_
    clear HC hW2' hW hG
    rintro e w3 (⟨d, a, c, a2, c2, q, rfl, HR⟩ | ⟨⟨v, rfl⟩, HR⟩)
    · obtain ⟨G2, hG2⟩ : ∃ G2, w3.heap.size = G2 := ⟨_, rfl⟩
      have hGG : G < G2 := by
        have h1 := HR.out.2.2.1.size
        have h2 := (Array.getElem?_eq_some_iff.1 HD2.out).1
        omega
      have hbG2 : b < G2 := by rw [← hG2]; exact HR.out.2.1.lt
      obtain ⟨-, -, k2, -, -, -, g2, -, -⟩ := HR.out.2.1.cells
      have D3 : D4 w3 G (.int .i64 0) (.string ⟨#[]⟩) (.slice none 0 0) (.slice none 0 0) := D4.part HD2.out HR.out.2.2.1 (fun e => by have := HZ.out.2.1; omega)
      obtain ⟨e0, e1, e2, e3, q0, q1, q2, q3⟩ := D3.c4
      have n1 : ¬ b = G := by have := HZ.out.2.1; omega
      have n2 : ¬ G = b := by have := HZ.out.2.1; omega
      have n3 : ¬ b = G2 := by omega
      have n4 : ¬ G2 = b := by omega
      have n5 : ¬ G = G2 := by omega
      have n6 : ¬ G2 = G := by omega
      have HE : Hid (∀ V, V = (set4 (w3.setCell ⟨b, 2, none⟩ (.int .i64 (o : Int))) G (.int .i64 d.kd) (.string d.tx) (.slice a d.its.length c) (.slice a2 d.tl.length c2)).alloc (.cells #[.int .i64 d.kd, .string d.tx, .slice a d.its.length c, .slice a2 d.tl.length c2] 34) → D4 V G (.int .i64 d.kd) (.string d.tx) (.slice a d.its.length c) (.slice a2 d.tl.length c2) ∧ (o < 64 ∧ RdO b s o w R (.returned (.agg #[.int .i64 d.kd, .string d.tx, .slice a d.its.length c, .slice a2 d.tl.length c2])) V)) := hid fun V hV => by
        have f1 := HR.out.2.1.open_ o (by have := HZ.out.2.2; omega)
        have f2 : D4 (w3.setCell ⟨b, 2, none⟩ (.int .i64 (o : Int))) G (.int .i64 0) (.string ⟨#[]⟩) (.slice none 0 0) (.slice none 0 0) := (heap_set_other w3 n2 2 _).trans D3
        have f3 := f2.set (.int .i64 d.kd) (.string d.tx) (.slice a d.its.length c) (.slice a2 d.tl.length c2)
        have f4 := f1.part (set4_part _ G (.int .i64 d.kd) (.string d.tx) (.slice a d.its.length c) (.slice a2 d.tl.length c2)) (fun e => n1 e)
        have f5 : Pt b w (w3.setCell ⟨b, 2, none⟩ (.int .i64 (o : Int))) := Pt.set (HP2.out.trans_ HR.out.2.2.1) 2 _
        have f6 := Pt.set4_ f5 HZ.out.1 (.int .i64 d.kd) (.string d.tx) (.slice a d.its.length c) (.slice a2 d.tl.length c2)
        obtain ⟨U, hU⟩ : ∃ U, set4 (w3.setCell ⟨b, 2, none⟩ (.int .i64 (o : Int))) G (.int .i64 d.kd) (.string d.tx) (.slice a d.its.length c) (.slice a2 d.tl.length c2) = U := ⟨_, rfl⟩
        have hUs : U.heap.size = w3.heap.size := by rw [← hU]; simp [set4, World.setCell]
        have hUq : ∀ q, q ≠ G → q ≠ b → U.heap[q]? = w3.heap[q]? := fun q h1 h2 => by
          rw [← hU, set4_other _ h1, heap_set_other _ h2]
        rw [hU] at hV f3 f4 f6
        have g0 : Below U.heap.size U V := by rw [hV]; exact (Below.refl _ U).alloc (Nat.le_refl _) _
        refine ⟨f3.under g0, HZ.out.2.2, .inl ⟨d, _, _, _, _, q, rfl, hid ⟨HR.out.1, f4.under g0, f6.trans_ (Pt.ofB g0), ?_⟩⟩⟩
        have hW2 := (Array.getElem?_eq_some_iff.1 HD2.out).1
        refine ds_keep HR.out.2.2.2 (fun k k1 k2 => ?_) (by have := HP2.out.size; omega)
        rw [g0.block k (by omega), hUq k (by omega) (by have := HZ.out.2.1; omega)]
      clear HR HZ HP2 HD2 HW2
      go_wp2
      obtain ⟨i1, i2⟩ := HE.out _ rfl
      exact bodyPost_ret (v := .agg #[.int .i64 d.kd, .string d.tx, .slice a d.its.length c, .slice a2 d.tl.length c2]) (res4 i1 Tryd.results47 rfl) rfl (.inr i2)
    · have HF : Hid (o < 64 ∧ RdO b s o w R (.panicked [{ v := .iface 44 v, recovered := false }]) w3) := hid (by
        obtain ⟨k, m, h1, h2, h3, h4⟩ := HR.out
        exact ⟨HZ.out.2.2, .inr ⟨⟨v, rfl⟩, hid ⟨k, m, h1, h2, h3, HP2.out.trans_ h4⟩⟩⟩)
      clear HR HZ HP2 HD2 HW2
      go_wp2
      refine ⟨rfl, ?_⟩
      exact .inr HF.out
set_option maxHeartbeats 4000000 in
theorem rd_withinQ {b : Nat} {s : ByteArray} {p o : Nat} {w : World} (h : Rr b s p o w) (st : Nat) (hst : st ≤ s.size) (R : Rs Dt)
    (hC : ∀ V, Rr b s p (o + 1) V → Calls Tryd.prog 50 #[.pointer (some ⟨b, 0, none⟩)] V fun e w' => RdO b s (o + 1) V R e w') :
    Calls Tryd.prog 47 #[.pointer (some ⟨b, 0, none⟩), .int .i64 (st : Int), .func (.func 50) #[.pointer (some ⟨b, 0, none⟩)] #[]] w fun e w' =>
      (o = 64 ∧ Pnc e ∧ Hid (Flt b s (s.size - st) 7 w' ∧ Pt b w w')) ∨ (o < 64 ∧ RdO b s o w R e w') := by
  obtain ⟨G, hG⟩ : ∃ G, w.heap.size = G := ⟨_, rfl⟩
  obtain ⟨W1, hW⟩ : ∃ W1, w.alloc (.cells #[.int .i64 0, .string ⟨#[]⟩, .slice none 0 0, .slice none 0 0] 34) = W1 := ⟨_, rfl⟩
  have hbG : b < G := by rw [← hG]; exact h.lt
  have hB1 : Below w.heap.size w W1 := by rw [← hW]; exact (Below.refl _ w).alloc (Nat.le_refl _) _
  have r1 : Rr b s p o W1 := h.under hB1
  have d1 : D4 W1 G (.int .i64 0) (.string ⟨#[]⟩) (.slice none 0 0) (.slice none 0 0) := by rw [← hW]; exact heap_alloc_at _ _ _ hG.symm
  have ho := h.1.2.2
  obtain ⟨-, -, c2, -, -, -, f2, -, -⟩ := r1.cells
  by_cases h64 : o = 64
  · subst h64
    have HG := hid (rd_giveUp r1 st 7 hst)
    have HP := hid (Pt.ofB (b := b) hB1)
    have e1 : ((64 : Nat) : Int) = 64 := rfl
    rw [e1] at c2
    clear hC h hbG r1 d1 hB1
    go_enter Tryd.func47, Tryd.ntmps47
    go_wp2_with fail
    try rw [hW]
    try rw [hG]
    try go_wp2_with fail
    refine HG.out.mono ?_
    rintro e w3 ⟨⟨v, rfl⟩, hf, hp⟩
    have HF : Hid (Flt b s (s.size - st) 7 w3 ∧ Pt b w w3) := hid ⟨hf.out 7 rfl, HP.out.trans_ hp.out⟩
    clear hf hp HG
    go_wp2
    refine ⟨rfl, ?_⟩
    exact .inl ⟨trivial, ⟨v, rfl⟩, HF⟩
  · have ho2 : o < 64 := by omega
    have b1 : ((o : Int) == 64) = false := by simp; omega
    have HW2 := hid (r1.open_ (o + 1) (by omega))
    have HD2 := hid ((heap_set_other W1 (show G ≠ b by omega) 2 (.int .i64 ((o + 1 : Nat) : Int))).trans d1)
    have HP2 := hid (Pt.set (Pt.ofB (b := b) hB1) 2 (.int .i64 ((o + 1 : Nat) : Int)))
    have HZ : Hid (w.heap.size ≤ G ∧ b < G ∧ o < 64) := hid ⟨by omega, hbG, ho2⟩
    obtain ⟨W2, hW2⟩ : ∃ W2, W1.setCell ⟨b, 2, none⟩ (.int .i64 ((o + 1 : Nat) : Int)) = W2 := ⟨_, rfl⟩
    have hW2' : Hid (W1.setCell ⟨b, 2, none⟩ (.int .i64 ((o : Int) + 1)) = W2) := hW2
    rw [hW2] at HW2 HD2 HP2
    have HC := hid (hC W2 HW2.out)
    have l1 : (o : Int) < 64 := by omega
    have l0 : (0 : Int) ≤ (o : Int) := by omega
    clear hC h hbG r1 d1 hB1 hst hW2 h64 ho ho2
    go_enter Tryd.func47, Tryd.ntmps47
    go_wp2_with fail
    try rw [hW]
    try rw [hG]
    try go_wp2_with fail
    rw [hW2'.out]
    refine HC.out.mono ?_
    clear HC hW2' hW hG
    rintro e w3 (⟨d, a, c, a2, c2, q, rfl, HR⟩ | ⟨⟨v, rfl⟩, HR⟩)
    · obtain ⟨G2, hG2⟩ : ∃ G2, w3.heap.size = G2 := ⟨_, rfl⟩
      have hGG : G < G2 := by
        have h1 := HR.out.2.2.1.size
        have h2 := (Array.getElem?_eq_some_iff.1 HD2.out).1
        omega
      have hbG2 : b < G2 := by rw [← hG2]; exact HR.out.2.1.lt
      obtain ⟨-, -, k2, -, -, -, g2, -, -⟩ := HR.out.2.1.cells
      have D3 : D4 w3 G (.int .i64 0) (.string ⟨#[]⟩) (.slice none 0 0) (.slice none 0 0) := D4.part HD2.out HR.out.2.2.1 (fun e => by have := HZ.out.2.1; omega)
      obtain ⟨e0, e1, e2, e3, q0, q1, q2, q3⟩ := D3.c4
      have n1 : ¬ b = G := by have := HZ.out.2.1; omega
      have n2 : ¬ G = b := by have := HZ.out.2.1; omega
      have n3 : ¬ b = G2 := by omega
      have n4 : ¬ G2 = b := by omega
      have n5 : ¬ G = G2 := by omega
      have n6 : ¬ G2 = G := by omega
      have HE : Hid (∀ V, V = (set4 (w3.setCell ⟨b, 2, none⟩ (.int .i64 (o : Int))) G (.int .i64 d.kd) (.string d.tx) (.slice a d.its.length c) (.slice a2 d.tl.length c2)).alloc (.cells #[.int .i64 d.kd, .string d.tx, .slice a d.its.length c, .slice a2 d.tl.length c2] 34) → D4 V G (.int .i64 d.kd) (.string d.tx) (.slice a d.its.length c) (.slice a2 d.tl.length c2) ∧ (o < 64 ∧ RdO b s o w R (.returned (.agg #[.int .i64 d.kd, .string d.tx, .slice a d.its.length c, .slice a2 d.tl.length c2])) V)) := hid fun V hV => by
        have f1 := HR.out.2.1.open_ o (by have := HZ.out.2.2; omega)
        have f2 : D4 (w3.setCell ⟨b, 2, none⟩ (.int .i64 (o : Int))) G (.int .i64 0) (.string ⟨#[]⟩) (.slice none 0 0) (.slice none 0 0) := (heap_set_other w3 n2 2 _).trans D3
        have f3 := f2.set (.int .i64 d.kd) (.string d.tx) (.slice a d.its.length c) (.slice a2 d.tl.length c2)
        have f4 := f1.part (set4_part _ G (.int .i64 d.kd) (.string d.tx) (.slice a d.its.length c) (.slice a2 d.tl.length c2)) (fun e => n1 e)
        have f5 : Pt b w (w3.setCell ⟨b, 2, none⟩ (.int .i64 (o : Int))) := Pt.set (HP2.out.trans_ HR.out.2.2.1) 2 _
        have f6 := Pt.set4_ f5 HZ.out.1 (.int .i64 d.kd) (.string d.tx) (.slice a d.its.length c) (.slice a2 d.tl.length c2)
        obtain ⟨U, hU⟩ : ∃ U, set4 (w3.setCell ⟨b, 2, none⟩ (.int .i64 (o : Int))) G (.int .i64 d.kd) (.string d.tx) (.slice a d.its.length c) (.slice a2 d.tl.length c2) = U := ⟨_, rfl⟩
        have hUs : U.heap.size = w3.heap.size := by rw [← hU]; simp [set4, World.setCell]
        have hUq : ∀ q, q ≠ G → q ≠ b → U.heap[q]? = w3.heap[q]? := fun q h1 h2 => by
          rw [← hU, set4_other _ h1, heap_set_other _ h2]
        rw [hU] at hV f3 f4 f6
        have g0 : Below U.heap.size U V := by rw [hV]; exact (Below.refl _ U).alloc (Nat.le_refl _) _
        refine ⟨f3.under g0, HZ.out.2.2, .inl ⟨d, _, _, _, _, q, rfl, hid ⟨HR.out.1, f4.under g0, f6.trans_ (Pt.ofB g0), ?_⟩⟩⟩
        have hW2 := (Array.getElem?_eq_some_iff.1 HD2.out).1
        refine ds_keep HR.out.2.2.2 (fun k k1 k2 => ?_) (by have := HP2.out.size; omega)
        rw [g0.block k (by omega), hUq k (by omega) (by have := HZ.out.2.1; omega)]
      clear HR HZ HP2 HD2 HW2
      go_wp2
      obtain ⟨i1, i2⟩ := HE.out _ rfl
      exact bodyPost_ret (v := .agg #[.int .i64 d.kd, .string d.tx, .slice a d.its.length c, .slice a2 d.tl.length c2]) (res4 i1 Tryd.results47 rfl) rfl (.inr i2)
    · have HF : Hid (o < 64 ∧ RdO b s o w R (.panicked [{ v := .iface 44 v, recovered := false }]) w3) := hid (by
        obtain ⟨k, m, h1, h2, h3, h4⟩ := HR.out
        exact ⟨HZ.out.2.2, .inr ⟨⟨v, rfl⟩, hid ⟨k, m, h1, h2, h3, HP2.out.trans_ h4⟩⟩⟩)
      clear HR HZ HP2 HD2 HW2
      go_wp2
      refine ⟨rfl, ?_⟩
      exact .inr HF.out
end Go.Proofs.YtfobiknbjijphaaDoor
