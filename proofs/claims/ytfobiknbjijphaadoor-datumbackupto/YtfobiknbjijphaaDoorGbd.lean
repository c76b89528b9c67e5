/-
  The program's Read.
  A datum's text is read as it: the law's walk.
-/
import Derived.Test.YtfobiknbjijphaaDoorGaw
import Derived.Defers
import Derived.Recover
import Derived.Laws.Pointers
import Derived.Test.YtfobiknbjijphaaDoorGbc
import Derived.Test.YtfobiknbjijphaaDoorGba
import Derived.StillTail
import Derived.StillTailTactics
namespace Go.Proofs.YtfobiknbjijphaaDoor
open Go.RowKit
set_option linter.unusedVariables false
set_option linter.unusedSimpArgs false

set_option maxHeartbeats 4000000 in
theorem read_catch (P A E B : Nat) (x y : Int) (v u1 u2 : Value) (older : List PanicEntry) (w : World) (hP : w.cell? ⟨P, 0, none⟩ = some (.pointer (some ⟨B, 0, none⟩))) (h3 : w.cell? ⟨B, 3, none⟩ = some (.int .i64 x)) (h4 : w.cell? ⟨B, 4, none⟩ = some (.int .i64 y))
    (hA : w.cell? ⟨A, 0, none⟩ = some u1) (hE : w.cell? ⟨E, 0, none⟩ = some u2) (fA : w.frozen? ⟨A, 0, none⟩ = false) (fE : w.frozen? ⟨E, 0, none⟩ = false) (hAE : ¬ E = A) :
    CallsD Tryd.prog 17 #[.pointer (some ⟨P, 0, none⟩), .pointer (some ⟨A, 0, none⟩), .pointer (some ⟨E, 0, none⟩)] (.panicking ({ v := .iface 44 v, recovered := false } :: older)) w fun e u' w' =>
      e = .returned (.tuple #[]) ∧ u' = .panicking ({ v := .iface 44 v, recovered := true } :: older) ∧ w' = (w.setCell ⟨A, 0, none⟩ (.slice none 0 0)).setCell ⟨E, 0, none⟩ (.iface 44 (.agg #[.int .i64 x, .int .i64 y])) := by
  refine callsD_of_wpS Tryd.func17 rfl fun c₀ cs hu => ?_
  apply wpS_seq
  apply wpS_region
  simp [wpOpsS, go_sem, recoverD, hu, Tryd.ntmps17, Exit.thenS]
  refine wpS_cond (t := true) (by simp [Act.eval, Array.replicate]) ?_
  simp only [if_true]
  apply wpS_region
  simp [wpOpsS, go_sem, hP, h3, h4, hA, hE, fA, fE, hAE, bodyPostS, results, Tryd.results17]
theorem read_idle (P A E : Nat) (w : World) :
    CallsD Tryd.prog 17 #[.pointer (some ⟨P, 0, none⟩), .pointer (some ⟨A, 0, none⟩), .pointer (some ⟨E, 0, none⟩)] .returning w fun e u' w' => e = .returned (.tuple #[]) ∧ u' = .returning ∧ w' = w := by
  refine callsD_of_wpS Tryd.func17 rfl fun c₀ cs hu => ?_
  apply wpS_seq
  apply wpS_region
  simp [wpOpsS, go_sem, recoverD, hu, Tryd.ntmps17, Exit.thenS]
  refine wpS_cond (t := false) (by simp [Act.eval, Array.replicate]) ?_
  simp only [Bool.false_eq_true, if_false]
  refine wpS_of_wp (wp_skip ?_)
  cases c₀
  simp_all [bodyPostS, results, Tryd.results17]
/-- What Read answers. -/
def ReO (s : ByteArray) (w : World) (R : Rs (List Dt)) (e : Ending) (w' : World) : Prop :=
  (∃ l a c, e = .returned (.tuple #[.slice a l.length c, .nilIface]) ∧ Hid (R = .ok l [] ∧ Below w.heap.size w w' ∧ SS w.heap.size none w' l (.slice a l.length c))) ∨
  (∃ k n : Nat, e = .returned (.tuple #[.slice none 0 0, .iface 44 (.agg #[.int .i64 ((s.size : Int) - (k : Int)), .int .i64 (n : Int)])]) ∧ Hid (R = .bad k n ∧ k ≤ s.size ∧ Below w.heap.size w w'))
set_option maxHeartbeats 8000000 in
theorem rd_read (s : ByteArray) (w : World) (hs : s.size ≤ 1099511627776) (F : Nat) (hF : s.size < F) : Calls Tryd.prog 7 #[.string s] w fun e w' => ReO s w (alL F [] s.data.toList) e w' := by
  have hmf : ∀ (f : FuncId) (x y : Array Value) (V : World), (Instr.makeFunc (.func f) x y).run Tryd.prog V = .ok (.func (.func f) x y) V := fun _ _ _ _ => rfl
  obtain ⟨A, hA⟩ : ∃ A, w.heap.size = A := ⟨_, rfl⟩
  have HS := hid hs
  obtain ⟨R, hR⟩ : ∃ R, alL F [] s.data.toList = R := ⟨_, rfl⟩
  have HR := hid hR
  have HF := hid hF
  rw [hR]
  clear hs hR hF
  obtain ⟨W4, hW4⟩ : ∃ W4, (((w.alloc (.cells #[.slice none 0 0] 22)).alloc (.cells #[.nilIface] 24)).alloc (.cells #[.string s, .int .i64 0, .int .i64 0, .int .i64 0, .int .i64 0] 46)).alloc (.cells #[.pointer (some ⟨A + 1 + 1, 0, none⟩)] 42) = W4 := ⟨_, rfl⟩
  have HW4 := hid hW4
  have H4 : Hid (Below w.heap.size w W4 ∧ Rr (A + 1 + 1) s 0 0 W4 ∧ W4.heap[A]? = some (.cells #[.slice none 0 0] 22 (0, 0)) ∧ W4.heap[A + 1]? = some (.cells #[.nilIface] 24 (0, 0)) ∧ W4.heap[A + 1 + 1 + 1]? = some (.cells #[.pointer (some ⟨A + 1 + 1, 0, none⟩)] 42 (0, 0)) ∧ W4.heap.size = A + 4) := hid (by
    obtain ⟨U1, hU1⟩ : ∃ U, w.alloc (.cells #[.slice none 0 0] 22) = U := ⟨_, rfl⟩
    have s1 : U1.heap.size = A + 1 := by rw [← hU1, World.size_alloc, hA]
    have e1 : U1.heap[A]? = some (.cells #[.slice none 0 0] 22 (0, 0)) := by rw [← hU1]; exact heap_alloc_at _ _ _ hA.symm
    have b1 : Below w.heap.size w U1 := by rw [← hU1]; exact (Below.refl _ w).alloc (Nat.le_refl _) _
    rw [hU1] at hW4
    obtain ⟨U2, hU2⟩ : ∃ U, U1.alloc (.cells #[.nilIface] 24) = U := ⟨_, rfl⟩
    have s2 : U2.heap.size = A + 2 := by rw [← hU2, World.size_alloc, s1]
    have e2 : U2.heap[A + 1]? = some (.cells #[.nilIface] 24 (0, 0)) := by rw [← hU2]; exact heap_alloc_at _ _ _ s1.symm
    have b2 : Below U1.heap.size U1 U2 := by rw [← hU2]; exact (Below.refl _ U1).alloc (Nat.le_refl _) _
    rw [hU2] at hW4
    obtain ⟨U3, hU3⟩ : ∃ U, U2.alloc (.cells #[.string s, .int .i64 0, .int .i64 0, .int .i64 0, .int .i64 0] 46) = U := ⟨_, rfl⟩
    have s3 : U3.heap.size = A + 3 := by rw [← hU3, World.size_alloc, s2]
    have e3 : U3.heap[A + 1 + 1]? = some (.cells #[.string s, .int .i64 0, .int .i64 0, .int .i64 0, .int .i64 0] 46 (0, 0)) := by rw [← hU3]; exact heap_alloc_at _ _ _ s2.symm
    have b3 : Below U2.heap.size U2 U3 := by rw [← hU3]; exact (Below.refl _ U2).alloc (Nat.le_refl _) _
    rw [hU3] at hW4
    have s4 : W4.heap.size = A + 4 := by rw [← hW4, World.size_alloc, s3]
    have e4 : W4.heap[A + 1 + 1 + 1]? = some (.cells #[.pointer (some ⟨A + 1 + 1, 0, none⟩)] 42 (0, 0)) := by rw [← hW4]; exact heap_alloc_at _ _ _ s3.symm
    have b4 : Below U3.heap.size U3 W4 := by rw [← hW4]; exact (Below.refl _ U3).alloc (Nat.le_refl _) _
    refine ⟨b1.trans ((b2.trans ((b3.trans (b4.mono (by omega))).mono (by omega))).mono (by omega)), ⟨⟨Nat.zero_le _, HS.out, Nat.zero_le _⟩, 0, 0, (b4.block _ (by omega)).trans e3⟩, ?_, ?_, e4, s4⟩
    · rw [b4.block _ (by omega), b3.block _ (by omega), b2.block _ (by omega), e1]
    · rw [b4.block _ (by omega), b3.block _ (by omega), e2])
  have HC := hid (rd_whole H4.out.2.1 F HF.out)
  rw [HR.out] at HC
  have HX : Hid (∀ w5, Pt (A + 1 + 1) W4 w5 → w5.heap[A]? = some (.cells #[.slice none 0 0] 22 (0, 0)) ∧ w5.heap[A + 1]? = some (.cells #[.nilIface] 24 (0, 0)) ∧ w5.heap[A + 1 + 1 + 1]? = some (.cells #[.pointer (some ⟨A + 1 + 1, 0, none⟩)] 42 (0, 0)) ∧ Below w.heap.size w w5) := hid fun w5 h5 => by
    obtain ⟨g1, g2, g3, g4, g5, g6⟩ := H4.out
    refine ⟨(h5.block _ (by omega) (by omega)).trans g3, (h5.block _ (by omega) (by omega)).trans g4, (h5.block _ (by omega) (by omega)).trans g5, g1.trans (h5.below (fun k hk => ?_) g1.size)⟩
    show w.heap.size ≤ k
    have hk2 : k = A + 1 + 1 := hk
    omega
  clear hW4
  go_enter_defers Tryd.func7, Tryd.ntmps7
  go_wp2_with fail
  rw [HW4.out]
  refine HC.out.mono ?_
  clear HC
  rintro e w5 (⟨l, a, c, rfl, HQ⟩ | ⟨⟨v, rfl⟩, HQ⟩)
  · obtain ⟨x1, x2, x3, x4⟩ := HX.out w5 HQ.out.2.1
    have a1 : w5.cell? ⟨A, 0, none⟩ = some (.slice none 0 0) := by rw [cells_at x1 0]; rfl
    have a2 : w5.cell? ⟨A + 1, 0, none⟩ = some .nilIface := by rw [cells_at x2 0]; rfl
    have a3 := cells_free x1 0
    have a4 := cells_free x2 0
    have n1 : ¬ A + 1 = A := by omega
    obtain ⟨V, hV⟩ : ∃ V, (w5.setCell ⟨A, 0, none⟩ (.slice a l.length c)).setCell ⟨A + 1, 0, none⟩ .nilIface = V := ⟨_, rfl⟩
    have HV := hid hV
    have c1 : V.cell? ⟨A, 0, none⟩ = some (.slice a l.length c) := by
      have y1 : V.heap[A]? = some (.cells (#[Value.slice none 0 0].setIfInBounds 0 (.slice a l.length c)) 22 (0, 0)) := by
        rw [← hV]
        exact (heap_set_other _ (by omega) 0 _).trans (heap_set_at x1 _)
      rw [cells_at y1 0]; rfl
    have c2 : V.cell? ⟨A + 1, 0, none⟩ = some .nilIface := by
      have y2 : V.heap[A + 1]? = some (.cells (#[Value.nilIface].setIfInBounds 0 .nilIface) 24 (0, 0)) := by
        rw [← hV]
        exact heap_set_at ((heap_set_other w5 (show A + 1 ≠ A by omega) 0 _).trans x2) _
      rw [cells_at y2 0]; rfl
    have HO : Hid (ReO s w R (.returned (.tuple #[.slice a l.length c, .nilIface])) V) := hid (by
      have hs4 := H4.out.2.2.2.2.2
      have hVk : ∀ k, k ≠ A → k ≠ A + 1 → V.heap[k]? = w5.heap[k]? := fun k k1 k2 => by
        rw [← hV, heap_set_other _ k2, heap_set_other _ k1]
      have hb : Below w.heap.size w V := by
        rw [← hV]
        exact Part.below (F := fun k => w.heap.size ≤ k) (Part.setCell (Part.setCell ((Part.refl _ w).trans (Part.mono (F := fun k => w.heap.size ≤ k) (G := fun k => w.heap.size ≤ k) ⟨x4.os, x4.tape, x4.output, x4.size, fun k k1 _ => x4.block k k1⟩ (fun _ _ e => e)) (fun _ _ e => e)) (fun _ => by show w.heap.size ≤ A; omega) _) (fun _ => by show w.heap.size ≤ A + 1; omega) _) (fun _ e => e) (Nat.le_refl _)
      refine .inl ⟨l, a, c, rfl, hid ⟨HQ.out.1, hb, ?_⟩⟩
      exact HQ.out.2.2.nx fun k k1 k2 k3 => ⟨hVk k (by omega) (by omega), by omega, by simp⟩)
    clear HX H4 HW4 x1 x2 x3 hV HQ
    go_wp2_with fail
    rw [HV.out]
    refine leaves_cons (f := 17) (args := #[.pointer (some ⟨A + 1 + 1 + 1, 0, none⟩), .pointer (some ⟨A, 0, none⟩), .pointer (some ⟨A + 1, 0, none⟩)]) (by simp) (by simp [go_sem]) ?_
    refine (read_idle _ _ _ _).mono ?_
    rintro e u' w'' ⟨rfl, rfl, hw⟩
    subst hw
    clear a1 a2 a3 a4 n1 HV
    simp [Leaves, settle, results, Tryd.results7, go_sem, c1, c2]
    exact HO.out
  · obtain ⟨k, m, g1, g2, ⟨p0, o0, g3⟩, g4⟩ := HQ.out
    obtain ⟨x1, x2, x3, x4⟩ := HX.out w5 g4
    have a1 : w5.cell? ⟨A, 0, none⟩ = some (.slice none 0 0) := by rw [cells_at x1 0]; rfl
    have a2 : w5.cell? ⟨A + 1, 0, none⟩ = some .nilIface := by rw [cells_at x2 0]; rfl
    have a3 := cells_free x1 0
    have a4 := cells_free x2 0
    have a5 : w5.cell? ⟨A + 1 + 1 + 1, 0, none⟩ = some (.pointer (some ⟨A + 1 + 1, 0, none⟩)) := by rw [cells_at x3 0]; rfl
    have a6 : w5.cell? ⟨A + 1 + 1, 3, none⟩ = some (.int .i64 ((s.size : Int) - (k : Int))) := by rw [cells_at g3 3]; rfl
    have a7 : w5.cell? ⟨A + 1 + 1, 4, none⟩ = some (.int .i64 (m : Int)) := by rw [cells_at g3 4]; rfl
    have n1 : ¬ A + 1 = A := by omega
    have HK := hid (read_catch (A + 1 + 1 + 1) A (A + 1) (A + 1 + 1) _ _ v _ _ [] w5 a5 a6 a7 a1 a2 a3 a4 n1)
    obtain ⟨V, hV⟩ : ∃ V, (w5.setCell ⟨A, 0, none⟩ (.slice none 0 0)).setCell ⟨A + 1, 0, none⟩ (.iface 44 (.agg #[.int .i64 ((s.size : Int) - (k : Int)), .int .i64 (m : Int)])) = V := ⟨_, rfl⟩
    have c1 : V.cell? ⟨A, 0, none⟩ = some (.slice none 0 0) := by
      have y1 : V.heap[A]? = some (.cells (#[Value.slice none 0 0].setIfInBounds 0 (.slice none 0 0)) 22 (0, 0)) := by
        rw [← hV]
        exact (heap_set_other _ (by omega) 0 _).trans (heap_set_at x1 _)
      rw [cells_at y1 0]; rfl
    have c2 : V.cell? ⟨A + 1, 0, none⟩ = some (.iface 44 (.agg #[.int .i64 ((s.size : Int) - (k : Int)), .int .i64 (m : Int)])) := by
      have y2 : V.heap[A + 1]? = some (.cells (#[Value.nilIface].setIfInBounds 0 (.iface 44 (.agg #[.int .i64 ((s.size : Int) - (k : Int)), .int .i64 (m : Int)]))) 24 (0, 0)) := by
        rw [← hV]
        exact heap_set_at ((heap_set_other w5 (show A + 1 ≠ A by omega) 0 _).trans x2) _
      rw [cells_at y2 0]; rfl
    have HO : Hid (ReO s w R (.returned (.tuple #[.slice none 0 0, .iface 44 (.agg #[.int .i64 ((s.size : Int) - (k : Int)), .int .i64 (m : Int)])])) V) := hid (by
      have hb : Below w.heap.size w V := by
        rw [← hV]
        exact Part.below (F := fun k => w.heap.size ≤ k) (Part.setCell (Part.setCell ((Part.refl _ w).trans (Part.mono (F := fun k => w.heap.size ≤ k) (G := fun k => w.heap.size ≤ k) ⟨x4.os, x4.tape, x4.output, x4.size, fun k k1 _ => x4.block k k1⟩ (fun _ _ e => e)) (fun _ _ e => e)) (fun _ => by show w.heap.size ≤ A; omega) _) (fun _ => by show w.heap.size ≤ A + 1; omega) _) (fun _ e => e) (Nat.le_refl _)
      exact .inr ⟨k, m, rfl, hid ⟨g1, g2, hb⟩⟩)
    rw [hV] at HK
    clear HX H4 HW4 x1 x2 x3 x4 hV HQ g1 g2 g3 g4 a1 a2 a3 a4 a5 a6 a7 n1
    go_wp2_with fail
    refine leaves_cons (f := 17) (args := #[.pointer (some ⟨A + 1 + 1 + 1, 0, none⟩), .pointer (some ⟨A, 0, none⟩), .pointer (some ⟨A + 1, 0, none⟩)]) (by simp) (by simp [go_sem]) ?_
    refine HK.out.mono ?_
    rintro e u' w'' ⟨rfl, rfl, hw⟩
    subst hw
    clear HK
    simp [Leaves, settle, results, Tryd.results7, go_sem, c1, c2]
    exact HO.out
end Go.Proofs.YtfobiknbjijphaaDoor

namespace Go.Proofs.YtfobiknbjijphaaDoor
open Go.RowKit
set_option linter.unusedVariables false
set_option linter.unusedSimpArgs false

set_option maxRecDepth 100000 in
set_option maxHeartbeats 8000000 in
theorem law_back {d : Dt} {v : Value} {w : World} (h : DAt w d v) (hs : d.siz ≤ 1048576) (hw : 8 * d.wt ≤ 1099511627776) : Calls Tryd.prog 4 #[v] w fun e w' => e = .returned (.bool true) ∧ Hid (Below w.heap.size w w') := by
  obtain ⟨p1, p2, rfl, a1, a2⟩ := h.as
  obtain ⟨ap1, cp1, -, rfl, -⟩ := id a1
  obtain ⟨ap2, cp2, -, rfl, -⟩ := id a2
  obtain ⟨B, hB⟩ : ∃ B, w.heap.size = B := ⟨_, rfl⟩
  obtain ⟨W, hW⟩ : ∃ W, w.alloc (.cells #[.int .i64 d.kd, .string d.tx, .slice ap1 d.its.length cp1, .slice ap2 d.tl.length cp2] 34) = W := ⟨_, rfl⟩
  have hb : Below w.heap.size w W := by rw [← hW]; exact (Below.refl _ w).alloc (Nat.le_refl _) _
  have dB : D4 W B (.int .i64 d.kd) (.string d.tx) (.slice ap1 d.its.length cp1) (.slice ap2 d.tl.length cp2) := by rw [← hW]; exact heap_alloc_at _ _ _ hB.symm
  have hBs : B < W.heap.size := (Array.getElem?_eq_some_iff.1 dB).1
  have HK : Hid (∀ V, Below W.heap.size W V → DAt V d (.agg #[.int .i64 d.kd, .string d.tx, .slice ap1 d.its.length cp1, .slice ap2 d.tl.length cp2]) ∧ C4 V B (.int .i64 d.kd) (.string d.tx) (.slice ap1 d.its.length cp1) (.slice ap2 d.tl.length cp2) ∧ Below w.heap.size w V) := hid fun V hV => ⟨h.under (hb.trans (hV.mono hb.size)), (dB.under hV).c4, hb.trans (hV.mono hb.size)⟩
  have HP := hid (dt_print ((HK.out W (Below.refl _ _)).1) hs (by omega))
  have HCz := hid (fun V hV => z_can (HK.out V hV).1 hs)
  have HCd := hid (fun V hV => dt_can (HK.out V hV).1 hs)
  obtain ⟨b0, b1, b2, b3, -, -, -, -⟩ := dB.c4
  have Hs := hid (⟨hs, hw⟩ : d.siz ≤ 1048576 ∧ 8 * d.wt ≤ 1099511627776)
  clear h a1 a2 hb dB hBs hs hw
  go_enter Tryd.func4, Tryd.ntmps4
  go_wp2_with fail
  try rw [hW]
  try rw [hB]
  try go_wp2_with fail
  refine HP.out.mono ?_
  clear HP hW
  rintro e w1 ⟨hp, hb1⟩
  obtain ⟨b0, b1, b2, b3, -, -, -, -⟩ := (HK.out w1 hb1.out).2.1
  have HZ1 := hid (HCz.out w1 hb1.out)
  clear HCz
  rcases hp with ⟨hm, rfl⟩ | ⟨hm, rfl⟩
  · have Hm := hid hm
    clear hm
    go_wp2_with fail
    refine HZ1.out.mono ?_
    clear HZ1
    rintro e w2 ⟨⟨q, rfl, hq⟩, hb2⟩
    have hb12 : Hid (Below W.heap.size W w2) := hid (hb1.out.trans (hb2.out.mono hb1.out.size))
    obtain ⟨b0, b1, b2, b3, -, -, -, -⟩ := (HK.out w2 hb12.out).2.1
    obtain rfl : q = true := hq.2 Hm.out
    have hol := out_le d
    have hRs : (⟨d.out.toArray⟩ : ByteArray).size ≤ 1099511627776 := by
      show d.out.length ≤ _
      have := Hs.out
      omega
    have HR := hid (rd_read ⟨d.out.toArray⟩ w2 hRs (d.out.length + 1) (Nat.lt_succ_self _))
    have hal : alL (d.out.length + 1) [] (⟨d.out.toArray⟩ : ByteArray).data.toList = .ok [d] [] := al_back Hm.out _ (Nat.lt_succ_self _)
    rw [hal] at HR
    clear hq hb2 hb1 hol hRs hal HCd
    go_wp2_with fail
    refine HR.out.mono ?_
    clear HR
    rintro e w3 (⟨l, a, c, rfl, HX⟩ | ⟨k, n, rfl, HX⟩)
    · have hl : l = [d] := by
        have := HX.out.1
        injection this with h1 _
        exact h1.symm
      subst hl
      have hb3 : Hid (Below W.heap.size W w3) := hid (hb12.out.trans (HX.out.2.1.mono hb12.out.size))
      obtain ⟨b0, b1, b2, b3, -, -, -, -⟩ := (HK.out w3 hb3.out).2.1
      obtain ⟨a', c', X, hv, hc, hrow, hds⟩ := HX.out.2.2.as
      injection hv with hv1 hv2 hv3
      subst hv1; subst hv3
      obtain ⟨g, o, rfl, hX⟩ := hrow (Nat.succ_pos _)
      have hd0 : DAt w3 d (vx X 0) := hds 0 (Nat.succ_pos _)
      obtain ⟨ax, nx, cx, bx, mx, dx, e0, e1, e2, e3⟩ := hd0.form
      have x0 : w3.cell? ⟨g, o, none⟩ = some (X 0 0) := hX 0 (Nat.succ_pos _) 0 (by decide)
      have x1 : w3.cell? ⟨g, o + 1, none⟩ = some (X 0 1) := hX 0 (Nat.succ_pos _) 1 (by decide)
      have x2 : w3.cell? ⟨g, o + 2, none⟩ = some (X 0 2) := hX 0 (Nat.succ_pos _) 2 (by decide)
      have x3 : w3.cell? ⟨g, o + 3, none⟩ = some (X 0 3) := hX 0 (Nat.succ_pos _) 3 (by decide)
      rw [e0] at x0
      rw [e1] at x1
      rw [e2] at x2
      rw [e3] at x3
      have hvx : vx X 0 = .agg #[.int .i64 d.kd, .string d.tx, .slice ax nx cx, .slice bx mx dx] := by unfold vx; rw [e0, e1, e2, e3]
      rw [hvx] at hd0
      have HS : Hid (∀ V, Below w3.heap.size w3 V → Calls Tryd.prog 14 #[.agg #[.int .i64 d.kd, .string d.tx, .slice ax nx cx, .slice bx mx dx], .agg #[.int .i64 d.kd, .string d.tx, .slice ap1 d.its.length cp1, .slice ap2 d.tl.length cp2]] V fun e w' => e = .returned (.bool true) ∧ Hid (Below w.heap.size w w') ∧ Below w3.heap.size w3 w') := hid fun V hV => by
        have hWV : Below W.heap.size W V := hb3.out.trans (hV.mono hb3.out.size)
        have hwV := (HK.out V hWV).2.2
        refine (same_datum _ d (Nat.lt_succ_self _) V _ _ (hd0.under hV) (HK.out V hWV).1).mono ?_
        rintro e w' ⟨h1, h2⟩
        exact ⟨h1, hid (hwV.trans (h2.out.mono hwV.size)), hV.trans (h2.out.mono hV.size)⟩
      clear HX hv2 hc hrow hds hX e0 e1 e2 e3 hvx hd0 HK hb3 hb12 Hm Hs
      go_wp2_with fail
      refine wp_region_still_tail 12 (by kernel_rfl) (by kernel_rfl) ?_
      simp only [List.take_succ_cons, List.take_zero, List.drop_succ_cons, List.drop_zero]
      repeat still_step
      refine wpStill_nil ?_
      go_wp2_with fail
      refine (HS.out _ (by first | exact blw_drewN _ (Below.refl _ _) | exact Below.refl _ _)).mono ?_
      rintro e w4 ⟨rfl, hb4, k4⟩
      go_wp2
      go_ret
      exact ⟨rfl, hb4⟩
    · have := HX.out.1
      cases this
  · have Hm := hid hm
    clear hm
    go_wp2_with fail
    refine HZ1.out.mono ?_
    clear HZ1
    rintro e w2 ⟨⟨q, rfl, hq⟩, hb2⟩
    have hb12 : Hid (Below W.heap.size W w2) := hid (hb1.out.trans (hb2.out.mono hb1.out.size))
    obtain ⟨b0, b1, b2, b3, -, -, -, -⟩ := (HK.out w2 hb12.out).2.1
    have hqf : q = false := by
      cases q
      · rfl
      · exact absurd (hq.1 rfl) Hm.out
    subst hqf
    have HD := hid (HCd.out w2 hb12.out)
    have hE : ((⟨#[]⟩ : ByteArray).toList == []) = true := by rw [list_eq]; rfl
    clear hq hb2 hb1 HCd
    go_wp2_with fail
    refine HD.out.mono ?_
    clear HD
    rintro e w3 ⟨⟨q, rfl, hq⟩, hb3⟩
    have hqf : q = false := by
      cases q
      · rfl
      · exact absurd (hq.1 rfl) Hm.out
    subst hqf
    have HF : Hid (Below w.heap.size w w3) := hid (HK.out w3 (hb12.out.trans (hb3.out.mono hb12.out.size))).2.2
    clear hq HK hb12 hb3
    go_wp2
    go_ret
    exact ⟨rfl, HF⟩
end Go.Proofs.YtfobiknbjijphaaDoor
