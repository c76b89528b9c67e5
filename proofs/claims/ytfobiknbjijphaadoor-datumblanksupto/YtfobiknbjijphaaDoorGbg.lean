/-
  The program's Read.
  The document's Read.
-/
import Derived.Test.YtfobiknbjijphaaDoorGaw
import Derived.Defers
import Derived.Recover
import Derived.Laws.Pointers
import Derived.Test.YtfobiknbjijphaaDoorZrI
namespace Go.Proofs.YtfobiknbjijphaaDoor
open Go.RowKit
set_option linter.unusedVariables false
set_option linter.unusedSimpArgs false

set_option maxHeartbeats 4000000 in
theorem read_catch (P A E B : Nat) (x y : Int) (v u1 u2 : Value) (older : List PanicEntry) (w : World) (hP : w.cell? ⟨P, 0, none⟩ = some (.pointer (some ⟨B, 0, none⟩))) (h3 : w.cell? ⟨B, 3, none⟩ = some (.int .i64 x)) (h4 : w.cell? ⟨B, 4, none⟩ = some (.int .i64 y))
    (hA : w.cell? ⟨A, 0, none⟩ = some u1) (hE : w.cell? ⟨E, 0, none⟩ = some u2) (fA : w.frozen? ⟨A, 0, none⟩ = false) (fE : w.frozen? ⟨E, 0, none⟩ = false) (hAE : ¬ E = A) :
    CallsD Tryd.prog 17 #[.pointer (some ⟨P, 0, none⟩), .pointer (some ⟨A, 0, none⟩), .pointer (some ⟨E, 0, none⟩)] (.panicking ({ v := .iface 44 v, recovered := false } :: older)) w fun e u' w' =>
      e = .returned (.tuple #[]) ∧ u' = .panicking ({ v := .iface 44 v, recovered := true } :: older) ∧ w' = (w.setCell ⟨A, 0, none⟩ (.slice none 0 0)).setCell ⟨E, 0, none⟩ (.iface 44 (.agg #[.int .i64 x, .int .i64 y])) := by
  refine callsD_of_wpS Tryd.func17 rfl fun c₀ cs hu => ?_
  apply wpS_seq
  apply wpS_region
  simp [wpOpsS, go_sem, recoverD, hu, Tryd.ntmps17, Exit.thenS]
  refine wpS_cond (t := true) (by simp [Act.eval, Array.replicate]) ?_
  simp only [if_true]
  apply wpS_region
  simp [wpOpsS, go_sem, hP, h3, h4, hA, hE, fA, fE, hAE, bodyPostS, results, Tryd.results17]
theorem read_idle (P A E : Nat) (w : World) :
    CallsD Tryd.prog 17 #[.pointer (some ⟨P, 0, none⟩), .pointer (some ⟨A, 0, none⟩), .pointer (some ⟨E, 0, none⟩)] .returning w fun e u' w' => e = .returned (.tuple #[]) ∧ u' = .returning ∧ w' = w := by
  refine callsD_of_wpS Tryd.func17 rfl fun c₀ cs hu => ?_
  apply wpS_seq
  apply wpS_region
  simp [wpOpsS, go_sem, recoverD, hu, Tryd.ntmps17, Exit.thenS]
  refine wpS_cond (t := false) (by simp [Act.eval, Array.replicate]) ?_
  simp only [Bool.false_eq_true, if_false]
  refine wpS_of_wp (wp_skip ?_)
  cases c₀
  simp_all [bodyPostS, results, Tryd.results17]
/-- What Read answers. -/
def ReO (s : ByteArray) (w : World) (R : Rs (List Dt)) (e : Ending) (w' : World) : Prop :=
  (∃ l a c, e = .returned (.tuple #[.slice a l.length c, .nilIface]) ∧ Hid (R = .ok l [] ∧ Below w.heap.size w w' ∧ SS w.heap.size none w' l (.slice a l.length c))) ∨
  (∃ k n : Nat, e = .returned (.tuple #[.slice none 0 0, .iface 44 (.agg #[.int .i64 ((s.size : Int) - (k : Int)), .int .i64 (n : Int)])]) ∧ Hid (R = .bad k n ∧ k ≤ s.size ∧ Below w.heap.size w w'))
set_option maxHeartbeats 8000000 in
theorem rd_read (s : ByteArray) (w : World) (hs : s.size ≤ 1099511627776) (F : Nat) (hF : s.size < F) : Calls Tryd.prog 7 #[.string s] w fun e w' => ReO s w (alL F [] s.data.toList) e w' := by
  have hmf : ∀ (f : FuncId) (x y : Array Value) (V : World), (Instr.makeFunc (.func f) x y).run Tryd.prog V = .ok (.func (.func f) x y) V := fun _ _ _ _ => rfl
  obtain ⟨A, hA⟩ : ∃ A, w.heap.size = A := ⟨_, rfl⟩
  have HS := hid hs
  obtain ⟨R, hR⟩ : ∃ R, alL F [] s.data.toList = R := ⟨_, rfl⟩
  have HR := hid hR
  have HF := hid hF
  rw [hR]
  clear hs hR hF
  obtain ⟨W4, hW4⟩ : ∃ W4, (((w.alloc (.cells #[.slice none 0 0] 22)).alloc (.cells #[.nilIface] 24)).alloc (.cells #[.string s, .int .i64 0, .int .i64 0, .int .i64 0, .int .i64 0] 46)).alloc (.cells #[.pointer (some ⟨A + 1 + 1, 0, none⟩)] 42) = W4 := ⟨_, rfl⟩
  have HW4 := hid hW4
  have H4 : Hid (Below w.heap.size w W4 ∧ Rr (A + 1 + 1) s 0 0 W4 ∧ W4.heap[A]? = some (.cells #[.slice none 0 0] 22 (0, 0)) ∧ W4.heap[A + 1]? = some (.cells #[.nilIface] 24 (0, 0)) ∧ W4.heap[A + 1 + 1 + 1]? = some (.cells #[.pointer (some ⟨A + 1 + 1, 0, none⟩)] 42 (0, 0)) ∧ W4.heap.size = A + 4) := hid (by
    obtain ⟨U1, hU1⟩ : ∃ U, w.alloc (.cells #[.slice none 0 0] 22) = U := ⟨_, rfl⟩
    have s1 : U1.heap.size = A + 1 := by rw [← hU1, World.size_alloc, hA]
    have e1 : U1.heap[A]? = some (.cells #[.slice none 0 0] 22 (0, 0)) := by rw [← hU1]; exact heap_alloc_at _ _ _ hA.symm
    have b1 : Below w.heap.size w U1 := by rw [← hU1]; exact (Below.refl _ w).alloc (Nat.le_refl _) _
    rw [hU1] at hW4
    obtain ⟨U2, hU2⟩ : ∃ U, U1.alloc (.cells #[.nilIface] 24) = U := ⟨_, rfl⟩
    have s2 : U2.heap.size = A + 2 := by rw [← hU2, World.size_alloc, s1]
    have e2 : U2.heap[A + 1]? = some (.cells #[.nilIface] 24 (0, 0)) := by rw [← hU2]; exact heap_alloc_at _ _ _ s1.symm
    have b2 : Below U1.heap.size U1 U2 := by rw [← hU2]; exact (Below.refl _ U1).alloc (Nat.le_refl _) _
    rw [hU2] at hW4
    obtain ⟨U3, hU3⟩ : ∃ U, U2.alloc (.cells #[.string s, .int .i64 0, .int .i64 0, .int .i64 0, .int .i64 0] 46) = U := ⟨_, rfl⟩
    have s3 : U3.heap.size = A + 3 := by rw [← hU3, World.size_alloc, s2]
    have e3 : U3.heap[A + 1 + 1]? = some (.cells #[.string s, .int .i64 0, .int .i64 0, .int .i64 0, .int .i64 0] 46 (0, 0)) := by rw [← hU3]; exact heap_alloc_at _ _ _ s2.symm
    have b3 : Below U2.heap.size U2 U3 := by rw [← hU3]; exact (Below.refl _ U2).alloc (Nat.le_refl _) _
    rw [hU3] at hW4
    have s4 : W4.heap.size = A + 4 := by rw [← hW4, World.size_alloc, s3]
    have e4 : W4.heap[A + 1 + 1 + 1]? = some (.cells #[.pointer (some ⟨A + 1 + 1, 0, none⟩)] 42 (0, 0)) := by rw [← hW4]; exact heap_alloc_at _ _ _ s3.symm
    have b4 : Below U3.heap.size U3 W4 := by rw [← hW4]; exact (Below.refl _ U3).alloc (Nat.le_refl _) _
    refine ⟨b1.trans ((b2.trans ((b3.trans (b4.mono (by omega))).mono (by omega))).mono (by omega)), ⟨⟨Nat.zero_le _, HS.out, Nat.zero_le _⟩, 0, 0, (b4.block _ (by omega)).trans e3⟩, ?_, ?_, e4, s4⟩
    · rw [b4.block _ (by omega), b3.block _ (by omega), b2.block _ (by omega), e1]
    · rw [b4.block _ (by omega), b3.block _ (by omega), e2])
  have HC := hid (rd_whole H4.out.2.1 F HF.out)
  rw [HR.out] at HC
  have HX : Hid (∀ w5, Pt (A + 1 + 1) W4 w5 → w5.heap[A]? = some (.cells #[.slice none 0 0] 22 (0, 0)) ∧ w5.heap[A + 1]? = some (.cells #[.nilIface] 24 (0, 0)) ∧ w5.heap[A + 1 + 1 + 1]? = some (.cells #[.pointer (some ⟨A + 1 + 1, 0, none⟩)] 42 (0, 0)) ∧ Below w.heap.size w w5) := hid fun w5 h5 => by
    obtain ⟨g1, g2, g3, g4, g5, g6⟩ := H4.out
    refine ⟨(h5.block _ (by omega) (by omega)).trans g3, (h5.block _ (by omega) (by omega)).trans g4, (h5.block _ (by omega) (by omega)).trans g5, g1.trans (h5.below (fun k hk => ?_) g1.size)⟩
    show w.heap.size ≤ k
    have hk2 : k = A + 1 + 1 := hk
    omega
  clear hW4
  go_enter_defers Tryd.func7, Tryd.ntmps7
  go_wp2_with fail
  rw [HW4.out]
  refine HC.out.mono ?_
  clear HC
  rintro e w5 (⟨l, a, c, rfl, HQ⟩ | ⟨⟨v, rfl⟩, HQ⟩)
  · obtain ⟨x1, x2, x3, x4⟩ := HX.out w5 HQ.out.2.1
    have a1 : w5.cell? ⟨A, 0, none⟩ = some (.slice none 0 0) := by rw [cells_at x1 0]; rfl
    have a2 : w5.cell? ⟨A + 1, 0, none⟩ = some .nilIface := by rw [cells_at x2 0]; rfl
    have a3 := cells_free x1 0
    have a4 := cells_free x2 0
    have n1 : ¬ A + 1 = A := by omega
    obtain ⟨V, hV⟩ : ∃ V, (w5.setCell ⟨A, 0, none⟩ (.slice a l.length c)).setCell ⟨A + 1, 0, none⟩ .nilIface = V := ⟨_, rfl⟩
    have HV := hid hV
    have c1 : V.cell? ⟨A, 0, none⟩ = some (.slice a l.length c) := by
      have y1 : V.heap[A]? = some (.cells (#[Value.slice none 0 0].setIfInBounds 0 (.slice a l.length c)) 22 (0, 0)) := by
        rw [← hV]
        exact (heap_set_other _ (by omega) 0 _).trans (heap_set_at x1 _)
      rw [cells_at y1 0]; rfl
    have c2 : V.cell? ⟨A + 1, 0, none⟩ = some .nilIface := by
      have y2 : V.heap[A + 1]? = some (.cells (#[Value.nilIface].setIfInBounds 0 .nilIface) 24 (0, 0)) := by
        rw [← hV]
        exact heap_set_at ((heap_set_other w5 (show A + 1 ≠ A by omega) 0 _).trans x2) _
      rw [cells_at y2 0]; rfl
    have HO : Hid (ReO s w R (.returned (.tuple #[.slice a l.length c, .nilIface])) V) := hid (by
      have hs4 := H4.out.2.2.2.2.2
      have hVk : ∀ k, k ≠ A → k ≠ A + 1 → V.heap[k]? = w5.heap[k]? := fun k k1 k2 => by
        rw [← hV, heap_set_other _ k2, heap_set_other _ k1]
      have hb : Below w.heap.size w V := by
        rw [← hV]
        exact Part.below (F := fun k => w.heap.size ≤ k) (Part.setCell (Part.setCell ((Part.refl _ w).trans (Part.mono (F := fun k => w.heap.size ≤ k) (G := fun k => w.heap.size ≤ k) ⟨x4.os, x4.tape, x4.output, x4.size, fun k k1 _ => x4.block k k1⟩ (fun _ _ e => e)) (fun _ _ e => e)) (fun _ => by show w.heap.size ≤ A; omega) _) (fun _ => by show w.heap.size ≤ A + 1; omega) _) (fun _ e => e) (Nat.le_refl _)
      refine .inl ⟨l, a, c, rfl, hid ⟨HQ.out.1, hb, ?_⟩⟩
      exact HQ.out.2.2.nx fun k k1 k2 k3 => ⟨hVk k (by omega) (by omega), by omega, by simp⟩)
    clear HX H4 HW4 x1 x2 x3 hV HQ
    go_wp2_with fail
    rw [HV.out]
    refine leaves_cons (f := 17) (args := #[.pointer (some ⟨A + 1 + 1 + 1, 0, none⟩), .pointer (some ⟨A, 0, none⟩), .pointer (some ⟨A + 1, 0, none⟩)]) (by simp) (by simp [go_sem]) ?_
    refine (read_idle _ _ _ _).mono ?_
    rintro e u' w'' ⟨rfl, rfl, hw⟩
    subst hw
    clear a1 a2 a3 a4 n1 HV
    simp [Leaves, settle, results, Tryd.results7, go_sem, c1, c2]
    exact HO.out
  · obtain ⟨k, m, g1, g2, ⟨p0, o0, g3⟩, g4⟩ := HQ.out
    obtain ⟨x1, x2, x3, x4⟩ := HX.out w5 g4
    have a1 : w5.cell? ⟨A, 0, none⟩ = some (.slice none 0 0) := by rw [cells_at x1 0]; rfl
    have a2 : w5.cell? ⟨A + 1, 0, none⟩ = some .nilIface := by rw [cells_at x2 0]; rfl
    have a3 := cells_free x1 0
    have a4 := cells_free x2 0
    have a5 : w5.cell? ⟨A + 1 + 1 + 1, 0, none⟩ = some (.pointer (some ⟨A + 1 + 1, 0, none⟩)) := by rw [cells_at x3 0]; rfl
    have a6 : w5.cell? ⟨A + 1 + 1, 3, none⟩ = some (.int .i64 ((s.size : Int) - (k : Int))) := by rw [cells_at g3 3]; rfl
    have a7 : w5.cell? ⟨A + 1 + 1, 4, none⟩ = some (.int .i64 (m : Int)) := by rw [cells_at g3 4]; rfl
    have n1 : ¬ A + 1 = A := by omega
    have HK := hid (read_catch (A + 1 + 1 + 1) A (A + 1) (A + 1 + 1) _ _ v _ _ [] w5 a5 a6 a7 a1 a2 a3 a4 n1)
    obtain ⟨V, hV⟩ : ∃ V, (w5.setCell ⟨A, 0, none⟩ (.slice none 0 0)).setCell ⟨A + 1, 0, none⟩ (.iface 44 (.agg #[.int .i64 ((s.size : Int) - (k : Int)), .int .i64 (m : Int)])) = V := ⟨_, rfl⟩
    have c1 : V.cell? ⟨A, 0, none⟩ = some (.slice none 0 0) := by
      have y1 : V.heap[A]? = some (.cells (#[Value.slice none 0 0].setIfInBounds 0 (.slice none 0 0)) 22 (0, 0)) := by
        rw [← hV]
        exact (heap_set_other _ (by omega) 0 _).trans (heap_set_at x1 _)
      rw [cells_at y1 0]; rfl
    have c2 : V.cell? ⟨A + 1, 0, none⟩ = some (.iface 44 (.agg #[.int .i64 ((s.size : Int) - (k : Int)), .int .i64 (m : Int)])) := by
      have y2 : V.heap[A + 1]? = some (.cells (#[Value.nilIface].setIfInBounds 0 (.iface 44 (.agg #[.int .i64 ((s.size : Int) - (k : Int)), .int .i64 (m : Int)]))) 24 (0, 0)) := by
        rw [← hV]
        exact heap_set_at ((heap_set_other w5 (show A + 1 ≠ A by omega) 0 _).trans x2) _
      rw [cells_at y2 0]; rfl
    have HO : Hid (ReO s w R (.returned (.tuple #[.slice none 0 0, .iface 44 (.agg #[.int .i64 ((s.size : Int) - (k : Int)), .int .i64 (m : Int)])])) V) := hid (by
      have hb : Below w.heap.size w V := by
        rw [← hV]
        exact Part.below (F := fun k => w.heap.size ≤ k) (Part.setCell (Part.setCell ((Part.refl _ w).trans (Part.mono (F := fun k => w.heap.size ≤ k) (G := fun k => w.heap.size ≤ k) ⟨x4.os, x4.tape, x4.output, x4.size, fun k k1 _ => x4.block k k1⟩ (fun _ _ e => e)) (fun _ _ e => e)) (fun _ => by show w.heap.size ≤ A; omega) _) (fun _ => by show w.heap.size ≤ A + 1; omega) _) (fun _ e => e) (Nat.le_refl _)
      exact .inr ⟨k, m, rfl, hid ⟨g1, g2, hb⟩⟩)
    rw [hV] at HK
    clear HX H4 HW4 x1 x2 x3 x4 hV HQ g1 g2 g3 g4 a1 a2 a3 a4 a5 a6 a7 n1
    go_wp2_with fail
    refine leaves_cons (f := 17) (args := #[.pointer (some ⟨A + 1 + 1 + 1, 0, none⟩), .pointer (some ⟨A, 0, none⟩), .pointer (some ⟨A + 1, 0, none⟩)]) (by simp) (by simp [go_sem]) ?_
    refine HK.out.mono ?_
    rintro e u' w'' ⟨rfl, rfl, hw⟩
    subst hw
    clear HK
    simp [Leaves, settle, results, Tryd.results7, go_sem, c1, c2]
    exact HO.out
end Go.Proofs.YtfobiknbjijphaaDoor

namespace Go.Proofs.YtfobiknbjijphaaDoor
open Go.RowKit
set_option linter.unusedVariables false
set_option linter.unusedSimpArgs false

/-- What the document's Read answers. -/
def ReZ (s : ByteArray) (w : World) (R : Rs (List Dt)) (e : Ending) (w' : World) : Prop :=
  (∃ l a c, e = .returned (.tuple #[.slice a l.length c, .int .i64 0, .int .i64 0]) ∧ Hid (R = .ok l [] ∧ Below w.heap.size w w' ∧ SS w.heap.size none w' l (.slice a l.length c))) ∨
  (∃ k n : Nat, e = .returned (.tuple #[.slice none 0 0, .int .i64 ((s.size - k : Nat) : Int), .int .i64 (n : Int)]) ∧ Hid (R = .bad k n ∧ k ≤ s.size ∧ Below w.heap.size w w'))
set_option maxHeartbeats 8000000 in
theorem z_read (s : ByteArray) (w : World) (hs : s.size ≤ 1099511627776) (F : Nat) (hF : s.size < F) : Calls Tryd.prog 8 #[.string s] w fun e w' => ReZ s w (alL F [] s.data.toList) e w' := by
  obtain ⟨B, hB⟩ : ∃ B, w.heap.size = B := ⟨_, rfl⟩
  obtain ⟨W1, hW⟩ : ∃ W1, w.alloc (.cells #[.string s, .int .i64 0, .int .i64 (-1), .int .i64 0] 50) = W1 := ⟨_, rfl⟩
  have hb1 : Below w.heap.size w W1 := by rw [← hW]; exact (Below.refl _ w).alloc (Nat.le_refl _) _
  have hs1 : W1.heap.size = B + 1 := by rw [← hW, World.size_alloc, hB]
  have r1 : Zr B s 0 W1 := ⟨⟨Nat.zero_le _, hs⟩, by rw [← hW]; exact heap_alloc_at _ _ _ hB.symm⟩
  obtain ⟨R, hR⟩ : ∃ R, alL F [] s.data.toList = R := ⟨_, rfl⟩
  have H0 : Hid (Zr B s 0 W1 ∧ Pt B W1 W1 ∧ DRow (B + 1) W1 (.slice none 0 0) [] ∧ Sta R [] (rst s 0) ∧ ([] : List Dt).length ≤ 0) := hid ⟨r1, Part.refl _ _, DRow.nil _ _, ⟨F, by rw [rst_len]; exact hF, hR.symm⟩, Nat.le_refl _⟩
  have HW1 : Hid (∀ V, Pt B W1 V → Below w.heap.size w V ∧ B + 1 ≤ V.heap.size) := hid fun V hV => by
    have h2 := hV.size
    refine ⟨hb1.trans (Part.below hV (fun k hk => ?_) (by omega)), by omega⟩
    show w.heap.size ≤ k
    have : k = B := hk
    omega
  have lM : (s.size : Int) ≤ 1099511627776 := by omega
  have HSz := hid hs
  rw [hR]
  have HW1s : Hid (W1.heap.size ≤ B + 1) := hid (by omega)
  clear hb1 r1 hR hs hF hs1
  go_enter Tryd.func8, Tryd.ntmps8
  go_wp2
  try rw [hW]
  try rw [hB]
  go_loopw [6] (fun v wr => ∃ (q : Nat) (acc : List Dt) (a : Option Addr) (c : Nat), v = .slice a acc.length c ∧ Hid (Zr B s q wr ∧ Pt B W1 wr ∧ DRow (B + 1) wr (.slice a acc.length c) acc ∧ Sta R acc (rst s q) ∧ acc.length ≤ q)) (fun _ wr => s.size - posOf B wr)
  case atStart => exact ⟨0, [], none, 0, rfl, H0⟩
  case round =>
    clear H0 hW
    obtain ⟨q, acc, a, c, rfl, HQ⟩ := hrel
    have hq0 := hid HQ.out.1.pos
    have HBk := hid (z_blanks HQ.out.1)
    go_wp2_with fail
    refine HBk.out.mono ?_
    clear HBk
    rintro e w1 ⟨rfl, HX⟩
    obtain ⟨q1, hq1, hq2, hq3⟩ := HX.out
    have hqq : q ≤ q1 := by
      have h1 := skB_len false (rst s q)
      rw [← hq2, rst_len, rst_len] at h1
      have h2 := hq1.1.1
      have h3 := HQ.out.1.1.1
      omega
    have H1 := hid (⟨hq1, HQ.out.2.1.trans_ hq3⟩ : Zr B s q1 w1 ∧ Pt B W1 w1)
    have HRow : Hid (DRow (B + 1) w1 (.slice a acc.length c) acc) := hid (HQ.out.2.2.1.keep (fun k k1 k2 => hq3.block k k2 (by omega)))
    have HLe := hid (⟨HQ.out.2.2.2.2, hqq, hq1.1.1⟩ : acc.length ≤ q ∧ q ≤ q1 ∧ q1 ≤ s.size)
    obtain ⟨c0, c1, c2b, c3b, f1, -, -⟩ := hq1.cells
    have l0 : (0 : Int) ≤ (q1 : Int) := by omega
    by_cases hlt : q1 < s.size
    · have m1 : (q1 : Int) < (s.size : Int) := by omega
      have m2 : ¬ (s.size : Int) ≤ (q1 : Int) := by omega
      have hcons : rst s q1 = s[q1] :: rst s (q1 + 1) := rst_cons hlt
      have hit := HQ.out.2.2.2.1.item (by rw [← hq2]; exact hcons)
      rw [← hcons] at hit
      have Hit := hid hit
      have HC : Hid (Calls Tryd.prog 20 #[.pointer (some ⟨B, 0, none⟩), .int .i64 1] w1 fun e w' => ZdO B s w1 (rdD 64 (rst s q1)) e w') := hid (z_all 64 B s q1 1 w1 hq1 rfl)
      clear HQ HX hq1 hq2 hq3 hit hcons
      go_wp2_with fail
      refine HC.out.mono ?_
      clear HC
      rintro e w3 (⟨d, a3, c3, a4, c4, q3, rfl, HY⟩ | ⟨k0, t0, a3, m3, c3, a4, m4, c4, rfl, HY⟩)
      · obtain ⟨T, hT⟩ : ∃ T, w3.heap.size = T := ⟨_, rfl⟩
        obtain ⟨w4, hw4⟩ : ∃ w4, w3.alloc (.cells #[.int .i64 d.kd, .string d.tx, .slice a3 d.its.length c3, .slice a4 d.tl.length c4] 34) = w4 := ⟨_, rfl⟩
        have hb4 : Below w3.heap.size w3 w4 := by rw [← hw4]; exact (Below.refl _ w3).alloc (Nat.le_refl _) _
        have dT : D4 w4 T (.int .i64 d.kd) (.string d.tx) (.slice a3 d.its.length c3) (.slice a4 d.tl.length c4) := by rw [← hw4]; exact heap_alloc_at _ _ _ hT.symm
        have r4 := HY.out.2.1.under hb4
        have p4 : Pt B w1 w4 := HY.out.2.2.1.trans_ (Pt.ofB hb4)
        have ds4 : DS w1.heap.size none w4 d (.agg #[.int .i64 d.kd, .string d.tx, .slice a3 d.its.length c3, .slice a4 d.tl.length c4]) := ds_keep HY.out.2.2.2 (fun k k1 k2 => hb4.block k k2) (Nat.le_refl _)
        have HM := hid (row_ready HRow.out (Nat.lt_succ_self _) (HW1.out _ H1.out.2).2 p4 ds4)
        have Hq3 : Hid (q1 < q3 ∧ q3 ≤ s.size) := hid ⟨by
          have h1 := (rdD_gets 64 _ _ _ HY.out.1).2.1
          rw [rst_len, rst_len] at h1
          omega, HY.out.2.1.1.1⟩
        have HL2 : Hid (acc.length + [d].length ≤ 1099511627776) := hid (by
          have h1 := HLe.out
          have h2 := HSz.out
          simp
          omega)
        have Hw4 := hid hw4
        have Hp4 := hid p4
        have Hr4 := hid r4
        have Hst := hid (Hit.out.2 _ _ HY.out.1)
        obtain ⟨-, -, g2b, -, -, -, -⟩ := HY.out.2.1.cells
        have hBT : B < T := by rw [← hT]; exact HY.out.2.1.lt
        have hg : w4.heap.size = T + 1 := by rw [← hw4, World.size_alloc, hT]
        rw [hg] at HM
        clear hb4 dT r4 p4 ds4 HY Hit hg
        subst hw4
        go_wp2_with (at_builtin; refine wpList_push rfl _ _ rfl (B + 1) (.slice a acc.length c) (.slice (some ⟨T + 1, 0, none⟩) 1 1) acc [d] rfl rfl (by exact HM.out.1) (by exact HM.out.2.1) (by exact HL2.out) (by exact HM.out.2.2) ?_)
        intro a' c' w5 hr5 hg5
        have HN : Hid (Zr B s q3 w5 ∧ Pt B W1 w5 ∧ DRow (B + 1) w5 (.slice a' (acc ++ [d]).length c') (acc ++ [d]) ∧ Sta R (acc ++ [d]) (rst s q3) ∧ (acc ++ [d]).length ≤ q3) := hid (by
          have h1 := HLe.out
          have h2 := Hq3.out
          obtain ⟨xs, o1, o2⟩ := HRow.out
          have hown : ∀ k, (Value.slice a acc.length c).ownBlock = some k → B + 1 ≤ k := fun k hk => (World.ownsRow.lt o1 k hk).1
          have hB4 := (Below.refl _ (w3.alloc (.cells #[.int .i64 d.kd, .string d.tx, .slice a3 d.its.length c3, .slice a4 d.tl.length c4] 34))).alloc (Nat.le_refl _) (Obj.cells #[.int .i64 d.kd, .string d.tx, .slice a3 d.its.length c3, .slice a4 d.tl.length c4] 34)
          have hs4 := hB4.size
          have hr4 := Hr4.out
          have hlt4 := hr4.lt
          have hz : Zr B s q3 w5 := ⟨hr4.1, ((hg5.block B (by omega) (fun e => by have := hown B e.symm; omega)).trans (hB4.block B hlt4)).trans hr4.2⟩
          have hW1s := (HW1.out _ H1.out.2).2
          have hp : Pt B W1 w5 := ((H1.out.2.trans_ Hp4.out).trans_ (Pt.ofB hB4)).grown hg5 (fun k e1 e2 => by have := hown k e1; have := (HW1.out W1 (Part.refl _ _)).2; have hW1s2 : W1.heap.size ≤ B + 1 := HW1s.out; omega)
          have hl : (acc ++ [d]).length = acc.length + [d].length := List.length_append
          exact ⟨hz, hp, by rw [hl]; exact hr5, Hst.out, by rw [hl]; simp; omega⟩)
        clear hr5 hg5 HM Hr4 Hp4 HRow Hst H1 Hw4
        have Hm := hid HN.out.1.pos
        go_wp2
        go_roundw
        case rel => exact ⟨q3, acc ++ [d], a', c', by simp, HN⟩
        case measure =>
          refine Nat.lt_of_le_of_lt (Nat.le_of_eq (congrArg (s.size - ·) Hm.out)) ?_
          have h2 := hq0.out
          have h3 := HLe.out
          have h4 := Hq3.out
          rw [h2]
          omega
      · obtain ⟨k, j, g1, g2, g3⟩ := HY.out
        obtain ⟨T, hT⟩ : ∃ T, w3.heap.size = T := ⟨_, rfl⟩
        obtain ⟨g2a, p0, g2c, g2d, g2e⟩ := g2
        obtain ⟨N, hN⟩ : ∃ N : Int, ((s.size - k : Nat) : Int) = N := ⟨_, rfl⟩
        have b2 : w3.cell? ⟨B, 2, none⟩ = some (.int .i64 N) := by rw [← hN, cells_at g2e 2]; rfl
        have b3 : w3.cell? ⟨B, 3, none⟩ = some (.int .i64 (j : Int)) := by rw [cells_at g2e 3]; rfl
        have n0 : (0 : Int) ≤ N := by omega
        have n1 : ¬ N < 0 := by omega
        have hBT : B < T := by rw [← hT]; exact (Array.getElem?_eq_some_iff.1 g2e).1
        have HF : Hid (∀ V, Below w3.heap.size w3 V → ReZ s w R (.returned (.tuple #[.slice none 0 0, .int .i64 N, .int .i64 (j : Int)])) V) := hid fun V hV => .inr ⟨k, j, by rw [← hN], hid ⟨Hit.out.1 _ _ g1, g2a, (HW1.out _ ((H1.out.2.trans_ g3).trans_ (Pt.ofB hV))).1⟩⟩
        have HBl : Hid (∀ k, Below w3.heap.size w3 ((w3.alloc (.cells #[.int .i64 k0, .string t0, .slice a3 m3 c3, .slice a4 m4 c4] 34)).drewN k)) := hid fun k => blw_drewN k ((Below.refl _ w3).alloc (Nat.le_refl _) _)
        clear g1 g2a g2c g2d g2e g3 HY Hit hN
        go_wp2
        go_quiet (fail)
        go_wp2
        go_ret3
        exact HF.out _ (HBl.out _)
    · have m1 : ¬ (q1 : Int) < (s.size : Int) := by omega
      have m2 : (s.size : Int) ≤ (q1 : Int) := by omega
      have HF : Hid (ReZ s w R (.returned (.tuple #[.slice a acc.length c, .int .i64 0, .int .i64 0])) w1) := hid (.inl ⟨acc, a, c, rfl, hid ⟨HQ.out.2.2.2.1.stop (by rw [← hq2]; exact rst_nil (by omega)), (HW1.out _ H1.out.2).1, HRow.out.ss.nx (fun k k1 k2 k3 => ⟨rfl, by omega, k2⟩)⟩⟩)
      clear HQ HX hq1 hq2 hq3 H1 HRow HLe hlt
      go_wp2
      go_ret3
      exact HF.out
end Go.Proofs.YtfobiknbjijphaaDoor
