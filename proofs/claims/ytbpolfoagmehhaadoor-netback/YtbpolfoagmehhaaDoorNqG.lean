/-
  net's codecs: how each reads its part into the request.
-/
import Derived.Test.YtbpolfoagmehhaaDoorNqF
namespace Go.Proofs.YtbpolfoagmehhaaDoor
open Go.RowKit
set_option linter.unusedVariables false

theorem set_at {w : World} {g i : Nat} {cs : Array Value} {t : TypeId} (h : w.heap[g]? = some (.cells cs t (0, 0))) (v : Value) : (w.setCell ⟨g, i, none⟩ v).heap[g]? = some (.cells (cs.setIfInBounds i v) t (0, 0)) := by
  simp [World.setCell, Array.getElem?_modify, h]
/-- All blocks but R and q stay. -/
structure K2 (R q : Nat) (w w' : World) : Prop where
  os : w'.os = w.os
  tape : w'.tape = w.tape
  output : w'.output = w.output
  size : w.heap.size ≤ w'.heap.size
  block : ∀ k, k < w.heap.size → k ≠ R → k ≠ q → w'.heap[k]? = w.heap[k]?
theorem K2.refl (R q : Nat) (w : World) : K2 R q w w := ⟨rfl, rfl, rfl, Nat.le_refl _, fun _ _ _ _ => rfl⟩
theorem K2.trans {R q : Nat} {a b c : World} (h : K2 R q a b) (k : K2 R q b c) : K2 R q a c :=
  ⟨k.os.trans h.os, k.tape.trans h.tape, k.output.trans h.output, Nat.le_trans h.size k.size, fun i h1 h2 h3 => (k.block i (Nat.lt_of_lt_of_le h1 h.size) h2 h3).trans (h.block i h1 h2 h3)⟩
theorem K2.ofOnly {R q : Nat} {w w' : World} (h : Only R w w') : K2 R q w w' := ⟨h.os, h.tape, h.output, Nat.le_of_eq h.size.symm, fun k _ h1 _ => h.block k h1⟩
theorem K2.ofOnly2 {R q : Nat} {w w' : World} (h : Only q w w') : K2 R q w w' := ⟨h.os, h.tape, h.output, Nat.le_of_eq h.size.symm, fun k _ _ h1 => h.block k h1⟩
theorem K2.alloc (R q : Nat) (w : World) (o : Obj) : K2 R q w (w.alloc o) := ⟨rfl, rfl, rfl, by simp, fun k h _ _ => Below.heap_alloc _ _ _ h⟩
theorem K2.below {R q B : Nat} {w w' : World} (h : K2 R q w w') (hB : B ≤ w.heap.size) (h1 : B ≤ R) (h2 : B ≤ q) : Below B w w' := ⟨h.os, h.tape, h.output, h.size, fun k hk => h.block k (by omega) (by omega) (by omega)⟩
/-- A reader, and the request that is filled. -/
structure RS (w : World) (R : Nat) (ao : Option Addr) (cap : Nat) (f : Nat → Int) (n p q : Nat) (cs : Array Value) (T : TypeId) : Prop where
  rd : RdInv w R ao cap f n p
  rq : w.heap[q]? = some (.cells cs T (0, 0))
  ne : q ≠ R
  ap : ∀ g, ao = some ⟨g, 0, none⟩ → 0 < n → g ≠ q
section
variable {w : World} {R : Nat} {ao : Option Addr} {cap : Nat} {f : Nat → Int} {n p q : Nat} {cs : Array Value} {T : TypeId}
theorem RS.alloc (h : RS w R ao cap f n p q cs T) (o : Obj) : RS (w.alloc o) R ao cap f n p q cs T :=
  ⟨h.rd.alloc o, (Below.heap_alloc _ _ _ (Array.getElem?_eq_some_iff.1 h.rq).1).trans h.rq, h.ne, h.ap⟩
theorem RS.drew (h : RS w R ao cap f n p q cs T) : RS w.drew R ao cap f n p q cs T := ⟨h.rd.drewN 1, h.rq, h.ne, h.ap⟩
theorem RS.only {w' : World} {p' : Nat} (h : RS w R ao cap f n p q cs T) (ho : Only R w w') (hr : RdInv w' R ao cap f n p') : RS w' R ao cap f n p' q cs T := ⟨hr, (ho.block q h.ne).trans h.rq, h.ne, h.ap⟩
theorem RS.set (h : RS w R ao cap f n p q cs T) (o : Nat) (v : Value) : RS (w.setCell ⟨q, o, none⟩ v) R ao cap f n p q (cs.setIfInBounds o v) T :=
  ⟨h.rd.kept (Below.heap_setCell _ _ _ _ (Ne.symm h.ne)) (fun g hg h0 => Below.heap_setCell _ _ _ _ (h.ap g hg h0)), set_at h.rq v, h.ne, h.ap⟩
def mkE (f : Nat → Int) (n p : Nat) (m : Int) : Int := if n - p = 0 ∨ f p ≠ m then 5 else 0
def bP (n p : Nat) : Nat := if n - p = 0 then p else p + 1
set_option maxHeartbeats 1000000 in
theorem r_mark (h : RS w R ao cap f n p q cs T) (b : Nat) (m : Int) (hb : w.heap[b]? = some (.cells #[.int .u8 m] 5 (0, 0))) (hbR : b ≠ R) :
    Calls Tryd.prog 47 #[.pointer (some ⟨R, 0, none⟩), .pointer (some ⟨b, 0, none⟩)] w fun e w' => e = .returned (.int .i64 (mkE f n p m)) ∧ RS w' R ao cap f n (bP n p) q cs T ∧ K2 R q w w' := by
  have HW := wByte h.rd
  have HS : Hid (∀ w2 p2, Only R w w2 → RdInv w2 R ao cap f n p2 → w2.cell? ⟨b, 0, none⟩ = some (.int .u8 m) ∧ RS w2 R ao cap f n p2 q cs T ∧ K2 R q w w2) := fun w2 p2 ho hr => ⟨cell_of ((ho.block b hbR).trans hb) 0, h.only ho hr, K2.ofOnly ho⟩
  by_cases hz : n - p = 0
  · rw [if_pos hz, if_pos hz, if_pos hz] at HW
    rw [show mkE f n p m = 5 by simp [mkE, hz], show bP n p = p by simp [bP, hz]]
    clear h hb hz
    go_enter Tryd.func47, Tryd.ntmps47
    go_wp2_with (go_at_call 48; refine HW.mono ?_; rintro e w2 ⟨rfl, k1, k2⟩; obtain ⟨s1, s2, s3⟩ := HS.out w2 _ k2 k1)
    go_ret
    exact ⟨rfl, s2, s3⟩
  · rw [if_neg hz, if_neg hz, if_neg hz] at HW
    rw [show bP n p = p + 1 by simp [bP, hz]]
    generalize hfp : f p = x at HW
    by_cases hm : x = m
    · subst hm
      rw [show mkE f n p x = 0 by simp [mkE, hz, hfp]]
      clear h hb hz hfp
      go_enter Tryd.func47, Tryd.ntmps47
      go_wp2_with (go_at_call 48; refine HW.mono ?_; rintro e w2 ⟨rfl, k1, k2⟩; obtain ⟨s1, s2, s3⟩ := HS.out w2 _ k2 k1)
      go_ret
      exact ⟨rfl, s2, s3⟩
    · rw [show mkE f n p m = 5 by simp [mkE, hfp, hm]]
      have hm' : (x != m) = true := by simpa using hm
      clear h hb hz hfp hm
      go_enter Tryd.func47, Tryd.ntmps47
      go_wp2_with (go_at_call 48; refine HW.mono ?_; rintro e w2 ⟨rfl, k1, k2⟩; obtain ⟨s1, s2, s3⟩ := HS.out w2 _ k2 k1)
      go_ret
      exact ⟨rfl, s2, s3⟩
set_option maxHeartbeats 1000000 in
theorem r_num (h : RS w R ao cap f n p q cs T) (b o : Nat) (hb : w.heap[b]? = some (.cells #[.pointer (some ⟨q, o, none⟩)] 69 (0, 0))) (hbR : b ≠ R) (hbq : b ≠ q) (ho : o < cs.size) :
    Calls Tryd.prog 51 #[.pointer (some ⟨R, 0, none⟩), .pointer (some ⟨b, 0, none⟩)] w fun e w' => e = .returned (.int .i64 (Wm.num (sh f p) (n - p)).2.2) ∧ RS w' R ao cap f n (p + (Wm.num (sh f p) (n - p)).2.1.toNat) q (cs.setIfInBounds o (.int .i64 (Wm.num (sh f p) (n - p)).1)) T ∧ K2 R q w w' := by
  have HW := wUint h.rd
  have HW2 : Calls Tryd.prog 52 #[.pointer (some ⟨R, 0, none⟩)] w.drew fun e w' => e = .returned (.tuple #[.int .i64 (Wm.num (sh f p) (n - p)).1, .int .i64 (Wm.num (sh f p) (n - p)).2.2]) ∧ RdInv w' R ao cap f n (p + (Wm.num (sh f p) (n - p)).2.1.toNat) ∧ Only R w.drew w' := wUint h.drew.rd
  generalize Wm.num (sh f p) (n - p) = N at *
  obtain ⟨u, hu⟩ : ∃ u, cs[o]? = some u := ⟨_, Array.getElem?_eq_getElem ho⟩
  have HS : Hid (∀ w2, Only R w.drew w2 → RdInv w2 R ao cap f n (p + N.2.1.toNat) → w2.cell? ⟨b, 0, none⟩ = some (.pointer (some ⟨q, o, none⟩)) ∧ w2.cell? ⟨q, o, none⟩ = some u ∧ w2.frozen? ⟨q, o, none⟩ = false ∧ Hid (RS (w2.setCell ⟨q, o, none⟩ (.int .i64 N.1)) R ao cap f n (p + N.2.1.toNat) q (cs.setIfInBounds o (.int .i64 N.1)) T ∧ K2 R q w (w2.setCell ⟨q, o, none⟩ (.int .i64 N.1)))) := fun w2 ho' hr => by
    have hq2 : w2.heap[q]? = some (.cells cs T (0, 0)) := (ho'.block q h.ne).trans h.rq
    refine ⟨cell_of ((ho'.block b hbR).trans hb) 0, (cell_of hq2 o).trans hu, by simp [World.frozen?, hq2], (h.drew.only ho' hr).set o _, ?_⟩
    exact (K2.ofOnly ((Only.refl R w).drewN 1 |>.trans ho')).trans (K2.ofOnly2 ((Only.refl q w2).setCell rfl _))
  have hc : w.cell? ⟨b, 0, none⟩ = some (.pointer (some ⟨q, o, none⟩)) := cell_of hb 0
  have HK : Hid (∀ (w2 : World) (v : Value), w2.cell? ⟨b, 0, none⟩ = some (.pointer (some ⟨q, o, none⟩)) → (w2.setCell ⟨q, o, none⟩ v).cell? ⟨b, 0, none⟩ = some (.pointer (some ⟨q, o, none⟩))) := fun w2 v h2 => by
    rw [World.cell?_setCell_other _ _ _ _ (by first | (simp; done) | (simp; omega))]; exact h2
  clear h hb HW
  go_enter Tryd.func51, Tryd.ntmps51
  go_wp2
  go_region_held2 (fun wq => wq.cell? ⟨b, 0, none⟩ = some (.pointer (some ⟨q, o, none⟩))) (first | assumption | exact HK.out _ _ (by assumption)) ((go_at_call 52; refine HW2.mono ?_; rintro e w2 ⟨rfl, k1, k2⟩; obtain ⟨s1, s2, s3, s4⟩ := HS.out w2 k2 k1))
  go_wp2
  go_ret
  exact ⟨rfl, s4.out⟩
set_option maxHeartbeats 1000000 in
theorem r_text (h : RS w R ao cap f n p q cs T) (b c o : Nat) (most : Int) (hb : w.heap[b]? = some (.cells #[.pointer (some ⟨q, o, none⟩)] 71 (0, 0))) (hcc : w.heap[c]? = some (.cells #[.int .i64 most] 3 (0, 0))) (hbR : b ≠ R) (hbq : b ≠ q) (hcR : c ≠ R) (hcq : c ≠ q) (ho : o < cs.size) :
    Calls Tryd.prog 55 #[.pointer (some ⟨R, 0, none⟩), .pointer (some ⟨c, 0, none⟩), .pointer (some ⟨b, 0, none⟩)] w fun e w' => e = .returned (.int .i64 (txt f n p most).2.1) ∧ RS w' R ao cap f n (txt f n p most).2.2 q (cs.setIfInBounds o (.string (txt f n p most).1)) T ∧ K2 R q w w' := by
  have HW2 : Calls Tryd.prog 56 #[.pointer (some ⟨R, 0, none⟩), .int .i64 most] w.drew fun e w' => e = .returned (.tuple #[.string (txt f n p most).1, .int .i64 (txt f n p most).2.1]) ∧ RdInv w' R ao cap f n (txt f n p most).2.2 ∧ Only R w.drew w' := wText h.drew.rd most
  generalize txt f n p most = N at *
  obtain ⟨u, hu⟩ : ∃ u, cs[o]? = some u := ⟨_, Array.getElem?_eq_getElem ho⟩
  have HS : Hid (∀ w2, Only R w.drew w2 → RdInv w2 R ao cap f n N.2.2 → w2.cell? ⟨b, 0, none⟩ = some (.pointer (some ⟨q, o, none⟩)) ∧ w2.cell? ⟨c, 0, none⟩ = some (.int .i64 most) ∧ w2.cell? ⟨q, o, none⟩ = some u ∧ w2.frozen? ⟨q, o, none⟩ = false ∧ Hid (RS (w2.setCell ⟨q, o, none⟩ (.string N.1)) R ao cap f n N.2.2 q (cs.setIfInBounds o (.string N.1)) T ∧ K2 R q w (w2.setCell ⟨q, o, none⟩ (.string N.1)))) := fun w2 ho' hr => by
    have hq2 : w2.heap[q]? = some (.cells cs T (0, 0)) := (ho'.block q h.ne).trans h.rq
    refine ⟨cell_of ((ho'.block b hbR).trans hb) 0, cell_of ((ho'.block c hcR).trans hcc) 0, (cell_of hq2 o).trans hu, by simp [World.frozen?, hq2], (h.drew.only ho' hr).set o _, ?_⟩
    exact (K2.ofOnly ((Only.refl R w).drewN 1 |>.trans ho')).trans (K2.ofOnly2 ((Only.refl q w2).setCell rfl _))
  have hc : w.cell? ⟨b, 0, none⟩ = some (.pointer (some ⟨q, o, none⟩)) := cell_of hb 0
  have hc2 : w.cell? ⟨c, 0, none⟩ = some (.int .i64 most) := cell_of hcc 0
  have HK : Hid (∀ (w2 : World) (v : Value), w2.cell? ⟨b, 0, none⟩ = some (.pointer (some ⟨q, o, none⟩)) → w2.cell? ⟨c, 0, none⟩ = some (.int .i64 most) → (w2.setCell ⟨q, o, none⟩ v).cell? ⟨b, 0, none⟩ = some (.pointer (some ⟨q, o, none⟩)) ∧ (w2.setCell ⟨q, o, none⟩ v).cell? ⟨c, 0, none⟩ = some (.int .i64 most)) := fun w2 v h2 h3 => by
    rw [World.cell?_setCell_other _ _ _ _ (by first | (simp; done) | (simp; omega)), World.cell?_setCell_other _ _ _ _ (by first | (simp; done) | (simp; omega))]; exact ⟨h2, h3⟩
  clear h hb hcc
  go_enter Tryd.func55, Tryd.ntmps55
  go_wp2
  go_region_held2 (fun wq => wq.cell? ⟨b, 0, none⟩ = some (.pointer (some ⟨q, o, none⟩)) ∧ wq.cell? ⟨c, 0, none⟩ = some (.int .i64 most)) (first | exact ⟨by assumption, by assumption⟩ | exact HK.out _ _ (by assumption) (by assumption)) ((go_at_call 56; refine HW2.mono ?_; rintro e w2 ⟨rfl, k1, k2⟩; obtain ⟨s1, s5, s2, s3, s4⟩ := HS.out w2 k2 k1))
  go_wp2
  go_ret
  exact ⟨rfl, s4.out⟩
end
end Go.Proofs.YtbpolfoagmehhaaDoor
