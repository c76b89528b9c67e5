/-
  The law DiskOf: two disks of an image, and copies of them, that go their own ways: the walk. Condition: at most 1048576 calls and sectors, each of at most 1048576 bytes and places.
-/
import Derived.Test.YtnoaobnjecapjaaLivesLaw
import Derived.Test.YtnoaobnjecapjaaRkOf
import Derived.Test.YtnoaobnjecapjaaRkCopy
import Derived.Test.YtnoaobnjecapjaaDkCopy2
namespace Go.Proofs.Ytnoaobnjecapjaa
open Go.RowKit
set_option linter.unusedVariables false

/-- A disk and the document's, that lie in P's blocks. -/
def Pair (w : World) (P : Nat → Prop) (D X n M : Nat) : Prop := Mid w P D X n M w ∧ ∀ q, P q → q < w.heap.size
/-- Two such pairs, none in common, in blocks from base on, none of them kb, which holds ob. -/
def Four (w : World) (base kb : Nat) (ob : Obj) (D X C Y n M M' : Nat) : Prop := w.heap[kb]? = some ob ∧ ∃ Pd Pc : Nat → Prop, Pair w Pd D X n M ∧ Pair w Pc C Y n M' ∧ (∀ q, Pd q → ¬ Pc q) ∧ ∀ q, Pd q ∨ Pc q → base ≤ q ∧ q ≠ kb
def One (w : World) (base D X n M : Nat) : Prop := ∃ P : Nat → Prop, Pair w P D X n M ∧ ∀ q, P q → base ≤ q
theorem Four.swap {w : World} {base kb : Nat} {ob : Obj} {D X C Y n M M' : Nat} (h : Four w base kb ob D X C Y n M M') : Four w base kb ob C Y D X n M' M := by
  obtain ⟨h0, Pd, Pc, h1, h2, h3, h4⟩ := h
  exact ⟨h0, Pc, Pd, h2, h1, fun q a b => h3 q b a, fun q hq => h4 q hq.symm⟩
theorem Four.one {w : World} {base kb : Nat} {ob : Obj} {D X C Y n M M' : Nat} (h : Four w base kb ob D X C Y n M M') : One w base D X n M := by
  obtain ⟨_, Pd, Pc, h1, h2, h3, h4⟩ := h
  exact ⟨Pd, h1, fun q hq => (h4 q (.inl hq)).1⟩
theorem Pair.part {w w' : World} {P Q : Nat → Prop} {D X n M : Nat} (h : Pair w P D X n M) (hp : Part Q w w') (hn : ∀ q, P q → ¬ Q q) : Pair w' P D X n M := by
  obtain ⟨⟨_, F, G, dur, m, tf, ld, h1, h2, h3, h4, h5⟩, hl⟩ := h
  have lF := h1.lt
  have lG := h2.lt
  have s := hp.size
  have inP : ∀ k, F k ∨ G k → P k := fun k hk => by
    rcases h4 k hk with a | a
    · exact a
    · rcases hk with b | b
      · have := lF k b; omega
      · have := lG k b; omega
  exact ⟨⟨Part.refl _ _, F, G, dur, m, tf, ld, h1.part hp (fun k hk => hn k (inP k (.inl hk))), h2.part hp (fun k hk => hn k (inP k (.inr hk))), h3, fun k hk => .inl (inP k hk), h5⟩, fun q hq => by have := hl q hq; omega⟩
theorem Pair.below {w w' : World} {P : Nat → Prop} {D X n M : Nat} (h : Pair w P D X n M) (hb : Below w.heap.size w w') : Pair w' P D X n M := h.part (Part.ofBelow (F := fun _ => False) hb) (fun _ _ h => h)
theorem One.below {w w' : World} {base D X n M : Nat} (h : One w base D X n M) (hb : Below w.heap.size w w') : One w' base D X n M := by
  obtain ⟨P, h1, h2⟩ := h
  exact ⟨P, h1.below hb, h2⟩
theorem Four.below {w w' : World} {base kb : Nat} {ob : Obj} {D X C Y n M M' : Nat} (h : Four w base kb ob D X C Y n M M') (hb : Below w.heap.size w w') : Four w' base kb ob D X C Y n M M' := by
  obtain ⟨h0, Pd, Pc, h1, h2, h3⟩ := h
  exact ⟨by rw [hb.block kb (Array.getElem?_eq_some_iff.1 h0).1]; exact h0, Pd, Pc, h1.below hb, h2.below hb, h3⟩

/-- A call on the first pair. -/
theorem four_does {w0 w : World} {kb : Nat} {ob : Obj} {D X C Y n M M' : Nat} {b off : Nat} {op I : Int} {a : Option Addr} {l c : Nat} {f : Nat → Int} {ak : Option Addr} {K ck : Nat} {kf : Nat → Int} (hd : DoIn w0 b off op I a l c f ak K ck kf) (hb : Below w0.heap.size w0 w) (hM : M ≤ 549755813886) (h : Four w w0.heap.size kb ob D X C Y n M M') :
    Calls Try.prog 6 #[.pointer (some ⟨D, 0, none⟩), .pointer (some ⟨X, 0, none⟩), .agg #[.int .i64 op, .int .i64 I, .slice a l c, .slice ak K ck]] w fun e w' => e = .returned (.bool true) ∧ Hid (Four w' w0.heap.size kb ob D X C Y n (M + 1) M' ∧ Below w0.heap.size w0 w') := by
  obtain ⟨h0, Pd, Pc, h1, h2, h3, h4⟩ := h
  have hkl : kb < w.heap.size := (Array.getElem?_eq_some_iff.1 h0).1
  refine (does_ok D X n M Pd op I a l c f ak K ck kf w h1.1 h1.2 (hd.asked hb (fun q hq => (h4 q (.inl hq)).1)) hM).mono ?_
  rintro e w' ⟨rfl, hm⟩
  have hp := hm.1
  obtain ⟨P', p1, p2, p3⟩ := hm.now
  have s := hb.size
  refine ⟨rfl, ⟨?_, P', Pc, ⟨p3, p1⟩, h2.part hp (fun q hq hq2 => h3 q hq2 hq), fun q hq hc => ?_, fun q hq => ?_⟩, hb.trans (hp.below (fun q hq => (h4 q (.inl hq)).1) s)⟩
  · rw [hp.block kb hkl (fun hq => (h4 kb (.inl hq)).2 rfl)]; exact h0
  · rcases p2 q hq with a | a
    · exact h3 q a hc
    · have := h2.2 q hc; omega
  · rcases hq with hq | hq
    · rcases p2 q hq with a | a
      · exact h4 q (.inl a)
      · exact ⟨by omega, by omega⟩
    · exact h4 q (.inr hq)
theorem one_same {w : World} {base D X n M : Nat} (hM : M ≤ 549755813886) (h : One w base D X n M) :
    Calls Try.prog 7 #[.pointer (some ⟨D, 0, none⟩), .pointer (some ⟨X, 0, none⟩)] w fun e w' => e = .returned (.bool true) ∧ Below w.heap.size w w' := by
  obtain ⟨P, ⟨⟨_, F, G, dur, m, tf, ld, h1, h2, h3, h4, h5⟩, _⟩, _⟩ := h
  exact sameDisks D X n m F G dur tf ld w h1 h2 (by omega)
/-- The copies of both. -/
theorem one_copy {w0 w : World} {D X n M : Nat} {kb : Nat} {ob : Obj} (hb : Below w0.heap.size w0 w) (hM : M ≤ 1048576) (h0 : w.heap[kb]? = some ob) (h : ∃ P : Nat → Prop, Pair w P D X n M ∧ ∀ q, P q → w0.heap.size ≤ q ∧ q ≠ kb) :
    Calls Try.prog 9 #[.pointer (some ⟨D, 0, none⟩)] w fun e w' => ∃ C, e = .returned (.pointer (some ⟨C, 0, none⟩)) ∧ Hid (Calls Try.prog 10 #[.pointer (some ⟨X, 0, none⟩)] w' fun e w'' => ∃ Y, e = .returned (.pointer (some ⟨Y, 0, none⟩)) ∧ Hid (Four w'' w0.heap.size kb ob D X C Y n M M ∧ Below w0.heap.size w0 w'')) := by
  have hkl : kb < w.heap.size := (Array.getElem?_eq_some_iff.1 h0).1
  obtain ⟨P, hPr, hP⟩ := h
  have hPr' := hPr
  obtain ⟨⟨_, F, G, dur, m, tf, ld, h1, h2, h3, h4, h5⟩, hl⟩ := hPr'
  have s0 := hb.size
  refine (dkCopy D n m F dur tf ld w h1 (by omega)).mono ?_
  rintro e w' ⟨C, rfl, hc, hb1⟩
  have s1 := hb1.size
  refine ⟨C, rfl, ?_⟩
  refine (rkCopy X n m G dur tf ld w' (h2.below hb1) (by omega)).mono ?_
  rintro e w'' ⟨Y, rfl, hy, hb2⟩
  have s2 := hb2.size
  refine ⟨Y, rfl, ⟨by rw [hb2.block kb (by omega), hb1.block kb hkl]; exact h0, P, fun q => w.heap.size ≤ q ∧ q < w''.heap.size, (hPr.below hb1).below hb2, ⟨⟨Part.refl _ _, _, _, dur, m, tf, ld, hc.below hb2, hy, fun k a b => by omega, fun k hk => .inl ?_, h5⟩, fun q hq => hq.2⟩, fun q hq hq2 => ?_, fun q hq => ?_⟩, (hb.trans (hb1.mono s0)).trans (hb2.mono (by omega))⟩
  · rcases hk with a | a
    · exact ⟨a.1, by omega⟩
    · exact ⟨by omega, a.2⟩
  · have := hl q hq; omega
  · rcases hq with a | a
    · exact hP q a
    · exact ⟨by omega, by omega⟩

set_option maxRecDepth 100000 in
set_option maxHeartbeats 1000000 in
theorem disks_in (a0 : Option Addr) (N c0 : Nat) (A : Nat → Option Addr) (L C : Nat → Nat) (f : Nat → Nat → Int) (w : World) (h : Img w a0 N A L C f) (hN : N ≤ 1048576) (hL : ∀ i, i < N → L i ≤ 1048576) (hby : ∀ i j, 0 ≤ f i j ∧ f i j ≤ 255) :
    Calls Try.prog 8 #[.slice a0 N c0] w fun e w' => (e = .returned (.tuple #[.pointer none, .pointer none, .bool true]) ∧ Below w.heap.size w w') ∨ ∃ D X, e = .returned (.tuple #[.pointer (some ⟨D, 0, none⟩), .pointer (some ⟨X, 0, none⟩), .bool true]) ∧ One w' w.heap.size D X N 0 ∧ Below w.heap.size w w' := by
  have H : Hid (∀ wq, Below w.heap.size w wq → Img wq a0 N A L C f) := fun wq hq => h.below hq
  have HIm : Hid (Calls Try.prog 33 #[.slice a0 N c0] w fun e w' => ∃ ag cg A' C', e = .returned (.slice ag N cg) ∧ Img w' ag N A' L C' f ∧ (N ≤ cg ∧ cg ≤ 9223372036854775807) ∧ Below w.heap.size w w') := plImage a0 N c0 A L C f w h hN hL
  have HBy : Hid (∀ i j, 0 ≤ f i j ∧ f i j ≤ 255) := hby
  clear h hL hby
  go_enter Try.func8, Try.ntmps8
  go_wp2_with fail
  refine HIm.out.mono ?_
  rintro e w1 ⟨ag, cg, A', C', rfl, hI, hcg, hb1⟩
  have HI : Hid (Img w1 ag N A' L C' f) := hI
  have hcg1 := hcg.1
  have s1 := hb1.size
  clear hI hcg HIm
  by_cases hF : N < 1 ∨ 4096 < N
  · go_wp2_with fail
    refine (dOf_size ag N cg w1 hF).mono ?_
    rintro e w2 ⟨rfl, hb2⟩
    go_wp2_with fail
    refine (rOf_size a0 N c0 w2 hF).mono ?_
    rintro e w3 ⟨rfl, hb3⟩
    have hb : Below w.heap.size w w3 := (hb1.trans (hb2.mono s1)).trans (hb3.mono (Nat.le_trans s1 hb2.size))
    clear hb1 hb2 hb3 hF
    go_wp2
    go_ret3
    exact .inl ⟨rfl, hb⟩
  · have n1 : 1 ≤ N := by omega
    have n2 : N ≤ 4096 := by omega
    clear hF
    go_wp2_with fail
    refine (dOf_in ag N cg A' L C' f w1 HI.out n1 n2 hcg1 HBy.out).mono ?_
    rintro e w2 (⟨hno, rfl, hb2⟩ | ⟨hall, D, rfl, hD, hb2⟩)
    · have hb12 : Below w.heap.size w w2 := hb1.trans (hb2.mono s1)
      have HNo : Hid (∃ i, i < N ∧ L i ≠ 128) := hno
      clear hno
      go_wp2_with fail
      refine (rOf_in a0 N c0 A L C f w2 (H.out w2 hb12) n1 n2 HBy.out).mono ?_
      rintro e w3 (⟨_, rfl, hb3⟩ | ⟨hall, _⟩)
      · have hb : Below w.heap.size w w3 := hb12.trans (hb3.mono hb12.size)
        clear hb1 hb2 hb3 hb12
        go_wp2
        go_ret3
        exact .inl ⟨rfl, hb⟩
      · obtain ⟨i, hi, hne⟩ := HNo.out
        exact absurd (hall i hi) hne
    · have hb12 : Below w.heap.size w w2 := hb1.trans (hb2.mono s1)
      have s2 := hb2.size
      have HAll : Hid (∀ i, i < N → L i = 128) := hall
      have HD : Hid (Dk w2 D (fun k => w1.heap.size ≤ k ∧ k < w2.heap.size) N (flat f) 0 (fun _ => 0) (fun _ => 0)) := hD
      clear hall hD
      go_wp2_with fail
      refine (rOf_in a0 N c0 A L C f w2 (H.out w2 hb12) n1 n2 HBy.out).mono ?_
      rintro e w3 (⟨⟨i, hi, hne⟩, _⟩ | ⟨_, X, rfl, hX, hb3⟩)
      · exact absurd (HAll.out i hi) hne
      · have hb : Below w.heap.size w w3 := hb12.trans (hb3.mono hb12.size)
        have s3 := hb3.size
        have HO : Hid (One w3 w.heap.size D X N 0) := ⟨fun q => w1.heap.size ≤ q ∧ q < w3.heap.size, ⟨⟨Part.refl _ _, _, _, _, 0, _, _, HD.out.below hb3, hX, fun k a b => by omega, fun k hk => .inl (by rcases hk with a | a <;> omega), Nat.le_refl _⟩, fun q hq => hq.2⟩, fun q hq => by omega⟩
        clear hb1 hb2 hb3 hb12 hX HD
        go_wp2
        go_ret3
        exact .inr ⟨D, X, rfl, HO.out, hb⟩

set_option maxRecDepth 100000 in
set_option maxHeartbeats 2000000 in
theorem of_walk (a0 : Option Addr) (N c0 : Nat) (A : Nat → Option Addr) (L C : Nat → Nat) (f : Nat → Nat → Int) (a1 : Option Addr) (R c1 : Nat) (w : World) (h : Img w a0 N A L C f) (hN : N ≤ 1048576) (hL : ∀ i, i < N → L i ≤ 1048576) (hby : ∀ i j, 0 ≤ f i j ∧ f i j ≤ 255) (hR : R ≤ 1048576) (hd : DosIn w a1 R) :
    Calls Try.prog 4 #[.slice a0 N c0, .slice a1 R c1] w fun e w' => e = .returned (.bool true) ∧ Below w.heap.size w w' := by
  have H : Hid (DosIn w a1 R) := hd
  have HDk : Hid (Calls Try.prog 8 #[.slice a0 N c0] w fun e w' => (e = .returned (.tuple #[.pointer none, .pointer none, .bool true]) ∧ Below w.heap.size w w') ∨ ∃ D X, e = .returned (.tuple #[.pointer (some ⟨D, 0, none⟩), .pointer (some ⟨X, 0, none⟩), .bool true]) ∧ One w' w.heap.size D X N 0 ∧ Below w.heap.size w w') := disks_in a0 N c0 A L C f w h hN hL hby
  clear h hL hby hd
  go_enter Try.func4, Try.ntmps4
  go_wp2_with fail
  refine HDk.out.mono ?_
  rintro e w1 (⟨rfl, hb⟩ | ⟨D, X, rfl, hO, hb⟩)
  · clear HDk
    go_wp2
    go_ret
    exact ⟨rfl, hb⟩
  · have HO : Hid (One w1 w.heap.size D X N 0 ∧ Below w.heap.size w w1) := ⟨hO, hb⟩
    clear HDk hO hb
    go_wp2
    go_loopw [27] (fun i wr => ∃ k : Nat, k ≤ R ∧ i = .int .i64 (k : Int) ∧ One wr w.heap.size D X N k ∧ Below w.heap.size w wr) (fun i _ => R - (intOf i).toNat)
    case atStart => exact ⟨0, Nat.zero_le _, rfl, HO.out.1, HO.out.2⟩
    case round =>
      obtain ⟨k, hk, rfl, hO, hb⟩ := hrel
      have HOr : Hid (One wr w.heap.size D X N k) := hO
      clear hO
      by_cases hlt : k < R
      · have hlt' : (k : Int) < (R : Int) := by omega
        have hk0 : (0 : Int) ≤ (k : Int) := by omega
        obtain ⟨b, off, rfl, op, I, a, l, c, fb, ak, K, ck, kf, hdo⟩ := H.out k hlt
        obtain ⟨q0, q1, q2, q3, _⟩ := hdo.below hb
        have HDo : Hid (DoIn w b (off + k * 4) op I a l c fb ak K ck kf) := hdo
        obtain ⟨ob, hOb⟩ : ∃ ob, Obj.cells #[.int .i64 op, .int .i64 I, .slice a l c, .slice ak K ck] 30 = ob := ⟨_, rfl⟩
        have HKc : Hid (∀ wq : World, wq.heap[wr.heap.size]? = some ob → wq.cell? ⟨wr.heap.size, 0, none⟩ = some (.int .i64 op) ∧ wq.cell? ⟨wr.heap.size, 1, none⟩ = some (.int .i64 I) ∧ wq.cell? ⟨wr.heap.size, 2, none⟩ = some (.slice a l c) ∧ wq.cell? ⟨wr.heap.size, 3, none⟩ = some (.slice ak K ck)) := fun wq hq => by
          rw [← hOb] at hq
          exact ⟨cells_at hq 0, cells_at hq 1, cells_at hq 2, cells_at hq 3⟩
        have s1 := hb.size
        have hbo : Below w.heap.size w (wr.alloc ob) := hb.alloc s1 ob
        have HC : Hid (Calls Try.prog 9 #[.pointer (some ⟨D, 0, none⟩)] (wr.alloc ob) fun e w' => ∃ C, e = .returned (.pointer (some ⟨C, 0, none⟩)) ∧ Hid (Calls Try.prog 10 #[.pointer (some ⟨X, 0, none⟩)] w' fun e w'' => ∃ Y, e = .returned (.pointer (some ⟨Y, 0, none⟩)) ∧ Hid (Four w'' w.heap.size wr.heap.size ob D X C Y N k k ∧ Below w.heap.size w w''))) := by
          refine one_copy hbo (by omega) (heap_alloc_at _ _ _ rfl) ?_
          obtain ⟨P, g1, g2⟩ := HOr.out
          exact ⟨P, g1.below ((Below.refl _ wr).alloc (Nat.le_refl _) ob), fun q hq => ⟨g2 q hq, by have := g1.2 q hq; omega⟩⟩
        have hkb : k ≤ 549755813886 := by omega
        have hkb1 : k + 1 ≤ 549755813886 := by omega
        clear hdo hbo hb
        go_wp2_with fail
        refine HC.out.mono ?_
        rintro e w2 ⟨Cb, rfl, HC2⟩
        clear HC q0 q1 q2 q3
        go_wp2_with fail
        refine HC2.out.mono ?_
        rintro e w3 ⟨Yb, rfl, R3⟩
        obtain ⟨q0, q1, q2, q3⟩ := HKc.out w3 R3.out.1.1
        clear HC2
        go_wp2_with fail
        refine (one_same hkb R3.out.1.swap.one).mono ?_
        rintro e w4 ⟨rfl, hb9⟩
        have R4 : Hid (Four w4 w.heap.size wr.heap.size ob D X Cb Yb N k k ∧ Below w.heap.size w w4) := ⟨R3.out.1.below hb9, R3.out.2.trans (hb9.mono R3.out.2.size)⟩
        clear q0 q1 q2 q3
        obtain ⟨q0, q1, q2, q3⟩ := HKc.out w4 R4.out.1.1
        clear hb9 R3
        go_wp2_with fail
        refine (four_does HDo.out R4.out.2 hkb R4.out.1).mono ?_
        rintro e w5 ⟨rfl, R5⟩
        clear R4 q0 q1 q2 q3
        obtain ⟨q0, q1, q2, q3⟩ := HKc.out w5 R5.out.1.1
        go_wp2_with fail
        refine (one_same hkb1 R5.out.1.one).mono ?_
        rintro e w6 ⟨rfl, hb9⟩
        have R6 : Hid (Four w6 w.heap.size wr.heap.size ob D X Cb Yb N (k + 1) k ∧ Below w.heap.size w w6) := ⟨R5.out.1.below hb9, R5.out.2.trans (hb9.mono R5.out.2.size)⟩
        clear q0 q1 q2 q3
        obtain ⟨q0, q1, q2, q3⟩ := HKc.out w6 R6.out.1.1
        clear hb9 R5
        go_wp2_with fail
        refine (four_does HDo.out R6.out.2 hkb R6.out.1.swap).mono ?_
        rintro e w7 ⟨rfl, R7⟩
        clear R6 q0 q1 q2 q3
        obtain ⟨q0, q1, q2, q3⟩ := HKc.out w7 R7.out.1.1
        go_wp2_with fail
        refine (one_same hkb1 R7.out.1.one).mono ?_
        rintro e w8 ⟨rfl, hb9⟩
        have R8 : Hid (One w8 w.heap.size D X N (k + 1) ∧ Below w.heap.size w w8) := ⟨(R7.out.1.below hb9).swap.one, R7.out.2.trans (hb9.mono R7.out.2.size)⟩
        clear hb9 R7 q0 q1 q2 q3
        go_wp2
        go_roundw
        case rel => exact ⟨k + 1, by omega, by go_num, R8.out.1, R8.out.2⟩
        case measure => simp [intOf]; omega
      · obtain rfl : k = R := by omega
        have HS : Hid (Calls Try.prog 7 #[.pointer (some ⟨D, 0, none⟩), .pointer (some ⟨X, 0, none⟩)] wr fun e w' => e = .returned (.bool true) ∧ Below wr.heap.size wr w') := one_same (by omega) HOr.out
        have s1 := hb.size
        go_wp2_with fail
        refine HS.out.mono ?_
        rintro e w2 ⟨rfl, hb2⟩
        have hbf : Below w.heap.size w w2 := hb.trans (hb2.mono s1)
        clear hb hb2 HS
        go_wp2
        go_ret
        exact ⟨rfl, hbf⟩
end Go.Proofs.Ytnoaobnjecapjaa
