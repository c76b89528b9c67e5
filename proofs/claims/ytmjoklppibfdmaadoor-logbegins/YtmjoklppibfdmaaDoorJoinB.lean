/-
  Contract of bytes.Join over slices of 128 bytes each, with nothing between them.
-/
import Derived.Test.YtmjoklppibfdmaaDoorPlImage
import Derived.Lib.MakeNoZero
import Derived.Laws.CopyOwn
import Derived.Laws.Externs
namespace Go.Proofs.YtmjoklppibfdmaaDoor
open Go.RowKit
set_option linter.unusedVariables false

/-- The bytes of all, one behind the other. -/
def flat (f : Nat → Nat → Int) : Nat → Int := fun q => f (q / 128) (q % 128)
/-- A block, new since w0, whose first acc cells are F's. -/
structure Bf (w0 w : World) (T acc : Nat) (F : Nat → Int) : Prop where
  row : ∃ cur : List Value, w.heap[w0.heap.size]? = some (.cells cur.toArray 5 (0, 0)) ∧ T ≤ cur.length ∧ cur.length ≤ 9223372036854775807 ∧ ∀ i, i < acc → cur[i]? = some (.int .u8 (F i))
  below : Below w0.heap.size w0 w
theorem Bf.copy {w w0 : World} {ops : Array Oper} {rest : List Oper} {o : Oper} {a : Act} {Q : Exit → Act → World → Prop} (hgd : o.guard = none) (d s : Operand) (ho : o.op = .call { callee := .builtin .copy, args := #[d, s], argTypes := #[34, 34] })
    {T acc : Nat} {F : Nat → Int} (hB : Bf w0 w T acc F) (dLen dCap : Nat) (dp : Option Addr) (hd : a.eval d = .slice dp dLen dCap) (ao : Option Addr) (m c : Nat) (g : Nat → Int) (hs : a.eval s = .slice ao m c) (hf : From w ao m g) (hm : m ≤ dLen) (hfit : acc + m ≤ T) (hdp : 0 < m → dp = some ⟨w0.heap.size, acc, none⟩) (hFg : ∀ i, i < m → F (acc + i) = g i)
    (h : ∀ w', Bf w0 w' T (acc + m) F → wpList Tryd.prog ops Q rest (a.put o.dst (.int .i64 m)) w') : wpList Tryd.prog ops Q (o :: rest) a w := by
  obtain ⟨⟨cur, h1, h2, h2b, h3⟩, hb⟩ := hB
  have hlen : ((lst g m).map (Value.int .u8)).length = m := by simp [lst_length]
  refine wpList_copy_splice hgd d s 34 34 ho 5 Tryd.underlying34 size5 dp ao dLen dCap m c hd hs w0.heap.size acc cur 5 h1 ((lst g m).map (Value.int .u8)) (by rw [hlen]; exact (Nat.min_eq_left hm).symm) ?_ (by rw [hlen]; omega) ?_ w0.heap.size w0 hb (Nat.le_refl _) ?_
  · intro hp
    rw [hlen] at hp
    refine ⟨hdp hp, ?_⟩
    rcases hf with ⟨_, e⟩ | ⟨x, e1, e2⟩
    · omega
    · refine ⟨x, e1, fun j u hj => ?_⟩
      have hjm : j < m := by
        have := (List.getElem?_eq_some_iff.1 hj).1
        simpa [lst_length] using this
      rw [e2 j hjm]
      rw [List.getElem?_map, lst_get g m j hjm] at hj
      simpa using hj
  · intro u hu
    obtain ⟨y, _, rfl⟩ := List.mem_map.1 hu
    rfl
  · intro w' hg hb'
    have hg := hg.out
    have e0 : goInt ((lst g m).map (Value.int .u8)).length = .int .i64 m := by rw [hlen]; rfl
    rw [e0]
    refine h w' ⟨⟨_, hg, ?_, ?_, fun i hi => ?_⟩, hb'⟩
    · rw [length_splice _ _ _ (by rw [hlen]; omega)]; exact h2
    · rw [length_splice _ _ _ (by rw [hlen]; omega)]; exact h2b
    · unfold splice
      simp only [List.getElem?_append, List.length_take, List.length_map, lst_length, List.getElem?_take, List.getElem?_map]
      have e1 : min acc cur.length = acc := by omega
      simp only [e1]
      by_cases i2 : i < acc
      · simp only [i2, if_true]
        exact h3 i i2
      · have i3 : i - acc < m := by omega
        simp only [i2, i3, if_true, if_false]
        rw [lst_get g m (i - acc) i3]
        have := hFg (i - acc) i3
        rw [show acc + (i - acc) = i by omega] at this
        rw [this]
        rfl

set_option maxRecDepth 100000 in
set_option maxHeartbeats 2000000 in
theorem join_one (a0 : Option Addr) (c0 : Nat) (A : Nat → Option Addr) (L C : Nat → Nat) (f : Nat → Nat → Int) (w : World) (h : Img w a0 1 A L C f) (hL : L 0 = 128) :
    Calls Tryd.prog 58 #[.slice a0 1 c0, .slice none 0 0] w fun e w' => ∃ g c, e = .returned (.slice (some ⟨g, 0, none⟩) 128 c) ∧ Own w' w.heap.size (.slice (some ⟨g, 0, none⟩) 128 c) (lst (f 0) 128) ∧ Below w.heap.size w w' := by
  obtain ⟨b, off, rfl, p1, p2, p3⟩ := h 0 (by omega)
  rw [hL] at p1 p2
  rw [Nat.add_zero] at p1
  have HF : Hid (From w (A 0) 128 (f 0)) := p2
  have hm : Own w w.heap.size (.slice none 0 0) [] := World.ownsRow_nil _ _ _ _
  clear h p2
  go_enter Tryd.func58, Tryd.ntmps58
  go_wp2_with (at_builtin; refine wpList_app rfl _ _ rfl w.heap.size _ [] rfl hm (A 0) 128 (C 0) (f 0) rfl HF.out p3 ?q2 ?q3 ?_)
  case q2 => simp
  case q3 => simp
  intro v' w' ho hb
  obtain ⟨g, c, rfl, ho, _⟩ := own_some (n := 128) (f := f 0) ho (by omega)
  go_wp2
  go_ret
  exact ⟨g, c, rfl, ho, hb⟩

set_option maxRecDepth 100000 in
set_option maxHeartbeats 4000000 in
theorem join_many (a0 : Option Addr) (N c0 : Nat) (A : Nat → Option Addr) (L C : Nat → Nat) (f : Nat → Nat → Int) (w : World) (h : Img w a0 N A L C f) (hL : ∀ i, i < N → L i = 128) (h2 : 2 ≤ N) (h3 : N ≤ 4096) (hc : N ≤ c0) :
    Calls Tryd.prog 58 #[.slice a0 N c0, .slice none 0 0] w fun e w' => ∃ g, e = .returned (.slice (some ⟨g, 0, none⟩) (N * 128) (N * 128)) ∧ g = w.heap.size ∧ Bf w w' (N * 128) (N * 128) (flat f) := by
  obtain ⟨b, off, rfl, _⟩ := h 0 (by omega)
  have H : Hid (∀ wq, Below w.heap.size w wq → ∀ i, i < N → wq.cell? ⟨b, off + i, none⟩ = some (.slice (A i) 128 (C i)) ∧ From wq (A i) 128 (f i)) := fun wq hq i hi => by
    obtain ⟨b', off', e, k1, k2, _⟩ := h.below hq i hi
    cases e
    rw [hL i hi] at k1 k2
    exact ⟨k1, k2⟩
  clear h hL
  have f0 : ((N : Int) == 0) = false := beq_eq_false_iff_ne.2 (by omega)
  have f1 : ((N : Int) == 1) = false := beq_eq_false_iff_ne.2 (by omega)
  go_enter Tryd.func58, Tryd.ntmps58
  go_wp2
  go_outline
  go_loopw [5, 44] (fun s5 s44 wr => w = wr ∧ ∃ i : Nat, i ≤ N ∧ s44 = .int .i64 (i : Int) ∧ s5 = .int .i64 ((i * 128 : Nat) : Int)) (fun _ i _ => N - (intOf i).toNat)
  case atStart => exact ⟨rfl, 0, Nat.zero_le _, rfl, rfl⟩
  case round =>
    obtain ⟨rfl, i, hi, rfl, rfl⟩ := hrel
    by_cases hlt : i < N
    · have hlt' : (i : Int) < (N : Int) := by omega
      have hi0 : (0 : Int) ≤ (i : Int) := by omega
      obtain ⟨p1, _⟩ := H.out w (Below.refl _ _) i hlt
      have hb : ¬ (9223372036854775807 - ((i * 128 : Nat) : Int) < 128) := by omega
      go_wp2
      go_roundw
      case rel => exact ⟨by first | rfl | trivial, i + 1, by omega, by go_num, by go_num⟩
      case measure => simp [intOf]; omega
    · obtain rfl : N = i := by omega
      obtain ⟨T, hT⟩ : ∃ T, N * 128 = T := ⟨_, rfl⟩
      rw [hT]
      obtain ⟨cs, hrunM, hle, hmx⟩ := Lib.run_makeNoZero (P := Tryd.prog) w #[3] 34 5 Tryd.underlying34 T (by omega)
      have hcall : (callFunc 82 #[.int .i64 (T : Int)]).run Tryd.prog w = .ok (.value (.slice (some ⟨w.heap.size, 0, none⟩) T cs.size)) ((w.alloc (.cells cs 5)).drewN 2) := by
        rw [run_callFunc_extern Tryd.func82 (by kernel_rfl) (by kernel_rfl) (by kernel_rfl) (e := Extern.BytealgMakeNoZero.makeNoZero #[3] #[34]) (by kernel_rfl), hrunM]
        rfl
      have i0 : (0 : Int) ≤ (T : Int) := by omega
      have i1 : (T : Int) ≤ (cs.size : Int) := by omega
      have hb9 : Below w.heap.size w (w.alloc (.cells cs 5)) := (Below.refl _ w).alloc (Nat.le_refl _) _
      have hB0 : Bf w ((w.alloc (.cells cs 5)).drewN 2) T 0 (flat f) := ⟨⟨cs.toList, by show (w.alloc (.cells cs 5)).heap[w.heap.size]? = _; rw [heap_alloc_at _ _ _ rfl], by rw [Array.length_toList]; exact hle, by rw [Array.length_toList]; exact hmx (by unfold maxLen; omega), fun i hi => by omega⟩, ⟨hb9.os, hb9.tape, hb9.output, hb9.size, hb9.block⟩⟩
      obtain ⟨W1, hW1⟩ : ∃ W1, (w.alloc (.cells cs 5)).drewN 2 = W1 := ⟨_, rfl⟩
      rw [hW1] at hcall hB0
      have HB0 : Hid (Bf w W1 T 0 (flat f)) := hB0
      obtain ⟨q1, q2⟩ := H.out W1 hB0.below 0 (by omega)
      rw [Nat.add_zero] at q1
      have HF0 : Hid (From W1 (A 0) 128 (f 0)) := q2
      clear hrunM hB0 hW1 q2 hmx
      have hFF : Hid (∀ j i, i < 128 → flat f (j * 128 + i) = f j i) := fun j i hi => by
        unfold flat
        rw [show (j * 128 + i) / 128 = j by omega, show (j * 128 + i) % 128 = i by omega]
      go_wp2_with (refine Bf.copy rfl _ _ rfl HB0.out T T _ rfl (A 0) 128 (C 0) (f 0) rfl HF0.out (by omega) (by omega) (fun _ => rfl) ?q1 ?_)
      case q1 => exact fun i hi => by have := hFF.out 0 i hi; simpa using this
      intro w2 hB2
      have HB2 : Hid (Bf w w2 T 128 (flat f)) := hB2
      clear hB2
      clear HB0 HF0 q1 hcall
      go_wp2
      go_loopw [9, 72] (fun s9 s72 wr => ∃ j : Nat, j ≤ N - 1 ∧ s72 = .int .i64 (j : Int) ∧ s9 = .int .i64 (((j + 1) * 128 : Nat) : Int) ∧ Bf w wr T ((j + 1) * 128) (flat f)) (fun _ i _ => N - 1 - (intOf i).toNat)
      case atStart => exact ⟨0, Nat.zero_le _, rfl, rfl, HB2.out⟩
      case round =>
        obtain ⟨j, hj, rfl, rfl, hBr⟩ := hrel
        by_cases hlt2 : j < N - 1
        · have hjz : (j : Int) < ((N - 1 : Nat) : Int) := by omega
          have hj0 : (0 : Int) ≤ (j : Int) := by omega
          obtain ⟨acc, hacc⟩ : ∃ acc, (j + 1) * 128 = acc := ⟨_, rfl⟩
          have hn2 : (j + 1 + 1) * 128 = acc + 128 := by rw [← hacc]; exact Nat.succ_mul (j + 1) 128
          have e5 : ((((j + 1 + 1) * 128 : Nat)) : Int) = (acc : Int) + 128 := by rw [hn2]; exact Int.natCast_add acc 128
          have e6 : ((j + 1 : Nat) : Int) = (j : Int) + 1 := Int.natCast_add j 1
          have HE1 : Hid (Value.int .i64 ((j : Int) + 1) = .int .i64 ((j + 1 : Nat) : Int)) := congrArg (Value.int .i64) e6.symm
          have HE2 : Hid (Value.int .i64 ((acc : Int) + 128) = .int .i64 (((j + 1 + 1) * 128 : Nat) : Int)) := congrArg (Value.int .i64) e5.symm
          have HE3 : Hid ((j + 1 + 1) * 128 = acc + 128) := hn2
          clear e5 e6 hn2
          have hj1 : j + 1 ≤ N - 1 := by omega
          have HMs : Hid (N - 1 - (intOf (Value.int .i64 ((j : Int) + 1))).toNat < N - 1 - (intOf (Value.int .i64 (j : Int))).toNat) := (by simp only [intOf]; omega : N - 1 - (intOf (Value.int .i64 ((j : Int) + 1))).toNat < N - 1 - (intOf (Value.int .i64 (j : Int))).toNat)
          rw [hacc] at hBr ⊢
          have HBr : Hid (Bf w wr T acc (flat f)) := hBr
          obtain ⟨p1, p2⟩ := H.out wr hBr.below (1 + j) (by omega)
          rw [← Nat.add_assoc] at p1
          have e0 : (0 : Int) ≤ (acc : Int) := by omega
          have e1 : (acc : Int) ≤ (T : Int) := by omega
          have e2 : (acc : Int) < (T : Int) := by omega
          have e3 : ¬ (T : Int) = (acc : Int) := by omega
          have e4 : ¬ T = acc := by omega
          clear hBr p2
          go_wp2_with (refine Bf.copy rfl _ _ rfl HBr.out (T - acc) (T - acc) _ rfl none 0 0 (fun _ => 0) rfl (.inl ⟨rfl, rfl⟩) (by omega) (by omega) (fun h => by omega) (fun i hi => by omega) ?_)
          intro w3 hB3
          have HB3 : Hid (Bf w w3 T acc (flat f)) := hB3
          obtain ⟨r1, r2⟩ := H.out w3 hB3.below (1 + j) (by omega)
          rw [← Nat.add_assoc] at r1
          have HF3 : Hid (From w3 (A (1 + j)) 128 (f (1 + j))) := r2
          have HFg : Hid (∀ i, i < 128 → flat f (acc + i) = f (1 + j) i) := fun i hi => by
            have := hFF.out (1 + j) i hi
            rw [← hacc, show (j + 1) * 128 = (1 + j) * 128 by omega]
            exact this
          have hfit : acc + 128 ≤ T := by omega
          have hfit2 : 128 ≤ T - acc := by omega
          clear hB3 r2
          go_wp2_with (refine Bf.copy rfl _ _ rfl HB3.out (T - acc) (T - acc) _ rfl (A (1 + j)) 128 (C (1 + j)) (f (1 + j)) rfl HF3.out hfit2 hfit (fun _ => rfl) HFg.out ?_)
          intro w4 hB4
          have HB4 : Hid (Bf w w4 T (acc + 128) (flat f)) := hB4
          clear hB4
          have HR : Hid (∃ j1 : Nat, j1 ≤ N - 1 ∧ Value.int .i64 ((j : Int) + 1) = .int .i64 (j1 : Int) ∧ Value.int .i64 ((acc : Int) + 128) = .int .i64 (((j1 + 1) * 128 : Nat) : Int) ∧ Bf w w4 T ((j1 + 1) * 128) (flat f)) := ⟨j + 1, hj1, HE1.out, HE2.out, HE3.out ▸ HB4.out⟩
          go_wp2_with fail
          refine And.intro ?_ ?_
          · exact HR.out
          · exact HMs.out
        · obtain rfl : j = N - 1 := by omega
          have hjz : ¬ (((N - 1 : Nat) : Int) < ((N - 1 : Nat) : Int)) := by omega
          have hE : (N - 1 + 1) * 128 = T := by omega
          rw [hE] at hBr
          have HBr : Hid (Bf w wr T T (flat f)) := hBr
          clear hBr
          go_wp2
          go_ret
          exact ⟨_, rfl, rfl, HBr.out⟩

/-- bytes.Join of slices of 128 bytes: their bytes, one behind the other, in a block of their own. -/
theorem joinB (a0 : Option Addr) (N c0 : Nat) (A : Nat → Option Addr) (L C : Nat → Nat) (f : Nat → Nat → Int) (w : World) (h : Img w a0 N A L C f) (hL : ∀ i, i < N → L i = 128) (h2 : 1 ≤ N) (h3 : N ≤ 4096) (hc : N ≤ c0) :
    Calls Tryd.prog 58 #[.slice a0 N c0, .slice none 0 0] w fun e w' => ∃ g c, e = .returned (.slice (some ⟨g, 0, none⟩) (N * 128) c) ∧ OwnC w' g (N * 128) c (flat f) ∧ w.heap.size ≤ g ∧ g < w'.heap.size ∧ Below w.heap.size w w' := by
  by_cases h1 : N = 1
  · subst h1
    refine (join_one a0 c0 A L C f w h (hL 0 (by omega))).mono ?_
    rintro e w' ⟨g, c, rfl, ho, hb⟩
    obtain ⟨x1, x2, _⟩ := row_cap ho
    obtain ⟨x3, x4⟩ := World.ownsRow.lt ho g rfl
    refine ⟨g, c, rfl, ⟨x1, x2, c, ?_⟩, x3, x4, hb⟩
    have h9 : Own w' 0 (.slice (some ⟨g, 0, none⟩) 128 c) (lst (f 0) 128) := ho.mono (Nat.zero_le _)
    exact h9.ext (fun i hi => by
      unfold flat
      rw [show i / 128 = 0 by omega, show i % 128 = i by omega])
  · refine (join_many a0 N c0 A L C f w h hL (by omega) h3 hc).mono ?_
    rintro e w' ⟨g, rfl, rfl, hB⟩
    obtain ⟨⟨cur, k1, k2, k3, k4⟩, hb⟩ := hB
    have hgl : w.heap.size < w'.heap.size := (Array.getElem?_eq_some_iff.1 k1).1
    refine ⟨w.heap.size, N * 128, rfl, ⟨Nat.le_refl _, by omega, cur.length, ?_⟩, Nat.le_refl _, hgl, hb⟩
    unfold Own
    rw [lst_length]
    refine ⟨by simp [lst_length], .inr ⟨w.heap.size, cur.length, cur.toArray, rfl, Nat.zero_le _, k1, k2, k3, by simp, ?_⟩⟩
    apply List.ext_getElem?
    intro i
    simp only [Nat.mul_one, List.getElem?_take, List.getElem?_map]
    by_cases hi : i < N * 128
    · rw [if_pos hi, lst_get _ _ i hi]
      simpa using k4 i hi
    · rw [if_neg hi, List.getElem?_eq_none (by rw [lst_length]; omega)]
      rfl
end Go.Proofs.YtmjoklppibfdmaaDoor
