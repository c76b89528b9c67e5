/-
  slices.Grow of none, slices.Concat of two slices of bytes: new memory. Conditions: at least one byte, at most a million.
-/
import Derived.Test.YtdcclfnbpckioaaGreatDoorZeros
import Derived.Test.YtdcclfnbpckioaaGreatDoorSpB
namespace Go.Proofs.YtdcclfnbpckioaaGreatDoor
open Go.RowKit
set_option linter.unusedVariables false

section
variable {w : World} {ops : Array Oper} {rest : List Oper} {o : Oper} {a : Act} {Q : Exit → Act → World → Prop}
theorem wpList_zeros (hgd : o.guard = none) (s x : Operand) (ho : o.op = .call { callee := .builtin .append, args := #[s, x], argTypes := #[22, 3] })
    (B : Nat) (v : Value) (xs : List Int) (hs : a.eval s = v) (hown : Own w B v xs) (m : Nat) (hx : a.eval x = .int .i64 (m : Int)) (hbig : xs.length + m ≤ 140737488355328) (hB : B ≤ w.heap.size)
    (h : ∀ v' w', Own w' B v' (xs ++ lst (fun _ => 0) m) → Below B w w' → wpList Tryz.prog ops Q rest (a.put o.dst v') w') : wpList Tryz.prog ops Q (o :: rest) a w := by
  refine wpList_plain hgd fun K hK => ?_
  obtain ⟨v', w', hr, h2, h3⟩ := run_zeros_own w B v xs hown m hbig hB o.type
  unfold Oper.wp execOp
  simp only [ho, resolve, invoke, builtin, Sem.run_bind, Sem.run_pure, Result.andThen_ok, List.map_toArray, List.map_cons, List.map_nil, hs, hx, hr]
  exact hK _ _ (h v' w' h2 h3)
end
theorem Own.cut0 {w : World} {B g n c : Nat} {xs : List Int} (h : Own w B (.slice (some ⟨g, 0, none⟩) n c) xs) : Own w B (.slice (some ⟨g, 0, none⟩) 0 c) [] := by
  refine ⟨rfl, ?_⟩
  rcases h.2 with ⟨h1, _⟩ | ⟨g', cap, cur, h1, h2, h3, h4, h5, h6, _⟩
  · cases h1
  · cases h1
    exact .inr ⟨g, c, cur, rfl, h2, h3, Nat.zero_le _, h5, h6, by simp⟩
set_option maxRecDepth 100000 in
set_option maxHeartbeats 2000000 in
theorem growB (m : Nat) (h1 : 1 ≤ m) (hm : m ≤ 1000000) (w : World) :
    Calls Tryz.prog 38 #[.slice none 0 0, .int .i64 (m : Int)] w fun e w' => ∃ g c, e = .returned (.slice (some ⟨g, 0, none⟩) 0 c) ∧ Own w' w.heap.size (.slice (some ⟨g, 0, none⟩) 0 c) [] ∧ Below w.heap.size w w' := by
  have HN : Hid (Own w w.heap.size (.slice none 0 0) []) := World.ownsRow_nil _ _ _ _
  have hm0 : ¬ ((m : Int) < 0) := by omega
  have hm1 : (0 : Int) < (m : Int) := by omega
  go_enter Tryz.func38, Tryz.ntmps38
  go_wp2_with (at_builtin; refine wpList_zeros rfl _ _ rfl w.heap.size _ [] rfl HN.out m rfl ?q1 ?q2 ?_)
  case q1 => first | omega | (simp; omega)
  intro v' w' ho hb
  obtain ⟨ao, c, rfl, hf, h0, hc1, hc2, h3⟩ := ho.openF
  cases ao with
  | none =>
    exfalso
    have := h0 rfl
    omega
  | some x =>
    obtain ⟨k, rfl, hk1, hk2⟩ := h3 x rfl
    have HO : Hid (Own w' w.heap.size (.slice (some ⟨k, 0, none⟩) 0 c) []) := ho.cut0
    have hc0 : (0 : Int) ≤ (c : Int) := by omega
    clear ho hf h0 h3
    go_wp2
    go_ret
    exact ⟨_, _, rfl, HO.out, hb⟩
set_option maxRecDepth 100000 in
set_option maxHeartbeats 2000000 in
theorem concatB (G : Nat) (a1 a2 : Option Addr) (n1 c1 n2 c2 : Nat) (f1 f2 : Nat → Int) (w : World) (g0 : w.cell? ⟨G, 0, none⟩ = some (.slice a1 n1 c1)) (g1 : w.cell? ⟨G, 1, none⟩ = some (.slice a2 n2 c2)) (hf1 : From w a1 n1 f1) (hf2 : From w a2 n2 f2) (z1 : a1 = none → c1 = 0) (z2 : a2 = none → c2 = 0) (hn : 1 ≤ n1 + n2) (hm : n1 + n2 ≤ 100000) :
    Calls Tryz.prog 21 #[.slice (some ⟨G, 0, none⟩) 2 2] w fun e w' => ∃ v, e = .returned v ∧ Own w' w.heap.size v (lst f1 n1 ++ lst f2 n2) ∧ Below w.heap.size w w' := by
  have HG := growB (n1 + n2) hn (by omega) w
  have hG : G < w.heap.size := World.block_lt_of_cell? w _ g0
  have hF : Hid (∀ W, Below w.heap.size w W → From W a1 n1 f1 ∧ From W a2 n2 f2 ∧ W.cell? ⟨G, 0, none⟩ = some (.slice a1 n1 c1) ∧ W.cell? ⟨G, 1, none⟩ = some (.slice a2 n2 c2)) := fun W hb => ⟨hf1.below hb (Nat.le_refl _), hf2.below hb (Nat.le_refl _), (hb.cell (p := ⟨G, 0, none⟩) hG).trans g0, (hb.cell (p := ⟨G, 1, none⟩) hG).trans g1⟩
  have hl1 := lst_length f1 n1
  have hl2 := lst_length f2 n2
  clear hf1 hf2
  go_enter Tryz.func21, Tryz.ntmps21
  go_wp2
  go_loopw [3, 11] (fun s i wr => w = wr ∧ ((s = .int .i64 0 ∧ i = .int .i64 0) ∨ (s = .int .i64 (n1 : Int) ∧ i = .int .i64 1) ∨ (s = .int .i64 ((n1 + n2 : Nat) : Int) ∧ i = .int .i64 2))) (fun _ i _ => 2 - (intOf i).toNat)
  case atStart => exact ⟨rfl, .inl ⟨rfl, rfl⟩⟩
  case round =>
    obtain ⟨hw, hrel⟩ := hrel
    subst hw
    rcases hrel with ⟨rfl, rfl⟩ | ⟨rfl, rfl⟩ | ⟨rfl, rfl⟩
    · have p1 : ¬ ((n1 : Int) < 0) := by omega
      go_wp2
      go_roundw
      case rel => exact ⟨by first | rfl | trivial, .inr (.inl ⟨by go_num, rfl⟩)⟩
      case measure => simp [intOf]
    · have p1 : ¬ ((n1 : Int) + (n2 : Int) < 0) := by omega
      go_wp2
      go_roundw
      case rel => exact ⟨by first | rfl | trivial, .inr (.inr ⟨by go_num, rfl⟩)⟩
      case measure => simp [intOf]
    · go_wp2_with (go_at_call 38; refine HG.mono ?_; rintro e w2 ⟨g, c, rfl, ho, hb⟩)
      obtain ⟨q1, q2, q3, q4⟩ := hF.out w2 hb
      go_loopw [6, 27] (fun v i wr => Below w.heap.size w wr ∧ ((i = .int .i64 0 ∧ Own wr w.heap.size v []) ∨ (i = .int .i64 1 ∧ Own wr w.heap.size v (lst f1 n1)) ∨ (i = .int .i64 2 ∧ Own wr w.heap.size v (lst f1 n1 ++ lst f2 n2)))) (fun _ i _ => 2 - (intOf i).toNat)
      case atStart => exact ⟨hb, .inl ⟨rfl, ho⟩⟩
      case round =>
        obtain ⟨hbr, hrel⟩ := hrel
        obtain ⟨r1, r2, r3, r4⟩ := hF.out wr hbr
        have hsr := hbr.size
        have HR1 : Hid (From wr a1 n1 f1) := r1
        have HR2 : Hid (From wr a2 n2 f2) := r2
        clear r1 r2 q1 q2 q3 q4 ho hb
        rcases hrel with ⟨rfl, hor⟩ | ⟨rfl, hor⟩ | ⟨rfl, hor⟩
        · go_wp2_with (at_builtin; refine wpList_app rfl _ _ rfl w.heap.size _ [] rfl hor a1 n1 c1 f1 rfl HR1.out z1 ?q2 ?q3 ?_)
          case q2 => first | omega | (simp; omega)
          case q3 => omega
          intro v' w' ho' hb'
          have hb2 := hbr.trans hb'
          clear hb'
          go_wp2
          go_roundw
          case rel => exact ⟨hb2, .inr (.inl ⟨rfl, by simpa using ho'⟩)⟩
          case measure => simp [intOf]
        · go_wp2_with (at_builtin; refine wpList_app rfl _ _ rfl w.heap.size _ (lst f1 n1) rfl hor a2 n2 c2 f2 rfl HR2.out z2 ?q2 ?q3 ?_)
          case q2 => first | omega | (simp; omega)
          case q3 => omega
          intro v' w' ho' hb'
          have hb2 := hbr.trans hb'
          clear hb'
          go_wp2
          go_roundw
          case rel => exact ⟨hb2, .inr (.inr ⟨rfl, ho'⟩)⟩
          case measure => simp [intOf]
        · go_wp2
          go_ret
          exact ⟨_, rfl, hor, hbr⟩
end Go.Proofs.YtdcclfnbpckioaaGreatDoor
