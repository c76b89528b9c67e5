/-
  Contract of the document's own log: Append. Conditions: the log and its bytes lie apart; at most 4096 sectors.
-/
import Derived.Test.YtmjoklppibfdmaaDoorLogZe
import Derived.Test.YtmjoklppibfdmaaDoorGf
import Derived.Lib.AppendStr
namespace Go.Proofs.YtmjoklppibfdmaaDoor
open Go.RowKit
set_option linter.unusedVariables false

section
variable {w : World} {ops : Array Oper} {rest : List Oper} {o : Oper} {a : Act} {Q : Exit → Act → World → Prop}
/-- 'append(v, s...)', s a text. -/
theorem wpList_appStr (hgd : o.guard = none) (sl x : Operand) (ho : o.op = .call { callee := .builtin .append, args := #[sl, x], argTypes := #[34, 9] })
    (B : Nat) (v : Value) (xs : List Int) (hs : a.eval sl = v) (hown : Own w B v xs) (s : ByteArray) (hx : a.eval x = .string s)
    (hbig : xs.length + s.size ≤ 140737488355328) (hB : B ≤ w.heap.size)
    (h : ∀ v' w', Own w' B v' (xs ++ s.data.toList.map (fun b => (b.toNat : Int))) → Below B w w' → wpList Tryd.prog ops Q rest (a.put o.dst v') w') : wpList Tryd.prog ops Q (o :: rest) a w := by
  obtain ⟨i0, hi, hz0, hz1, hz2⟩ := info_parts info5
  refine Lib.wpList_append_own_string w hgd sl x 34 9 ho B 5 i0 Tryd.underlying34 Tryd.underlying9 hi hz0 hz1 hz2 v xs.length (xs.map (Value.int .u8)) hs hown s hx (by unfold maxLen; omega) hbig hB ?_
  intro v' w' h3 h4 _
  refine h v' w' ?_ ((Below.refl _ w).grown h4 hB (fun q hq => (World.ownsRow.lt hown q hq).1))
  unfold Own
  rw [List.length_append, List.map_append, List.length_map]
  have e : (s.data.toList.map (fun b => (b.toNat : Int))).map (Value.int .u8) = Lib.strCells s := by
    simp [Lib.strCells]
  rw [e, show s.data.toList.length = s.size from Array.length_toList]
  exact h3
end

set_option maxHeartbeats 400000 in
theorem zText (a0 : Option Addr) (n c : Nat) (f : Nat → Int) (s : ByteArray) (w : World) (hbig : n + s.size ≤ 70368744177664) (hf : From w a0 n f) (hc0 : a0 = none → c = 0) :
    Calls Tryd.prog 73 #[.slice a0 n c, .string s] w fun e w' => ∃ v', e = .returned v' ∧ Own w' w.heap.size v' (lst f n ++ putB s.size ++ strL s) ∧ Below w.heap.size w w' := by
  have hlen := putB_le s.size (by omega)
  have hll := lst_length f n
  have HL : Hid ((lst f n ++ putB s.size).length = n + (putB s.size).length) := by show _ = _; rw [List.length_append, hll]
  go_enter Tryd.func73, Tryd.ntmps73
  go_wp2_with fail
  refine (xPut a0 n c f (s.size : Int) w (by omega) hf hc0 (by omega)).mono ?_
  rintro e w2 ⟨v2, rfl, ho2, hb⟩
  rw [Int.toNat_natCast] at ho2
  have hs2 : w.heap.size ≤ w2.heap.size := hb.size
  have HB : Hid ((lst f n ++ putB s.size).length + s.size ≤ 140737488355328) := by show _ ≤ _; rw [HL.out]; omega
  clear hll hlen
  go_wp2_with (at_builtin; refine wpList_appStr rfl _ _ rfl w.heap.size _ (lst f n ++ putB s.size) rfl ho2 s rfl HB.out hs2 ?_)
  intro v' w' ho hb3
  go_wp2
  go_ret
  exact ⟨v', rfl, (by rw [List.append_assoc]; exact ho), hb.trans hb3⟩

theorem strL_strF {f : Nat → Int} (h : ∀ i, 0 ≤ f i ∧ f i ≤ 255) (m : Nat) : strL (strF f m) = lst f m := by
  unfold strL strF
  rw [strOfNums_data]
  simp only [List.map_map]
  conv => rhs; rw [← List.map_id (lst f m)]
  apply List.map_congr_left
  intro x hx
  unfold lst at hx
  obtain ⟨i, _, rfl⟩ := List.mem_map.1 hx
  have := h i
  simp
  omega
/-- What the document's Append leaves. -/
def ZApp (w w' : World) (M X from_ sectors first last forced : Nat) (tot m : Nat) (f g : Nat → Int) (done : Nat) : Prop := ∃ a c, Zl w' M X from_ sectors first (last + 1) forced (.slice (some ⟨a, 0, none⟩) (tot + (putB m).length + m) c) done ∧ From w' (some ⟨a, 0, none⟩) (tot + (putB m).length + m) (addR f tot m g) ∧ w.heap.size ≤ a ∧ a < w'.heap.size ∧ tot + (putB m).length + m ≤ c ∧ c ≤ 9223372036854775807 ∧ Part (fun k => k = M) w w'

set_option maxRecDepth 100000 in
set_option maxHeartbeats 1000000 in
theorem zApp_empty {M c : Nat} {a0 : Option Addr} {w : World} : Calls Tryd.prog 35 #[.pointer (some ⟨M, 0, none⟩), .slice a0 0 c] w fun r w' => r = .returned (.tuple #[.int .i64 0, .int .i64 1]) ∧ w' = w := by
  go_enter Tryd.func35, Tryd.ntmps35
  go_wp2
  go_ret2
  exact ⟨rfl, rfl⟩
set_option maxRecDepth 100000 in
set_option maxHeartbeats 1000000 in
theorem zApp_long {M m c : Nat} {a0 : Option Addr} {w : World} (hm : 2000 < m) : Calls Tryd.prog 35 #[.pointer (some ⟨M, 0, none⟩), .slice a0 m c] w fun r w' => r = .returned (.tuple #[.int .i64 0, .int .i64 12]) ∧ w' = w := by
  have g1 : ((m : Int) == 0) = false := by simp; omega
  have g2 : (2000 : Int) < (m : Int) := by omega
  go_enter Tryd.func35, Tryd.ntmps35
  go_wp2
  go_ret2
  exact ⟨rfl, rfl⟩
set_option maxRecDepth 100000 in
set_option maxHeartbeats 2000000 in
theorem zApp_full {w : World} {M X from_ sectors first last forced done tot cs : Nat} {sa : Option Addr} (h : Zl w M X from_ sectors first last forced (.slice sa tot cs) done) (hs : sectors ≤ 4096) (ht : tot ≤ sectors * 112) (a0 : Option Addr) (m c : Nat) (g : Nat → Int) (hF : From w a0 m g) (hg : ∀ i, 0 ≤ g i ∧ g i ≤ 255) (h1 : 0 < m) (h2 : m ≤ 2000) (hf : sectors * 112 - tot < (putB m).length + m ∨ 4611686018427387904 ≤ last) :
    Calls Tryd.prog 35 #[.pointer (some ⟨M, 0, none⟩), .slice a0 m c] w fun r w' => r = .returned (.tuple #[.int .i64 0, .int .i64 4]) ∧ Below w.heap.size w w' := by
  have g1 : ((m : Int) == 0) = false := by simp; omega
  have g2 : ¬ (2000 : Int) < (m : Int) := by omega
  have hcv := conv_from c hF
  have CT := zText none 0 0 (fun _ => 0) (strF g m) w (by rw [strF_size]; omega) (.inl ⟨rfl, rfl⟩) (fun _ => rfl)
  rw [strF_size, strL_strF hg] at CT
  have H : Hid (Zl w M X from_ sectors first last forced (.slice sa tot cs) done) := h
  have hlen := putB_le m (by omega)
  obtain ⟨S, hS⟩ : ∃ S, strF g m = S := ⟨_, rfl⟩
  rw [hS] at hcv CT
  obtain ⟨rm, hrm⟩ : ∃ rm, sectors * 112 - tot = rm := ⟨_, rfl⟩
  rw [hrm] at hf
  obtain ⟨ln, hln⟩ : ∃ ln, (putB m).length + m = ln := ⟨_, rfl⟩
  rw [hln] at hf
  have HLn : Hid ((lst (fun _ => (0 : Int)) 0 ++ putB m ++ lst g m).length = ln) := by
    show _ = ln
    rw [List.length_append, List.length_append, lst_length, lst_length]
    omega
  have HRm : Hid (∀ wq, Below w.heap.size w wq → Calls Tryd.prog 42 #[.pointer (some ⟨M, 0, none⟩)] wq fun r w' => r = .returned (.int .i64 (rm : Int)) ∧ ∃ q, w' = wq.drewN q) := fun wq hq => by
    have := zRoom (H.out.below hq) hs ht
    rwa [hrm] at this
  clear h hF hS hrm hln ht hs
  go_enter Tryd.func35, Tryd.ntmps35
  go_wp2_with fail
  refine CT.mono ?_
  rintro r w1 ⟨v1, rfl, ho1, b1⟩
  obtain ⟨a1, c1, rfl, _⟩ := ho1.open
  rw [HLn.out]
  have CR := HRm.out w1 b1
  obtain ⟨_, _, _, _, y4, _⟩ := zget (H.out.below b1)
  clear CT HRm ho1
  go_wp2_with fail
  refine CR.mono ?_
  rintro r w2 ⟨rfl, q2, rfl⟩
  have y4' : (w1.drewN q2).cell? ⟨M, 4, none⟩ = some (.int .i64 (last : Int)) := y4
  clear CR
  by_cases hlt : rm < ln
  · have g3 : (rm : Int) < (ln : Int) := by omega
    clear hf hlt
    go_wp2
    go_ret2
    exact ⟨rfl, blw_drewN q2 b1⟩
  · have g3 : ¬ (rm : Int) < (ln : Int) := by omega
    have g4 : decide ((4611686018427387904 : Int) ≤ (last : Int)) = true := by simp; omega
    clear hf hlt
    go_wp2
    go_ret2
    exact ⟨rfl, blw_drewN q2 b1⟩

theorem sh_zero (f : Nat → Int) : sh f 0 = f := by
  funext i
  show f _ = f _
  congr 1
  omega
set_option maxRecDepth 100000 in
set_option maxHeartbeats 2000000 in
theorem zApp_ok {w : World} {M X from_ sectors first last forced done tot cs : Nat} {sa : Option Addr} {f : Nat → Int} (h : Zl w M X from_ sectors first last forced (.slice sa tot cs) done) (hs : sectors ≤ 4096) (hfs : From w sa tot f) (hsn : sa = none → cs = 0) (a0 : Option Addr) (m c : Nat) (g : Nat → Int) (hF : From w a0 m g) (hg : ∀ i, 0 ≤ g i ∧ g i ≤ 255) (h1 : 0 < m) (h2 : m ≤ 2000) (hf : tot + (putB m).length + m ≤ sectors * 112) (hl : last < 4611686018427387904) :
    Calls Tryd.prog 35 #[.pointer (some ⟨M, 0, none⟩), .slice a0 m c] w fun r w' => r = .returned (.tuple #[.int .i64 ((last + 1 : Nat) : Int), .int .i64 0]) ∧ Hid (ZApp w w' M X from_ sectors first last forced tot m f g done) := by
  have g1 : ((m : Int) == 0) = false := by simp; omega
  have g2 : ¬ (2000 : Int) < (m : Int) := by omega
  have hcv := conv_from c hF
  have CT := zText none 0 0 (fun _ => 0) (strF g m) w (by rw [strF_size]; omega) (.inl ⟨rfl, rfl⟩) (fun _ => rfl)
  rw [strF_size, strL_strF hg] at CT
  have H : Hid (Zl w M X from_ sectors first last forced (.slice sa tot cs) done) := h
  have hMl : M < w.heap.size := (Array.getElem?_eq_some_iff.1 h).1
  have hlen := putB_le m (by omega)
  obtain ⟨S, hS⟩ : ∃ S, strF g m = S := ⟨_, rfl⟩
  rw [hS] at hcv CT
  obtain ⟨rm, hrm⟩ : ∃ rm, sectors * 112 - tot = rm := ⟨_, rfl⟩
  obtain ⟨ln, hln⟩ : ∃ ln, (putB m).length + m = ln := ⟨_, rfl⟩
  have HLn : Hid ((lst (fun _ => (0 : Int)) 0 ++ putB m ++ lst g m).length = ln) := by
    show _ = ln
    rw [List.length_append, List.length_append, lst_length, lst_length]
    omega
  have HRm : Hid (∀ wq, Below w.heap.size w wq → Calls Tryd.prog 42 #[.pointer (some ⟨M, 0, none⟩)] wq fun r w' => r = .returned (.int .i64 (rm : Int)) ∧ ∃ q, w' = wq.drewN q) := fun wq hq => by
    have := zRoom (H.out.below hq) hs (by omega)
    rwa [hrm] at this
  have HFs : Hid (∀ wq, Below w.heap.size w wq → From wq sa tot f) := fun wq hq => hfs.below hq (Nat.le_refl _)
  have HTl : Hid (tot + ln = tot + (putB m).length + m) := (by omega : tot + ln = tot + (putB m).length + m)
  have g3 : ¬ (rm : Int) < (ln : Int) := by omega
  have g4 : decide ((4611686018427387904 : Int) ≤ (last : Int)) = false := by simp; omega
  have htb : tot ≤ 458752 := by omega
  have hlb : ln ≤ 458752 := by omega
  have HLs : Hid (last < 4611686018427387904) := hl
  clear h hF hS hrm hs hfs hf hl
  go_enter Tryd.func35, Tryd.ntmps35
  go_wp2_with fail
  refine CT.mono ?_
  rintro r w1 ⟨v1, rfl, ho1, b1⟩
  obtain ⟨a1, c1, rfl, hf1, hn1, _⟩ := ho1.open
  rw [HLn.out] at hf1 ⊢
  obtain ⟨xf, hxf⟩ : ∃ xf, fn (lst (fun _ => (0 : Int)) 0 ++ putB m ++ lst g m) = xf := ⟨_, rfl⟩
  rw [hxf] at hf1
  have HXe : Hid (lst xf ln = putB m ++ lst g m) := by
    show lst xf ln = _
    rw [← hxf, ← HLn.out, lst_fn]
    rfl
  clear hxf
  have CR := HRm.out w1 b1
  obtain ⟨_, _, _, _, y4, _, y6, _⟩ := zget (H.out.below b1)
  have HX : Hid (∀ wq, Below w1.heap.size w1 wq → From wq a1 ln xf) := fun wq hq => hf1.below hq (Nat.le_refl _)
  have s1 := b1.size
  clear CT HRm ho1 hf1
  go_wp2_with fail
  refine CR.mono ?_
  rintro r w2 ⟨rfl, q2, rfl⟩
  obtain ⟨W2, hW2⟩ : ∃ W2, w1.drewN q2 = W2 := ⟨_, rfl⟩
  have b12 : Below w1.heap.size w1 W2 := by rw [← hW2]; exact blw_drewN q2 (Below.refl _ _)
  rw [hW2]
  have b2 : Below w.heap.size w W2 := b1.trans (b12.mono s1)
  have s2 := b2.size
  clear CR y4 y6 hW2
  obtain ⟨_, _, _, _, y4, _, y6, _⟩ := zget (H.out.below b2)
  have bA : Below W2.heap.size W2 (W2.alloc (.cells #[] 5)) := (Below.refl _ W2).alloc (Nat.le_refl _) _
  have hm0 : Own (W2.alloc (.cells #[] 5)) W2.heap.size (.slice (some ⟨W2.heap.size, 0, none⟩) 0 0) [] := World.ownsRow_made W2 #[] 0 (Nat.le_refl _) (Nat.zero_le _) rfl
  have yA : (W2.alloc (.cells #[] 5)).cell? ⟨M, 6, none⟩ = some (.slice sa tot cs) := (bA.cell (p := ⟨M, 6, none⟩) (by show M < W2.heap.size; omega)).trans y6
  have HF3 : Hid (From (W2.alloc (.cells #[] 5)) sa tot f) := HFs.out _ (b2.trans (bA.mono s2))
  go_wp2_with (at_builtin; refine wpList_app rfl _ _ rfl W2.heap.size (.slice (some ⟨W2.heap.size, 0, none⟩) 0 0) [] rfl hm0 sa tot cs f rfl HF3.out hsn ?qa ?qb ?_)
  case qa => simp; omega
  case qb => simp
  intro v3 w3 ho3 b3
  have b23 : Below W2.heap.size W2 w3 := bA.trans b3
  have HO3 : Hid (Own w3 W2.heap.size v3 (lst f tot)) := by
    have e : ([] : List Int) ++ lst f tot = lst f tot := rfl
    first | exact ho3 | (rw [e] at ho3; exact ho3)
  have s3 := b23.size
  have HX3 : Hid (From w3 a1 ln xf) := HX.out w3 (b12.trans (b23.mono b12.size))
  clear ho3 b3 hm0 yA HF3 bA
  go_wp2_with (at_builtin; refine wpList_app rfl _ _ rfl W2.heap.size v3 (lst f tot) rfl HO3.out a1 ln c1 xf rfl HX3.out hn1 ?qc ?qd ?_)
  case qc => rw [lst_length]; omega
  case qd => omega
  intro v4 w4 ho4 b4
  have b24 : Below W2.heap.size W2 w4 := b23.trans b4
  have ho4' : Own w4 W2.heap.size v4 (lst (addR f tot m g) (tot + (putB m).length + m)) := by
    rw [HXe.out, ← List.append_assoc] at ho4
    have e2 := addR_list f tot 0 m g (Nat.zero_le _)
    rw [sh_zero, sh_zero, Nat.sub_zero, Nat.sub_zero] at e2
    rw [e2] at ho4
    exact ho4
  have hb4 : Below w.heap.size w w4 := b2.trans (b24.mono s2)
  have H4 := H.out.below hb4
  obtain ⟨a4, c4, rfl, hf4, hg4⟩ := ho4'.fst
  obtain ⟨g4', rfl⟩ : ∃ g4', a4 = some ⟨g4', 0, none⟩ := by
    rcases hf4.2.2 with ⟨_, h0, _⟩ | ⟨g', e, _⟩
    · omega
    · exact ⟨g', e⟩
  have hne : (Value.slice (some ⟨g4', 0, none⟩) (tot + (putB m).length + m) c4).ownBlock ≠ some M := fun e => by
    have := (World.ownsRow.lt ho4' M e).1
    omega
  obtain ⟨_, _, _, _, k4, _, k6, _⟩ := zget H4
  have f6 : w4.frozen? ⟨M, 6, none⟩ = false := cells_free H4 6
  have H5 : Zl (w4.setCell ⟨M, 6, none⟩ (.slice (some ⟨g4', 0, none⟩) (tot + (putB m).length + m) c4)) M X from_ sectors first last forced (.slice (some ⟨g4', 0, none⟩) (tot + (putB m).length + m) c4) done := heap_set_at H4 _
  obtain ⟨_, _, _, _, k4', _⟩ := zget H5
  have f4 : (w4.setCell ⟨M, 6, none⟩ (.slice (some ⟨g4', 0, none⟩) (tot + (putB m).length + m) c4)).frozen? ⟨M, 4, none⟩ = false := cells_free H5 4
  have H6 : Zl ((w4.setCell ⟨M, 6, none⟩ (.slice (some ⟨g4', 0, none⟩) (tot + (putB m).length + m) c4)).setCell ⟨M, 4, none⟩ (.int .i64 ((last + 1 : Nat) : Int))) M X from_ sectors first (last + 1) forced (.slice (some ⟨g4', 0, none⟩) (tot + (putB m).length + m) c4) done := heap_set_at H5 _
  obtain ⟨_, _, _, _, k4'', _⟩ := zget H6
  have HZ : Hid (ZApp w ((w4.setCell ⟨M, 6, none⟩ (.slice (some ⟨g4', 0, none⟩) (tot + (putB m).length + m) c4)).setCell ⟨M, 4, none⟩ (.int .i64 ((last + 1 : Nat) : Int))) M X from_ sectors first last forced tot m f g done) := by
    have o6 : Own ((w4.setCell ⟨M, 6, none⟩ (.slice (some ⟨g4', 0, none⟩) (tot + (putB m).length + m) c4)).setCell ⟨M, 4, none⟩ (.int .i64 ((last + 1 : Nat) : Int))) W2.heap.size (.slice (some ⟨g4', 0, none⟩) (tot + (putB m).length + m) c4) (lst (addR f tot m g) (tot + (putB m).length + m)) := row_set (row_set ho4' hne 6 _) hne 4 _
    obtain ⟨a9, c9, e9, hf9, _⟩ := own_any o6
    cases e9
    have hlt := World.ownsRow.lt o6 g4' rfl
    refine ⟨g4', c4, H6, hf9, by omega, hlt.2, hf4.1, hf4.2.1, ?_⟩
    exact ((Part.ofBelow (F := fun k => k = M) hb4).setCell (p := ⟨M, 6, none⟩) (fun _ => rfl) _).setCell (p := ⟨M, 4, none⟩) (fun _ => rfl) _
  have hw : wrap64 ((last : Int) + 1) = ((last + 1 : Nat) : Int) := by have := HLs.out; unfold wrap64; omega
  have hl9 : (last : Int) ≤ 4611686018427387903 := by have := HLs.out; omega
  have hl8 : (0 : Int) ≤ (last : Int) := by omega
  clear ho4 b4 ho4' H4 H5 H6 HO3 HX3 HX hf4 hg4 hne
  go_wp2
  go_ret2
  exact ⟨rfl, HZ⟩
end Go.Proofs.YtmjoklppibfdmaaDoor
