/-
  Contract of the law's own fill: a log on a disk of an image, behind any calls. Conditions: the image's rows and bytes are of lengths that a machine can hold; the library's table of sums is as it starts.
-/
import Derived.Test.YtmjoklppibfdmaaDoorGh
namespace Go.Proofs.YtmjoklppibfdmaaDoor
open Go.RowKit
set_option linter.unusedVariables false

theorem mod5_ex (z : Int) : ∃ t : Nat, t < 5 ∧ IntKind.i64.wrap ((IntKind.u64.wrap z).tmod 5) = (t : Int) := by
  rw [IntKind.wrap_u64, Int.tmod_eq_emod_of_nonneg (Int.emod_nonneg _ (by decide))]
  have a := Int.emod_nonneg (z % 18446744073709551616) (show (5 : Int) ≠ 0 by omega)
  have b := Int.emod_lt_of_pos (z % 18446744073709551616) (show (0 : Int) < 5 by omega)
  obtain ⟨t, ht⟩ := Int.eq_ofNat_of_zero_le a
  rw [ht] at b ⊢
  exact ⟨t, by omega, by rw [IntKind.wrap_i64]; omega⟩
theorem RecG.ext2 {w : World} {B : Nat} {v : Value} {k : Nat} {A : Nat → Option Addr} {L L' C : Nat → Nat} {f f' : Nat → Nat → Int} (h : RecG w B v k A L C f) (e1 : ∀ j, j < k → L j = L' j) (e2 : ∀ j, j < k → ∀ i, i < L j → f j i = f' j i) : RecG w B v k A L' C f' := by
  refine ⟨?_, fun j hj => ?_⟩
  · have e : gL k A L C = gL k A L' C := by
      unfold gL
      apply List.map_congr_left
      intro j hj
      rw [e1 j (List.mem_range.1 hj)]
    rw [← e]
    exact h.own
  · obtain ⟨g, cur, fz, h1, h2, h3, h4⟩ := h.each j hj
    exact ⟨g, cur, fz, h1, h2, h3, fun i hi => by rw [← e2 j hj i (by rw [e1 j hj]; exact hi)]; exact h4 i (by rw [e1 j hj]; exact hi)⟩

/-- A call of a log that was handed in. -/
structure DoL (w : World) (b off : Nat) (op : Int) (a : Option Addr) (l c : Nat) (f : Nat → Int) : Prop where
  c0 : w.cell? ⟨b, off, none⟩ = some (.int .i64 op)
  c1 : w.cell? ⟨b, off + 1, none⟩ = some (.slice a l c)
  fb : From w a l f
  by_ : ∀ j, 0 ≤ f j ∧ f j ≤ 255
  nb : a = none → c = 0
def DosL (w : World) (a0 : Option Addr) (N : Nat) : Prop := ∀ r, r < N → ∃ b off, a0 = some ⟨b, off, none⟩ ∧ ∃ op a l c f, DoL w b (off + r * 2) op a l c f
theorem DoL.below {w w' : World} {b off : Nat} {op : Int} {a : Option Addr} {l c : Nat} {f : Nat → Int} (h : DoL w b off op a l c f) (hb : Below w.heap.size w w') : DoL w' b off op a l c f := by
  have key : ∀ p v, w.cell? p = some v → w'.cell? p = some v := fun p v hp => by
    rw [hb.cell (p := p) (World.block_lt_of_cell? w _ hp)]; exact hp
  exact ⟨key _ _ h.c0, key _ _ h.c1, h.fb.below hb (Nat.le_refl _), h.by_, h.nb⟩
theorem DoL.low {w : World} {b off : Nat} {op : Int} {a : Option Addr} {l c : Nat} {f : Nat → Int} (h : DoL w b off op a l c f) : ∀ x, a = some x → 0 < l → x.block < w.heap.size := fun x hx hl => by
  rcases h.fb with ⟨e, _⟩ | ⟨y, e, hc⟩
  · rw [e] at hx; cases hx
  · rw [e] at hx
    obtain rfl : y = x := Option.some.inj hx
    have h9 := World.block_lt_of_cell? w _ (hc 0 hl)
    have h8 : (y.add 0).block = y.block := by unfold Addr.add; split <;> rfl
    omega

/-- A log behind calls: its records are those that a law holds, so many of them forced. -/
def Fil (w : World) (D L n : Nat) (v : Value) (forced : Nat) (wr : World) : Prop := ∃ P e f first z tot R, Lgs wr P D L n e f first z tot forced R ∧ (∀ q, P q → w.heap.size ≤ q) ∧ RecP wr w.heap.size v P f R ∧ Below w.heap.size w wr
theorem RecP.len {w : World} {B : Nat} {v : Value} {P : Nat → Prop} {f : Nat → Int} {R : List (Nat × Nat)} (h : RecP w B v P f R) : ∃ a c, v = .slice a R.length c := by
  obtain ⟨A, C, hG, _⟩ := h
  exact own_slice hG.own
theorem RecP.part {w w' : World} {B : Nat} {v : Value} {P P' : Nat → Prop} {f : Nat → Int} {R : List (Nat × Nat)} (h : RecP w B v P f R) (hp : Part P w w') (hP : ∀ k, P' k → P k ∨ w.heap.size ≤ k) : RecP w' B v P' f R := by
  obtain ⟨A, C, hG, h1, h2⟩ := h
  obtain ⟨l1, l2⟩ := hG.lt
  refine ⟨A, C, hG.part2 hp h1 (fun j g hj e => h2 j g hj e), fun k hk hk' => ?_, fun j k hj e hk' => ?_⟩
  · rcases hP k hk' with a | a
    · exact h1 k hk a
    · have := l1 k hk; omega
  · rcases hP k hk' with a | a
    · exact h2 j k hj e a
    · have := l2 j k hj e; omega
theorem RecP.below {w w' : World} {B : Nat} {v : Value} {P : Nat → Prop} {f : Nat → Int} {R : List (Nat × Nat)} (h : RecP w B v P f R) (hb : Below w.heap.size w w') : RecP w' B v P f R := h.part (Part.ofBelow hb) (fun k hk => .inl hk)

/-- A record more. -/
theorem fil_snoc {wr w2 w3 w5 : World} {B D Lp n : Nat} {P P' : Nat → Prop} {e f g : Nat → Int} {first z tot forced m : Nat} {R : List (Nat × Nat)} {v v2 : Value} {A : Nat → Option Addr} {C : Nat → Nat} {g1 c1 : Nat} {o : Obj}
    (hL : Lgs w2 P' D Lp n e (addR f tot m g) first z (tot + (putB m).length + m) forced (R ++ [(tot + (putB m).length, m)])) (hG : RecG wr B v R.length A (lenF R) C (bytF f R)) (h1 : ∀ k, v.ownBlock = some k → ¬ P k) (h2 : ∀ j k, j < R.length → A j = some ⟨k, 0, none⟩ → ¬ P k) (hB : B ≤ wr.heap.size) (hp : Part P wr w2) (hP' : ∀ k, P' k → P k ∨ wr.heap.size ≤ k) (hprs : PrsTo f tot R tot)
    (b3 : Below w2.heap.size w2 w3) (ho : Own w3 w2.heap.size (.slice (some ⟨g1, 0, none⟩) m c1) (lst g m)) (h5 : w5.ownsRow B 34 1 v2 (R.length + 1) (gL R.length A (lenF R) C ++ [.slice (some ⟨g1, 0, none⟩) m c1])) (hg5 : (w3.alloc o).grownBy w5 v.ownBlock) (hat : v2.ownBlock = v.ownBlock ∨ v2.ownBlock = some (w3.alloc o).heap.size) :
    Lgs w5 P' D Lp n e (addR f tot m g) first z (tot + (putB m).length + m) forced (R ++ [(tot + (putB m).length, m)]) ∧ RecP w5 B v2 P' (addR f tot m g) (R ++ [(tot + (putB m).length, m)]) ∧ Below B w2 w5 := by
  obtain ⟨l1, l2⟩ := hG.lt
  have hs2 := hp.size
  have hs3 := b3.size
  have hG2 : RecG w2 B v R.length A (lenF R) C (bytF f R) := hG.part2 hp h1 h2
  have nP : ∀ k, v.ownBlock = some k → ¬ P' k := fun k hk hk' => by
    rcases hP' k hk' with a | a
    · exact h1 k hk a
    · have := l1 k hk; omega
  have p25 : Part (fun q => v.ownBlock = some q) w2 w5 := ((Part.ofBelow b3).alloc o).grown hg5 (fun k hk _ => hk)
  obtain ⟨x, hx⟩ : ∃ x, (tot + (putB m).length, m) = x := ⟨_, rfl⟩
  have hgb : w2.heap.size ≤ g1 ∧ g1 < w3.heap.size := World.ownsRow.lt ho g1 rfl
  refine ⟨hL.part p25 (fun k hk hk' => nP k hk' hk), ?_, (((b3.mono (by omega)).alloc (by omega) o).grown hg5 (by simp; omega) (fun q hq => (World.ownsRow.lt hG.own q hq).1))⟩
  have el : ∀ j, lenF (R ++ [(tot + (putB m).length, m)]) j = if j = R.length then m else lenF R j := fun j => by
    unfold lenF; rw [getD_snoc]; split <;> rfl
  have eb : ∀ j, bytF (addR f tot m g) (R ++ [(tot + (putB m).length, m)]) j = if j = R.length then sh (addR f tot m g) (tot + (putB m).length) else bytF (addR f tot m g) R j := fun j => by
    unfold bytF; rw [getD_snoc]; split <;> rfl
  have hX : RecG w2 B v R.length A (lenF (R ++ [(tot + (putB m).length, m)])) C (bytF (addR f tot m g) (R ++ [(tot + (putB m).length, m)])) := hG2.ext2 (fun j hj => by rw [el, if_neg (by omega)]) (fun j hj i hi => by
    rw [eb, if_neg (by omega)]
    have := hprs.in_ j hj
    show f _ = addR f tot m g _
    rw [addR_lo]
    unfold lenF at hi
    omega)
  have eg : gL R.length A (lenF R) C = gL R.length A (lenF (R ++ [(tot + (putB m).length, m)])) C := by
    unfold gL
    apply List.map_congr_left
    intro j hj
    have := List.mem_range.1 hj
    rw [el, if_neg (by omega)]
  obtain ⟨cur, fz, hcur, hcc⟩ : ∃ cur fz, w3.heap[g1]? = some (.cells cur 5 fz) ∧ ∀ i, i < m → cur[i]? = some (.int .u8 (g i)) := by
    obtain ⟨cur, hcur⟩ := row_block ho rfl
    refine ⟨cur, _, hcur, fun i hi => ?_⟩
    have := ho.cellF i hi
    simpa [World.cell?, hcur] using this
  have hZ := hX.snoc b3 (by omega) hgb.1 hcur (c1 := c1) (by
    intro i hi
    rw [el, if_pos rfl] at hi
    rw [eb, if_pos rfl]
    show _ = some (Value.int .u8 (addR f tot m g _))
    rw [addR_hi]
    exact hcc i hi) o (by rw [← eg, el, if_pos rfl]; exact h5) hg5
  refine ⟨_, _, by rw [List.length_append]; exact hZ, fun k hk hk' => ?_, fun j k hj e hk' => ?_⟩
  · rcases hat with a | a
    · exact nP k (a.symm.trans hk) hk'
    · rw [a] at hk
      cases hk
      have := hL.lt _ hk'
      simp at this
      omega
  · rw [List.length_append] at hj
    by_cases ej : j = R.length
    · rw [if_pos ej] at e
      cases e
      have := hL.lt _ hk'
      omega
    · rw [if_neg ej] at e
      have hj' : j < R.length := by simp at hj; omega
      rcases hP' k hk' with a | a
      · exact h2 j k hj' e a
      · have := l2 j k hj' e; omega
set_option maxRecDepth 100000 in
set_option maxHeartbeats 2000000 in
theorem plImageW (a0 : Option Addr) (N c0 : Nat) (A : Nat → Option Addr) (L C : Nat → Nat) (f : Nat → Nat → Int) (w : World) (h : Img w a0 N A L C f) (hN : N ≤ 5864062014805) (hL : ∀ i, i < N → L i ≤ 140737488355328) :
    Calls Tryd.prog 29 #[.slice a0 N c0] w fun e w' => ∃ ag cg A' C', e = .returned (.slice ag N cg) ∧ Img w' ag N A' L C' f ∧ (N ≤ cg ∧ cg ≤ 9223372036854775807) ∧ Below w.heap.size w w' := by
  obtain ⟨i0, hi0, hz0, hz1, hz2⟩ := info_parts infoB
  have H : Hid (∀ wq, Below w.heap.size w wq → Img wq a0 N A L C f) := fun wq hq => h.below hq
  have H0 : Hid (MineG w w.heap.size (.slice none 0 0) 0 A L C f) := ⟨World.ownsRow_nil _ _ _ _, fun j hj => by omega⟩
  have HLn : Hid (∀ i, i < N → L i ≤ 140737488355328) := hL
  clear h hL
  go_enter Tryd.func29, Tryd.ntmps29
  go_wp2
  go_loopw [3, 8] (fun out i wr => ∃ (k : Nat) (A' : Nat → Option Addr) (C' : Nat → Nat), k ≤ N ∧ i = .int .i64 (k : Int) ∧ MineG wr w.heap.size out k A' L C' f ∧ Below w.heap.size w wr) (fun _ i _ => N - (intOf i).toNat)
  case atStart => exact ⟨0, _, _, Nat.zero_le _, rfl, H0.out, Below.refl _ _⟩
  case round =>
    obtain ⟨k, A', C', hk, rfl, hmi, hb⟩ := hrel
    have hs := hb.size
    have HMi : Hid (MineG wr w.heap.size u3 k A' L C' f) := hmi
    clear hmi
    by_cases hlt : k < N
    · have hlt' : (k : Int) < (N : Int) := by omega
      have hk0 : (0 : Int) ≤ (k : Int) := by omega
      obtain ⟨b, off, rfl, p1, p2, p3⟩ := H.out wr hb k hlt
      have HF : Hid (From wr (A k) (L k) (f k)) := p2
      have hLk := HLn.out k hlt
      clear p2 p3
      go_wp2_with fail
      refine (clone (A k) (L k) (C k) (f k) wr (by omega) HF.out).mono ?_
      rintro e w1 ⟨v1, rfl, ho1, hb1⟩
      obtain ⟨a1, c1, rfl, _, _⟩ := own_any ho1
      have HO1 : Hid (Own w1 wr.heap.size (.slice a1 (L k) c1) (lst (f k) (L k))) := ho1
      have hs1 := hb1.size
      have HRw : Hid ((w1.alloc (.cells #[.slice a1 (L k) c1] 34)).ownsRow w.heap.size 34 1 u3 k (gL k A' L C')) := World.ownsRow.alloc (Part.row (F := fun _ => False) (Part.ofBelow hb1) HMi.out.own (fun _ _ h => h)) _
      have HCe : Hid ((w1.alloc (.cells #[.slice a1 (L k) c1] 34)).cell? ⟨w1.heap.size, 0, none⟩ = some (.slice a1 (L k) c1)) := (by rw [World.cell?_alloc_at _ _ _ _ rfl]; rfl : (w1.alloc (.cells #[.slice a1 (L k) c1] 34)).cell? ⟨w1.heap.size, 0, none⟩ = some (.slice a1 (L k) c1))
      have HSz : Hid (w.heap.size ≤ (w1.alloc (.cells #[.slice a1 (L k) c1] 34)).heap.size) := (by simp; omega : w.heap.size ≤ (w1.alloc (.cells #[.slice a1 (L k) c1] 34)).heap.size)
      have HNx : Hid (∀ v2 w2, w2.ownsRow w.heap.size 34 1 v2 (k + 1) (gL k A' L C' ++ [.slice a1 (L k) c1]) → (w1.alloc (.cells #[.slice a1 (L k) c1] 34)).grownBy w2 u3.ownBlock → MineG w2 w.heap.size v2 (k + 1) (fun j => if j = k then a1 else A' j) L (fun j => if j = k then c1 else C' j) f ∧ Below w.heap.size w w2) := fun v2 w2 h2 hg2 =>
        ⟨HMi.out.snoc hb1 hs HO1.out _ h2 hg2, ((hb.trans (hb1.mono hs)).alloc (by omega) _).grown hg2 HSz.out (fun q hq => (World.ownsRow.lt HMi.out.own q hq).1)⟩
      clear ho1 hb1
      go_wp2_with (at_builtin; refine wpList_append_own _ rfl _ _ 22 rfl w.heap.size 34 i0 (.slice none 0 0) 1 24 Tryd.underlying22 hi0 hz0 hz1 hz2 rfl (by decide) u3 k (gL k A' L C') rfl HRw.out ⟨w1.heap.size, 0, none⟩ 1 1 [.slice a1 (L k) c1] rfl rfl ?q1 ?q2 ?q3 ?q4 HSz.out ?_)
      case q1 =>
        intro j u hj
        have hj0 : j = 0 := by
          have := (List.getElem?_eq_some_iff.1 hj).1
          simp at this
          omega
        subst hj0
        rw [Addr.add_lit, Nat.zero_add, HCe.out]
        simpa using hj
      case q2 =>
        intro u hu
        simp at hu
        rw [hu]
        rfl
      case q3 => unfold maxLen; omega
      case q4 => omega
      intro v2 w2 ho2 hg2 _
      obtain ⟨z1, z2⟩ := HNx.out v2 w2 ho2 hg2
      have HZ : Hid (MineG w2 w.heap.size v2 (k + 1) (fun j => if j = k then a1 else A' j) L (fun j => if j = k then c1 else C' j) f) := z1
      clear z1 ho2 hg2
      go_wp2
      go_roundw
      case rel => exact ⟨k + 1, _, _, by omega, by go_num, HZ.out, z2⟩
      case measure => simp [intOf]; omega
    · obtain rfl : k = N := by omega
      obtain ⟨ag, cg, rfl⟩ : ∃ ag cg, u3 = .slice ag k cg := by
        rcases HMi.out.own.2 with ⟨rfl, h0⟩ | ⟨g, cap, cur, rfl, _⟩
        · rw [h0]; exact ⟨none, 0, rfl⟩
        · exact ⟨_, cap, rfl⟩
      have hcap : k ≤ cg ∧ cg ≤ 9223372036854775807 := by
        rcases HMi.out.own.2 with ⟨e, h0⟩ | ⟨g, cap, cur, e, _, _, e1, e2, _⟩
        · injection e with _ _ e3
          omega
        · injection e with _ _ e3
          have : maxLen = 9223372036854775807 := rfl
          omega
      go_wp2
      go_ret
      exact ⟨ag, cg, A', C', rfl, HMi.out.img, hcap, hb⟩

theorem results_tmp5 {fn : Func} {t u v x y : Tmp} (h : fn.results = #[.tmp t, .tmp u, .tmp v, .tmp x, .tmp y]) (tmps : Array Value) (P : Program) (w : World) :
    (results fn tmps).run P w = .ok (.tuple #[tmps.getD t undef, tmps.getD u undef, tmps.getD v undef, tmps.getD x undef, tmps.getD y undef]) w := by
  simp [results, h]
/-- What fill answers, and leaves. -/
def FilAns (w : World) (N : Nat) (L : Nat → Nat) (r : Ending) (w' : World) : Prop :=
  (¬ Fits N L ∧ r = .returned (.tuple #[.pointer none, .pointer none, .slice none 0 0, .int .i64 0, .bool false]) ∧ Below w.heap.size w w') ∨
  (Fits N L ∧ ∃ (D Lp : Nat) (v : Value) (forced : Nat), r = .returned (.tuple #[.pointer (some ⟨D, 0, none⟩), .pointer (some ⟨Lp, 0, none⟩), v, .int .i64 (forced : Int), .bool true]) ∧ Fil w D Lp N v forced w')

set_option maxRecDepth 100000 in
set_option maxHeartbeats 4000000 in
theorem fill_ok (a0 : Option Addr) (N c0 : Nat) (A : Nat → Option Addr) (L C : Nat → Nat) (f : Nat → Nat → Int) (a1 : Option Addr) (N1 c1 : Nat) (w : World) (h : Img w a0 N A L C f) (hN : N ≤ 5864062014805) (hLn : ∀ i, i < N → L i ≤ 140737488355328) (hby : ∀ i j, 0 ≤ f i j ∧ f i j ≤ 255) (hN1 : N1 ≤ 9223372036854775806) (hd : DosL w a1 N1) (ht : Tab w) :
    Calls Tryd.prog 11 #[.slice a0 N c0, .slice a1 N1 c1] w fun r w' => FilAns w N L r w' := by
  have HI := plImageW a0 N c0 A L C f w h hN hLn
  have HD : Hid (DosL w a1 N1) := hd
  have HT : Hid (Tab w) := ht
  have tl := ht.lt
  have HO : Hid (∀ w1 ag cg A' C', Below w.heap.size w w1 → Img w1 ag N A' L C' f → N ≤ cg → Calls Tryd.prog 23 #[.slice ag N cg] w1 fun r w2 => (Hid (¬ Fits N L) ∧ r = .returned (.tuple #[.pointer none, .int .i64 1]) ∧ Below w.heap.size w w2) ∨ (Hid (Fits N L) ∧ ∃ D, r = .returned (.tuple #[.pointer (some ⟨D, 0, none⟩), .int .i64 0]) ∧ Hid (Calls Tryd.prog 43 #[.pointer (some ⟨D, 0, none⟩)] w2 fun r w3 => r = .returned (.int .i64 (N : Int)) ∧ w3 = w2) ∧ Hid (Calls Tryd.prog 31 #[.pointer (some ⟨D, 0, none⟩), .int .i64 0, .int .i64 (N : Int)] w2 fun r w3 => ∃ (Lp : Nat) (a : Option Addr) (c forced : Nat), r = .returned (.tuple #[.pointer (some ⟨Lp, 0, none⟩), .slice a forced c, .int .i64 0]) ∧ Hid (Fil w D Lp N (.slice a forced c) forced w3)))) := fun w1 ag cg A' C' b1 hI hc => by
    have s1 := b1.size
    by_cases h1 : N < 1 ∨ 4096 < N
    · refine (dOf_size ag N cg w1 h1).mono ?_
      rintro r w2 ⟨rfl, b2⟩
      exact .inl ⟨fun k => by have := k.1; have := k.2.1; omega, rfl, b1.trans (b2.mono s1)⟩
    · refine (dOf_in ag N cg A' L C' f w1 hI (by omega) (by omega) hc hby).mono ?_
      rintro r w2 (⟨⟨i, hi, hne⟩, rfl, b2⟩ | ⟨hall, D, rfl, hD, b2⟩)
      · exact .inl ⟨fun k => hne (k.2.2 i hi), rfl, b1.trans (b2.mono s1)⟩
      · have hs := hD.sd
        have b12 := b1.trans (b2.mono s1)
        refine .inr ⟨⟨by omega, by omega, hall⟩, D, rfl, sdSectors D N 0 _ _ w2 hs, ?_⟩
        have ht2 : Tab w2 := HT.out.below b12 (Nat.le_refl _)
        refine (openL D N 0 N _ (flat f) w2 hs (by omega) (by omega) ht2 (by omega)).mono ?_
        rintro r w3 ⟨Lp, v, first, tot, size, R, rfl, hOp⟩
        obtain ⟨e', P, hL, hP, hR⟩ := lgs_opened hOp (fun k hk => hk.2) hs.by_
        obtain ⟨av, cv, rfl⟩ := hR.len
        have s2 := b12.size
        refine ⟨Lp, av, cv, R.length, rfl, P, e', _, _, _, _, R, hL, fun q hq => ?_, ?_, ?_⟩
        · rcases hP q hq with a | a
          · omega
          · omega
        · obtain ⟨A9, C9, g1, g2, g3⟩ := hR
          exact ⟨A9, C9, g1.mono s2, g2, g3⟩
        · exact b12.trans (hOp.part.below (fun k hk => by omega) s2)
  obtain ⟨i0, hi0, hz0, hz1, hz2⟩ := info_parts infoB
  clear h hd hby hLn ht
  go_enter Tryd.func11, Tryd.ntmps11
  go_wp2_with fail
  refine HI.mono ?_
  rintro r w1 ⟨ag, cg, A', C', rfl, hI, hcg, b1⟩
  have CO := HO.out w1 ag cg A' C' b1 hI hcg.1
  clear HI HO hI hcg b1
  go_wp2_with fail
  refine CO.mono ?_
  rintro r w2 (⟨hn, rfl, b2⟩ | ⟨hfit, D, rfl, HS, HOp⟩)
  · clear CO
    go_wp2
    (try simp only [Exit.inBlock, Exit.then]); refine bodyPost_ret (results_tmp5 rfl _ _ _) rfl ?_
    exact .inl ⟨hn.out, rfl, b2⟩
  · clear CO
    go_wp2_with fail
    refine HS.out.mono ?_
    rintro r w3 ⟨rfl, hw⟩
    obtain rfl : w2 = w3 := hw.symm
    clear hw
    go_wp2_with fail
    refine HOp.out.mono ?_
    rintro r w3 ⟨Lp, av, cv, fo, rfl, HF⟩
    clear HOp HS
    go_wp2
    go_loopw [12, 13, 40] (fun s12 s13 s40 wr => ∃ k forced : Nat, k ≤ N1 ∧ s40 = .int .i64 (k : Int) ∧ s13 = .int .i64 (forced : Int) ∧ Fil w D Lp N s12 forced wr) (fun _ _ i _ => N1 - (intOf i).toNat)
    case atStart => exact ⟨0, fo, Nat.zero_le _, rfl, rfl, HF.out⟩
    case round =>
      obtain ⟨k, forced, hk, rfl, rfl, hfil⟩ := hrel
      have HFl : Hid (Fil w D Lp N u12 forced wr) := hfil
      by_cases hlt : k < N1
      · obtain ⟨b, off, rfl, op, a, l, c, g, hdo⟩ := HD.out k hlt
        obtain ⟨P, e, f9, first, z, tot, R, hL, hP, ⟨A9, C9, hG, r1, r2⟩, hB⟩ := hfil
        obtain ⟨q0, q1, _, _, _⟩ := hdo.below hB
        obtain ⟨t, ht5, hte⟩ := mod5_ex op
        have hlt' : (k : Int) < (N1 : Int) := by omega
        have hk0 : (0 : Int) ≤ (k : Int) := by omega
        obtain ⟨n1, n2⟩ := hL.n2
        have hRl : R.length ≤ 1000000 := by have := hL.prs.len; have := hL.le; omega
        obtain ⟨xa, xc, rfl⟩ := own_slice hG.own
        have sB := hB.size
        -- what the arms do, from the world with the call's box on
        have HAp : Hid (∀ o, o = Obj.cells #[.int .i64 op, .slice a l c] 36 → Calls Tryd.prog 27 #[.pointer (some ⟨Lp, 0, none⟩), .slice a l c] (wr.alloc o) fun r w4 => (∃ er, r = .returned (.tuple #[.int .i64 0, .int .i64 er]) ∧ (er == 0) = false ∧ Hid (Fil w D Lp N (.slice xa R.length xc) forced w4)) ∨ (∃ nn, r = .returned (.tuple #[.int .i64 nn, .int .i64 0]) ∧ w4.cell? ⟨wr.heap.size, 1, none⟩ = some (.slice a l c) ∧ Hid (Calls Tryd.prog 34 #[.slice a l c] w4 fun r w5 => ∃ g1 c2, r = .returned (.slice (some ⟨g1, 0, none⟩) l c2) ∧ Hid ((w5.alloc (.cells #[.slice (some ⟨g1, 0, none⟩) l c2] 34)).ownsRow w.heap.size 34 1 (.slice xa R.length xc) R.length (gL R.length A9 (lenF R) C9)) ∧ Hid (w.heap.size ≤ (w5.alloc (.cells #[.slice (some ⟨g1, 0, none⟩) l c2] 34)).heap.size) ∧ Hid (∀ v2 w6, w6.ownsRow w.heap.size 34 1 v2 (R.length + 1) (gL R.length A9 (lenF R) C9 ++ [.slice (some ⟨g1, 0, none⟩) l c2]) → (w5.alloc (.cells #[.slice (some ⟨g1, 0, none⟩) l c2] 34)).grownBy w6 (Value.slice xa R.length xc).ownBlock → (v2.ownBlock = (Value.slice xa R.length xc).ownBlock ∨ v2.ownBlock = some (w5.alloc (.cells #[.slice (some ⟨g1, 0, none⟩) l c2] 34)).heap.size) → Fil w D Lp N v2 forced w6)))) := fun o ho => by
          have b0 : Below wr.heap.size wr (wr.alloc o) := (Below.refl _ wr).alloc (Nat.le_refl _) o
          have hd0 := hdo.below (hB.trans (b0.mono sB))
          have low := hdo.low
          have s0 : (wr.alloc o).heap.size = wr.heap.size + 1 := by simp
          have hL0 := hL.below b0
          refine (lgs_append hL0 a l c g hd0.fb hd0.by_ (fun x hx h0 hh => by have := low x hx h0; have := hP _ hh; omega) hd0.nb).mono ?_
          rintro r w4 (⟨er, rfl, her, b4, _⟩ | ⟨rfl, hl1, hl2, P', hL4, p4, hP'⟩)
          · refine .inl ⟨er, rfl, beq_eq_false_iff_ne.2 her, ?_⟩
            have b04 : Below wr.heap.size wr w4 := b0.trans (b4.mono (by omega))
            exact ⟨P, e, f9, first, z, tot, R, hL.below b04, hP, RecP.below ⟨A9, C9, hG, r1, r2⟩ b04, hB.trans (b04.mono sB)⟩
          · have s4 := p4.size
            have hbx : (wr.alloc o).cell? ⟨wr.heap.size, 1, none⟩ = some (.slice a l c) := by rw [ho, World.cell?_alloc_at _ _ _ _ rfl]; rfl
            refine .inr ⟨_, rfl, p4.cell (p := ⟨wr.heap.size, 1, none⟩) (fun hh => by have h9 : wr.heap.size < wr.heap.size := hL.lt _ hh; omega) hbx, ?_⟩
            have hf4 : From w4 a l g := hd0.fb.partG p4 (fun x hx h0 hh => by have := low x hx h0; have := hP _ hh; omega)
            refine (clone a l c g w4 (by omega) hf4).mono ?_
            rintro r w5 ⟨v1, rfl, ho1, b5⟩
            have s5 := b5.size
            obtain ⟨g1, c2, rfl⟩ : ∃ g1 c2, v1 = .slice (some ⟨g1, 0, none⟩) l c2 := by
              obtain ⟨a9, c9, rfl, hf9, _⟩ := ho1.fst
              rcases hf9.2.2 with ⟨_, h0, _⟩ | ⟨g1, rfl, _⟩
              · omega
              · exact ⟨g1, c9, rfl⟩
            have pP : Part P wr w4 := (Part.ofBelow b0).trans p4 (fun _ _ h => h)
            have hP4 : ∀ k, P' k → P k ∨ wr.heap.size ≤ k := fun k hk => (hP' k hk).imp id (fun h => by omega)
            have hG4 : RecG w4 w.heap.size (.slice xa R.length xc) R.length A9 (lenF R) C9 (bytF f9 R) := hG.part2 pP r1 r2
            refine ⟨g1, c2, rfl, World.ownsRow.alloc (Part.row (F := fun _ => False) (Part.ofBelow b5) hG4.own (fun _ _ h => h)) _, (by simp; omega : w.heap.size ≤ (w5.alloc (.cells #[.slice (some ⟨g1, 0, none⟩) l c2] 34)).heap.size), fun v2 w6 ho6 hg6 hat => ?_⟩
            obtain ⟨y1, y2, y3⟩ := fil_snoc hL4 hG r1 r2 sB pP hP4 hL.prs b5 ho1 ho6 hg6 hat
            refine ⟨P', e, _, first, z, _, _, y1, fun q hq => ?_, y2, (hB.trans (pP.below hP sB)).trans y3⟩
            rcases hP4 q hq with a | a
            · exact hP q a
            · omega
        have htb : ¬ P 1 := fun hh => by have := hP _ hh; omega
        have HFo : Hid (∀ o, Calls Tryd.prog 14 #[.pointer (some ⟨Lp, 0, none⟩)] (wr.alloc o) fun r w4 => r = .returned (.int .i64 0) ∧ Hid (Fil w D Lp N (.slice xa R.length xc) R.length w4)) := fun o => by
          have b0 : Below wr.heap.size wr (wr.alloc o) := (Below.refl _ wr).alloc (Nat.le_refl _) o
          refine (lgs_force (hL.below b0) (HT.out.below (hB.trans (b0.mono sB)) (Nat.le_refl _)) htb).mono ?_
          rintro r w4 ⟨rfl, e', P', hL4, p4, hP'⟩
          have pP : Part P wr w4 := (Part.ofBelow b0).trans p4 (fun _ _ h => h)
          have hP4 : ∀ k, P' k → P k ∨ wr.heap.size ≤ k := fun k hk => (hP' k hk).imp id (fun h => by simp at h; omega)
          refine ⟨rfl, P', e', f9, first, tot, tot, R, hL4, fun q hq => ?_, RecP.part ⟨A9, C9, hG, r1, r2⟩ pP hP4, hB.trans (pP.below hP sB)⟩
          rcases hP4 q hq with a | a
          · exact hP q a
          · omega
        have HRe : Hid (∀ o, Calls Tryd.prog 25 #[.pointer (some ⟨Lp, 0, none⟩)] (wr.alloc o) fun r w4 => (r = .returned (.int .i64 0) ∧ Hid (Fil w D Lp N (.slice none 0 0) 0 w4)) ∨ (r = .returned (.int .i64 4) ∧ Hid (Fil w D Lp N (.slice xa R.length xc) forced w4))) := fun o => by
          have b0 : Below wr.heap.size wr (wr.alloc o) := (Below.refl _ wr).alloc (Nat.le_refl _) o
          by_cases hl : first + R.length - 1 < 4611686018427387904
          · refine (lgs_reset (hL.below b0) (HT.out.below (hB.trans (b0.mono sB)) (Nat.le_refl _)) htb hl).mono ?_
            rintro r w4 ⟨rfl, e', P', hL4, p4, hP'⟩
            have pP : Part P wr w4 := (Part.ofBelow b0).trans p4 (fun _ _ h => h)
            have hP4 : ∀ k, P' k → P k ∨ wr.heap.size ≤ k := fun k hk => (hP' k hk).imp id (fun h => by simp at h; omega)
            refine .inl ⟨rfl, P', e', f9, _, 0, 0, [], hL4, fun q hq => ?_, ⟨fun _ => none, fun _ => 0, RecG.nil _ _ _ _ _ _, (fun k hk => by cases hk), (fun j k hj => by simp at hj)⟩, hB.trans (pP.below hP sB)⟩
            rcases hP4 q hq with a | a
            · exact hP q a
            · omega
          · refine (lgs_reset_full (hL.below b0) (by omega)).mono ?_
            rintro r w4 ⟨rfl, rfl⟩
            exact .inr ⟨rfl, P, e, f9, first, z, tot, R, hL.below b0, hP, RecP.below ⟨A9, C9, hG, r1, r2⟩ b0, hB.trans (b0.mono sB)⟩
        have HNo : Hid (∀ o, Fil w D Lp N (.slice xa R.length xc) forced (wr.alloc o)) := fun o => by
          have b0 : Below wr.heap.size wr (wr.alloc o) := (Below.refl _ wr).alloc (Nat.le_refl _) o
          exact ⟨P, e, f9, first, z, tot, R, hL.below b0, hP, RecP.below ⟨A9, C9, hG, r1, r2⟩ b0, hB.trans (b0.mono sB)⟩
        clear hL hP hG r1 r2 hdo hB HFl HF hfit HD HT htb n1 n2 sB
        rcases (show t = 0 ∨ t = 1 ∨ t = 2 ∨ t = 3 ∨ t = 4 by omega) with rfl | rfl | rfl | rfl | rfl
        · go_wp2_with fail
          refine (HAp.out _ rfl).mono ?_
          rintro r w4 (⟨er, rfl, her, HZ⟩ | ⟨nn, rfl, x1, HCl⟩)
          · clear HAp
            go_wp2
            go_roundw
            case rel => exact ⟨k + 1, forced, by omega, by go_num, rfl, HZ.out⟩
            case measure => simp [intOf]; omega
          · clear HAp
            go_wp2_with fail
            refine HCl.out.mono ?_
            rintro r w5 ⟨g1, c2, rfl, HRw, HSz, HNx⟩
            clear HCl
            go_wp2_with (at_builtin; refine wpList_append_own_at _ rfl _ _ 22 rfl w.heap.size 34 i0 (.slice none 0 0) 1 24 Tryd.underlying22 hi0 hz0 hz1 hz2 rfl (by decide) (.slice xa R.length xc) R.length (gL R.length A9 (lenF R) C9) rfl HRw.out ⟨w5.heap.size, 0, none⟩ 1 1 [.slice (some ⟨g1, 0, none⟩) l c2] rfl rfl ?q1 ?q2 ?q3 ?q4 HSz.out ?_)
            case q1 => exact cell_one_new _ _ _
            case q2 =>
              intro u hu
              simp at hu
              rw [hu]
              rfl
            case q3 => unfold maxLen; omega
            case q4 => omega
            intro v2 w6 ho6 hg6 _ hat
            have HZ : Hid (Fil w D Lp N v2 forced w6) := HNx.out v2 w6 ho6 hg6 (by simpa using hat)
            clear ho6 hg6 hat HNx HRw HSz
            go_wp2
            go_roundw
            case rel => exact ⟨k + 1, forced, by omega, by go_num, rfl, HZ.out⟩
            case measure => simp [intOf]; omega
        · go_wp2_with fail
          refine (HAp.out _ rfl).mono ?_
          rintro r w4 (⟨er, rfl, her, HZ⟩ | ⟨nn, rfl, x1, HCl⟩)
          · clear HAp
            go_wp2
            go_roundw
            case rel => exact ⟨k + 1, forced, by omega, by go_num, rfl, HZ.out⟩
            case measure => simp [intOf]; omega
          · clear HAp
            go_wp2_with fail
            refine HCl.out.mono ?_
            rintro r w5 ⟨g1, c2, rfl, HRw, HSz, HNx⟩
            clear HCl
            go_wp2_with (at_builtin; refine wpList_append_own_at _ rfl _ _ 22 rfl w.heap.size 34 i0 (.slice none 0 0) 1 24 Tryd.underlying22 hi0 hz0 hz1 hz2 rfl (by decide) (.slice xa R.length xc) R.length (gL R.length A9 (lenF R) C9) rfl HRw.out ⟨w5.heap.size, 0, none⟩ 1 1 [.slice (some ⟨g1, 0, none⟩) l c2] rfl rfl ?q1 ?q2 ?q3 ?q4 HSz.out ?_)
            case q1 => exact cell_one_new _ _ _
            case q2 =>
              intro u hu
              simp at hu
              rw [hu]
              rfl
            case q3 => unfold maxLen; omega
            case q4 => omega
            intro v2 w6 ho6 hg6 _ hat
            have HZ : Hid (Fil w D Lp N v2 forced w6) := HNx.out v2 w6 ho6 hg6 (by simpa using hat)
            clear ho6 hg6 hat HNx HRw HSz
            go_wp2
            go_roundw
            case rel => exact ⟨k + 1, forced, by omega, by go_num, rfl, HZ.out⟩
            case measure => simp [intOf]; omega
        · go_wp2_with fail
          refine (HFo.out _).mono ?_
          rintro r w4 ⟨rfl, HZ⟩
          clear HFo HAp HRe HNo
          go_wp2
          go_roundw
          case rel => exact ⟨k + 1, R.length, by omega, by go_num, rfl, HZ.out⟩
          case measure => simp [intOf]; omega
        · go_wp2_with fail
          refine (HRe.out _).mono ?_
          clear HFo HAp HRe HNo
          rintro r w4 (⟨rfl, HZ⟩ | ⟨rfl, HZ⟩)
          · go_wp2
            go_roundw
            case rel => exact ⟨k + 1, 0, by omega, by go_num, rfl, HZ.out⟩
            case measure => simp [intOf]; omega
          · go_wp2
            go_roundw
            case rel => exact ⟨k + 1, forced, by omega, by go_num, rfl, HZ.out⟩
            case measure => simp [intOf]; omega
        · clear HFo HAp HRe
          go_wp2
          go_roundw
          case rel => exact ⟨k + 1, forced, by omega, by go_num, rfl, HNo.out _⟩
          case measure => simp [intOf]; omega
      · obtain rfl : k = N1 := by omega
        clear hfil HF
        go_wp2
        (try simp only [Exit.inBlock, Exit.then]); refine bodyPost_ret (results_tmp5 rfl _ _ _) rfl ?_
        exact .inr ⟨hfit.out, D, Lp, u12, forced, rfl, HFl.out⟩
end Go.Proofs.YtmjoklppibfdmaaDoor
