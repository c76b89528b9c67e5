/-
  Slots: all slots of a space, with clones of their bytes.
-/
import Derived.Test.YtdackomidfofgaaStW
namespace Go.Proofs.Ytdackomidfofgaa
open Go.RowKit Go.Maps Go.Shelf
set_option linter.unusedVariables false
set_option linter.unusedSimpArgs false
attribute [local go_sem] Oper.semAt_some
set_option maxRecDepth 100000
set_option maxHeartbeats 2000000

theorem Gath.below {w0 W W' : World} {lb : Nat} {pre : List (List UInt8 × Int × List Int)} (h : Gath w0 lb pre W) (hb : Below W.heap.size W W') : Gath w0 lb pre W' := by
  obtain ⟨⟨v, zs, h1, h2, h3⟩, hp⟩ := h
  exact ⟨⟨v, zs, (hb.block _ (Array.getElem?_eq_some_iff.1 h1).1).trans h1, h2.kept (F := fun _ => False) (.ofBelow hb) (fun _ _ _ h => h.elim), h3⟩, hp.trans (Part.ofBelow (F := fun _ => False) hb) (fun _ _ h => h.elim)⟩
/-- What the loads of a round read. -/
structure Cx (w : World) (lb xb : Nat) (lv : Value) (vr : Int) (bv : Value) : Prop where
  l : w.cell? ⟨lb, 0, none⟩ = some lv
  v : w.cell? ⟨xb, 0, none⟩ = some (.int .i64 vr)
  b : w.cell? ⟨xb, 1, none⟩ = some bv
theorem s_slots {w : World} {S : Sm} (hT : Spc w S) (hl : S.slots.length ≤ 1099511627776) (bs : Es → List Int) (hbs : ∀ x ∈ S.slots, From w x.1.2.2.1 x.1.2.2.2.1 (fn (bs x)) ∧ x.1.2.2.2.1 = (bs x).length ∧ x.1.2.2.2.1 ≤ 140737488355328) :
    Calls Try.prog 21 #[.pointer (some ⟨S.sp, 0, none⟩)] w fun e w' => ∃ (v : Value) (zs : List Zs) (ys : List Es), e = .returned v ∧ ys.Perm S.slots ∧ Rls w' w.heap.size v zs ∧ zs.map (fun z => (z.ky, z.ver, z.xs)) = ys.map (fun x => (Es.ky x, x.1.2.1, bs x)) ∧ Below w.heap.size w w' := by
  obtain ⟨w1, hw1⟩ : ∃ w1, w1 = w.alloc (.cells #[.slice none 0 0] 42) := ⟨_, rfl⟩
  obtain ⟨w2, hw2⟩ : ∃ w2, w2 = w1.alloc (.cells #[.map (some S.sl)] 60) := ⟨_, rfl⟩
  have hB1 : Below w.heap.size w w1 := by rw [hw1]; exact (Below.refl _ w).alloc (Nat.le_refl _) _
  have hs1 : w1.heap.size = w.heap.size + 1 := by rw [hw1]; simp
  have hs2 : w2.heap.size = w.heap.size + 2 := by rw [hw2]; simp [hs1]
  have hB2 : Below w1.heap.size w1 w2 := by rw [hw2]; exact (Below.refl _ w1).alloc (Nat.le_refl _) _
  have hB : Below w.heap.size w w2 := hB1.trans (hB2.mono hB1.size)
  have c1 := (hT.below hB1).c1
  have HMs := s_missing hT
  have HM := Es.mk S.sl w1
  have hT2 := hT.below hB
  have hbx : w2.heap[w.heap.size]? = some (.cells #[.slice none 0 0] 42 (0, 0)) := by
    rw [hB2.block _ (by omega), hw1]
    exact World.alloc_heap_new w _
  have hbm : w2.heap[w.heap.size + 1]? = some (.cells #[.map (some S.sl)] 60 (0, 0)) := by
    have := World.alloc_heap_new w1 (.cells #[.map (some S.sl)] 60)
    rw [← hw2, hs1] at this
    exact this
  obtain ⟨i0, hi, hz0, hz1, hz2⟩ := info_parts infoSl
  refine (callsIn_wide (n := 8)).1 ?_
  have hro : Fence.wide.round = none := rfl
  have h1' : 1 ≤ 8 := by decide
  refine callsIn_of_wp_marks Try.func21 rfl trivial ?_ hro
  simp only [Try.ntmps21, List.size_toArray, List.length_cons, List.length_nil, Nat.reduceAdd, Nat.reduceSub, Array.replicate_succ, Array.replicate_zero, List.push_toArray, List.append_toArray, List.nil_append, List.cons_append]
  rw [hs1, ← hw2] at HM
  rw [hw1] at c1 HM
  clear hw1 hw2 hs1
  gi_wp2_with (first | (refine ⟨trivial, ?_⟩; gi_at_call 30; refine (callsIn_wide.2 HMs).mono ?_; rintro e wz ⟨rfl, hz⟩; rw [hz]; clear hz) | (refine ⟨trivial, ?_⟩; gi_at_call 41; refine (callsIn_wide.2 HM).mono ?_; rintro e w' ⟨rfl, rfl⟩))
  clear HM c1 HMs
  refine wpIn_rangeFunc_ownH hro h1' (gf := 47) (lb := #[.pointer (some ⟨w.heap.size + 1, 0, none⟩)]) rfl trivial (enters_of Try.func47 (by kernel_rfl) rfl)
    (Es.stopsM (8 - 1) (by decide) (w.heap.size + 1) S.sl S.slots hl _ hbm hT2.slo) Kq.trans (Kq.put (by rw [hs2]; omega) hT2.slo.lt) (Below.refl _ _) (fun _ => rfl)
    (fun pre W => Gath w' w.heap.size (pre.map (fun x => (Es.ky x.1, x.1.1.2.1, bs x.1))) W)
    (fun _ _ _ => False)
    (fun s A B row hs hg hr => ?own)
    (fun _ _ _ _ _ hs _ _ => hs)
    ⟨⟨_, [], hbx, Rls.nil _ _, rfl⟩, Part.refl _ _⟩
    (fun x a' W => ∃ xb, w'.heap.size ≤ xb ∧ W.heap[xb]? = some (.cells #[.int .i64 x.1.1.2.1, .slice x.1.1.2.2.1 x.1.1.2.2.2.1 x.1.1.2.2.2.2] 73 (0, 0)) ∧ a' = { tmps := #[.pointer (some ⟨S.sp, 0, none⟩), undef, .slice none 0 0, .pointer (some ⟨w.heap.size, 0, none⟩), .string ⟨x.1.ky.toArray⟩, .pointer (some ⟨xb, 0, none⟩), .pointer (some ⟨S.sp, 0, none⟩), .bool false, .pointer (some ⟨S.sp, 0, none⟩), .pointer (some ⟨S.sp, 0, none⟩), .pointer (some ⟨S.sp, 1, none⟩), .map (some S.sl), .func (.func 47) #[] #[.pointer (some ⟨w.heap.size + 1, 0, none⟩)], .string ⟨x.1.ky.toArray⟩, x.1.vl, undef, undef, undef, undef, undef, undef, undef, undef, undef, undef, undef], defers := [] }) (fun x a' _ A B row hs hg hr => ?ax) ?assign ?body ?done ?stop
  case own =>
    obtain ⟨⟨v, zs, h1, h2, h3⟩, hp⟩ := hs
    have hpg : Part (fun b => row = some b) A B := (Part.refl _ A).grown hg (fun k e _ => e)
    refine ⟨⟨v, zs, (hg.block _ (Array.getElem?_eq_some_iff.1 h1).1 (fun e => ?_)).trans h1, h2.kept hpg (fun b cs t hb hc => ?_), h3⟩, hp.grown hg (fun k e hk => ?_)⟩
    · have := (hr _ e.symm).1; omega
    · obtain ⟨_, o, ho, hw⟩ := hr b hb
      rw [hc] at ho
      cases ho
      cases hw
    · have := (hr _ e).1; omega
  case ax =>
    obtain ⟨xb, h1, h2, h3⟩ := hs
    refine ⟨xb, h1, (hg.block _ (Array.getElem?_eq_some_iff.1 h2).1 (fun e => ?_)).trans h2, h3⟩
    obtain ⟨_, o, ho, hw⟩ := hr xb e.symm
    rw [h2] at ho
    cases ho
    cases hw
  case assign =>
    intro l pre x W K hI hK
    have hI' := hI
    obtain ⟨_, hp⟩ := hI
    have hWs := hp.size
    have hnew := World.alloc_heap_new W (.cells #[.int .i64 x.1.1.2.1, .slice x.1.1.2.2.1 x.1.1.2.2.2.1 x.1.1.2.2.2.2] 73)
    have hbl : Below W.heap.size W (W.alloc (.cells #[.int .i64 x.1.1.2.1, .slice x.1.1.2.2.1 x.1.1.2.2.2.1 x.1.1.2.2.2.2] 73)) := (Below.refl _ W).alloc (Nat.le_refl _) _
    have hkk : Hid (KeepsFrom w'.heap.size W (W.alloc (.cells #[.int .i64 x.1.1.2.1, .slice x.1.1.2.2.1 x.1.1.2.2.2.1 x.1.1.2.2.2.2] 73)) ∧ Kq (w.heap.size + 1) S.sl W (W.alloc (.cells #[.int .i64 x.1.1.2.1, .slice x.1.1.2.2.1 x.1.1.2.2.2.1 x.1.1.2.2.2.2] 73)) ∧ Gath w' w.heap.size (pre.map (fun x => (Es.ky x.1, x.1.1.2.1, bs x.1))) (W.alloc (.cells #[.int .i64 x.1.1.2.1, .slice x.1.1.2.2.1 x.1.1.2.2.2.1 x.1.1.2.2.2.2] 73))) := ⟨keeps_below hbl, Kq.below hbl (by omega) (by have := hT2.slo.lt; omega), hI'.below hbl⟩
    have hvl : Es.vl x.1 = .agg #[.int .i64 x.1.1.2.1, .slice x.1.1.2.2.1 x.1.1.2.2.2.1 x.1.1.2.2.2.2] := rfl
    rw [hvl]
    clear hI' hp hbl
    have HK : ∀ a' W', Hid (KeepsFrom w'.heap.size W W' ∧ Kq (w.heap.size + 1) S.sl W W' ∧ Gath w' w.heap.size (pre.map (fun x => (Es.ky x.1, x.1.1.2.1, bs x.1))) W') → Hid (∃ xb, w'.heap.size ≤ xb ∧ W'.heap[xb]? = some (.cells #[.int .i64 x.1.1.2.1, .slice x.1.1.2.2.1 x.1.1.2.2.2.1 x.1.1.2.2.2.2] 73 (0, 0)) ∧ a' = { tmps := #[.pointer (some ⟨S.sp, 0, none⟩), undef, .slice none 0 0, .pointer (some ⟨w.heap.size, 0, none⟩), .string ⟨x.1.ky.toArray⟩, .pointer (some ⟨xb, 0, none⟩), .pointer (some ⟨S.sp, 0, none⟩), .bool false, .pointer (some ⟨S.sp, 0, none⟩), .pointer (some ⟨S.sp, 0, none⟩), .pointer (some ⟨S.sp, 1, none⟩), .map (some S.sl), .func (.func 47) #[] #[.pointer (some ⟨w.heap.size + 1, 0, none⟩)], .string ⟨x.1.ky.toArray⟩, x.1.vl, undef, undef, undef, undef, undef, undef, undef, undef, undef, undef, undef], defers := [] }) → Hid (K a' W') := fun a' W' h1 h2 => hK a' W' h1.out.1 h1.out.2.1 h1.out.2.2 h2.out
    clear hK
    gi_wp2
    exact (HK _ _ hkk ⟨_, hWs, hnew, rfl⟩).out
  case body =>
    rintro l pre x a' W _ _ ⟨⟨v, zs, hbv, hR, hzs⟩, hp⟩ ⟨xb, hxb, hxc, rfl⟩ hlen
    obtain ⟨hf, hfl, hfn⟩ := hbs x.1 x.2
    have hWs := hp.size
    have hBW : Below w.heap.size w W := hB.trans (hp.below (fun k hk => by have hk : k = w.heap.size := hk; omega) hB.size)
    have hfW := hf.below hBW (Nat.le_refl _)
    obtain ⟨av, cv, rfl⟩ := row_slice hR.row
    have hzl : zs.length = pre.length := by have := congrArg List.length hzs; rw [List.length_map, List.length_map] at this; exact this
    obtain ⟨ky, hky⟩ : ∃ ky, ky = Es.ky x.1 := ⟨_, rfl⟩
    obtain ⟨xs, hxs⟩ : ∃ xs, xs = bs x.1 := ⟨_, rfl⟩
    have hvl : Es.vl x.1 = .agg #[.int .i64 x.1.1.2.1, .slice x.1.1.2.2.1 x.1.1.2.2.2.1 x.1.1.2.2.2.2] := rfl
    obtain ⟨vr, a, n, c, er, ea, en, ec⟩ : ∃ vr a n c, vr = x.1.1.2.1 ∧ a = x.1.1.2.2.1 ∧ n = x.1.1.2.2.2.1 ∧ c = x.1.1.2.2.2.2 := ⟨_, _, _, _, rfl, rfl, rfl, rfl⟩
    rw [← ea, ← en, ← hxs] at hfW
    rw [← en] at hfl hfn
    rw [← hxs] at hfl
    rw [← er, ← ea, ← en, ← ec] at hvl hxc
    have hcl : lst (fn xs) n = xs := by rw [hfl]; exact lst_fn xs
    have HC := clone a n c (fn xs) W.drew hfn (hfW.below (blw_drewN 1 (Below.refl _ W)) (Nat.le_refl _))
    rw [hcl] at HC
    have CC : ∀ w1 : World, w1.heap[w.heap.size]? = some (.cells #[.slice av zs.length cv] 42 (0, 0)) → w1.heap[xb]? = some (.cells #[.int .i64 vr, .slice a n c] 73 (0, 0)) → Cx w1 w.heap.size xb (.slice av zs.length cv) vr (.slice a n c) := fun w1 h1 h2 => ⟨by rw [cells_at h1 0]; rfl, by rw [cells_at h2 0]; rfl, by rw [cells_at h2 1]; rfl⟩
    have hxl : xb < W.heap.size := (Array.getElem?_eq_some_iff.1 hxc).1
    have cb : Cx W.drew w.heap.size xb (.slice av zs.length cv) vr (.slice a n c) := CC _ hbv hxc
    have HS : ∀ w2 v2, Own w2 W.heap.size v2 xs → Below W.heap.size W w2 → ∃ a2 c2, v2 = .slice a2 xs.length c2 ∧ Cx w2 w.heap.size xb (.slice av zs.length cv) vr (.slice a n c) ∧ (∀ o, Cx (w2.alloc o) w.heap.size xb (.slice av zs.length cv) vr (.slice a n c) ∧ (w2.alloc o).ownsRow w'.heap.size 44 3 (.slice av zs.length cv) zs.length (zs.flatMap Zs.cs) ∧ w'.heap.size ≤ (w2.alloc o).heap.size) ∧
        Hid (∀ o v3 w3, w3.ownsRow w'.heap.size 44 3 v3 (zs.length + 1) (zs.flatMap Zs.cs ++ [.string ⟨ky.toArray⟩, .int .i64 vr, .slice a2 xs.length c2]) → (w2.alloc o).grownBy w3 (Value.slice av zs.length cv).ownBlock →
          Cx w3 w.heap.size xb (.slice av zs.length cv) vr (.slice a n c) ∧ w3.frozen? ⟨w.heap.size, 0, none⟩ = false ∧ (∃ a3 c3, v3 = .slice a3 (zs.length + 1) c3) ∧ Hid (KeepsFrom w'.heap.size W (w3.setCell ⟨w.heap.size, 0, none⟩ v3) ∧ Kq (w.heap.size + 1) S.sl W (w3.setCell ⟨w.heap.size, 0, none⟩ v3) ∧ Gath w' w.heap.size ((pre ++ [x]).map (fun x => (Es.ky x.1, x.1.1.2.1, bs x.1))) (w3.setCell ⟨w.heap.size, 0, none⟩ v3))) := by
      intro w2 v2 ho hb2
      obtain ⟨a2, c2, rfl⟩ := ho.slice
      have hlW : w.heap.size < W.heap.size := (Array.getElem?_eq_some_iff.1 hbv).1
      have hbv2 := (hb2.block _ hlW).trans hbv
      have hxc2 := (hb2.block _ hxl).trans hxc
      refine ⟨a2, c2, rfl, CC _ hbv2 hxc2, fun o => ?_, ?_⟩
      · have hb2a : Below W.heap.size W (w2.alloc o) := hb2.alloc hb2.size o
        exact ⟨CC _ ((hb2a.block _ hlW).trans hbv) ((hb2a.block _ hxl).trans hxc), (hR.kept (F := fun _ => False) (.ofBelow hb2a) (fun _ _ _ h => h.elim)).row, Nat.le_trans hWs hb2a.size⟩
      · intro o v3 w3 ho3 hg3
        have hb2a : Below W.heap.size W (w2.alloc o) := hb2.alloc hb2.size o
        have hxc3 : w3.heap[xb]? = some (.cells #[.int .i64 vr, .slice a n c] 73 (0, 0)) := (hg3.block xb (Nat.lt_of_lt_of_le hxl hb2a.size) (fun e => by
          obtain ⟨cur, h1, _⟩ := row_ty hR.row e.symm
          rw [hxc] at h1
          injection h1 with h1
          injection h1 with _ h1
          exact absurd h1 (by decide))).trans ((hb2a.block _ hxl).trans hxc)
        obtain ⟨k1, k2, k3, k4, F, k5, k6⟩ := gath_step ⟨ky, vr, .slice a2 xs.length c2, xs⟩ o (lb := w.heap.size) (by omega) hbv hR hp hb2 (ho.mono hWs) ho3 hg3
        refine ⟨CC _ k1 hxc3, cells_free k1 0, row_slice ho3, ⟨k5.size, fun k o hk ho hc => ?_⟩, Kq.part k5 (by omega) (fun h => ?_) (by have := hT2.slo.lt; omega) (fun h => ?_) (fun g cur z hg h => ?_), ⟨_, _, k3, k2, ?_⟩, k4⟩
        · refine (k5.block k (Array.getElem?_eq_some_iff.1 ho).1 (fun h => ?_)).trans ho
          obtain ⟨_, cs, t, hcs, _⟩ := k6 k h
          rw [hcs] at ho
          cases ho
          cases hc
        · have := (k6 _ h).1; omega
        · have h1 := (k6 _ h).1
          have h2 := hT.slo.lt
          omega
        · obtain ⟨_, cs, t, hcs, ht⟩ := k6 g h
          rw [hg] at hcs
          injection hcs with hcs
          injection hcs with _ hcs
          exact ht hcs.symm
        · rw [List.map_append, List.map_append, hzs, hky, hxs, er]
          rfl
    have hbn : (zs.length + 1) * 48 ≤ 140737488355328 := by omega
    have hbm' : zs.length + 1 ≤ maxLen := by unfold maxLen; omega
    rw [hvl, ← hky]
    clear hbv hR hp hzs hT hT2 hB hB1 hB2 hbx hbm hbs hf hfW hBW hvl hzl hlen hky hxs er ea en ec hcl hfl hfn CC hxc hxl
    gi_wp2
    refine round_held 10 (fun w1 => Cx w1 w.heap.size xb (.slice av zs.length cv) vr (.slice a n c)) (by kernel_rfl) (by kernel_rfl) ?_
    refine wpAnyK_take (i := 0) (v := .slice av zs.length cv) rfl (by kernel_rfl) (by kernel_rfl) (by kernel_rfl) (by kernel_rfl) rfl (by kernel_rfl) (fun _ _ _ h => h) (Or.inl ⟨by rfl, fun w1 h1 => ?_⟩) cb ?_
    · have h2 := h1.l
      clear h1
      go_simp
    simp only [Act.put, List.setIfInBounds_toArray, List.set_cons_zero, List.set_cons_succ]
    refine wpAnyK_move (i := 1) (v := .string ⟨ky.toArray⟩) rfl (by kernel_rfl) (by kernel_rfl) (by kernel_rfl) rfl (fun _ _ _ h => h) (Or.inl ⟨by rfl, fun w1 h1 => ?_⟩) (fun _ => cb) ?_
    · go_simp
    simp only [Act.put, List.setIfInBounds_toArray, List.set_cons_zero, List.set_cons_succ]
    refine wpAnyK_move (i := 2) (v := .pointer (some ⟨xb, 0, none⟩)) rfl (by kernel_rfl) (by kernel_rfl) (by kernel_rfl) rfl (fun _ _ _ h => h) (Or.inl ⟨by rfl, fun w1 h1 => ?_⟩) (fun _ => cb) ?_
    · go_simp
    simp only [Act.put, List.setIfInBounds_toArray, List.set_cons_zero, List.set_cons_succ]
    refine wpAnyK_take (i := 3) (v := .int .i64 vr) rfl (by kernel_rfl) (by kernel_rfl) (by kernel_rfl) (by kernel_rfl) rfl (by kernel_rfl) (fun _ _ _ h => h) (Or.inl ⟨by rfl, fun w1 h1 => ?_⟩) cb ?_
    · have h2 := h1.v
      clear h1
      go_simp
    simp only [Act.put, List.setIfInBounds_toArray, List.set_cons_zero, List.set_cons_succ]
    refine wpAnyK_move (i := 4) (v := .pointer (some ⟨xb, 1, none⟩)) rfl (by kernel_rfl) (by kernel_rfl) (by kernel_rfl) rfl (fun _ _ _ h => h) (Or.inl ⟨by rfl, fun w1 h1 => ?_⟩) (fun _ => cb) ?_
    · go_simp
    simp only [Act.put, List.setIfInBounds_toArray, List.set_cons_zero, List.set_cons_succ]
    refine wpAnyK_take (i := 5) (v := .slice a n c) rfl (by kernel_rfl) (by kernel_rfl) (by kernel_rfl) (by kernel_rfl) rfl (by kernel_rfl) (fun _ _ _ h => h) (Or.inl ⟨by rfl, fun w1 h1 => ?_⟩) cb ?_
    · have h2 := h1.b
      clear h1
      go_simp
    simp only [Act.put, List.setIfInBounds_toArray, List.set_cons_zero, List.set_cons_succ]
    refine wpAnyK_one (i := 6) (by kernel_rfl) rfl (fun K hK => ?_)
    go_simp
    refine HC.mono ?_
    rintro e w2 ⟨v2, rfl, ho2, hb2⟩
    obtain ⟨a2, c2, rfl, x1, x2, HE⟩ := HS w2 v2 ho2 (Below.trans (blw_drewN 1 (Below.refl _ W)) hb2)
    refine hK.out _ _ (fun _ => x1) ?_
    clear hK K HC HS ho2 hb2 cb
    refine wpAnyK_move (i := 7) (v := .agg #[.string ⟨ky.toArray⟩, .int .i64 vr, .slice a2 xs.length c2]) rfl (by kernel_rfl) (by kernel_rfl) (by kernel_rfl) rfl (fun _ _ _ h => h) (Or.inl ⟨by rfl, fun w1 h1 => ?_⟩) (fun _ => x1) ?_
    · go_simp
    simp only [Act.put, List.setIfInBounds_toArray, List.set_cons_zero, List.set_cons_succ]
    refine wpAnyK_one (i := 8) (by kernel_rfl) rfl (fun K hK => ?_)
    go_simp
    refine hK.out _ _ (fun _ => (x2 _).1) ?_
    obtain ⟨y1, y2, y3⟩ := x2 (.cells #[.string ⟨ky.toArray⟩, .int .i64 vr, .slice a2 xs.length c2] 44)
    clear hK K x2
    refine wpAnyK_one (i := 9) (by kernel_rfl) rfl (fun K hK => ?_)
    refine step_append_own_at rfl _ _ 42 rfl w'.heap.size 44 i0 _ 3 48 Try.underlying42 hi hz0 hz1 hz2 rfl (by decide) (.slice av zs.length cv) zs.length (zs.flatMap Zs.cs) (by go_simp) y2 ⟨w2.heap.size, 0, none⟩ 1 1 [.string ⟨ky.toArray⟩, .int .i64 vr, .slice a2 xs.length c2] (by go_simp) rfl (by intro j u hj; rw [Addr.add_lit, Nat.zero_add, World.cell?_alloc_at _ _ _ _ rfl]; simpa using hj) (by intro u hu; simp at hu; rcases hu with rfl | rfl | rfl <;> rfl) hbm' hbn y3 ?_
    intro v3 w3 ho3 hg3 _
    obtain ⟨z1, z2, ⟨a3, c3, rfl⟩, HF⟩ := HE.out _ _ w3 ho3 hg3
    refine hK.out _ _ (fun _ => z1) ?_
    have z3 := z1.l
    clear hK K ho3 hg3 HE y1 y2 y3 x1 z1
    simp only [Act.put, List.setIfInBounds_toArray, List.set_cons_zero, List.set_cons_succ]
    refine wpAnyK_one (i := 10) (by kernel_rfl) rfl (fun K hK => ?_)
    go_simp
    refine hK.out _ _ (fun h => absurd h (by decide)) ?_
    exact wpAnyK_done (by kernel_rfl) HF.out
  case done =>
    rintro D ys W hD hperm ⟨⟨v, zs, hbv, hR, hzs⟩, hp⟩ hK
    obtain ⟨av, cv, rfl⟩ := row_slice hR.row
    have cb : W.cell? ⟨w.heap.size, 0, none⟩ = some (.slice av zs.length cv) := by rw [cells_at hbv 0]; rfl
    have HZ : Hid (∃ (zs' : List Zs) (ys' : List Es), ys'.Perm S.slots ∧ Rls (W.putObj D (.deferred none)) w.heap.size (.slice av zs.length cv) zs' ∧ zs'.map (fun z => (z.ky, z.ver, z.xs)) = ys'.map (fun x => (Es.ky x, x.1.2.1, bs x)) ∧ Below w.heap.size w (W.putObj D (.deferred none))) := by
      refine ⟨zs, ys.map Subtype.val, hperm, ?_, by rw [hzs, List.map_map]; rfl, ?_⟩
      · refine (hR.kept (F := fun b => b = D) ((Part.refl _ W).grown (grownBy_putObj' _ D _) (fun k e _ => by cases e; rfl)) (fun b cs t hb hc => ?_)).mono hB.size
        have hb : b = D := hb
        rw [hb, hK] at hc
        cases hc
      · exact (hB.trans (hp.below (fun k hk => by have hk : k = w.heap.size := hk; omega) hB.size)).trans (belowK_b (w := w) (Nat.le_refl _) _ D _ _ (by omega) hK rfl rfl)
    clear hbv hR hp hzs hT hT2 hB hB1 hB2 hbx hbm hbs hperm
    gi_wp2
    refine ⟨by simp, .inl ⟨_, _, rfl, run_takeDeferred hK, ?_⟩⟩
    obtain ⟨zs', ys', k1, k2, k3, k4⟩ := HZ.out
    exact ⟨.slice av zs.length cv, by simp [results, Try.results21, go_sem], _, zs', ys', rfl, k1, k2, k3, k4⟩
  case stop =>
    rintro D c pre W _ _ h _
    exact h.elim
end Go.Proofs.Ytdackomidfofgaa
