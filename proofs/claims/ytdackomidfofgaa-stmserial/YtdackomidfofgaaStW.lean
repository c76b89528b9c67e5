/-
  Writes: the slots that a transaction is to write, with clones of their bytes.
-/
import Derived.Test.YtdackomidfofgaaStJ
import Derived.Test.YtdackomidfofgaaStV
namespace Go.Proofs.Ytdackomidfofgaa
open Go.RowKit Go.Maps Go.Shelf
set_option linter.unusedVariables false
set_option linter.unusedSimpArgs false
attribute [local go_sem] Oper.semAt_some
set_option maxRecDepth 100000
set_option maxHeartbeats 2000000

/-- A slot that is told: name, version, the slice of its bytes, the bytes. -/
structure Zs where
  ky : List UInt8
  ver : Int
  val : Value
  xs : List Int
def Zs.cs (z : Zs) : List Value := [.string ⟨z.ky.toArray⟩, .int .i64 z.ver, z.val]
/-- A row of slots in memory from block B on, with their bytes. -/
structure Rls (W : World) (B : Nat) (v : Value) (zs : List Zs) : Prop where
  row : W.ownsRow B 44 3 v zs.length (zs.flatMap Zs.cs)
  own : ∀ z ∈ zs, Own W B z.val z.xs
theorem infoSl : (Try.prog.info? 44).map (fun i => (i.zero, i.size, i.bytes)) = some (some (.agg #[.string ⟨#[]⟩, .int .i64 0, .slice none 0 0]), 3, 48) := by kernel_rfl
theorem Own.off {w : World} {B g : Nat} {v : Value} {xs : List Int} (h : Own w B v xs) {cur : Array Value} {t : TypeId} {z : Nat × Nat} (hg : w.heap[g]? = some (.cells cur t z)) (ht : t ≠ 5) : v.ownBlock ≠ some g := fun e => by
  rcases h.2 with ⟨h1, _⟩ | ⟨g', cap, cur', h1, _, h2, _⟩
  · rw [h1] at e; cases e
  · rw [h1] at e
    have e : some g' = some g := e
    injection e with e
    rw [e, hg] at h2
    injection h2 with h2
    injection h2 with _ h2
    exact ht h2
theorem Own.grown {w w' : World} {B : Nat} {v : Value} {xs : List Int} {r : Option Nat} (h : Own w B v xs) (hg : w.grownBy w' r) (hr : ∀ g, r = some g → v.ownBlock ≠ some g) : Own w' B v xs := World.ownsRow.kept h hg (by
  cases r with
  | none =>
    cases hv : v.ownBlock with
    | none => exact .inl rfl
    | some g => exact .inr (fun e => by cases e)
  | some g => exact .inr (hr g rfl))
theorem row_ty {W : World} {B : Nat} {e : TypeId} {sz n : Nat} {v : Value} {xs : List Value} (h : W.ownsRow B e sz v n xs) {g : Nat} (hg : v.ownBlock = some g) : ∃ cur, W.heap[g]? = some (.cells cur e (0, 0)) ∧ B ≤ g := by
  rcases h.2 with ⟨h1, _⟩ | ⟨g', cap, cur', h1, hb, h2, _⟩
  · rw [h1] at hg; cases hg
  · rw [h1] at hg
    have hg : some g' = some g := hg
    injection hg with hg
    subst hg
    exact ⟨cur', h2, hb⟩
/-- One slot more. -/
theorem Rls.more {W W' : World} {B : Nat} {v v' : Value} {zs : List Zs} (h : Rls W B v zs) (z : Zs) (hz : Own W B z.val z.xs) (hg : W.grownBy W' v.ownBlock) (ho : W'.ownsRow B 44 3 v' (zs.length + 1) (zs.flatMap Zs.cs ++ z.cs)) : Rls W' B v' (zs ++ [z]) := by
  refine ⟨?_, fun y hy => ?_⟩
  · rw [List.length_append, List.flatMap_append]
    simpa using ho
  · have hy' : Own W B y.val y.xs := by
      rcases List.mem_append.1 hy with hy | hy
      · exact h.own y hy
      · obtain rfl : y = z := by simpa using hy
        exact hz
    refine hy'.grown hg (fun g e => ?_)
    obtain ⟨cur, hc, _⟩ := row_ty h.row e
    exact hy'.off hc (by decide)
theorem Rls.kept {W W' : World} {B : Nat} {v : Value} {zs : List Zs} (h : Rls W B v zs) {F : Nat → Prop} (p : Part F W W') (hF : ∀ b cs t, F b → W.heap[b]? = some (.cells cs t (0, 0)) → t ≠ 44 ∧ t ≠ 5) : Rls W' B v zs := by
  refine ⟨p.row h.row (fun q hq hf => ?_), fun z hz => p.row (h.own z hz) (fun q hq hf => ?_)⟩
  · obtain ⟨cur, hc, _⟩ := row_ty h.row hq
    exact (hF q cur _ hf hc).1 rfl
  · obtain ⟨cur, hc, _⟩ := row_ty (h.own z hz) hq
    exact (hF q cur _ hf hc).2 rfl
theorem Rls.nil (W : World) (B : Nat) : Rls W B (.slice none 0 0) [] := ⟨⟨rfl, .inl ⟨rfl, rfl⟩⟩, fun z hz => by cases hz⟩
theorem Rls.mono {W : World} {B B' : Nat} {v : Value} {zs : List Zs} (h : Rls W B v zs) (hB : B' ≤ B) : Rls W B' v zs := by
  refine ⟨⟨h.row.1, ?_⟩, fun z hz => (h.own z hz).mono hB⟩
  rcases h.row.2 with h1 | ⟨g, cap, cur, h1, h2, h3⟩
  · exact .inl h1
  · exact .inr ⟨g, cap, cur, h1, Nat.le_trans hB h2, h3⟩
theorem row_slice {W : World} {B : Nat} {e : TypeId} {sz n : Nat} {v : Value} {xs : List Value} (h : W.ownsRow B e sz v n xs) : ∃ a c, v = .slice a n c := by
  rcases h.2 with ⟨h1, h2⟩ | ⟨g, cap, cur, h1, _⟩
  · rw [h2]; exact ⟨_, _, h1⟩
  · exact ⟨_, _, h1⟩
/-- One round of gathering: a clone was made, a slot appended, the box set. -/
theorem gath_step {w' W w2 w3 : World} {lb : Nat} {v v3 : Value} {zs : List Zs} (z : Zs) (o : Obj) (hlb : lb < w'.heap.size) (hbv : W.heap[lb]? = some (.cells #[v] 42 (0, 0))) (hR : Rls W w'.heap.size v zs) (hp : Part (fun b => b = lb) w' W)
    (hb2 : Below W.heap.size W w2) (hz : Own w2 w'.heap.size z.val z.xs) (ho3 : w3.ownsRow w'.heap.size 44 3 v3 (zs.length + 1) (zs.flatMap Zs.cs ++ z.cs)) (hg3 : (w2.alloc o).grownBy w3 v.ownBlock) :
    w3.heap[lb]? = some (.cells #[v] 42 (0, 0)) ∧ Rls (w3.setCell ⟨lb, 0, none⟩ v3) w'.heap.size v3 (zs ++ [z]) ∧ (w3.setCell ⟨lb, 0, none⟩ v3).heap[lb]? = some (.cells #[v3] 42 (0, 0)) ∧ Part (fun b => b = lb) w' (w3.setCell ⟨lb, 0, none⟩ v3) ∧
      ∃ F : Nat → Prop, Part F W (w3.setCell ⟨lb, 0, none⟩ v3) ∧ ∀ b, F b → (b = lb ∨ w'.heap.size ≤ b) ∧ ∃ cs t, W.heap[b]? = some (.cells cs t (0, 0)) ∧ t ≠ 9 := by
  have hlW : lb < W.heap.size := (Array.getElem?_eq_some_iff.1 hbv).1
  have hvb : ∀ g, v.ownBlock = some g → w'.heap.size ≤ g ∧ ∃ cur, W.heap[g]? = some (.cells cur 44 (0, 0)) := fun g hg => by
    obtain ⟨cur, h1, h2⟩ := row_ty hR.row hg
    exact ⟨h2, cur, h1⟩
  have hb2a : Below W.heap.size W (w2.alloc o) := hb2.alloc hb2.size o
  have hR2 : Rls (w2.alloc o) w'.heap.size v zs := hR.kept (F := fun _ => False) (.ofBelow hb2a) (fun _ _ _ h => h.elim)
  have hz2 : Own (w2.alloc o) w'.heap.size z.val z.xs := hz.below ((Below.refl _ w2).alloc (Nat.le_refl _) o) (Nat.le_refl _)
  have hR3 : Rls w3 w'.heap.size v3 (zs ++ [z]) := hR2.more z hz2 hg3 ho3
  have h3 : w3.heap[lb]? = some (.cells #[v] 42 (0, 0)) := (hg3.block lb (Nat.lt_of_lt_of_le hlW hb2a.size) (fun e => by have := (hvb lb e.symm).1; omega)).trans ((hb2a.block lb hlW).trans hbv)
  have hP3 : Part (fun b => v.ownBlock = some b) W w3 := (Part.ofBelow hb2a).grown hg3 (fun k e _ => e)
  have hP4 : Part (fun b => b = lb ∨ v.ownBlock = some b) W (w3.setCell ⟨lb, 0, none⟩ v3) := (hP3.mono (fun _ _ h => .inr h)).setCell (p := ⟨lb, 0, none⟩) (fun _ => .inl rfl) _
  refine ⟨h3, hR3.kept (F := fun b => b = lb) ((Part.refl (fun b => b = lb) w3).setCell (p := ⟨lb, 0, none⟩) (fun _ => rfl) v3) (fun b cs t hb hc => ?_), heap_set_at (i := 0) h3 v3, hp.trans hP4 (fun i hi h => ?_), _, hP4, fun b hb => ?_⟩
  · have hb : b = lb := hb
    rw [hb, h3] at hc
    injection hc with hc
    injection hc with _ hc
    rw [← hc]
    exact ⟨by decide, by decide⟩
  · rcases h with h | h
    · exact h
    · have := (hvb i h).1; omega
  · rcases hb with rfl | hb
    · exact ⟨.inl rfl, _, _, hbv, by decide⟩
    · obtain ⟨h1, cur, h2⟩ := hvb b hb
      exact ⟨.inr h1, _, _, h2, by decide⟩
/-- What Writes has gathered: the box lb holds a row of the slots that went by. -/
structure Gath (w0 : World) (lb : Nat) (pre : List (List UInt8 × Int × List Int)) (W : World) : Prop where
  ex : ∃ v zs, W.heap[lb]? = some (.cells #[v] 42 (0, 0)) ∧ Rls W w0.heap.size v zs ∧ zs.map (fun z => (z.ky, z.ver, z.xs)) = pre
  part : Part (fun b => b = lb) w0 W
theorem t_writes {w : World} {S : Sm} {T : Tm} (hT : Txc w S T) (hl : T.writes.length ≤ 1099511627776) (bs : Eb → List Int) (hbs : ∀ x ∈ T.writes, From w x.1.2.1 x.1.2.2.1 (fn (bs x)) ∧ x.1.2.2.1 = (bs x).length ∧ x.1.2.2.1 ≤ 140737488355328) :
    Calls Try.prog 11 #[.pointer (some ⟨T.t, 0, none⟩)] w fun e w' => ∃ (v : Value) (zs : List Zs) (ys : List Eb), e = .returned v ∧ ys.Perm T.writes ∧ Rls w' w.heap.size v zs ∧ zs.map (fun z => (z.ky, z.ver, z.xs)) = ys.map (fun x => (Eb.ky x, 0, bs x)) ∧ Below w.heap.size w w' := by
  obtain ⟨w1, hw1⟩ : ∃ w1, w1 = w.alloc (.cells #[.slice none 0 0] 42) := ⟨_, rfl⟩
  obtain ⟨w2, hw2⟩ : ∃ w2, w2 = w1.alloc (.cells #[.map (some T.wr)] 28) := ⟨_, rfl⟩
  have hB1 : Below w.heap.size w w1 := by rw [hw1]; exact (Below.refl _ w).alloc (Nat.le_refl _) _
  have hs1 : w1.heap.size = w.heap.size + 1 := by rw [hw1]; simp
  have hs2 : w2.heap.size = w.heap.size + 2 := by rw [hw2]; simp [hs1]
  have hB2 : Below w1.heap.size w1 w2 := by rw [hw2]; exact (Below.refl _ w1).alloc (Nat.le_refl _) _
  have hB : Below w.heap.size w w2 := hB1.trans (hB2.mono hB1.size)
  have c3 := (hT.below hB1).c3
  have HMs := t_missing hT
  have HM := Eb.mk T.wr w1
  have hT2 := hT.below hB
  have hbx : w2.heap[w.heap.size]? = some (.cells #[.slice none 0 0] 42 (0, 0)) := by
    rw [hB2.block _ (by omega), hw1]
    exact World.alloc_heap_new w _
  have hbm : w2.heap[w.heap.size + 1]? = some (.cells #[.map (some T.wr)] 28 (0, 0)) := by
    have := World.alloc_heap_new w1 (.cells #[.map (some T.wr)] 28)
    rw [← hw2, hs1] at this
    exact this
  obtain ⟨i0, hi, hz0, hz1, hz2⟩ := info_parts infoSl
  refine (callsIn_wide (n := 8)).1 ?_
  have hro : Fence.wide.round = none := rfl
  have h1' : 1 ≤ 8 := by decide
  refine callsIn_of_wp_marks Try.func11 rfl trivial ?_ hro
  simp only [Try.ntmps11, List.size_toArray, List.length_cons, List.length_nil, Nat.reduceAdd, Nat.reduceSub, Array.replicate_succ, Array.replicate_zero, List.push_toArray, List.append_toArray, List.nil_append, List.cons_append]
  rw [hs1, ← hw2] at HM
  rw [hw1] at c3 HM
  clear hw1 hw2 hs1
  gi_wp2_with (first | (refine ⟨trivial, ?_⟩; gi_at_call 32; refine (callsIn_wide.2 HMs).mono ?_; rintro e wz ⟨rfl, hz⟩; rw [hz]; clear hz) | (refine ⟨trivial, ?_⟩; gi_at_call 33; refine (callsIn_wide.2 HM).mono ?_; rintro e w' ⟨rfl, rfl⟩))
  clear HM c3 HMs
  refine wpIn_rangeFunc_ownG hro h1' (gf := 45) (lb := #[.pointer (some ⟨w.heap.size + 1, 0, none⟩)]) rfl trivial (enters_of Try.func45 (by kernel_rfl) rfl)
    (Eb.stopsM (8 - 1) (by decide) (w.heap.size + 1) T.wr T.writes hl _ hbm hT2.wri) Kq.trans (Kq.put (by rw [hs2]; omega) hT2.wri.lt) (Below.refl _ _) (fun _ => rfl)
    (fun pre W => Gath w' w.heap.size (pre.map (fun x => (Eb.ky x.1, 0, bs x.1))) W)
    (fun _ _ _ => False)
    (fun s A B row hs hg hr => ?own)
    (fun _ _ _ _ _ hs _ _ => hs)
    ⟨⟨_, [], hbx, Rls.nil _ _, rfl⟩, Part.refl _ _⟩
    (fun x => { tmps := #[.pointer (some ⟨T.t, 0, none⟩), undef, .slice none 0 0, .pointer (some ⟨w.heap.size, 0, none⟩), .string ⟨x.1.ky.toArray⟩, x.1.vl, .pointer (some ⟨T.t, 0, none⟩), .bool false, .pointer (some ⟨T.t, 0, none⟩), .pointer (some ⟨T.t, 0, none⟩), .pointer (some ⟨T.t, 3, none⟩), .map (some T.wr), .func (.func 45) #[] #[.pointer (some ⟨w.heap.size + 1, 0, none⟩)], .string ⟨x.1.ky.toArray⟩, x.1.vl, undef, undef, undef, undef, undef, undef, undef, undef], defers := [] }) ?assign ?body ?done ?stop
  case own =>
    obtain ⟨⟨v, zs, h1, h2, h3⟩, hp⟩ := hs
    have hpg : Part (fun b => row = some b) A B := (Part.refl _ A).grown hg (fun k e _ => e)
    refine ⟨⟨v, zs, (hg.block _ (Array.getElem?_eq_some_iff.1 h1).1 (fun e => ?_)).trans h1, h2.kept hpg (fun b cs t hb hc => ?_), h3⟩, hp.grown hg (fun k e hk => ?_)⟩
    · have := (hr _ e.symm).1; omega
    · obtain ⟨_, o, ho, hw⟩ := hr b hb
      rw [hc] at ho
      cases ho
      cases hw
    · have := (hr _ e).1; omega
  case assign =>
    intro l x W K hK
    gi_wp2
    exact hK
  case body =>
    rintro l pre x W ⟨⟨v, zs, hbv, hR, hzs⟩, hp⟩ hlen
    obtain ⟨hf, hfl, hfn⟩ := hbs x.1 x.2
    have hWs := hp.size
    have hBW : Below w.heap.size w W := hB.trans (hp.below (fun k hk => by have hk : k = w.heap.size := hk; omega) hB.size)
    have hfW := hf.below hBW (Nat.le_refl _)
    obtain ⟨av, cv, rfl⟩ := row_slice hR.row
    have hzl : zs.length = pre.length := by have := congrArg List.length hzs; rw [List.length_map, List.length_map] at this; exact this
    obtain ⟨ky, hky⟩ : ∃ ky, ky = Eb.ky x.1 := ⟨_, rfl⟩
    obtain ⟨xs, hxs⟩ : ∃ xs, xs = bs x.1 := ⟨_, rfl⟩
    have hvl : Eb.vl x.1 = .slice x.1.1.2.1 x.1.1.2.2.1 x.1.1.2.2.2 := rfl
    obtain ⟨a, n, c, ea, en, ec⟩ : ∃ a n c, a = x.1.1.2.1 ∧ n = x.1.1.2.2.1 ∧ c = x.1.1.2.2.2 := ⟨_, _, _, rfl, rfl, rfl⟩
    rw [← ea, ← en, ← hxs] at hfW
    rw [← en] at hfl hfn
    rw [← hxs] at hfl
    rw [← ea, ← en, ← ec] at hvl
    have hcl : lst (fn xs) n = xs := by rw [hfl]; exact lst_fn xs
    have HC := clone a n c (fn xs) W.drew hfn (hfW.below (blw_drewN 1 (Below.refl _ W)) (Nat.le_refl _))
    rw [hcl] at HC
    have cb : W.drew.cell? ⟨w.heap.size, 0, none⟩ = some (.slice av zs.length cv) := by
      have := cells_at hbv 0
      exact this
    have HS : ∀ w2 v2, Own w2 W.heap.size v2 xs → Below W.heap.size W w2 → ∃ a2 c2, v2 = .slice a2 xs.length c2 ∧ w2.cell? ⟨w.heap.size, 0, none⟩ = some (.slice av zs.length cv) ∧ (∀ o, (w2.alloc o).cell? ⟨w.heap.size, 0, none⟩ = some (.slice av zs.length cv) ∧ (w2.alloc o).ownsRow w'.heap.size 44 3 (.slice av zs.length cv) zs.length (zs.flatMap Zs.cs) ∧ w'.heap.size ≤ (w2.alloc o).heap.size) ∧
        Hid (∀ o v3 w3, w3.ownsRow w'.heap.size 44 3 v3 (zs.length + 1) (zs.flatMap Zs.cs ++ [.string ⟨ky.toArray⟩, .int .i64 0, .slice a2 xs.length c2]) → (w2.alloc o).grownBy w3 (Value.slice av zs.length cv).ownBlock →
          w3.cell? ⟨w.heap.size, 0, none⟩ = some (.slice av zs.length cv) ∧ w3.frozen? ⟨w.heap.size, 0, none⟩ = false ∧ (∃ a3 c3, v3 = .slice a3 (zs.length + 1) c3) ∧ Hid (KeepsFrom w'.heap.size W (w3.setCell ⟨w.heap.size, 0, none⟩ v3) ∧ Kq (w.heap.size + 1) T.wr W (w3.setCell ⟨w.heap.size, 0, none⟩ v3) ∧ Gath w' w.heap.size ((pre ++ [x]).map (fun x => (Eb.ky x.1, 0, bs x.1))) (w3.setCell ⟨w.heap.size, 0, none⟩ v3))) := by
      intro w2 v2 ho hb2
      obtain ⟨a2, c2, rfl⟩ := ho.slice
      have hlW : w.heap.size < W.heap.size := (Array.getElem?_eq_some_iff.1 hbv).1
      have hbv2 := (hb2.block _ hlW).trans hbv
      refine ⟨a2, c2, rfl, by rw [cells_at hbv2 0]; rfl, fun o => ?_, ?_⟩
      · have hb2a : Below W.heap.size W (w2.alloc o) := hb2.alloc hb2.size o
        refine ⟨by rw [cells_at ((hb2a.block _ hlW).trans hbv) 0]; rfl, (hR.kept (F := fun _ => False) (.ofBelow hb2a) (fun _ _ _ h => h.elim)).row, Nat.le_trans hWs hb2a.size⟩
      · intro o v3 w3 ho3 hg3
        obtain ⟨k1, k2, k3, k4, F, k5, k6⟩ := gath_step ⟨ky, 0, .slice a2 xs.length c2, xs⟩ o (lb := w.heap.size) (by omega) hbv hR hp hb2 (ho.mono hWs) ho3 hg3
        refine ⟨by rw [cells_at k1 0]; rfl, cells_free k1 0, row_slice ho3, ⟨k5.size, fun k o hk ho hc => ?_⟩, Kq.part k5 (by omega) (fun h => ?_) (by have := hT2.wri.lt; omega) (fun h => ?_) (fun g cur z hg h => ?_), ⟨_, _, k3, k2, ?_⟩, k4⟩
        · refine (k5.block k (Array.getElem?_eq_some_iff.1 ho).1 (fun h => ?_)).trans ho
          obtain ⟨_, cs, t, hcs, _⟩ := k6 k h
          rw [hcs] at ho
          cases ho
          cases hc
        · have := (k6 _ h).1; omega
        · have h1 := (k6 _ h).1
          have h2 := hT.wri.lt
          omega
        · obtain ⟨_, cs, t, hcs, ht⟩ := k6 g h
          rw [hg] at hcs
          injection hcs with hcs
          injection hcs with _ hcs
          exact ht hcs.symm
        · rw [List.map_append, List.map_append, hzs, hky, hxs]
          rfl
    have hbn : (zs.length + 1) * 48 ≤ 140737488355328 := by omega
    have hbm' : zs.length + 1 ≤ maxLen := by unfold maxLen; omega
    rw [hvl, ← hky]
    clear hbv hR hp hzs hT hT2 hB hB1 hB2 hbx hbm hbs hf hfW hBW hvl hzl hlen hky hxs ea en ec hcl hfl hfn
    gi_wp2
    refine round_held 6 (fun w1 => w1.cell? ⟨w.heap.size, 0, none⟩ = some (.slice av zs.length cv)) (by kernel_rfl) (by kernel_rfl) ?_
    refine wpAnyK_take (i := 0) (v := .slice av zs.length cv) rfl (by kernel_rfl) (by kernel_rfl) (by kernel_rfl) (by kernel_rfl) rfl (by kernel_rfl) (fun _ _ _ h => h) (Or.inl ⟨by rfl, fun w1 h1 => ?_⟩) cb ?_
    · go_simp
    simp only [Act.put, List.setIfInBounds_toArray, List.set_cons_zero, List.set_cons_succ]
    refine wpAnyK_move (i := 1) (v := .string ⟨ky.toArray⟩) rfl (by kernel_rfl) (by kernel_rfl) (by kernel_rfl) rfl (fun _ _ _ h => h) (Or.inl ⟨by rfl, fun w1 h1 => ?_⟩) (fun _ => cb) ?_
    · go_simp
    simp only [Act.put, List.setIfInBounds_toArray, List.set_cons_zero, List.set_cons_succ]
    refine wpAnyK_move (i := 2) (v := .slice a n c) rfl (by kernel_rfl) (by kernel_rfl) (by kernel_rfl) rfl (fun _ _ _ h => h) (Or.inl ⟨by rfl, fun w1 h1 => ?_⟩) (fun _ => cb) ?_
    · go_simp
    simp only [Act.put, List.setIfInBounds_toArray, List.set_cons_zero, List.set_cons_succ]
    refine wpAnyK_one (i := 3) (by kernel_rfl) rfl (fun K hK => ?_)
    go_simp
    refine HC.mono ?_
    rintro e w2 ⟨v2, rfl, ho2, hb2⟩
    obtain ⟨a2, c2, rfl, x1, x2, HE⟩ := HS w2 v2 ho2 (Below.trans (blw_drewN 1 (Below.refl _ W)) hb2)
    refine hK.out _ _ (fun _ => x1) ?_
    clear hK K HC HS ho2 hb2 cb
    refine wpAnyK_move (i := 4) (v := .agg #[.string ⟨ky.toArray⟩, .int .i64 0, .slice a2 xs.length c2]) rfl (by kernel_rfl) (by kernel_rfl) (by kernel_rfl) rfl (fun _ _ _ h => h) (Or.inl ⟨by rfl, fun w1 h1 => ?_⟩) (fun _ => x1) ?_
    · go_simp
    simp only [Act.put, List.setIfInBounds_toArray, List.set_cons_zero, List.set_cons_succ]
    refine wpAnyK_one (i := 5) (by kernel_rfl) rfl (fun K hK => ?_)
    go_simp
    refine hK.out _ _ (fun _ => (x2 _).1) ?_
    obtain ⟨y1, y2, y3⟩ := x2 (.cells #[.string ⟨ky.toArray⟩, .int .i64 0, .slice a2 xs.length c2] 44)
    clear hK K x2
    refine wpAnyK_one (i := 6) (by kernel_rfl) rfl (fun K hK => ?_)
    refine step_append_own_at rfl _ _ 42 rfl w'.heap.size 44 i0 _ 3 48 Try.underlying42 hi hz0 hz1 hz2 rfl (by decide) (.slice av zs.length cv) zs.length (zs.flatMap Zs.cs) (by go_simp) y2 ⟨w2.heap.size, 0, none⟩ 1 1 [.string ⟨ky.toArray⟩, .int .i64 0, .slice a2 xs.length c2] (by go_simp) rfl (by intro j u hj; rw [Addr.add_lit, Nat.zero_add, World.cell?_alloc_at _ _ _ _ rfl]; simpa using hj) (by intro u hu; simp at hu; rcases hu with rfl | rfl | rfl <;> rfl) hbm' hbn y3 ?_
    intro v3 w3 ho3 hg3 _
    obtain ⟨z1, z2, ⟨a3, c3, rfl⟩, HF⟩ := HE.out _ _ w3 ho3 hg3
    refine hK.out _ _ (fun h => absurd h (by decide)) ?_
    clear hK K ho3 hg3 HE y1 y2 y3
    simp only [Act.put, List.setIfInBounds_toArray, List.set_cons_zero, List.set_cons_succ]
    refine wpAnyK_one (i := 7) (by kernel_rfl) rfl (fun K hK => ?_)
    go_simp
    refine hK.out _ _ (fun h => absurd h (by decide)) ?_
    exact wpAnyK_done (by kernel_rfl) HF.out
  case done =>
    rintro D ys W hD hperm ⟨⟨v, zs, hbv, hR, hzs⟩, hp⟩ hK
    obtain ⟨av, cv, rfl⟩ := row_slice hR.row
    have cb : W.cell? ⟨w.heap.size, 0, none⟩ = some (.slice av zs.length cv) := by rw [cells_at hbv 0]; rfl
    have HZ : Hid (∃ (zs' : List Zs) (ys' : List Eb), ys'.Perm T.writes ∧ Rls (W.putObj D (.deferred none)) w.heap.size (.slice av zs.length cv) zs' ∧ zs'.map (fun z => (z.ky, z.ver, z.xs)) = ys'.map (fun x => (Eb.ky x, 0, bs x)) ∧ Below w.heap.size w (W.putObj D (.deferred none))) := by
      refine ⟨zs, ys.map Subtype.val, hperm, ?_, by rw [hzs, List.map_map]; rfl, ?_⟩
      · refine (hR.kept (F := fun b => b = D) ((Part.refl _ W).grown (grownBy_putObj' _ D _) (fun k e _ => by cases e; rfl)) (fun b cs t hb hc => ?_)).mono hB.size
        have hb : b = D := hb
        rw [hb, hK] at hc
        cases hc
      · exact (hB.trans (hp.below (fun k hk => by have hk : k = w.heap.size := hk; omega) hB.size)).trans (belowK_b (w := w) (Nat.le_refl _) _ D _ _ (by omega) hK rfl rfl)
    clear hbv hR hp hzs hT hT2 hB hB1 hB2 hbx hbm hbs hperm
    gi_wp2
    refine ⟨by simp, .inl ⟨_, _, rfl, run_takeDeferred hK, ?_⟩⟩
    obtain ⟨zs', ys', k1, k2, k3, k4⟩ := HZ.out
    exact ⟨.slice av zs.length cv, by simp [results, Try.results11, go_sem], _, zs', ys', rfl, k1, k2, k3, k4⟩
  case stop =>
    rintro D c pre W _ _ h _
    exact h.elim
end Go.Proofs.Ytdackomidfofgaa
