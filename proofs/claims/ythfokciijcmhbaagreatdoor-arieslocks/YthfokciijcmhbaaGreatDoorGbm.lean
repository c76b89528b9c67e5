/-
  state.begin.
  state.leave: a transaction less.
  state.commit.
-/
import Derived.Test.YthfokciijcmhbaaGreatDoorGbl
namespace Go.Proofs.YthfokciijcmhbaaGreatDoor
open Go.RowKit
set_option linter.unusedVariables false

variable {B0 : Nat} {A : Ax} {P P' : Nat → Prop} {w w' w1 w2 : World} {Z S D L bf n M la fo lt N : Nat} {g : Int} {X : Nat → Bf} {e : Nat → Int} {ln : Nat → Nat} {lo : Nat → Nat → Int} {T : Nat → Tr}
/-- The greatest number of the log's records and of the first j transactions. -/
def mxT (lt : Nat) (T : Nat → Tr) : Nat → Nat
  | 0 => lt
  | j + 1 => max (mxT lt T j) (T j).no
theorem mxT_le (T : Nat → Tr) (lt U : Nat) (h0 : lt ≤ U) : ∀ N, (∀ j, j < N → (T j).no ≤ U) → mxT lt T N ≤ U
  | 0, _ => h0
  | N + 1, h => by
    have := mxT_le T lt U h0 N (fun j hj => h j (by omega))
    have := h N (Nat.lt_succ_self N)
    show max _ _ ≤ _
    omega
/-- What begin leaves. -/
def Bgn (B0 : Nat) (P : Nat → Prop) (w : World) (Z S L : Nat) (g : Int) (lt N : Nat) (T : Nat → Tr) (no : Nat) (w' : World) : Prop := ∃ q, w.heap.size ≤ q ∧ Mt B0 P w' Z S L g lt (N + 1) (updT T N (freshTr q no)) ∧ Part (Ours B0 P w) w w'
set_option maxRecDepth 100000 in
set_option maxHeartbeats 4000000 in
theorem m_begin (k : Mt B0 P w Z S L g lt N T) (hlt : ∀ b, P b → b < w.heap.size) (hB0 : B0 ≤ w.heap.size) (hN : N < 16) (hm : mxT lt T N < 1099511627776) :
    Calls Tryz.prog 33 #[.pointer (some ⟨Z, 0, none⟩)] w fun r w' => r = .returned (.tuple #[.int .i64 ((mxT lt T N : Int) + 1), .int .i64 0]) ∧ Hid (Bgn B0 P w Z S L g lt N T (mxT lt T N + 1) w') := by
  obtain ⟨i0, hi0, hz0, hz1, hz2⟩ := info_parts infoTxP
  obtain ⟨ov, hZ, hov, hoP⟩ := k.lay
  obtain ⟨a, c, rfl, HR⟩ : ∃ a c, ov = .slice a N c ∧ Hid (∀ j, j < N → ∃ g, a = some ⟨g, 0, none⟩ ∧ w.cell? ⟨g, j, none⟩ = some (.pointer (some ⟨(T j).b, 0, none⟩))) := by
    rcases hov.open with ⟨e1, e2⟩ | ⟨gg, c, cur, e1, _⟩
    · exact ⟨none, 0, by rw [e1, e2], fun j hj => absurd hj (by omega)⟩
    · subst e1
      exact ⟨_, c, rfl, fun j hj => ⟨gg, rfl, (hov.cell j hj).1⟩⟩
  have HP : Hid (∀ j, j < N → w.cell? ⟨(T j).b, 0, none⟩ = some (.int .i64 ((T j).no : Int))) := fun j hj => by rw [cells_at (k.tr j hj) 0]; rfl
  have HB : Hid (∀ j, j ≤ N → mxT lt T j ≤ 1099511627776) := fun j hj => mxT_le T lt _ k.la_ j (fun i hi => (k.sm i (by omega)).2.2)
  have c5 : w.cell? ⟨Z, 5, none⟩ = some (.int .i64 (lt : Int)) := by rw [cells_at hZ 5]; rfl
  have c6 : w.cell? ⟨Z, 6, none⟩ = some (.slice a N c) := by rw [cells_at hZ 6]; rfl
  have hZl := k.lt
  obtain ⟨mx, hmx⟩ : ∃ mx, mxT lt T N = mx := ⟨_, rfl⟩
  obtain ⟨rl, hrl⟩ : ∃ rl, rowL (fun j => (T j).b) N = rl := ⟨_, rfl⟩
  have HO : Hid (∀ o1 o2, ((w.alloc o1).alloc o2).ownsRow B0 92 1 (.slice a N c) N rl ∧ B0 ≤ ((w.alloc o1).alloc o2).heap.size) := fun o1 o2 => by
    rw [← hrl]
    exact ⟨World.ownsRow.alloc (World.ownsRow.alloc hov o1) o2, by simp; omega⟩
  have HN : Hid (∀ (o2 : Obj) (gg cap : Nat) (w2 : World), w2.ownsRow B0 92 1 (.slice (some ⟨gg, 0, none⟩) (N + 1) cap) (N + 1) (rl ++ [.pointer (some ⟨w.heap.size, 0, none⟩)]) → ((w.alloc (.cells #[.int .i64 ((mx : Int) + 1), .slice none 0 0, .slice none 0 0] 95)).alloc o2).grownBy w2 (Value.slice a N c).ownBlock → ((Value.slice a N c).ownBlock = some gg ∨ gg = ((w.alloc (.cells #[.int .i64 ((mx : Int) + 1), .slice none 0 0, .slice none 0 0] 95)).alloc o2).heap.size) → (w2.cell? ⟨Z, 6, none⟩ = some (.slice a N c) ∧ w2.frozen? ⟨Z, 6, none⟩ = false) ∧ Hid (∀ v, v.heap = (w2.setCell ⟨Z, 6, none⟩ (.slice (some ⟨gg, 0, none⟩) (N + 1) cap)).heap → v.os = w2.os → v.tape = w2.tape → v.output = w2.output → Bgn B0 P w Z S L g lt N T (mx + 1) v)) := fun o2 gg cap w2 h2 hg ha => by
    have hqo : (w.alloc (.cells #[.int .i64 ((mx : Int) + 1), .slice none 0 0, .slice none 0 0] 95)).heap[w.heap.size]? = some (trO (freshTr w.heap.size (mx + 1))) := heap_alloc_at _ _ _ rfl
    obtain ⟨r1, r2⟩ := k.addTx hlt hB0 hN (mx + 1) (by omega) _ o2 ((Below.refl _ w).alloc (Nat.le_refl _) _) _ hZ hov hoP w.heap.size (Nat.le_refl _) hqo gg cap w2 (by rw [hrl]; exact h2) hg ha
    exact ⟨r1, fun v e1 e2 e3 e4 => ⟨_, Nat.le_refl _, r2.out v e1 e2 e3 e4⟩⟩
  have hN1 : (N : Int) < 16 := by omega
  have hN0 : (0 : Int) ≤ (N : Int) := by omega
  have hN2 : ((N : Int) == 16) = false := by simp; omega
  have al1 : ∀ o, (w.alloc o).cell? ⟨Z, 6, none⟩ = some (.slice a N c) := fun o => (World.cell?_alloc_past (w := w) o Z 6 hZl).trans c6
  have al2 : ∀ o o', ((w.alloc o).alloc o').cell? ⟨Z, 6, none⟩ = some (.slice a N c) := fun o o' => (World.cell?_alloc_past (w := w.alloc o) o' Z 6 (by rw [World.size_alloc]; omega)).trans (al1 o)
  rw [hmx] at hm ⊢
  have hm1 : (mx : Int) < 1099511627776 := by omega
  have HM : Hid (mxT lt T N = mx) := hmx
  clear k hZ hov hoP hlt hmx hrl
  go_enter Tryz.func33, Tryz.ntmps33
  go_wp2
  go_loopw [4, 22] (fun x s wr => ∃ k : Nat, k ≤ N ∧ s = .int .i64 (k : Int) ∧ x = .int .i64 (mxT lt T k : Int) ∧ wr = w) (fun _ k _ => N - (intOf k).toNat)
  case atStart => exact ⟨0, Nat.zero_le _, rfl, rfl, rfl⟩
  case round =>
    obtain ⟨k, hk, rfl, rfl, hw⟩ := hrel
    obtain rfl : w = wr := hw.symm
    clear hw
    by_cases hlt : k < N
    · obtain ⟨gg, rfl, hc⟩ := HR.out k hlt
      have hp := HP.out k hlt
      have hb1 := HB.out k hk
      have HE : Hid (((mxT lt T (k + 1) : Nat) : Int) = max (mxT lt T k : Int) ((T k).no : Int)) := by
        show ((max (mxT lt T k) (T k).no : Nat) : Int) = _
        omega
      obtain ⟨x, hx⟩ : ∃ x, mxT lt T k = x := ⟨_, rfl⟩
      obtain ⟨y, hy⟩ : ∃ y, (T k).no = y := ⟨_, rfl⟩
      rw [hx] at HE hb1 ⊢
      rw [hy] at hp HE
      have l1 : (k : Int) < (N : Int) := by omega
      have l2 : (0 : Int) ≤ (k : Int) := by omega
      clear hx hy HN HO al1 al2 HM
      go_wp2_with fail
      refine ⟨⟨k + 1, by omega, by go_num, ?_, trivial⟩, by simp [intOf]; omega⟩
      rw [HE.out]
      congr 1
      split <;> omega
    · obtain rfl : k = N := by omega
      rw [HM.out]
      obtain ⟨mi, hmi⟩ : ∃ mi : Int, (mx : Int) = mi := ⟨_, rfl⟩
      rw [hmi] at HN hm1
      have hm2 : decide ((1099511627776 : Int) ≤ mi) = false := decide_eq_false (by omega)
      have hm0 : 0 ≤ mi := by omega
      have hm5 : IntKind.i64.wrap (mi + 1) = mi + 1 := by rw [IntKind.wrap_i64]; omega
      clear HR HP HB hm HM hm1
      go_wp2_with (at_builtin; refine wpList_append_lies _ rfl _ _ 86 rfl B0 92 i0 (.pointer none) 1 8 Tryz.underlying86 hi0 hz0 hz1 hz2 rfl (by decide) (.slice a k c) k rl rfl (HO.out _ _).1 ⟨w.heap.size + 1, 0, none⟩ 1 1 [.pointer (some ⟨w.heap.size, 0, none⟩)] rfl rfl (by have := cell_one_new (w.alloc (.cells #[.int .i64 (mi + 1), .slice none 0 0, .slice none 0 0] 95)) (.pointer (some ⟨w.heap.size, 0, none⟩)) 92; rw [World.size_alloc] at this; exact this) (by intro y hy; simp at hy; subst hy; rfl) (by decide) (by unfold maxLen; omega) (by omega) (HO.out _ _).2 _ rfl ?_; intro gg cap w2 ho2 hg2 ha2 _; obtain ⟨⟨x1, x2⟩, HE⟩ := HN.out _ gg cap w2 ho2 hg2 ha2)
      go_ret2
      rw [hmi]
      exact ⟨rfl, HE.out _ rfl rfl rfl rfl⟩
end Go.Proofs.YthfokciijcmhbaaGreatDoor

namespace Go.Proofs.YthfokciijcmhbaaGreatDoor
open Go.RowKit
set_option linter.unusedVariables false

variable {B0 : Nat} {A : Ax} {P P' : Nat → Prop} {w w' w1 w2 : World} {Z S D L bf n M la fo lt N : Nat} {g : Int} {X : Nat → Bf} {e : Nat → Int} {ln : Nat → Nat} {lo : Nat → Nat → Int} {T : Nat → Tr}
/-- The transactions without the i-th one. -/
def sk (i j : Nat) : Nat := if j < i then j else j + 1
def dropT (T : Nat → Tr) (i : Nat) : Nat → Tr := fun j => T (sk i j)
theorem sk_lt {i j N : Nat} (h : j < N - 1) : sk i j < N := by unfold sk; split <;> omega
theorem sk_inj {i a b : Nat} (h : sk i a = sk i b) : a = b := by
  unfold sk at h
  split at h <;> split at h <;> omega
set_option maxRecDepth 100000 in
theorem Mt.dropTx (k : Mt B0 P w Z S L g lt N T) (i : Nat) (hi : i < N) (gg c : Nat) (hZ : w.heap[Z]? = some (mgO g S L lt (.slice (some ⟨gg, 0, none⟩) N c))) (hov : Tx.Rw B0 w (.slice (some ⟨gg, 0, none⟩) N c) N (fun j => (T j).b)) (hoP : ¬ P gg) (w1 w2 : World) (hb : Below w.heap.size w w1) (hp : Part (fun b => b = gg) w1 w2) (h2 : Tx.Rw B0 w2 (.slice (some ⟨gg, 0, none⟩) (N - 1) c) (N - 1) (fun j => (T (sk i j)).b)) :
    (w2.cell? ⟨Z, 6, none⟩ = some (.slice (some ⟨gg, 0, none⟩) N c) ∧ w2.frozen? ⟨Z, 6, none⟩ = false) ∧ Hid (Mt B0 P (w2.setCell ⟨Z, 6, none⟩ (.slice (some ⟨gg, 0, none⟩) (N - 1) c)) Z S L g lt (N - 1) (dropT T i) ∧ Part (Ours B0 P w) w (w2.setCell ⟨Z, 6, none⟩ (.slice (some ⟨gg, 0, none⟩) (N - 1) c))) := by
  obtain ⟨cur, hg⟩ := row_block hov (k := gg) rfl
  have hZl := k.lt
  have nZ : Z ≠ gg := fun e => by
    rw [← e] at hg
    exact absurd (ty_same hZ hg) (by decide)
  have p1 : Part (fun b => b = gg) w w2 := (Part.ofBelow hb).trans hp (fun _ _ h => h)
  have eZ := (p1.block Z hZl nZ).trans hZ
  refine ⟨⟨by rw [cells_at eZ 6]; rfl, cells_free eZ 6⟩, ?_⟩
  obtain ⟨v, hv⟩ : ∃ v, w2.setCell ⟨Z, 6, none⟩ (.slice (some ⟨gg, 0, none⟩) (N - 1) c) = v := ⟨_, rfl⟩
  have p2 : Part (fun b => b = Z ∨ b = gg) w v := by
    rw [← hv]
    exact (p1.mono fun b _ h => .inr h).setCell (p := ⟨Z, 6, none⟩) (fun _ => .inl rfl) _
  have off : ∀ b cs t, w.heap[b]? = some (.cells cs t (0, 0)) → t ≠ 88 → t ≠ 92 → ¬ (b = Z ∨ b = gg) := fun b cs t e a1 a2 h => by
    rcases h with h | h
    · exact a1 (ty_same e (by rw [h]; exact hZ))
    · exact a2 (ty_same e (by rw [h]; exact hg))
  have ez : v.heap[Z]? = some (mgO g S L lt (.slice (some ⟨gg, 0, none⟩) (N - 1) c)) := by
    rw [← hv, heap_set_at eZ]
    rfl
  have h3 : Tx.Rw B0 v (.slice (some ⟨gg, 0, none⟩) (N - 1) c) (N - 1) (fun j => (dropT T i j).b) := by
    rw [← hv]
    exact row_set h2 (fun e => nZ (by injection e with e; exact e.symm)) 6 _
  rw [hv]
  refine ⟨⟨⟨_, ez, h3, fun b hb => by injection hb with hb; rw [← hb]; exact hoP⟩, fun j hj => ?_, fun j hj => ?_, fun j hj => ?_, fun a b ha hb e => sk_inj (k.ap _ _ (sk_lt ha) (sk_lt hb) e), fun a b q ha hb e1 e2 => sk_inj (k.pp _ _ q (sk_lt ha) (sk_lt hb) e1 e2), fun a b q ha hb e1 e2 => sk_inj (k.uu _ _ q (sk_lt ha) (sk_lt hb) e1 e2), ⟨k.out.1, fun j hj => k.out.2.1 _ (sk_lt hj), fun j b hj hb => k.out.2.2.1 _ b (sk_lt hj) hb, fun j b hj hb => k.out.2.2.2 _ b (sk_lt hj) hb⟩, ⟨k.low.1, fun j hj => k.low.2 _ (sk_lt hj)⟩, by have := k.nn; omega, fun j hj => k.sm _ (sk_lt hj), k.la_⟩, p2.mono fun b _ h => ?_⟩
  · have := k.tr _ (sk_lt (i := i) hj)
    exact (p2.block _ (Array.getElem?_eq_some_iff.1 this).1 (off _ _ _ this (by decide) (by decide))).trans this
  · have := k.pr _ (sk_lt (i := i) hj)
    exact p2.row this (fun b e => by obtain ⟨cur, e2⟩ := row_block this e; exact off _ _ _ e2 (by decide) (by decide))
  · have := k.ur _ (sk_lt (i := i) hj)
    exact p2.row this (fun b e => by obtain ⟨cur, e2⟩ := row_block this e; exact off _ _ _ e2 (by decide) (by decide))
  · rcases h with rfl | rfl
    · exact k.oursZ
    · exact ⟨hov.low, hoP, _, _, hg, .inr (.inr (.inl rfl))⟩
set_option maxRecDepth 100000 in
set_option maxHeartbeats 2000000 in
theorem m_leave (k : Mt B0 P w Z S L g lt N T) (i : Nat) (hi : i < N) : Calls Tryz.prog 57 #[.pointer (some ⟨Z, 0, none⟩), .pointer (some ⟨(T i).b, 0, none⟩)] w fun r w' => r = .returned (.tuple #[]) ∧ Hid (Mt B0 P w' Z S L g lt (N - 1) (dropT T i) ∧ Part (Ours B0 P w) w w') := by
  obtain ⟨ov, hZ, hov, hoP⟩ := k.lay
  obtain ⟨gg, c, rfl⟩ : ∃ gg c, ov = .slice (some ⟨gg, 0, none⟩) N c := by
    rcases hov.open with ⟨_, e2⟩ | ⟨gg, c, cur, e1, _⟩
    · omega
    · exact ⟨gg, c, e1⟩
  have nn := k.nn
  have hZl := k.lt
  obtain ⟨q, hq⟩ : ∃ q, (T i).b = q := ⟨_, rfl⟩
  obtain ⟨ob, hO⟩ : ∃ ob, Obj.cells #[.pointer (some ⟨q, 0, none⟩)] 92 = ob := ⟨_, rfl⟩
  obtain ⟨W0, hW⟩ : ∃ W0, w.alloc ob = W0 := ⟨_, rfl⟩
  obtain ⟨B, hB⟩ : ∃ B, w.heap.size = B := ⟨_, rfl⟩
  have hb0 : Below w.heap.size w W0 := by rw [← hW]; exact (Below.refl _ w).alloc (Nat.le_refl _) ob
  have h00 : W0.heap[B]? = some (.cells #[.pointer (some ⟨q, 0, none⟩)] 92 (0, 0)) := by rw [← hW, ← hO]; exact heap_alloc_at _ _ _ hB.symm
  have k0 := k.below hb0
  have hov0 : Tx.Rw B0 W0 (.slice (some ⟨gg, 0, none⟩) N c) N (fun j => (T j).b) := (Part.ofBelow (F := fun _ => False) hb0).row hov (fun _ _ h => h)
  have hgl := (World.ownsRow.lt hov gg rfl).2
  have c6 : W0.cell? ⟨Z, 6, none⟩ = some (.slice (some ⟨gg, 0, none⟩) N c) := by
    have := (hb0.block Z hZl).trans hZ
    rw [cells_at this 6]; rfl
  have HD : Hid (Calls Tryz.prog 87 #[.slice (some ⟨gg, 0, none⟩) N c, .func (.func 88) #[] #[.pointer (some ⟨B, 0, none⟩)]] W0 fun r w' => r = .returned (.slice (some ⟨gg, 0, none⟩) (N - 1) c) ∧ (w'.cell? ⟨Z, 6, none⟩ = some (.slice (some ⟨gg, 0, none⟩) N c) ∧ w'.frozen? ⟨Z, 6, none⟩ = false) ∧ Hid (Mt B0 P (w'.setCell ⟨Z, 6, none⟩ (.slice (some ⟨gg, 0, none⟩) (N - 1) c)) Z S L g lt (N - 1) (dropT T i) ∧ Part (Ours B0 P w) w (w'.setCell ⟨Z, 6, none⟩ (.slice (some ⟨gg, 0, none⟩) (N - 1) c)))) := by
    refine (Tx.c_delete hov0 (by omega) q B i hi hq (fun a b ha hb e => k.ap a b ha hb e) (by rw [cells_at h00 0]; rfl) (by omega) (fun j hj => k0.isB j hj)).mono fun r w' ⟨hr, HE⟩ => ⟨hr, ?_⟩
    obtain ⟨e1, e2⟩ := HE.out
    exact k.dropTx i hi gg c hZ hov (hoP gg rfl) W0 w' hb0 e2 (Tx.Rw.ext e1 (fun j _ => by unfold dropAt sk; split <;> rfl))
  rw [hq]
  clear k k0 hZ hov hov0 hoP h00 hb0 hq
  go_enter Tryz.func57, Tryz.ntmps57
  go_wp2_with fail
  try rw [hO]
  try rw [hW]
  try rw [hB]
  refine HD.out.mono ?_
  rintro r v1 ⟨rfl, ⟨x1, x2⟩, HE⟩
  go_wp2
  refine bodyPost_end (results_none rfl _ _ _) rfl ?_
  exact ⟨rfl, HE.out⟩
end Go.Proofs.YthfokciijcmhbaaGreatDoor

namespace Go.Proofs.YthfokciijcmhbaaGreatDoor
open Go.RowKit
set_option linter.unusedVariables false

variable {B0 : Nat} {A : Ax} {P P' : Nat → Prop} {w w' w1 w2 : World} {Z S D L bf n M la fo lt N : Nat} {g : Int} {X : Nat → Bf} {e : Nat → Int} {ln : Nat → Nat} {lo : Nat → Nat → Int} {T : Nat → Tr}
/-- No two transactions have one number. -/
def Sole (T : Nat → Tr) (N : Nat) : Prop := ∀ a b, a < N → b < N → (T a).no = (T b).no → a = b
theorem m_found (k : Mt B0 P w Z S L g lt N T) (hd : Sole T N) (i : Nat) (hi : i < N) : Calls Tryz.prog 35 #[.pointer (some ⟨Z, 0, none⟩), .int .i64 ((T i).no : Int)] w fun r w' => r = .returned (.pointer (some ⟨(T i).b, 0, none⟩)) ∧ w' = w := (m_find k ((T i).no : Int)).mono fun r w' ⟨v, hr, hf, hw⟩ => by
  rcases hf with ⟨j, h1, h2, _, h3⟩ | ⟨h1, _⟩
  · obtain rfl := hd j i h1 hi (by omega)
    exact ⟨by rw [hr, h3], hw⟩
  · exact absurd rfl (h1 i hi)
theorem m_unfound (k : Mt B0 P w Z S L g lt N T) (z : Int) (hz : ∀ j, j < N → ((T j).no : Int) ≠ z) : Calls Tryz.prog 35 #[.pointer (some ⟨Z, 0, none⟩), .int .i64 z] w fun r w' => r = .returned (.pointer none) ∧ w' = w := (m_find k z).mono fun r w' ⟨v, hr, hf, hw⟩ => by
  rcases hf with ⟨j, h1, h2, _, h3⟩ | ⟨h1, h3⟩
  · exact absurd h2 (hz j h1)
  · exact ⟨by rw [hr, h3], hw⟩
theorem m_commit_no (k : Mt B0 P w Z S L g lt N T) (z : Int) (hz : ∀ j, j < N → ((T j).no : Int) ≠ z) : Calls Tryz.prog 39 #[.pointer (some ⟨Z, 0, none⟩), .int .i64 z] w fun r w' => r = .returned (.int .i64 60) ∧ w' = w := by
  have HF : Hid (Calls Tryz.prog 35 #[.pointer (some ⟨Z, 0, none⟩), .int .i64 z] w fun r w' => r = .returned (.pointer none) ∧ w' = w) := m_unfound k z hz
  clear k hz
  go_enter Tryz.func39, Tryz.ntmps39
  go_wp2_with fail
  refine HF.out.mono ?_
  rintro r v1 ⟨rfl, hw⟩
  obtain rfl : w = v1 := hw.symm
  clear hw
  go_wp2
  go_ret
  exact ⟨rfl, rfl⟩
/-- Commit of a transaction that changed nothing. -/
theorem m_commit_none (k : Mt B0 P w Z S L g lt N T) (hd : Sole T N) (i : Nat) (hi : i < N) (hp : (T i).ps = []) : Calls Tryz.prog 39 #[.pointer (some ⟨Z, 0, none⟩), .int .i64 ((T i).no : Int)] w fun r w' => r = .returned (.int .i64 0) ∧ Hid (Mt B0 P w' Z S L g lt (N - 1) (dropT T i) ∧ Part (Ours B0 P w) w w') := by
  have HF : Hid (Calls Tryz.prog 35 #[.pointer (some ⟨Z, 0, none⟩), .int .i64 ((T i).no : Int)] w fun r w' => r = .returned (.pointer (some ⟨(T i).b, 0, none⟩)) ∧ w' = w) := m_found k hd i hi
  have HL : Hid (Calls Tryz.prog 57 #[.pointer (some ⟨Z, 0, none⟩), .pointer (some ⟨(T i).b, 0, none⟩)] w fun r w' => r = .returned (.tuple #[]) ∧ Hid (Mt B0 P w' Z S L g lt (N - 1) (dropT T i) ∧ Part (Ours B0 P w) w w')) := m_leave k i hi
  obtain ⟨pa, pc, hpv⟩ : ∃ a c, (T i).pv = .slice a 0 c := by
    rcases (k.pr i hi).2 with ⟨e, e2⟩ | ⟨gg, cap, cur, e, _⟩
    · exact ⟨none, 0, e⟩
    · exact ⟨_, cap, by rw [e, hp]; rfl⟩
  have c1 : w.cell? ⟨(T i).b, 1, none⟩ = some (.slice pa 0 pc) := by rw [← hpv, cells_at (k.tr i hi) 1]; rfl
  generalize (T i).b = q at *
  generalize ((T i).no : Int) = z at *
  clear k hd hi hp hpv
  go_enter Tryz.func39, Tryz.ntmps39
  go_wp2_with fail
  refine HF.out.mono ?_
  rintro r v1 ⟨rfl, hw⟩
  obtain rfl : w = v1 := hw.symm
  clear hw HF
  go_wp2_with fail
  refine HL.out.mono ?_
  rintro r v1 ⟨rfl, HE⟩
  go_wp2
  go_ret
  exact ⟨rfl, HE⟩
/-- What a commit leaves. -/
def Cmt (B0 : Nat) (A : Ax) (w : World) (P : Nat → Prop) (Z S : Nat) (g : Int) (D L bf n : Nat) (X : Nat → Bf) (M la fo : Nat) (ln : Nat → Nat) (lo : Nat → Nat → Int) (lt N : Nat) (T : Nat → Tr) (w' : World) : Prop := ∃ P' e', Mg B0 A w' P' Z S g D L bf n X M e' la fo ln lo lt N T ∧ Part (Fm B0 P w) w w' ∧ ∀ b, P' b → P b ∨ w.heap.size ≤ b
set_option maxRecDepth 100000 in
set_option maxHeartbeats 4000000 in
theorem m_commit (k : Mg B0 A w P Z S g D L bf n X M e la fo ln lo lt N T) (hd : Sole T N) (i : Nat) (hi : i < N) (hp : 0 < (T i).ps.length) (hla : la ≤ 1000000) (hM : M ≤ 1000000) (hu : A.u + 12 ≤ 4480) (R : List Int) (hR : encB 3 (T i).no 0 0 ByteArray.empty ByteArray.empty 0 = R) : Calls Tryz.prog 39 #[.pointer (some ⟨Z, 0, none⟩), .int .i64 ((T i).no : Int)] w fun r w' => r = .returned (.int .i64 0) ∧ Hid (Cmt B0 ⟨A.al, A.u + (putB R.length).length + R.length⟩ w P Z S g D L bf n X M (la + 1) (la + 1) ln lo (max lt (T i).no) (N - 1) (dropT T i) w') := by
  have HF : Hid (Calls Tryz.prog 35 #[.pointer (some ⟨Z, 0, none⟩), .int .i64 ((T i).no : Int)] w fun r w' => r = .returned (.pointer (some ⟨(T i).b, 0, none⟩)) ∧ w' = w) := m_found k.mt hd i hi
  obtain ⟨m, hm⟩ : ∃ m, (T i).ps.length = m := ⟨_, rfl⟩
  obtain ⟨pa, pc, hpv⟩ : ∃ a c, (T i).pv = .slice a m c := by
    rcases (k.mt.pr i hi).2 with ⟨e, e2⟩ | ⟨gg, cap, cur, e, _⟩
    · exact ⟨none, 0, by rw [e, ← hm, e2]⟩
    · exact ⟨_, cap, by rw [e, hm]⟩
  have c1 : w.cell? ⟨(T i).b, 1, none⟩ = some (.slice pa m pc) := by rw [← hpv, cells_at (k.mt.tr i hi) 1]; rfl
  have hno := (k.mt.sm i hi).2.2
  have hl := encB_len (k := 3) (t := (T i).no) (p := 0) (o := 0) (ah := ByteArray.empty) (be := ByteArray.empty) (nm := 0) (by decide) hno (by decide) (by decide) (by decide) (by decide) (by decide)
  rw [hR, if_neg (by decide), if_neg (by decide)] at hl
  have hpl : (putB R.length).length = 1 := by rw [putB_small _ (by omega)]; rfl
  have HN : Hid (Calls Tryz.prog 62 #[.pointer (some ⟨Z, 0, none⟩), .agg #[.int .i64 3, .int .i64 ((T i).no : Int), .int .i64 0, .int .i64 0, .string ByteArray.empty, .string ByteArray.empty, .int .i64 0]] w fun r w' => r = .returned (.tuple #[.int .i64 ((la + 1 : Nat) : Int), .int .i64 0]) ∧ w'.cell? ⟨Z, 3, none⟩ = some (.pointer (some ⟨L, 0, none⟩)) ∧ Hid (Calls Tryz.prog 63 #[.pointer (some ⟨L, 0, none⟩)] w' fun r w'' => r = .returned (.int .i64 0) ∧ Hid (Calls Tryz.prog 57 #[.pointer (some ⟨Z, 0, none⟩), .pointer (some ⟨(T i).b, 0, none⟩)] w'' fun r w3 => r = .returned (.tuple #[]) ∧ Hid (Cmt B0 ⟨A.al, A.u + (putB R.length).length + R.length⟩ w P Z S g D L bf n X M (la + 1) (la + 1) ln lo (max lt (T i).no) (N - 1) (dropT T i) w3)))) := by
    refine (m_note k hla 3 0 0 0 (T i).no ByteArray.empty ByteArray.empty hno R hl.1 (by omega) (by rw [← hR]; exact encB_by (by decide) hno (by decide) (by decide) (by decide) (by decide) (by decide)) (by omega) (fun wq => by
      have := c_enc3 3 (T i).no 0 0 0 ByteArray.empty ByteArray.empty wq (.inl rfl) hno (by decide) (by decide) (by decide) (by decide) (by decide)
      rw [hR] at this
      exact this)).mono fun r w' ⟨h1, h2⟩ => ⟨h1, ?_⟩
    obtain ⟨P1, j1, j2, j3⟩ := h2.out
    obtain ⟨a9, c9, ⟨_, _, z3, _⟩, _⟩ := j1.mt.cells
    refine ⟨z3, ?_⟩
    have s1 := j2.size
    refine (pw_force j1.pw hM 0).mono fun r w'' ⟨h3, P2, e2, i1, i2, i3⟩ => ⟨h3, ?_⟩
    have i2w := Fq.wide i2
    have m2 := j1.mt.called i2w i3
    refine (m_leave m2 i hi).mono fun r w3 ⟨h4, h5⟩ => ⟨h4, ?_⟩
    have b2 : ∀ b, P2 b → P b ∨ w.heap.size ≤ b := fun b h => by
      rcases i3 b h with h | h
      · exact j3 b h
      · exact .inr (by omega)
    exact ⟨P2, e2, ⟨i1.ours h5.out.2 (fun b h => h), h5.out.1⟩, Fm.trans (Fm.trans j2 j3 (Fm.pool i2w)) b2 (Fm.ours h5.out.2 (fun b h => h)), b2⟩
  have hm0 : (0 : Int) < (m : Int) := by omega
  generalize hqq : (T i).b = q at HF HN c1
  generalize hzz : ((T i).no : Int) = z at HF HN ⊢
  clear k hd hi hp hpv hm hl hpl hR hu hno hqq hzz
  go_enter Tryz.func39, Tryz.ntmps39
  go_wp2_with fail
  refine HF.out.mono ?_
  rintro r v1 ⟨rfl, hw⟩
  obtain rfl : w = v1 := hw.symm
  clear hw HF
  go_wp2_with fail
  refine HN.out.mono ?_
  rintro r v1 ⟨rfl, x3, H1⟩
  clear HN c1
  go_wp2_with fail
  refine H1.out.mono ?_
  rintro r v2 ⟨rfl, H2⟩
  clear H1 x3
  go_wp2_with fail
  refine H2.out.mono ?_
  rintro r v3 ⟨rfl, HE⟩
  go_wp2
  go_ret
  exact ⟨rfl, HE⟩
end Go.Proofs.YthfokciijcmhbaaGreatDoor
