/-
  A manager's state: locked, reserve.
  A manager: its state with the pool's; note.
  Pool.Flush, Get, Table, over a pool whose pages are written.
-/
import Derived.Test.YthfokciijcmhbaaGreatDoorGbg
import Derived.Test.YthfokciijcmhbaaGreatDoorGbf
import Derived.Test.YthfokciijcmhbaaGreatDoorGbe
import Derived.Deep.RegionHeld3
namespace Go.Proofs.YthfokciijcmhbaaGreatDoor
open Go.RowKit
set_option linter.unusedVariables false

variable {B0 : Nat} {P P' : Nat → Prop} {w w' : World} {Z S L la N : Nat} {g : Int} {T : Nat → Tr}
theorem neq_tx {x q : Nat} (hx : Tx.IsB w x) (hq : Tx.IsB w q) : (binOp .neq 92 (.pointer (some ⟨x, 0, none⟩)) (.pointer (some ⟨q, 0, none⟩))).run Tryz.prog w = .ok (.bool (!decide (x = q))) w := by
  obtain ⟨j, hj, _, hs, _⟩ := info_parts Tx.infoBuf
  obtain ⟨cx, hx⟩ := hx
  obtain ⟨cq, hq⟩ := hq
  have hp := Tryz.underlying92
  have hsz : j.size ≠ 0 := by rw [hs]; decide
  by_cases e : x = q
  · subst e
    have h : ∀ d : Nat, (Op.equalIn (d + 1) 92 (.pointer (some ⟨x, 0, none⟩)) (.pointer (some ⟨x, 0, none⟩))).run Tryz.prog w = .ok true w := fun d => by
      simp [Op.equalIn, run_underlying hp, sizeOf, typeInfo, hj, run_sameAddr_same]
    rw [decide_eq_true rfl]
    simp only [binOp]
    simp [Op.equal, Op.maxDepth, h 9999]
  · have hne : (⟨x, 0, none⟩ : Addr) ≠ ⟨q, 0, none⟩ := fun h => e (by injection h)
    have h : ∀ d : Nat, (Op.equalIn (d + 1) 92 (.pointer (some ⟨x, 0, none⟩)) (.pointer (some ⟨q, 0, none⟩))).run Tryz.prog w = .ok false w := fun d => by
      simp [Op.equalIn, run_underlying hp, sizeOf, typeInfo, hj, hsz, run_sameAddr_other w hne hx hq]
    rw [decide_eq_false e]
    simp only [binOp]
    simp [Op.equal, Op.maxDepth, h 9999]
/-- Whether another transaction than the i-th one changed page z. -/
def Lkd (T : Nat → Tr) (N i : Nat) (z : Int) : Prop := ∃ j, j < N ∧ j ≠ i ∧ Ci (T j).ps z = true
set_option maxRecDepth 100000 in
set_option maxHeartbeats 2000000 in
theorem m_locked (k : Mt B0 P w Z S L g la N T) (i : Nat) (hi : i < N) (z : Int) : Calls Tryz.prog 60 #[.pointer (some ⟨Z, 0, none⟩), .pointer (some ⟨(T i).b, 0, none⟩), .int .i64 z] w fun r w' => ∃ d : Bool, r = .returned (.bool d) ∧ (d = true ↔ Lkd T N i z) ∧ w' = w := by
  obtain ⟨a, c, ⟨_, _, _, _, _, c6⟩, _, HR⟩ := k.cells
  have nn := k.nn
  obtain ⟨q, hq⟩ : ∃ q, (T i).b = q := ⟨_, rfl⟩
  have HP : Hid (∀ j, j < N → w.cell? ⟨(T j).b, 1, none⟩ = some (T j).pv ∧ (binOp .neq 92 (.pointer (some ⟨(T j).b, 0, none⟩)) (.pointer (some ⟨q, 0, none⟩))).run Tryz.prog w = .ok (.bool (!decide (j = i))) w ∧ (∃ va vc, (T j).pv = .slice va (T j).ps.length vc) ∧ Hid (Calls Tryz.prog 86 #[(T j).pv, .int .i64 z] w fun r w' => r = .returned (.bool (Ci (T j).ps z)) ∧ w' = w)) := fun j hj => by
    refine ⟨by rw [cells_at (k.tr j hj) 1]; rfl, ?_, ?_, c_contains (k.pr j hj) z (k.sm j hj).1⟩
    · rw [neq_tx (k.isB j hj) (hq ▸ k.isB i hi)]
      congr 3
      by_cases e : j = i
      · rw [decide_eq_true e, decide_eq_true (by rw [e, hq])]
      · rw [decide_eq_false e, decide_eq_false (fun e2 => e (k.ap j i hj hi (by rw [e2, hq])))]
    · rcases (k.pr j hj).2 with ⟨e, e2⟩ | ⟨gg, cap, cur, e, _⟩
      · exact ⟨none, 0, by rw [e, e2]⟩
      · exact ⟨_, cap, e⟩
  rw [hq]
  clear k hq
  go_enter Tryz.func60, Tryz.ntmps60
  go_wp2
  go_loopw [14] (fun s wr => ∃ k : Nat, k ≤ N ∧ s = .int .i64 (k : Int) ∧ Hid (∀ j, j < k → ¬ (j ≠ i ∧ Ci (T j).ps z = true)) ∧ wr = w) (fun k _ => N - (intOf k).toNat)
  case atStart => exact ⟨0, Nat.zero_le _, rfl, fun j hj => absurd hj (by omega), rfl⟩
  case round =>
    obtain ⟨k, hk, rfl, HJ, hw⟩ := hrel
    obtain rfl : w = wr := hw.symm
    clear hw
    by_cases hlt : k < N
    · obtain ⟨gg, rfl, hc⟩ := HR.out k hlt
      obtain ⟨p1, p2, ⟨va, vc, p3⟩, HC⟩ := HP.out k hlt
      rw [p3] at p1 HC
      have l1 : (k : Int) < (N : Int) := by omega
      have l2 : (0 : Int) ≤ (k : Int) := by omega
      obtain ⟨d, hd⟩ : ∃ d, Ci (T k).ps z = d := ⟨_, rfl⟩
      have HS : Hid (¬ (k ≠ i ∧ Ci (T k).ps z = true) → ∀ j, j < k + 1 → ¬ (j ≠ i ∧ Ci (T j).ps z = true)) := fun e j hj => by
        by_cases h : j < k
        · exact HJ.out j h
        · obtain rfl : j = k := by omega
          exact e
      by_cases he : k = i
      · rw [decide_eq_true he] at p2
        have HF : Hid (∀ j, j < k + 1 → ¬ (j ≠ i ∧ Ci (T j).ps z = true)) := HS.out (fun h => h.1 he)
        clear he HS hd HC p3
        simp only [Bool.not_true] at p2
        go_wp2
        go_roundw
        case rel => exact ⟨k + 1, by omega, by go_num, HF, trivial⟩
        case measure => simp [intOf]; omega
      · rw [decide_eq_false he] at p2
        rw [hd] at HC
        simp only [Bool.not_false] at p2
        cases d
        · have HF : Hid (∀ j, j < k + 1 → ¬ (j ≠ i ∧ Ci (T j).ps z = true)) := HS.out (fun h => by rw [hd] at h; exact absurd h.2 (by decide))
          clear he HS hd p3
          go_wp2_with fail
          refine HC.out.mono ?_
          rintro r w1 ⟨rfl, hw⟩
          obtain rfl : w = w1 := hw.symm
          clear hw
          go_wp2
          go_roundw
          case rel => exact ⟨k + 1, by omega, by go_num, HF, trivial⟩
          case measure => simp [intOf]; omega
        · have HF : Hid (Lkd T N i z) := ⟨k, hlt, he, hd⟩
          clear he HS hd p3
          go_wp2_with fail
          refine HC.out.mono ?_
          rintro r w1 ⟨rfl, hw⟩
          obtain rfl : w = w1 := hw.symm
          clear hw
          go_wp2
          go_ret
          exact ⟨true, rfl, ⟨fun _ => HF.out, fun _ => rfl⟩, rfl⟩
    · obtain rfl : k = N := by omega
      go_wp2
      go_ret
      exact ⟨false, rfl, Iff.intro (fun h => by cases h) (fun ⟨j, h1, h2⟩ => absurd h2 (HJ.out j h1)), rfl⟩
/-- The room that taking back all open transactions takes at most. -/
def rsv (T : Nat → Tr) : Nat → Nat
  | 0 => 0
  | j + 1 => rsv T j + (160 * (T j).us.length + 16)
theorem rsv_le (T : Nat → Tr) : ∀ N, (∀ j, j < N → (T j).us.length ≤ 1000) → rsv T N ≤ N * 160016
  | 0, _ => Nat.le_refl _
  | N + 1, h => by
    have := rsv_le T N (fun j hj => h j (by omega))
    have := h N (Nat.lt_succ_self N)
    show rsv T N + (160 * (T N).us.length + 16) ≤ _
    omega
set_option maxRecDepth 100000 in
set_option maxHeartbeats 2000000 in
theorem m_reserve (k : Mt B0 P w Z S L g la N T) : Calls Tryz.prog 53 #[.pointer (some ⟨Z, 0, none⟩)] w fun r w' => r = .returned (.int .i64 (rsv T N : Int)) ∧ w' = w := by
  obtain ⟨a, c, ⟨_, _, _, _, _, c6⟩, _, HR⟩ := k.cells
  have nn := k.nn
  have HP : Hid (∀ j, j < N → ∃ va vc, w.cell? ⟨(T j).b, 2, none⟩ = some (.slice va (T j).us.length vc) ∧ (T j).us.length ≤ 1000) := fun j hj => by
    have h1 : w.cell? ⟨(T j).b, 2, none⟩ = some (T j).uv := by rw [cells_at (k.tr j hj) 2]; rfl
    rcases (k.ur j hj).2 with ⟨e, e2⟩ | ⟨gg, cap, cur, e, _⟩
    · exact ⟨none, 0, by rw [h1, e, e2], (k.sm j hj).2.1⟩
    · exact ⟨_, cap, by rw [h1, e], (k.sm j hj).2.1⟩
  have HB : Hid (∀ j, j ≤ N → rsv T j ≤ 10000000) := fun j hj => by
    have := rsv_le T j (fun i hi => (k.sm i (by omega)).2.1)
    have : j * 160016 ≤ 16 * 160016 := Nat.mul_le_mul_right _ (by omega)
    omega
  clear k
  go_enter Tryz.func53, Tryz.ntmps53
  go_wp2
  go_loopw [3, 11] (fun x s wr => ∃ k : Nat, k ≤ N ∧ s = .int .i64 (k : Int) ∧ x = .int .i64 (rsv T k : Int) ∧ wr = w) (fun _ k _ => N - (intOf k).toNat)
  case atStart => exact ⟨0, Nat.zero_le _, rfl, rfl, rfl⟩
  case round =>
    obtain ⟨k, hk, rfl, rfl, hw⟩ := hrel
    obtain rfl : w = wr := hw.symm
    clear hw
    by_cases hlt : k < N
    · obtain ⟨gg, rfl, hc⟩ := HR.out k hlt
      obtain ⟨va, vc, p1, p2⟩ := HP.out k hlt
      have hb1 := HB.out k hk
      have hb2 := HB.out (k + 1) hlt
      have HE : Hid ((rsv T (k + 1) : Int) = (rsv T k : Int) + (160 * ((T k).us.length : Int) + 16)) := by
        show ((rsv T k + (160 * (T k).us.length + 16) : Nat) : Int) = _
        omega
      have l1 : (k : Int) < (N : Int) := by omega
      have l2 : (0 : Int) ≤ (k : Int) := by omega
      obtain ⟨x, hx⟩ : ∃ x, rsv T k = x := ⟨_, rfl⟩
      obtain ⟨y, hy⟩ : ∃ y, (T k).us.length = y := ⟨_, rfl⟩
      rw [hx] at hb1 HE ⊢
      rw [hy] at p1 p2 HE
      have b1 : (x : Int) ≤ 10000000 := by omega
      have b2 : (y : Int) ≤ 1000 := by omega
      clear hx hy hb2 HB
      go_wp2
      go_roundw
      case rel =>
        exact ⟨k + 1, by omega, by go_num, by rw [HE.out], trivial⟩
      case measure => simp [intOf]; omega
    · obtain rfl : k = N := by omega
      go_wp2
      go_ret
      exact ⟨rfl, rfl⟩
end Go.Proofs.YthfokciijcmhbaaGreatDoor

namespace Go.Proofs.YthfokciijcmhbaaGreatDoor
open Go.RowKit
set_option linter.unusedVariables false

variable {B0 : Nat} {A : Ax} {P P' : Nat → Prop} {w w' w1 w2 : World} {Z S D L bf n M la fo lt N : Nat} {g : Int} {X : Nat → Bf} {e : Nat → Int} {ln : Nat → Nat} {lo : Nat → Nat → Int} {T : Nat → Tr}
/-- A manager: the pool, and the transactions. -/
structure Mg (B0 : Nat) (A : Ax) (w : World) (P : Nat → Prop) (Z S : Nat) (g : Int) (D L bf n : Nat) (X : Nat → Bf) (M : Nat) (e : Nat → Int) (la fo : Nat) (ln : Nat → Nat) (lo : Nat → Nat → Int) (lt N : Nat) (T : Nat → Tr) : Prop where
  pw : Pw B0 A w P S 0 D L bf n X M e la fo ln lo
  mt : Mt B0 P w Z S L g lt N T
/-- What a manager's call may write. -/
def Fm (B0 : Nat) (P : Nat → Prop) (w : World) (b : Nat) : Prop := Fw B0 P w b ∨ Ours B0 P w b
theorem Fm.back (h : Part (Fm B0 P w) w w1) (hP : ∀ b, P' b → P b ∨ w.heap.size ≤ b) : ∀ i, i < w.heap.size → Fm B0 P' w1 i → Fm B0 P w i := fun i hi hf => by
  by_cases hq : Fm B0 P w i
  · exact hq
  · have hb := h.block i hi hq
    rcases hf with (hf | ⟨hB, cs, t, fz, e, ht⟩) | ⟨hB, _, cs, t, e, ht⟩
    · exact .inl (.inl ((hP i hf).resolve_right (by omega)))
    · rw [hb] at e
      exact .inl (.inr ⟨hB, cs, t, fz, e, ht⟩)
    · rw [hb] at e
      exact .inr ⟨hB, fun hPi => hq (.inl (.inl hPi)), cs, t, e, ht⟩
theorem Fm.trans (h : Part (Fm B0 P w) w w1) (hP : ∀ b, P' b → P b ∨ w.heap.size ≤ b) (h' : Part (Fm B0 P' w1) w1 w2) : Part (Fm B0 P w) w w2 := h.trans h' (Fm.back h hP)
theorem Fm.pool (h : Part (Fw B0 P w) w w1) : Part (Fm B0 P w) w w1 := h.mono fun _ _ h => .inl h
theorem Fm.ours {G : Nat → Prop} (h : Part G w w1) (hG : ∀ b, G b → Ours B0 P w b) : Part (Fm B0 P w) w w1 := h.mono fun b _ h => .inr (hG b h)
/-- What writes the manager's blocks leaves the pool. -/
theorem Pw.ours {G : Nat → Prop} {m : Int} (k : Pw B0 A w P S m D L bf n X M e la fo ln lo) (hp : Part G w w') (hG : ∀ b, G b → Ours B0 P w b) : Pw B0 A w' P S m D L bf n X M e la fo ln lo := by
  obtain ⟨T0, F, vt, _, s2, _⟩ := k.lay
  obtain ⟨q, place, tl, f, g1, _⟩ := s2.lay
  have ty : ∀ b cs t, G b → w.heap[b]? = some (.cells cs t (0, 0)) → t = 88 ∨ t = 95 ∨ t = 92 ∨ t = 3 ∨ t = 163 := fun b cs t hb e => by
    obtain ⟨_, _, cs', t', e', ht⟩ := hG b hb
    rw [e] at e'
    injection e' with e'
    injection e' with _ e'
    subst e'
    exact ht
  refine k.part hp (fun b hb hg => (hG b hg).2.1 hb) ⟨fun hg => ?_, fun hg => ?_, fun hg => ?_⟩ (fun b cs t hg e => ?_) (fun j b hj hb hg => ?_)
  · have := (hG _ hg).1
    have := k.tl
    omega
  · rcases ty _ _ _ hg k.pl with h | h | h | h | h <;> exact absurd h (by decide)
  · rcases ty _ _ _ hg g1.hL with h | h | h | h | h <;> exact absurd h (by decide)
  · rcases ty _ _ _ hg e with rfl | rfl | rfl | rfl | rfl <;> exact ⟨by decide, by decide⟩
  · obtain ⟨cur, e⟩ := row_block (k.ld j hj) hb
    rcases ty _ _ _ hg e with h | h | h | h | h <;> exact absurd h (by decide)
/-- The manager's state with other numbers in its own block. -/
theorem Mt.newZ {g' : Int} {lt' : Nat} (k : Mt B0 P w Z S L g lt N T) (hp : Part (fun b => b = Z) w w') (hZ : ∀ ov, w.heap[Z]? = some (mgO g S L lt ov) → w'.heap[Z]? = some (mgO g' S L lt' ov)) (hl : lt' ≤ 1099511627776) : Mt B0 P w' Z S L g' lt' N T := by
  obtain ⟨ov, h1, h2, h3⟩ := k.lay
  have ty : ∀ b cs t, w.heap[b]? = some (.cells cs t (0, 0)) → t ≠ 88 → b ≠ Z := fun b cs t e ht e' => by
    rw [e', h1] at e
    injection e with e
    injection e with _ e
    exact ht e.symm
  exact ⟨⟨ov, hZ ov h1, hp.row h2 (fun b hb => by obtain ⟨cur, e⟩ := row_block h2 hb; exact ty b _ _ e (by decide)), h3⟩, fun j hj => (hp.block _ (Array.getElem?_eq_some_iff.1 (k.tr j hj)).1 (ty _ _ _ (k.tr j hj) (by decide))).trans (k.tr j hj), fun j hj => hp.row (k.pr j hj) (fun b hb => by obtain ⟨cur, e⟩ := row_block (k.pr j hj) hb; exact ty b _ _ e (by decide)), fun j hj => hp.row (k.ur j hj) (fun b hb => by obtain ⟨cur, e⟩ := row_block (k.ur j hj) hb; exact ty b _ _ e (by decide)), k.ap, k.pp, k.uu, k.out, k.low, k.nn, k.sm, hl⟩
theorem Mg.below (k : Mg B0 A w P Z S g D L bf n X M e la fo ln lo lt N T) (hb : Below w.heap.size w w') : Mg B0 A w' P Z S g D L bf n X M e la fo ln lo lt N T := ⟨k.pw.below hb, k.mt.below hb⟩
/-- What a call leaves that wrote a record. -/
def Ntd (B0 : Nat) (A : Ax) (w : World) (P : Nat → Prop) (Z S : Nat) (g : Int) (D L bf n : Nat) (X : Nat → Bf) (M : Nat) (e : Nat → Int) (la fo : Nat) (ln : Nat → Nat) (lo : Nat → Nat → Int) (lt N : Nat) (T : Nat → Tr) (w' : World) : Prop := ∃ P', Mg B0 A w' P' Z S g D L bf n X M e la fo ln lo lt N T ∧ Part (Fm B0 P w) w w' ∧ ∀ b, P' b → P b ∨ w.heap.size ≤ b
theorem Ntd.below {v v' : World} (h : Ntd B0 A w P Z S g D L bf n X M e la fo ln lo lt N T v) (hb : Below v.heap.size v v') : Ntd B0 A w P Z S g D L bf n X M e la fo ln lo lt N T v' := by
  obtain ⟨P', h1, h2, h3⟩ := h
  exact ⟨P', h1.below hb, Fm.trans h2 h3 (Part.ofBelow hb), h3⟩
set_option maxRecDepth 100000 in
set_option maxHeartbeats 4000000 in
theorem m_note (k : Mg B0 A w P Z S g D L bf n X M e la fo ln lo lt N T) (hla : la ≤ 1000000) (K p o nm : Int) (t : Nat) (ah be : ByteArray) (ht : t ≤ 1099511627776) (xs : List Int) (hx1 : 0 < xs.length) (hx2 : xs.length ≤ 2000) (hxb : ∀ x ∈ xs, 0 ≤ x ∧ x ≤ 255) (hu : A.u + (putB xs.length).length + xs.length ≤ 4480)
    (hE : ∀ wq, Calls Tryz.prog 84 #[.agg #[.int .i64 K, .int .i64 (t : Int), .int .i64 p, .int .i64 o, .string ah, .string be, .int .i64 nm]] wq fun r w' => ∃ a n c, r = .returned (.slice a n c) ∧ Below wq.heap.size wq w' ∧ Hid (Bs wq.heap.size w' (.slice a n c) xs)) :
    Calls Tryz.prog 62 #[.pointer (some ⟨Z, 0, none⟩), .agg #[.int .i64 K, .int .i64 (t : Int), .int .i64 p, .int .i64 o, .string ah, .string be, .int .i64 nm]] w fun r w' => r = .returned (.tuple #[.int .i64 ((la + 1 : Nat) : Int), .int .i64 0]) ∧ Hid (Ntd B0 ⟨A.al, A.u + (putB xs.length).length + xs.length⟩ w P Z S g D L bf n X M e (la + 1) fo ln lo (max lt t) N T w') := by
  obtain ⟨ob, hO⟩ : ∃ ob, Obj.cells #[.int .i64 K, .int .i64 (t : Int), .int .i64 p, .int .i64 o, .string ah, .string be, .int .i64 nm] 114 = ob := ⟨_, rfl⟩
  obtain ⟨W0, hW⟩ : ∃ W0, w.alloc ob = W0 := ⟨_, rfl⟩
  obtain ⟨B, hB⟩ : ∃ B, w.heap.size = B := ⟨_, rfl⟩
  have hb0 : Below w.heap.size w W0 := by rw [← hW]; exact (Below.refl _ w).alloc (Nat.le_refl _) ob
  have h00 : W0.heap[B]? = some (.cells #[.int .i64 K, .int .i64 (t : Int), .int .i64 p, .int .i64 o, .string ah, .string be, .int .i64 nm] 114 (0, 0)) := by rw [← hW, ← hO]; exact heap_alloc_at _ _ _ hB.symm
  have hBl : B < W0.heap.size := (Array.getElem?_eq_some_iff.1 h00).1
  have k0 := k.below hb0
  have hlt := k.pw.lt
  have hZl := k.mt.lt
  have hS0 : ∀ (wq : World) (h1 : wq.heap[B]? = some (.cells #[.int .i64 K, .int .i64 (t : Int), .int .i64 p, .int .i64 o, .string ah, .string be, .int .i64 nm] 114 (0, 0))) (h2 : wq.cell? ⟨Z, 3, none⟩ = some (.pointer (some ⟨L, 0, none⟩))), wq.cell? ⟨Z, 3, none⟩ = some (.pointer (some ⟨L, 0, none⟩)) ∧ wq.cell? ⟨B, 0, none⟩ = some (.int .i64 K) ∧ wq.cell? ⟨B, 1, none⟩ = some (.int .i64 (t : Int)) ∧ wq.cell? ⟨B, 2, none⟩ = some (.int .i64 p) ∧ wq.cell? ⟨B, 3, none⟩ = some (.int .i64 o) ∧ wq.cell? ⟨B, 4, none⟩ = some (.string ah) ∧ wq.cell? ⟨B, 5, none⟩ = some (.string be) ∧ wq.cell? ⟨B, 6, none⟩ = some (.int .i64 nm) := fun wq e h2 => ⟨h2, by rw [cells_at e 0]; rfl, by rw [cells_at e 1]; rfl, by rw [cells_at e 2]; rfl, by rw [cells_at e 3]; rfl, by rw [cells_at e 4]; rfl, by rw [cells_at e 5]; rfl, by rw [cells_at e 6]; rfl⟩
  have HS : Hid (∀ wq, Below W0.heap.size W0 wq → wq.cell? ⟨Z, 3, none⟩ = some (.pointer (some ⟨L, 0, none⟩)) ∧ wq.cell? ⟨B, 0, none⟩ = some (.int .i64 K) ∧ wq.cell? ⟨B, 1, none⟩ = some (.int .i64 (t : Int)) ∧ wq.cell? ⟨B, 2, none⟩ = some (.int .i64 p) ∧ wq.cell? ⟨B, 3, none⟩ = some (.int .i64 o) ∧ wq.cell? ⟨B, 4, none⟩ = some (.string ah) ∧ wq.cell? ⟨B, 5, none⟩ = some (.string be) ∧ wq.cell? ⟨B, 6, none⟩ = some (.int .i64 nm)) := fun wq hq => by
    obtain ⟨a, c, ⟨_, _, c3, _⟩, _⟩ := (k0.below hq).mt.cells
    exact hS0 wq ((hq.block B hBl).trans h00) c3
  have HEn : Hid (∀ wq, Below W0.heap.size W0 wq → Calls Tryz.prog 84 #[.agg #[.int .i64 K, .int .i64 (t : Int), .int .i64 p, .int .i64 o, .string ah, .string be, .int .i64 nm]] wq fun r w' => ∃ a n c, r = .returned (.slice a n c) ∧ Below W0.heap.size W0 w' ∧ Hid (Bs W0.heap.size w' (.slice a n c) xs)) := fun wq hq => (hE wq).mono fun r w' ⟨a, n, c, hr, hb, hs⟩ => ⟨a, n, c, hr, hq.trans (hb.mono hq.size), hs.out.mono hq.size⟩
  have HAp : Hid (∀ wq a n1 c, Below W0.heap.size W0 wq → Bs W0.heap.size wq (.slice a n1 c) xs → Calls Tryz.prog 92 #[.pointer (some ⟨L, 0, none⟩), .slice a n1 c] wq fun r w' => r = .returned (.tuple #[.int .i64 ((la + 1 : Nat) : Int), .int .i64 0]) ∧ (w'.cell? ⟨Z, 3, none⟩ = some (.pointer (some ⟨L, 0, none⟩)) ∧ w'.cell? ⟨B, 0, none⟩ = some (.int .i64 K) ∧ w'.cell? ⟨B, 1, none⟩ = some (.int .i64 (t : Int)) ∧ w'.cell? ⟨B, 2, none⟩ = some (.int .i64 p) ∧ w'.cell? ⟨B, 3, none⟩ = some (.int .i64 o) ∧ w'.cell? ⟨B, 4, none⟩ = some (.string ah) ∧ w'.cell? ⟨B, 5, none⟩ = some (.string be) ∧ w'.cell? ⟨B, 6, none⟩ = some (.int .i64 nm)) ∧ (w'.cell? ⟨Z, 5, none⟩ = some (.int .i64 (lt : Int)) ∧ w'.frozen? ⟨Z, 5, none⟩ = false) ∧ Hid (Ntd B0 ⟨A.al, A.u + (putB xs.length).length + xs.length⟩ w P Z S g D L bf n X M e (la + 1) fo ln lo (max lt t) N T (w'.setCell ⟨Z, 5, none⟩ (.int .i64 ((max lt t : Nat) : Int))))) := fun wq a n1 c hq hs => by
    obtain rfl := hs.len
    obtain ⟨a', c', e1, hf, hc0, hlow⟩ := hs
    injection e1 with e1 _ e3
    subst e1 e3
    have kq := k0.below hq
    have hsz0 := hb0.size
    refine (pw_appendN kq.pw hla a xs.length c (fn xs) hf (fun y hy hP => by have := hlt _ hP; have := hlow y hy; omega) hx1 hx2 (fn_by hxb) hu hc0).mono fun r w' ⟨hr, P', j1, j2, j3⟩ => ?_
    have j2w := Fq.wide j2
    have m1 := kq.mt.called j2w j3
    obtain ⟨a6, c6, ⟨_, _, c3, _, c5, _⟩, _⟩ := m1.cells
    have hqB := (hq.block B hBl).trans h00
    have nB : ¬ Fw B0 P wq B := fun hf => by
      rcases hf with hf | ⟨_, cs, ty, fz, e9, ht⟩
      · have := hlt B hf; omega
      · rw [hqB] at e9
        injection e9 with e9
        injection e9 with _ e9
        subst e9
        rcases ht with ht | ht <;> exact absurd ht (by decide)
    have h1B := (j2w.block B (Array.getElem?_eq_some_iff.1 hqB).1 nB).trans hqB
    obtain ⟨ov, hZ, _⟩ := m1.lay
    have pZ : Part (fun b => b = Z) w' (w'.setCell ⟨Z, 5, none⟩ (.int .i64 ((max lt t : Nat) : Int))) := (Part.refl (fun b => b = Z) w').setCell (p := ⟨Z, 5, none⟩) (fun _ => rfl) _
    have oZ : ∀ b, b = Z → Ours B0 P' w' b := fun b hb => by rw [hb]; exact m1.oursZ
    have hqs := hq.size
    have pw1 : Part (Fm B0 P w) w w' := Fm.trans (P' := P) (Part.ofBelow (hb0.trans (hq.mono hb0.size))) (fun b h => .inl h) (Fm.pool j2w)
    have hPP : ∀ b, P' b → P b ∨ w.heap.size ≤ b := fun b hb => (j3 b hb).imp id (fun h => by omega)
    refine ⟨hr, hS0 w' h1B c3, ⟨c5, cells_free hZ 5⟩, P', ⟨j1.ours pZ oZ, m1.newZ pZ (fun ov h => ?_) (by have := k.mt.la_; omega)⟩, Fm.trans pw1 hPP (Fm.ours pZ oZ), hPP⟩
    rw [heap_set_at h]
    rfl
  have HF : Hid (∀ z : Int, z = ((max lt t : Nat) : Int) → z = ((max lt t : Nat) : Int)) := fun z h => h
  have b0 : Below W0.heap.size W0 W0 := Below.refl _ _
  obtain ⟨x3, y0, y1, y2, y3, y4, y5, y6⟩ := HS.out W0 b0
  clear k k0 hlt hE hxb h00 hS0 hu hb0 hZl
  go_enter Tryz.func62, Tryz.ntmps62
  go_wp2_with fail
  try rw [hO]
  try rw [hW]
  try rw [hB]
  go_region_held2 (fun wq => wq.cell? ⟨Z, 3, none⟩ = some (.pointer (some ⟨L, 0, none⟩)) ∧ wq.cell? ⟨B, 0, none⟩ = some (.int .i64 K) ∧ wq.cell? ⟨B, 1, none⟩ = some (.int .i64 (t : Int)) ∧ wq.cell? ⟨B, 2, none⟩ = some (.int .i64 p) ∧ wq.cell? ⟨B, 3, none⟩ = some (.int .i64 o) ∧ wq.cell? ⟨B, 4, none⟩ = some (.string ah) ∧ wq.cell? ⟨B, 5, none⟩ = some (.string be) ∧ wq.cell? ⟨B, 6, none⟩ = some (.int .i64 nm))
    (first | assumption | exact HS.out _ (by assumption) | exact HS.out _ (blw_drewN 1 (by assumption)) | go_keep)
    (first
      | (go_at_call 92; refine (HAp.out _ a1 n1 c1 (by first | exact k1 | exact blw_drewN 1 k1) (by first | exact HE1.out | exact HE1.out.below (blw_drewN 1 (Below.refl _ _)))).mono ?_; rintro e' v2 ⟨rfl, hS2, h52, HG⟩)
      | (go_at_call 84; refine (HEn.out _ (by first | exact b0 | exact blw_drewN 1 b0)).mono ?_; rintro e' v1 ⟨a1, n1, c1, rfl, k1, HE1⟩))
  obtain ⟨c5, f5⟩ := h52
  obtain ⟨_, _, z1, _⟩ := hS2
  clear HS HEn HAp HE1 k1 b0 x3 y0 y1 y2 y3 y4 y5 y6
  by_cases hlt : lt < t
  · have hl1 : (lt : Int) < (t : Int) := by omega
    have e9 : ((max lt t : Nat) : Int) = (t : Int) := by omega
    rw [e9] at HG
    clear hlt e9 HF
    go_wp2_with fail
    go_region
    all_goals
      go_wp2
      go_ret2
      exact ⟨rfl, HG.out.below (blw_drewN 1 (Below.refl _ _))⟩
  · have e9 : ((max lt t : Nat) : Int) = (lt : Int) := by omega
    have hl1 : ((lt : Int) < (t : Int)) = False := eq_false (by omega)
    rw [e9] at HG
    clear hlt e9 HF
    go_wp2_with fail
    go_region
    all_goals
      go_wp2
      go_ret2
      exact ⟨rfl, HG.out.below (blw_drewN 1 (Below.refl _ _))⟩
end Go.Proofs.YthfokciijcmhbaaGreatDoor

namespace Go.Proofs.YthfokciijcmhbaaGreatDoor
open Go.RowKit
set_option linter.unusedVariables false

variable {B0 : Nat} {A : Ax} {w w1 : World} {P : Nat → Prop} {S D L bf n M last forced : Nat} {m : Int} {X : Nat → Bf} {e : Nat → Int} {ln : Nat → Nat} {lo : Nat → Nat → Int}
theorem ptd_unlock {w : World} {Q : World → Prop} (hQ : ∀ a b, Q a → Part (fun k => k = S) a b → Q b) : ∀ wq, Ptd B0 A w P S 1 D L bf M last forced ln lo wq ∧ Q wq → CallsD Tryz.prog 32 #[.pointer (some ⟨S, 0, none⟩)] .returning wq fun e u' w' => u' = .returning ∧ (e = .returned (.tuple #[]) ∧ Hid (Ptd B0 A w P S 0 D L bf M last forced ln lo w' ∧ Q w')) := fun wq ⟨⟨n', X', P', e', fo', j1, j2, j3, j4, _⟩, q⟩ => (pw_unlock j1 .returning).mono fun e u' w' ⟨h1, h2, h3⟩ => ⟨h1, h2, ⟨n', X', P', e', fo', h3.out.1, j2, Fw.trans j3 j4 (Fw.locks (w2 := wq) h3.out.2 j1.pS), j4, trivial⟩, hQ wq w' q h3.out.2⟩
set_option maxRecDepth 100000 in
set_option maxHeartbeats 2000000 in
theorem p_getW (k : Pw B0 A w P S 0 D L bf n X M e last forced ln lo) (z : Nat) (hz : z < 6) (hM : M ≤ 1000000) (hbf : 0 < bf) : Calls Tryz.prog 61 #[.pointer (some ⟨S + 1, 0, none⟩), .int .i64 (z : Int)] w fun r w' => ∃ g c, r = .returned (.tuple #[.slice (some ⟨g, 0, none⟩) 112 c, .int .i64 (ln z : Int), .int .i64 0]) ∧ Hid (Ptd B0 A w P S 0 D L bf (M + 1) last forced ln lo w' ∧ From w' (some ⟨g, 0, none⟩) 112 (lo z)) := by
  have HM : Hid (Calls Tryz.prog 89 #[.pointer (some ⟨S + 1, 0, none⟩)] w fun r w' => r = .returned (.bool false) ∧ w' = w) := pw_missing k
  have HL : Hid (Calls Tryz.prog 31 #[.pointer (some ⟨S, 0, none⟩)] w fun r w' => r = .returned (.tuple #[]) ∧ Hid (Pw B0 A w' P S 1 D L bf n X M e last forced ln lo ∧ Part (fun b => b = S) w w')) := pw_lock k
  have c0 := k.cells
  have hSl := k.ps.lt
  have HC : Hid (∀ wq, Pw B0 A wq P S 1 D L bf n X M e last forced ln lo ∧ Part (fun b => b = S) w wq → wq.cell? ⟨S + 1, 0, none⟩ = some (.pointer (some ⟨S, 0, none⟩)) ∧ Hid (Calls Tryz.prog 90 #[.pointer (some ⟨S, 0, none⟩), .int .i64 (z : Int)] wq fun r w' => r = .returned (.bool true) ∧ w' = wq)) := fun wq kq => ⟨kq.1.cells, pw_has kq.1 z hz⟩
  have HB : Hid (∀ wq, Pw B0 A wq P S 1 D L bf n X M e last forced ln lo ∧ Part (fun b => b = S) w wq → Calls Tryz.prog 91 #[.pointer (some ⟨S, 0, none⟩), .int .i64 (z : Int)] wq fun r w' => ∃ b g c, r = .returned (.tuple #[.pointer (some ⟨b, 0, none⟩), .int .i64 0]) ∧ Hid (∀ wq, Below w'.heap.size w' wq → wq.cell? ⟨b, 2, none⟩ = some (.slice (some ⟨g, 0, none⟩) 112 c) ∧ wq.cell? ⟨b, 1, none⟩ = some (.int .i64 (ln z : Int))) ∧ Hid (∀ wq, Below w'.heap.size w' wq → Calls Tryz.prog 23 #[.slice (some ⟨g, 0, none⟩) 112 c] wq fun r w'' => ∃ g c, r = .returned (.slice (some ⟨g, 0, none⟩) 112 c) ∧ Below w'.heap.size w' w'' ∧ Hid (∀ w3, Below w''.heap.size w'' w3 → Ptd B0 A w P S 1 D L bf (M + 1) last forced ln lo w3 ∧ w.heap.size ≤ g ∧ From w3 (some ⟨g, 0, none⟩) 112 (lo z)))) := fun wq ⟨kq, pq⟩ => (s_bringW kq z hz hM hbf (fun wr h0 kr => s_saveG kr 0 h0 hM)).mono fun r w' ⟨b, hr, HE⟩ => by
    obtain ⟨n', X', e1, e2, P', e', fo', j1, j2, j3, j4, _⟩ := HE.out
    have hl := Nat.lt_succ_self n'
    have ho := j1.ld n' hl
    rw [e2] at ho
    obtain ⟨g, c, hv, ho2, _⟩ := own_some ho (by decide)
    have hls := (j1.cl n' hl).2.2.1
    rw [e2] at hls
    have hpq := pq.size
    have p1 : Part (Fw B0 P w) w w' := Fw.trans (P' := P) (Fw.locks (w2 := wq) pq kq.pS) (fun b h => .inl h) j3
    have hP : ∀ b, P' b → P b ∨ w.heap.size ≤ b := fun b hb => (j4 b hb).imp id (fun h => by omega)
    refine ⟨b, g, c, hr, fun wr hb => ?_, fun wr hb => ?_⟩
    · have h := (hb.block _ (Array.getElem?_eq_some_iff.1 (j1.ps.buf n' hl)).1).trans (j1.ps.buf n' hl)
      rw [e1] at h
      exact ⟨by rw [cells_at h 2, ← hv]; rfl, by rw [cells_at h 1, ← hls]; rfl⟩
    · have hf : From wr (some ⟨g, 0, none⟩) 112 (lo z) := From.below (B := w'.heap.size) (.inr ⟨_, rfl, fun j hj => World.ownsRow.cells (g := g) ho2 rfl j (.int .u8 (lo z j)) (by rw [List.getElem?_map, lst_get _ 112 j hj]; rfl)⟩) hb (Nat.le_refl _)
      refine (clone (some ⟨g, 0, none⟩) 112 c (lo z) wr (by decide) hf).mono fun r w'' ⟨v', hr', ho', hb'⟩ => ?_
      obtain ⟨g2, c2, rfl, ho3, hg2, _⟩ := own_some ho' (by decide)
      have hbs := hb.size
      have hps := p1.size
      have b2 : Below w'.heap.size w' w'' := hb.trans (hb'.mono hbs)
      refine ⟨g2, c2, hr', b2, fun w3 hb3 => ⟨?_, by omega, From.below (B := w''.heap.size) (.inr ⟨_, rfl, fun j hj => World.ownsRow.cells (g := g2) ho3 rfl j (.int .u8 (lo z j)) (by rw [List.getElem?_map, lst_get _ 112 j hj]; rfl)⟩) hb3 (Nat.le_refl _)⟩⟩
      have b3 : Below w'.heap.size w' w3 := b2.trans (hb3.mono b2.size)
      exact ⟨n' + 1, X', P', e', fo', j1.below b3, j2, Fw.trans p1 hP (Part.ofBelow b3), hP, trivial⟩
  have HU : Hid (∀ g wq, Ptd B0 A w P S 1 D L bf (M + 1) last forced ln lo wq ∧ w.heap.size ≤ g ∧ From wq (some ⟨g, 0, none⟩) 112 (lo z) → CallsD Tryz.prog 32 #[.pointer (some ⟨S, 0, none⟩)] .returning wq fun e u' w' => u' = .returning ∧ (e = .returned (.tuple #[]) ∧ Hid (Ptd B0 A w P S 0 D L bf (M + 1) last forced ln lo w' ∧ w.heap.size ≤ g ∧ From w' (some ⟨g, 0, none⟩) 112 (lo z)))) := fun g => ptd_unlock (Q := fun wq => w.heap.size ≤ g ∧ From wq (some ⟨g, 0, none⟩) 112 (lo z)) (fun a b ⟨h1, h2⟩ hp => ⟨h1, by
    rcases h2 with h | ⟨y, h, h3⟩
    · exact .inl h
    · refine .inr ⟨y, h, fun j hj => hp.cell (fun e5 => ?_) (h3 j hj)⟩
      injection h with h
      have e5 : (y.add j).block = S := e5
      rw [add_block, ← h] at e5
      have e5 : g = S := e5
      omega⟩)
  have hz' : (z : Int) < 6 := by omega
  have hz0 : (0 : Int) ≤ (z : Int) := by omega
  clear k hM
  go_enter_defers Tryz.func61, Tryz.ntmps61
  go_wp2_with fail
  refine HM.out.mono ?_
  rintro r w1 ⟨rfl, hw⟩
  obtain rfl : w = w1 := hw.symm
  clear hw
  go_wp2_with fail
  refine HL.out.mono ?_
  rintro r w1 ⟨rfl, k1⟩
  obtain ⟨c1, HH⟩ := HC.out _ k1.out
  clear c0 HM HL
  go_wp2_with fail
  refine HH.out.mono ?_
  rintro r w2 ⟨rfl, hw⟩
  obtain rfl : w1 = w2 := hw.symm
  clear hw
  go_wp2_with fail
  refine (HB.out _ k1.out).mono ?_
  rintro r w2 ⟨b, g, c, rfl, HS, HR⟩
  obtain ⟨x1, x2⟩ := HS.out _ (Below.refl _ _)
  have q1 : Below w2.heap.size w2 w2 := Below.refl _ _
  clear HB HC HH c1 k1 hSl
  go_wp2_with fail
  go_region_held3 (fun wq => wq.cell? ⟨b, 2, none⟩ = some (.slice (some ⟨g, 0, none⟩) 112 c) ∧ wq.cell? ⟨b, 1, none⟩ = some (.int .i64 (ln z : Int)))
    (first | exact HS.out _ (by assumption) | exact HS.out _ (blw_drewN 1 (by assumption)) | go_keep)
    (first
      | (go_at_call 23; refine (HR.out _ (by first | exact q1 | exact blw_drewN 1 q1)).mono ?_; rintro e' w3 ⟨g3, c3, rfl, k3, HG⟩))
  go_wp2
  refine leaves_cons (f := 32) (args := #[.pointer (some ⟨S, 0, none⟩)]) (by simp) (by simp [go_sem]) ?_
  refine (HU.out _ _ (HG.out _ (Below.refl _ _))).mono ?_
  rintro e u' w9 ⟨rfl, rfl, HZ⟩
  exact ⟨_, results_tmp3 rfl _ _ _, g3, c3, rfl, HZ.out.1, HZ.out.2.2⟩
end Go.Proofs.YthfokciijcmhbaaGreatDoor
