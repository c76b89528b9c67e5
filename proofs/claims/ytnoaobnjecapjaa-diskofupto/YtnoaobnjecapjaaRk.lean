/-
  The document's disk as it stands in memory (Rk): its durable sectors, and the writes that are pending; contracts of copied.
-/
import Derived.Test.YtnoaobnjecapjaaDkPend
namespace Go.Proofs.Ytnoaobnjecapjaa
open Go.RowKit
set_option linter.unusedVariables false

/-- The cells of m writes: the j-th to sector tf j, of the bytes at (pb j, 0). -/
def sentL (m : Nat) (tf pb pc : Nat → Nat) : List Value := (List.range m).flatMap fun j => [.int .i64 (tf j : Int), .slice (some ⟨pb j, 0, none⟩) 128 (pc j)]
theorem sentL_length (m : Nat) (tf pb pc : Nat → Nat) : (sentL m tf pb pc).length = m * 2 := by
  induction m with
  | zero => rfl
  | succ m ih =>
    unfold sentL at ih ⊢
    rw [List.range_succ, List.flatMap_append, List.length_append, ih]
    simp
    omega
theorem sentL_snoc (m : Nat) (tf pb pc : Nat → Nat) (i b c : Nat) : sentL m tf pb pc ++ [.int .i64 (i : Int), .slice (some ⟨b, 0, none⟩) 128 c] = sentL (m + 1) (fun j => if j = m then i else tf j) (fun j => if j = m then b else pb j) (fun j => if j = m then c else pc j) := by
  unfold sentL
  rw [List.range_succ, List.flatMap_append]
  congr 1
  · rw [List.flatMap_def, List.flatMap_def]
    congr 1
    apply List.map_congr_left
    intro j hj
    have := List.mem_range.1 hj
    have e : j ≠ m := by omega
    simp only [if_neg e]
  · simp
theorem sentL_get (m : Nat) (tf pb pc : Nat → Nat) (j : Nat) (hj : j < m) : (sentL m tf pb pc)[j * 2]? = some (.int .i64 (tf j : Int)) ∧ (sentL m tf pb pc)[j * 2 + 1]? = some (.slice (some ⟨pb j, 0, none⟩) 128 (pc j)) := by
  induction m with
  | zero => omega
  | succ m ih =>
    have e : sentL (m + 1) tf pb pc = sentL m tf pb pc ++ [.int .i64 (tf m : Int), .slice (some ⟨pb m, 0, none⟩) 128 (pc m)] := by
      unfold sentL
      rw [List.range_succ, List.flatMap_append]
      simp
    rw [e]
    have hl := sentL_length m tf pb pc
    by_cases h : j < m
    · rw [List.getElem?_append_left (by omega), List.getElem?_append_left (by omega)]
      exact ih h
    · obtain rfl : j = m := by omega
      rw [List.getElem?_append_right (by omega), List.getElem?_append_right (by omega), hl]
      simp

structure RkAt (w : World) (X gB cB : Nat) (vP : Value) (rb rc pb pc : Nat → Nat) (F : Nat → Prop) (n : Nat) (dur : Nat → Int) (m : Nat) (tf : Nat → Nat) (ld : Nat → Int) : Prop where
  hX : w.heap[X]? = some (.cells #[.slice (some ⟨gB, 0, none⟩) n cB, vP] 58 (0, 0))
  hB : ∃ cur, w.heap[gB]? = some (.cells cur 27 (0, 0))
  rows : Rws w gB n rb (fun _ => 0) rc (fun i => sh dur (i * 128))
  oP : w.ownsRow 0 75 2 vP m (sentL m tf pb pc)
  pf : ∀ j, j < m → From w (some ⟨pb j, 0, none⟩) 128 (sh ld (j * 128))
  FX : F X
  FB : F gB
  FP : ∀ k, vP.ownBlock = some k → F k
  Fr : ∀ i, i < n → F (rb i)
  Fp : ∀ j, j < m → F (pb j)
  rt : ∀ i, i < n → ∃ cur, w.heap[rb i]? = some (.cells cur 5 (0, 0))
  pt : ∀ j, j < m → ∃ cur, w.heap[pb j]? = some (.cells cur 5 (0, 0))
  lt : ∀ k, F k → k < w.heap.size
  tn : ∀ j, j < m → tf j < n
  by1 : ∀ i, 0 ≤ dur i ∧ dur i ≤ 255
  by2 : ∀ i, 0 ≤ ld i ∧ ld i ≤ 255
  n1 : 1 ≤ n
  n2 : n ≤ 4096
/-- A disk of the document's of n sectors at X, whose blocks are F's: the durable bytes dur, m writes pending: the j-th to sector tf j, of the bytes of ld from j * 128 on. -/
def Rk (w : World) (X : Nat) (F : Nat → Prop) (n : Nat) (dur : Nat → Int) (m : Nat) (tf : Nat → Nat) (ld : Nat → Int) : Prop := ∃ gB cB vP rb rc pb pc, RkAt w X gB cB vP rb rc pb pc F n dur m tf ld

theorem RkAt.part {w w' : World} {X gB cB : Nat} {vP : Value} {rb rc pb pc : Nat → Nat} {F G : Nat → Prop} {n : Nat} {dur : Nat → Int} {m : Nat} {tf : Nat → Nat} {ld : Nat → Int} (h : RkAt w X gB cB vP rb rc pb pc F n dur m tf ld) (hp : Part G w w') (hn : ∀ k, F k → ¬ G k) : RkAt w' X gB cB vP rb rc pb pc F n dur m tf ld :=
  have bl : ∀ k, F k → w'.heap[k]? = w.heap[k]? := fun k hk => hp.block k (h.lt k hk) (hn k hk)
  { h with
    hX := by rw [bl _ h.FX]; exact h.hX
    hB := by rw [bl _ h.FB]; exact h.hB
    rows := h.rows.part hp (hn _ h.FB) (h.lt _ h.FB) (fun i hi => hn _ (h.Fr i hi))
    oP := hp.row h.oP (fun k hk => hn _ (h.FP k hk))
    pf := fun j hj => hp.from (h.pf j hj) (hn _ (h.Fp j hj))
    rt := fun i hi => by rw [bl _ (h.Fr i hi)]; exact h.rt i hi
    pt := fun j hj => by rw [bl _ (h.Fp j hj)]; exact h.pt j hj
    lt := fun k hk => Nat.lt_of_lt_of_le (h.lt k hk) hp.size }
theorem Rk.part {w w' : World} {X : Nat} {F G : Nat → Prop} {n : Nat} {dur : Nat → Int} {m : Nat} {tf : Nat → Nat} {ld : Nat → Int} (h : Rk w X F n dur m tf ld) (hp : Part G w w') (hn : ∀ k, F k → ¬ G k) : Rk w' X F n dur m tf ld := by
  obtain ⟨gB, cB, vP, rb, rc, pb, pc, h⟩ := h
  exact ⟨gB, cB, vP, rb, rc, pb, pc, h.part hp hn⟩
theorem Rk.below {w w' : World} {X : Nat} {F : Nat → Prop} {n : Nat} {dur : Nat → Int} {m : Nat} {tf : Nat → Nat} {ld : Nat → Int} (h : Rk w X F n dur m tf ld) (hb : Below w.heap.size w w') : Rk w' X F n dur m tf ld := h.part (Part.ofBelow (F := fun _ => False) hb) (fun _ _ h => h)
theorem RkAt.heap {w w' : World} {X gB cB : Nat} {vP : Value} {rb rc pb pc : Nat → Nat} {F : Nat → Prop} {n : Nat} {dur : Nat → Int} {m : Nat} {tf : Nat → Nat} {ld : Nat → Int} (h : RkAt w X gB cB vP rb rc pb pc F n dur m tf ld) (hh : w'.heap = w.heap) (h1 : w'.os = w.os) (h2 : w'.tape = w.tape) (h3 : w'.output = w.output) : RkAt w' X gB cB vP rb rc pb pc F n dur m tf ld :=
  h.part (G := fun _ => False) ((Part.refl _ w).heap hh h1 h2 h3) (fun _ _ h => h)
theorem Rk.grow {w : World} {X : Nat} {F G : Nat → Prop} {n : Nat} {dur : Nat → Int} {m : Nat} {tf : Nat → Nat} {ld : Nat → Int} (h : Rk w X F n dur m tf ld) (h1 : ∀ k, F k → G k) (h2 : ∀ k, G k → k < w.heap.size) : Rk w X G n dur m tf ld := by
  obtain ⟨gB, cB, vP, rb, rc, pb, pc, h⟩ := h
  exact ⟨gB, cB, vP, rb, rc, pb, pc, { h with FX := h1 _ h.FX, FB := h1 _ h.FB, FP := fun k hk => h1 _ (h.FP k hk), Fr := fun i hi => h1 _ (h.Fr i hi), Fp := fun j hj => h1 _ (h.Fp j hj), lt := h2 }⟩
/-- The blocks of the struct, of the sectors' list, of the pending writes are apart, and none is a sector's. -/
structure RSep (X gB : Nat) (vP : Value) (rb pb : Nat → Nat) (n m : Nat) : Prop where
  XB : X ≠ gB
  P : ∀ k, vP.ownBlock = some k → k ≠ X ∧ k ≠ gB ∧ (∀ i, i < n → rb i ≠ k) ∧ (∀ j, j < m → pb j ≠ k)
  r : ∀ i, i < n → rb i ≠ X ∧ rb i ≠ gB
  p : ∀ j, j < m → pb j ≠ X ∧ pb j ≠ gB
theorem RkAt.sep {w : World} {X gB cB : Nat} {vP : Value} {rb rc pb pc : Nat → Nat} {F : Nat → Prop} {n : Nat} {dur : Nat → Int} {m : Nat} {tf : Nat → Nat} {ld : Nat → Int} (h : RkAt w X gB cB vP rb rc pb pc F n dur m tf ld) : RSep X gB vP rb pb n m := by
  obtain ⟨cB', hB⟩ := h.hB
  refine ⟨two_types h.hX hB (by decide), fun k hk => ?_, fun i hi => ?_, fun j hj => ?_⟩
  · obtain ⟨c3, k3⟩ := row_block h.oP hk
    refine ⟨(two_types h.hX k3 (by decide)).symm, (two_types hB k3 (by decide)).symm, fun i hi => ?_, fun j hj => ?_⟩
    · obtain ⟨c4, k4⟩ := h.rt i hi
      exact two_types k4 k3 (by decide)
    · obtain ⟨c4, k4⟩ := h.pt j hj
      exact two_types k4 k3 (by decide)
  · obtain ⟨c4, k4⟩ := h.rt i hi
    exact ⟨two_types k4 h.hX (by decide), two_types k4 hB (by decide)⟩
  · obtain ⟨c4, k4⟩ := h.pt j hj
    exact ⟨two_types k4 h.hX (by decide), two_types k4 hB (by decide)⟩

set_option maxHeartbeats 400000 in
theorem copiedR (a0 : Option Addr) (n c : Nat) (f : Nat → Int) (w : World) (hbig : n ≤ 140737488355328) (hf : From w a0 n f) (hc0 : a0 = none → c = 0) :
    Calls Try.prog 36 #[.slice a0 n c] w fun e w' => ∃ v', e = .returned v' ∧ Own w' w.heap.size v' (lst f n) ∧ Below w.heap.size w w' := by
  have hm : Own (w.alloc (.cells #[] 5)) w.heap.size (.slice (some ⟨w.heap.size, 0, none⟩) 0 0) [] := World.ownsRow_made w #[] 0 (Nat.le_refl _) (Nat.zero_le _) rfl
  have hf2 := hf.alloc (.cells #[] 5)
  have HF : Hid (From (w.alloc (.cells #[] 5)) a0 n f) := hf2
  clear hf2
  go_enter Try.func36, Try.ntmps36
  go_wp2_with (at_builtin; refine wpList_app rfl _ _ rfl w.heap.size _ [] rfl hm a0 n c f rfl HF.out hc0 ?q2 ?q3 ?_)
  case q2 => simp; omega
  case q3 => simp
  intro v' w' ho hb
  go_wp2
  go_ret
  exact ⟨v', rfl, ho, ((Below.refl _ w).alloc (Nat.le_refl _) _).trans hb⟩
end Go.Proofs.Ytnoaobnjecapjaa
