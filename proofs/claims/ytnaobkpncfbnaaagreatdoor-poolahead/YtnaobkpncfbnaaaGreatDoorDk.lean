/-
  A disk as it stands in memory (Dk): its durable bytes, and the writes that are pending; what stays where other blocks change (Part).
-/
import Derived.Test.YtnaobkpncfbnaaaGreatDoorGa
import Derived.Deep.OwnRows
namespace Go.Proofs.YtnaobkpncfbnaaaGreatDoor
open Go.RowKit
set_option linter.unusedVariables false

theorem info3 : (Tryz.prog.info? 3).map (fun i => (i.zero, i.size, i.bytes)) = some (some (.int .i64 0), 1, 8) := by kernel_rfl

/-- Of the blocks that are there only F's may change. -/
structure Part (F : Nat → Prop) (w w' : World) : Prop where
  os : w'.os = w.os
  tape : w'.tape = w.tape
  output : w'.output = w.output
  size : w.heap.size ≤ w'.heap.size
  block : ∀ k, k < w.heap.size → ¬ F k → w'.heap[k]? = w.heap[k]?
theorem Part.refl (F : Nat → Prop) (w : World) : Part F w w := ⟨rfl, rfl, rfl, Nat.le_refl _, fun _ _ _ => rfl⟩
theorem Part.trans {F G : Nat → Prop} {a b c : World} (h : Part F a b) (k : Part G b c) (hG : ∀ i, i < a.heap.size → G i → F i) : Part F a c :=
  ⟨k.os.trans h.os, k.tape.trans h.tape, k.output.trans h.output, Nat.le_trans h.size k.size, fun i hi hn => (k.block i (Nat.lt_of_lt_of_le hi h.size) (fun g => hn (hG i hi g))).trans (h.block i hi hn)⟩
theorem Part.mono {F G : Nat → Prop} {a b : World} (h : Part F a b) (hG : ∀ i, i < a.heap.size → F i → G i) : Part G a b :=
  ⟨h.os, h.tape, h.output, h.size, fun i hi hn => h.block i hi (fun g => hn (hG i hi g))⟩
theorem Part.ofBelow {F : Nat → Prop} {w w' : World} (h : Below w.heap.size w w') : Part F w w' := ⟨h.os, h.tape, h.output, h.size, fun k hk _ => h.block k hk⟩
theorem Part.below {F : Nat → Prop} {B : Nat} {w w' : World} (h : Part F w w') (hF : ∀ k, F k → B ≤ k) (hB : B ≤ w.heap.size) : Below B w w' :=
  ⟨h.os, h.tape, h.output, h.size, fun k hk => h.block k (by omega) (fun f => by have := hF k f; omega)⟩
theorem Part.alloc {F : Nat → Prop} {a w : World} (h : Part F a w) (o : Obj) : Part F a (w.alloc o) :=
  h.trans (Part.ofBelow (F := fun _ => False) ((Below.refl _ w).alloc (Nat.le_refl _) o)) (fun _ _ h => h.elim)
theorem Part.drewN {F : Nat → Prop} {a w : World} (h : Part F a w) (q : Nat) : Part F a (w.drewN q) := ⟨h.os, h.tape, h.output, h.size, h.block⟩
theorem Part.setCell {F : Nat → Prop} {a w : World} (h : Part F a w) {p : Addr} (hp : p.block < a.heap.size → F p.block) (u : Value) : Part F a (w.setCell p u) :=
  h.trans (G := fun k => k = p.block) ⟨rfl, rfl, rfl, by simp [World.setCell], fun k hk hn => Below.heap_setCell _ _ _ _ hn⟩ (fun i hi e => by rw [e] at hi ⊢; exact hp hi)
theorem Part.grown {F : Nat → Prop} {a w w' : World} {row : Option Nat} (h : Part F a w) (hg : w.grownBy w' row) (hr : ∀ k, row = some k → k < a.heap.size → F k) : Part F a w' :=
  h.trans (G := fun k => row = some k) ⟨hg.os, hg.tape, hg.output, hg.size, fun k hk hn => hg.block k hk (fun e => hn e.symm)⟩ (fun i hi e => hr i e hi)
theorem Part.cell {F : Nat → Prop} {w w' : World} (h : Part F w w') {p : Addr} {v : Value} (hp : ¬ F p.block) (hc : w.cell? p = some v) : w'.cell? p = some v := by
  rw [World.cell?_of_block (w := w) (h.block p.block (World.block_lt_of_cell? w _ hc) hp)]; exact hc
theorem Part.row {F : Nat → Prop} {w w' : World} {B : Nat} {e : TypeId} {sz : Nat} {v : Value} {n : Nat} {xs : List Value} (h : Part F w w') (ho : w.ownsRow B e sz v n xs) (hn : ∀ k, v.ownBlock = some k → ¬ F k) : w'.ownsRow B e sz v n xs := by
  have hlt := World.ownsRow.lt ho
  refine ⟨ho.1, ?_⟩
  rcases ho.2 with h2 | ⟨g, cap, cur, h1, h2, h3, h4⟩
  · exact .inl h2
  · subst h1
    exact .inr ⟨g, cap, cur, rfl, h2, by rw [h.block g (hlt g rfl).2 (hn g rfl)]; exact h3, h4⟩
theorem Part.from {F : Nat → Prop} {w w' : World} {g off n : Nat} {f : Nat → Int} (h : Part F w w') (hf : From w (some ⟨g, off, none⟩) n f) (hn : ¬ F g) : From w' (some ⟨g, off, none⟩) n f := by
  rcases hf with ⟨h1, _⟩ | ⟨x, h1, h2⟩
  · cases h1
  · cases h1
    exact .inr ⟨_, rfl, fun i hi => h.cell (p := (⟨g, off, none⟩ : Addr).add i) (by rw [Addr.add_lit]; exact hn) (h2 i hi)⟩

/-- The slice's numbers are xs, in memory from block B on. -/
def OwnI (w : World) (B : Nat) (v : Value) (xs : List Int) : Prop := w.ownsRow B 3 1 v xs.length (xs.map (Value.int .i64))
theorem lst_snoc (f : Nat → Int) (m : Nat) (x : Int) : lst f m ++ [x] = lst (fun j => if j = m then x else f j) (m + 1) := by
  unfold lst
  rw [List.range_succ, List.map_append]
  congr 1
  · apply List.map_congr_left
    intro i hi
    have := List.mem_range.1 hi
    rw [if_neg (by omega)]
  · simp
theorem OwnI.one {B : Nat} {v' : Value} {xs : List Int} {x : Int} {w' : World} (h : w'.ownsRow B 3 1 v' (xs.length + 1) (xs.map (Value.int .i64) ++ [.int .i64 x])) : OwnI w' B v' (xs ++ [x]) := by
  unfold OwnI
  rw [List.length_append, List.map_append]
  exact h
theorem OwnI.cellF {w : World} {B g n cap : Nat} {F : Nat → Int} (h : OwnI w B (.slice (some ⟨g, 0, none⟩) n cap) (lst F n)) (j : Nat) (hj : j < n) : w.cell? ⟨g, j, none⟩ = some (.int .i64 (F j)) := by
  unfold OwnI at h
  rw [lst_length] at h
  rw [h.cellAt j (by omega), List.getElem?_map, lst_get F n j hj]; rfl
theorem OwnI.freeF {w : World} {B g n cap : Nat} {F : Nat → Int} (h : OwnI w B (.slice (some ⟨g, 0, none⟩) n cap) (lst F n)) (j : Nat) : w.frozen? ⟨g, j, none⟩ = false := by
  unfold OwnI at h
  rw [lst_length] at h
  exact h.frozenAt j
theorem OwnI.set {w : World} {B g n cap : Nat} {F : Nat → Int} (h : OwnI w B (.slice (some ⟨g, 0, none⟩) n cap) (lst F n)) (j : Nat) (hj : j < n) (x : Int) :
    OwnI (w.setCell ⟨g, j, none⟩ (.int .i64 x)) B (.slice (some ⟨g, 0, none⟩) n cap) (lst (fun i => if i = j then x else F i) n) := by
  unfold OwnI at h ⊢
  rw [lst_length] at h ⊢
  refine ⟨by simp [lst_length], .inr ?_⟩
  rcases h.2 with ⟨h1, _⟩ | ⟨g', cap', cur, h1, h2, h3, h4, h5, h6, h7⟩
  · cases h1
  · cases h1
    refine ⟨g, cap, _, rfl, h2, heap_setCell_same w g j cur 3 _ h3, h4, h5, by simpa using h6, ?_⟩
    apply List.ext_getElem?
    intro i
    have h8 := congrArg (fun l : List Value => l[i]?) h7
    simp only [Nat.mul_one, List.getElem?_take, List.getElem?_map] at h8 ⊢
    by_cases hi : i < n
    · rw [if_pos hi] at h8 ⊢
      rw [lst_get _ n i hi] at h8 ⊢
      by_cases e : i = j
      · subst e
        have hc : i < cur.size := by rw [h6]; omega
        simp [hc]
      · simp [Ne.symm e, e] at h8 ⊢
        exact h8
    · rw [if_neg hi, List.getElem?_eq_none (by rw [lst_length]; omega)]
      rfl
theorem OwnI.ext {w : World} {B : Nat} {v : Value} {n : Nat} {F G : Nat → Int} (h : OwnI w B v (lst F n)) (e : ∀ i, i < n → F i = G i) : OwnI w B v (lst G n) := lst_ext e ▸ h

/-- Of sector i the place and 1 of the last of the first m writes that is to it; 0: none. -/
def lastAt (tf : Nat → Nat) : Nat → Nat → Int
  | 0, _ => 0
  | m + 1, i => if tf m = i then ((m + 1 : Nat) : Int) else lastAt tf m i
theorem lastAt_ext {tf tg : Nat → Nat} : ∀ {m : Nat} (_ : ∀ j, j < m → tf j = tg j) (i : Nat), lastAt tf m i = lastAt tg m i
  | 0, _, _ => rfl
  | m + 1, h, i => by rw [lastAt, lastAt, h m (by omega), lastAt_ext (fun j hj => h j (by omega)) i]

/-- The first n bytes of block g are f's; a slice of them, of room c (the block may have more). -/
def OwnC (w : World) (g n c : Nat) (f : Nat → Int) : Prop := n ≤ c ∧ c ≤ 9223372036854775807 ∧ ∃ C, Own w 0 (.slice (some ⟨g, 0, none⟩) n C) (lst f n)
theorem OwnC.map {w w' : World} {g n c : Nat} {f f' : Nat → Int} (h : OwnC w g n c f) (k : ∀ C, Own w 0 (.slice (some ⟨g, 0, none⟩) n C) (lst f n) → Own w' 0 (.slice (some ⟨g, 0, none⟩) n C) (lst f' n)) : OwnC w' g n c f' := ⟨h.1, h.2.1, h.2.2.imp k⟩
theorem OwnC.cellF {w : World} {g n c : Nat} {f : Nat → Int} (h : OwnC w g n c f) (j : Nat) (hj : j < n) : w.cell? ⟨g, j, none⟩ = some (.int .u8 (f j)) := by
  obtain ⟨_, _, C, ho⟩ := h
  exact Own.cellF ho j hj

structure DkAt (w : World) (D S Bd Bl cD cL : Nat) (vT vL : Value) (F : Nat → Prop) (n : Nat) (dur : Nat → Int) (m : Nat) (tf : Nat → Nat) (ld : Nat → Int) : Prop where
  hD : w.heap[D]? = some (.cells #[.pointer (some ⟨S, 0, none⟩)] 105 (0, 0))
  hS : w.heap[S]? = some (.cells #[.slice (some ⟨Bd, 0, none⟩) (n * 128) cD, .slice (some ⟨Bl, 0, none⟩) n cL, vT, vL] 109 (0, 0))
  ob : OwnC w Bd (n * 128) cD dur
  ol : OwnI w 0 (.slice (some ⟨Bl, 0, none⟩) n cL) (lst (lastAt tf m) n)
  ot : OwnI w 0 vT (lst (fun j => (tf j : Int)) m)
  oo : Own w 0 vL (lst ld (m * 128))
  nT : vT.ownBlock ≠ some Bl
  nL : vL.ownBlock ≠ some Bd
  FD : F D
  FS : F S
  FBd : F Bd
  FBl : F Bl
  FT : ∀ k, vT.ownBlock = some k → F k
  FL : ∀ k, vL.ownBlock = some k → F k
  lt : ∀ k, F k → k < w.heap.size
  tn : ∀ j, j < m → tf j < n
  by1 : ∀ i, 0 ≤ dur i ∧ dur i ≤ 255
  by2 : ∀ i, 0 ≤ ld i ∧ ld i ≤ 255
  n1 : 1 ≤ n
  n2 : n ≤ 4096
/-- A disk of n sectors at D, whose blocks are F's: the durable bytes dur, m writes pending: the j-th to sector tf j, of the bytes of ld from j * 128 on. -/
def Dk (w : World) (D : Nat) (F : Nat → Prop) (n : Nat) (dur : Nat → Int) (m : Nat) (tf : Nat → Nat) (ld : Nat → Int) : Prop := ∃ S Bd Bl cD cL vT vL, DkAt w D S Bd Bl cD cL vT vL F n dur m tf ld

theorem DkAt.part {w w' : World} {D S Bd Bl cD cL : Nat} {vT vL : Value} {F G : Nat → Prop} {n : Nat} {dur : Nat → Int} {m : Nat} {tf : Nat → Nat} {ld : Nat → Int} (h : DkAt w D S Bd Bl cD cL vT vL F n dur m tf ld) (hp : Part G w w') (hn : ∀ k, F k → ¬ G k) : DkAt w' D S Bd Bl cD cL vT vL F n dur m tf ld :=
  { h with
    hD := by rw [hp.block D (h.lt _ h.FD) (hn _ h.FD)]; exact h.hD
    hS := by rw [hp.block S (h.lt _ h.FS) (hn _ h.FS)]; exact h.hS
    ob := h.ob.map fun C ho => hp.row ho (fun k hk => hn _ (by cases hk; exact h.FBd))
    ol := hp.row h.ol (fun k hk => hn _ (by cases hk; exact h.FBl))
    ot := hp.row h.ot (fun k hk => hn _ (h.FT k hk))
    oo := hp.row h.oo (fun k hk => hn _ (h.FL k hk))
    lt := fun k hk => Nat.lt_of_lt_of_le (h.lt k hk) hp.size }
theorem Dk.part {w w' : World} {D : Nat} {F G : Nat → Prop} {n : Nat} {dur : Nat → Int} {m : Nat} {tf : Nat → Nat} {ld : Nat → Int} (h : Dk w D F n dur m tf ld) (hp : Part G w w') (hn : ∀ k, F k → ¬ G k) : Dk w' D F n dur m tf ld := by
  obtain ⟨S, Bd, Bl, cD, cL, vT, vL, h⟩ := h
  exact ⟨S, Bd, Bl, cD, cL, vT, vL, h.part hp hn⟩
theorem Dk.below {w w' : World} {D : Nat} {F : Nat → Prop} {n : Nat} {dur : Nat → Int} {m : Nat} {tf : Nat → Nat} {ld : Nat → Int} (h : Dk w D F n dur m tf ld) (hb : Below w.heap.size w w') : Dk w' D F n dur m tf ld := h.part (Part.ofBelow (F := fun _ => False) hb) (fun _ _ h => h)
/-- The same disk, its bytes told otherwise. -/
theorem DkAt.ext {w : World} {D S Bd Bl cD cL : Nat} {vT vL : Value} {F : Nat → Prop} {n : Nat} {dur dur' : Nat → Int} {m : Nat} {tf tf' : Nat → Nat} {ld ld' : Nat → Int} (h : DkAt w D S Bd Bl cD cL vT vL F n dur m tf ld)
    (e1 : ∀ i, i < n * 128 → dur i = dur' i) (e2 : ∀ j, j < m → tf j = tf' j) (e3 : ∀ i, i < m * 128 → ld i = ld' i) (b1 : ∀ i, 0 ≤ dur' i ∧ dur' i ≤ 255) (b2 : ∀ i, 0 ≤ ld' i ∧ ld' i ≤ 255) : DkAt w D S Bd Bl cD cL vT vL F n dur' m tf' ld' :=
  { h with
    ob := h.ob.map fun C ho => ho.ext e1
    ol := h.ol.ext (fun i hi => lastAt_ext e2 i)
    ot := h.ot.ext (fun j hj => by rw [e2 j hj])
    oo := h.oo.ext e3
    tn := fun j hj => by rw [← e2 j hj]; exact h.tn j hj
    by1 := b1
    by2 := b2 }

theorem cells_at {w : World} {g : Nat} {cs : Array Value} {t : TypeId} (h : w.heap[g]? = some (.cells cs t (0, 0))) (i : Nat) : w.cell? ⟨g, i, none⟩ = cs[i]? := by
  simp [World.cell?, h]
theorem cells_free {w : World} {g : Nat} {cs : Array Value} {t : TypeId} (h : w.heap[g]? = some (.cells cs t (0, 0))) (i : Nat) : w.frozen? ⟨g, i, none⟩ = false := by
  simp [World.frozen?, h]
end Go.Proofs.YtnaobkpncfbnaaaGreatDoor
