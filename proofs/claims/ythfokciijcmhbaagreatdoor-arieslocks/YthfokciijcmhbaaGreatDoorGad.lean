/-
  A disk as it stands in memory (Dk): its durable bytes, and the writes that are pending; what stays where other blocks change (Part).
  Contracts of a disk's calls over Dk: New, missing, has, cut, Sectors, Write. Conditions: at most 2^46 bytes are pending.
  Contract of a disk's Write over Dk. Condition: at most 2^46 bytes are pending.
-/
import Derived.Test.YthfokciijcmhbaaGreatDoorGab
import Derived.Deep.OwnRows
import Derived.Maps.AppendAt
import Derived.Deep.RegionLaw
namespace Go.Proofs.YthfokciijcmhbaaGreatDoor
open Go.RowKit
set_option linter.unusedVariables false

theorem info3 : (Tryz.prog.info? 3).map (fun i => (i.zero, i.size, i.bytes)) = some (some (.int .i64 0), 1, 8) := by kernel_rfl

/-- Of the blocks that are there only F's may change. -/
structure Part (F : Nat → Prop) (w w' : World) : Prop where
  os : w'.os = w.os
  tape : w'.tape = w.tape
  output : w'.output = w.output
  size : w.heap.size ≤ w'.heap.size
  block : ∀ k, k < w.heap.size → ¬ F k → w'.heap[k]? = w.heap[k]?
theorem Part.refl (F : Nat → Prop) (w : World) : Part F w w := ⟨rfl, rfl, rfl, Nat.le_refl _, fun _ _ _ => rfl⟩
theorem Part.trans {F G : Nat → Prop} {a b c : World} (h : Part F a b) (k : Part G b c) (hG : ∀ i, i < a.heap.size → G i → F i) : Part F a c :=
  ⟨k.os.trans h.os, k.tape.trans h.tape, k.output.trans h.output, Nat.le_trans h.size k.size, fun i hi hn => (k.block i (Nat.lt_of_lt_of_le hi h.size) (fun g => hn (hG i hi g))).trans (h.block i hi hn)⟩
theorem Part.mono {F G : Nat → Prop} {a b : World} (h : Part F a b) (hG : ∀ i, i < a.heap.size → F i → G i) : Part G a b :=
  ⟨h.os, h.tape, h.output, h.size, fun i hi hn => h.block i hi (fun g => hn (hG i hi g))⟩
theorem Part.ofBelow {F : Nat → Prop} {w w' : World} (h : Below w.heap.size w w') : Part F w w' := ⟨h.os, h.tape, h.output, h.size, fun k hk _ => h.block k hk⟩
theorem Part.below {F : Nat → Prop} {B : Nat} {w w' : World} (h : Part F w w') (hF : ∀ k, F k → B ≤ k) (hB : B ≤ w.heap.size) : Below B w w' :=
  ⟨h.os, h.tape, h.output, h.size, fun k hk => h.block k (by omega) (fun f => by have := hF k f; omega)⟩
theorem Part.alloc {F : Nat → Prop} {a w : World} (h : Part F a w) (o : Obj) : Part F a (w.alloc o) :=
  h.trans (Part.ofBelow (F := fun _ => False) ((Below.refl _ w).alloc (Nat.le_refl _) o)) (fun _ _ h => h.elim)
theorem Part.drewN {F : Nat → Prop} {a w : World} (h : Part F a w) (q : Nat) : Part F a (w.drewN q) := ⟨h.os, h.tape, h.output, h.size, h.block⟩
theorem Part.setCell {F : Nat → Prop} {a w : World} (h : Part F a w) {p : Addr} (hp : p.block < a.heap.size → F p.block) (u : Value) : Part F a (w.setCell p u) :=
  h.trans (G := fun k => k = p.block) ⟨rfl, rfl, rfl, by simp [World.setCell], fun k hk hn => Below.heap_setCell _ _ _ _ hn⟩ (fun i hi e => by rw [e] at hi ⊢; exact hp hi)
theorem Part.grown {F : Nat → Prop} {a w w' : World} {row : Option Nat} (h : Part F a w) (hg : w.grownBy w' row) (hr : ∀ k, row = some k → k < a.heap.size → F k) : Part F a w' :=
  h.trans (G := fun k => row = some k) ⟨hg.os, hg.tape, hg.output, hg.size, fun k hk hn => hg.block k hk (fun e => hn e.symm)⟩ (fun i hi e => hr i e hi)
theorem Part.cell {F : Nat → Prop} {w w' : World} (h : Part F w w') {p : Addr} {v : Value} (hp : ¬ F p.block) (hc : w.cell? p = some v) : w'.cell? p = some v := by
  rw [World.cell?_of_block (w := w) (h.block p.block (World.block_lt_of_cell? w _ hc) hp)]; exact hc
theorem Part.row {F : Nat → Prop} {w w' : World} {B : Nat} {e : TypeId} {sz : Nat} {v : Value} {n : Nat} {xs : List Value} (h : Part F w w') (ho : w.ownsRow B e sz v n xs) (hn : ∀ k, v.ownBlock = some k → ¬ F k) : w'.ownsRow B e sz v n xs := by
  have hlt := World.ownsRow.lt ho
  refine ⟨ho.1, ?_⟩
  rcases ho.2 with h2 | ⟨g, cap, cur, h1, h2, h3, h4⟩
  · exact .inl h2
  · subst h1
    exact .inr ⟨g, cap, cur, rfl, h2, by rw [h.block g (hlt g rfl).2 (hn g rfl)]; exact h3, h4⟩
theorem Part.from {F : Nat → Prop} {w w' : World} {g off n : Nat} {f : Nat → Int} (h : Part F w w') (hf : From w (some ⟨g, off, none⟩) n f) (hn : ¬ F g) : From w' (some ⟨g, off, none⟩) n f := by
  rcases hf with ⟨h1, _⟩ | ⟨x, h1, h2⟩
  · cases h1
  · cases h1
    exact .inr ⟨_, rfl, fun i hi => h.cell (p := (⟨g, off, none⟩ : Addr).add i) (by rw [Addr.add_lit]; exact hn) (h2 i hi)⟩

/-- The slice's numbers are xs, in memory from block B on. -/
def OwnI (w : World) (B : Nat) (v : Value) (xs : List Int) : Prop := w.ownsRow B 3 1 v xs.length (xs.map (Value.int .i64))
theorem lst_snoc (f : Nat → Int) (m : Nat) (x : Int) : lst f m ++ [x] = lst (fun j => if j = m then x else f j) (m + 1) := by
  unfold lst
  rw [List.range_succ, List.map_append]
  congr 1
  · apply List.map_congr_left
    intro i hi
    have := List.mem_range.1 hi
    rw [if_neg (by omega)]
  · simp
theorem OwnI.one {B : Nat} {v' : Value} {xs : List Int} {x : Int} {w' : World} (h : w'.ownsRow B 3 1 v' (xs.length + 1) (xs.map (Value.int .i64) ++ [.int .i64 x])) : OwnI w' B v' (xs ++ [x]) := by
  unfold OwnI
  rw [List.length_append, List.map_append]
  exact h
theorem OwnI.cellF {w : World} {B g n cap : Nat} {F : Nat → Int} (h : OwnI w B (.slice (some ⟨g, 0, none⟩) n cap) (lst F n)) (j : Nat) (hj : j < n) : w.cell? ⟨g, j, none⟩ = some (.int .i64 (F j)) := by
  unfold OwnI at h
  rw [lst_length] at h
  rw [h.cellAt j (by omega), List.getElem?_map, lst_get F n j hj]; rfl
theorem OwnI.freeF {w : World} {B g n cap : Nat} {F : Nat → Int} (h : OwnI w B (.slice (some ⟨g, 0, none⟩) n cap) (lst F n)) (j : Nat) : w.frozen? ⟨g, j, none⟩ = false := by
  unfold OwnI at h
  rw [lst_length] at h
  exact h.frozenAt j
theorem OwnI.set {w : World} {B g n cap : Nat} {F : Nat → Int} (h : OwnI w B (.slice (some ⟨g, 0, none⟩) n cap) (lst F n)) (j : Nat) (hj : j < n) (x : Int) :
    OwnI (w.setCell ⟨g, j, none⟩ (.int .i64 x)) B (.slice (some ⟨g, 0, none⟩) n cap) (lst (fun i => if i = j then x else F i) n) := by
  unfold OwnI at h ⊢
  rw [lst_length] at h ⊢
  refine ⟨by simp [lst_length], .inr ?_⟩
  rcases h.2 with ⟨h1, _⟩ | ⟨g', cap', cur, h1, h2, h3, h4, h5, h6, h7⟩
  · cases h1
  · cases h1
    refine ⟨g, cap, _, rfl, h2, heap_setCell_same w g j cur 3 _ h3, h4, h5, by simpa using h6, ?_⟩
    apply List.ext_getElem?
    intro i
    have h8 := congrArg (fun l : List Value => l[i]?) h7
    simp only [Nat.mul_one, List.getElem?_take, List.getElem?_map] at h8 ⊢
    by_cases hi : i < n
    · rw [if_pos hi] at h8 ⊢
      rw [lst_get _ n i hi] at h8 ⊢
      by_cases e : i = j
      · subst e
        have hc : i < cur.size := by rw [h6]; omega
        simp [hc]
      · simp [Ne.symm e, e] at h8 ⊢
        exact h8
    · rw [if_neg hi, List.getElem?_eq_none (by rw [lst_length]; omega)]
      rfl
theorem OwnI.ext {w : World} {B : Nat} {v : Value} {n : Nat} {F G : Nat → Int} (h : OwnI w B v (lst F n)) (e : ∀ i, i < n → F i = G i) : OwnI w B v (lst G n) := lst_ext e ▸ h

/-- Of sector i the place and 1 of the last of the first m writes that is to it; 0: none. -/
def lastAt (tf : Nat → Nat) : Nat → Nat → Int
  | 0, _ => 0
  | m + 1, i => if tf m = i then ((m + 1 : Nat) : Int) else lastAt tf m i
theorem lastAt_ext {tf tg : Nat → Nat} : ∀ {m : Nat} (_ : ∀ j, j < m → tf j = tg j) (i : Nat), lastAt tf m i = lastAt tg m i
  | 0, _, _ => rfl
  | m + 1, h, i => by rw [lastAt, lastAt, h m (by omega), lastAt_ext (fun j hj => h j (by omega)) i]

/-- The first n bytes of block g are f's; a slice of them, of room c (the block may have more). -/
def OwnC (w : World) (g n c : Nat) (f : Nat → Int) : Prop := n ≤ c ∧ c ≤ 9223372036854775807 ∧ ∃ C, Own w 0 (.slice (some ⟨g, 0, none⟩) n C) (lst f n)
theorem OwnC.map {w w' : World} {g n c : Nat} {f f' : Nat → Int} (h : OwnC w g n c f) (k : ∀ C, Own w 0 (.slice (some ⟨g, 0, none⟩) n C) (lst f n) → Own w' 0 (.slice (some ⟨g, 0, none⟩) n C) (lst f' n)) : OwnC w' g n c f' := ⟨h.1, h.2.1, h.2.2.imp k⟩
theorem OwnC.cellF {w : World} {g n c : Nat} {f : Nat → Int} (h : OwnC w g n c f) (j : Nat) (hj : j < n) : w.cell? ⟨g, j, none⟩ = some (.int .u8 (f j)) := by
  obtain ⟨_, _, C, ho⟩ := h
  exact Own.cellF ho j hj

structure DkAt (w : World) (D S Bd Bl cD cL : Nat) (vT vL : Value) (F : Nat → Prop) (n : Nat) (dur : Nat → Int) (m : Nat) (tf : Nat → Nat) (ld : Nat → Int) : Prop where
  hD : w.heap[D]? = some (.cells #[.pointer (some ⟨S, 0, none⟩)] 64 (0, 0))
  hS : w.heap[S]? = some (.cells #[.slice (some ⟨Bd, 0, none⟩) (n * 128) cD, .slice (some ⟨Bl, 0, none⟩) n cL, vT, vL] 68 (0, 0))
  ob : OwnC w Bd (n * 128) cD dur
  ol : OwnI w 0 (.slice (some ⟨Bl, 0, none⟩) n cL) (lst (lastAt tf m) n)
  ot : OwnI w 0 vT (lst (fun j => (tf j : Int)) m)
  oo : Own w 0 vL (lst ld (m * 128))
  nT : vT.ownBlock ≠ some Bl
  nL : vL.ownBlock ≠ some Bd
  FD : F D
  FS : F S
  FBd : F Bd
  FBl : F Bl
  FT : ∀ k, vT.ownBlock = some k → F k
  FL : ∀ k, vL.ownBlock = some k → F k
  lt : ∀ k, F k → k < w.heap.size
  tn : ∀ j, j < m → tf j < n
  by1 : ∀ i, 0 ≤ dur i ∧ dur i ≤ 255
  by2 : ∀ i, 0 ≤ ld i ∧ ld i ≤ 255
  n1 : 1 ≤ n
  n2 : n ≤ 4096
/-- A disk of n sectors at D, whose blocks are F's: the durable bytes dur, m writes pending: the j-th to sector tf j, of the bytes of ld from j * 128 on. -/
def Dk (w : World) (D : Nat) (F : Nat → Prop) (n : Nat) (dur : Nat → Int) (m : Nat) (tf : Nat → Nat) (ld : Nat → Int) : Prop := ∃ S Bd Bl cD cL vT vL, DkAt w D S Bd Bl cD cL vT vL F n dur m tf ld

theorem DkAt.part {w w' : World} {D S Bd Bl cD cL : Nat} {vT vL : Value} {F G : Nat → Prop} {n : Nat} {dur : Nat → Int} {m : Nat} {tf : Nat → Nat} {ld : Nat → Int} (h : DkAt w D S Bd Bl cD cL vT vL F n dur m tf ld) (hp : Part G w w') (hn : ∀ k, F k → ¬ G k) : DkAt w' D S Bd Bl cD cL vT vL F n dur m tf ld :=
  { h with
    hD := by rw [hp.block D (h.lt _ h.FD) (hn _ h.FD)]; exact h.hD
    hS := by rw [hp.block S (h.lt _ h.FS) (hn _ h.FS)]; exact h.hS
    ob := h.ob.map fun C ho => hp.row ho (fun k hk => hn _ (by cases hk; exact h.FBd))
    ol := hp.row h.ol (fun k hk => hn _ (by cases hk; exact h.FBl))
    ot := hp.row h.ot (fun k hk => hn _ (h.FT k hk))
    oo := hp.row h.oo (fun k hk => hn _ (h.FL k hk))
    lt := fun k hk => Nat.lt_of_lt_of_le (h.lt k hk) hp.size }
theorem Dk.part {w w' : World} {D : Nat} {F G : Nat → Prop} {n : Nat} {dur : Nat → Int} {m : Nat} {tf : Nat → Nat} {ld : Nat → Int} (h : Dk w D F n dur m tf ld) (hp : Part G w w') (hn : ∀ k, F k → ¬ G k) : Dk w' D F n dur m tf ld := by
  obtain ⟨S, Bd, Bl, cD, cL, vT, vL, h⟩ := h
  exact ⟨S, Bd, Bl, cD, cL, vT, vL, h.part hp hn⟩
theorem Dk.below {w w' : World} {D : Nat} {F : Nat → Prop} {n : Nat} {dur : Nat → Int} {m : Nat} {tf : Nat → Nat} {ld : Nat → Int} (h : Dk w D F n dur m tf ld) (hb : Below w.heap.size w w') : Dk w' D F n dur m tf ld := h.part (Part.ofBelow (F := fun _ => False) hb) (fun _ _ h => h)
/-- The same disk, its bytes told otherwise. -/
theorem DkAt.ext {w : World} {D S Bd Bl cD cL : Nat} {vT vL : Value} {F : Nat → Prop} {n : Nat} {dur dur' : Nat → Int} {m : Nat} {tf tf' : Nat → Nat} {ld ld' : Nat → Int} (h : DkAt w D S Bd Bl cD cL vT vL F n dur m tf ld)
    (e1 : ∀ i, i < n * 128 → dur i = dur' i) (e2 : ∀ j, j < m → tf j = tf' j) (e3 : ∀ i, i < m * 128 → ld i = ld' i) (b1 : ∀ i, 0 ≤ dur' i ∧ dur' i ≤ 255) (b2 : ∀ i, 0 ≤ ld' i ∧ ld' i ≤ 255) : DkAt w D S Bd Bl cD cL vT vL F n dur' m tf' ld' :=
  { h with
    ob := h.ob.map fun C ho => ho.ext e1
    ol := h.ol.ext (fun i hi => lastAt_ext e2 i)
    ot := h.ot.ext (fun j hj => by rw [e2 j hj])
    oo := h.oo.ext e3
    tn := fun j hj => by rw [← e2 j hj]; exact h.tn j hj
    by1 := b1
    by2 := b2 }

theorem cells_at {w : World} {g : Nat} {cs : Array Value} {t : TypeId} (h : w.heap[g]? = some (.cells cs t (0, 0))) (i : Nat) : w.cell? ⟨g, i, none⟩ = cs[i]? := by
  simp [World.cell?, h]
theorem cells_free {w : World} {g : Nat} {cs : Array Value} {t : TypeId} (h : w.heap[g]? = some (.cells cs t (0, 0))) (i : Nat) : w.frozen? ⟨g, i, none⟩ = false := by
  simp [World.frozen?, h]
end Go.Proofs.YthfokciijcmhbaaGreatDoor

namespace Go.Proofs.YthfokciijcmhbaaGreatDoor
open Go.RowKit
set_option linter.unusedVariables false

theorem made_bytes (n : Nat) : (madeCells #[.int .u8 0] n).toList = (lst (fun _ => 0) n).map (Value.int .u8) := by
  apply List.ext_getElem?
  intro i
  by_cases hi : i < n
  · rw [List.getElem?_map, lst_get _ _ _ hi]
    simp [madeCells, hi]
    rw [Nat.mod_one]
    rfl
  · rw [List.getElem?_eq_none (by simp [madeCells]; omega), List.getElem?_eq_none (by rw [List.length_map, lst_length]; omega)]
theorem made_ints (n : Nat) : (madeCells #[.int .i64 0] n).toList = (lst (fun _ => 0) n).map (Value.int .i64) := by
  apply List.ext_getElem?
  intro i
  by_cases hi : i < n
  · rw [List.getElem?_map, lst_get _ _ _ hi]
    simp [madeCells, hi]
    rw [Nat.mod_one]
    rfl
  · rw [List.getElem?_eq_none (by simp [madeCells]; omega), List.getElem?_eq_none (by rw [List.length_map, lst_length]; omega)]
theorem own_made {w : World} {MB : Array Value} {xs : List Int} (h : MB.toList = xs.map (Value.int .u8)) (hl : xs.length ≤ 140737488355328) : Own (w.alloc (.cells MB 5)) 0 (.slice (some ⟨w.heap.size, 0, none⟩) xs.length xs.length) xs := by
  have := World.ownsRow_lit (base := 0) (e := 5) (size := 1) w MB xs.length (Nat.zero_le _) (by unfold maxLen; omega) (by rw [← Array.length_toList, h]; simp)
  rw [h] at this
  exact this
theorem ownI_made {w : World} {MB : Array Value} {xs : List Int} (h : MB.toList = xs.map (Value.int .i64)) (hl : xs.length ≤ 140737488355328) : OwnI (w.alloc (.cells MB 3)) 0 (.slice (some ⟨w.heap.size, 0, none⟩) xs.length xs.length) xs := by
  have := World.ownsRow_lit (base := 0) (e := 3) (size := 1) w MB xs.length (Nat.zero_le _) (by unfold maxLen; omega) (by rw [← Array.length_toList, h]; simp)
  rw [h] at this
  exact this
theorem heap_alloc_at (w : World) (o : Obj) (k : Nat) (h : k = w.heap.size) : (w.alloc o).heap[k]? = some o := by subst h; show (w.heap.push o)[w.heap.size]? = some o; simp
theorem heap_alloc_past (w : World) (o : Obj) (k : Nat) (h : k < w.heap.size) : (w.alloc o).heap[k]? = w.heap[k]? := Below.heap_alloc w o k h

set_option maxRecDepth 100000 in
set_option maxHeartbeats 1000000 in
theorem dkNew (n : Nat) (h1 : 1 ≤ n) (h2 : n ≤ 4096) (w : World) :
    Calls Tryz.prog 37 #[.int .i64 (n : Int)] w fun e w' => ∃ D, e = .returned (.tuple #[.pointer (some ⟨D, 0, none⟩), .int .i64 0]) ∧ Dk w' D (fun k => w.heap.size ≤ k ∧ k < w'.heap.size) n (fun _ => 0) 0 (fun _ => 0) (fun _ => 0) ∧ Below w.heap.size w w' := by
  obtain ⟨MB, hMB⟩ : ∃ MB, madeCells #[.int .u8 0] (n * 128) = MB := ⟨_, rfl⟩
  obtain ⟨MI, hMI⟩ : ∃ MI, madeCells #[.int .i64 0] n = MI := ⟨_, rfl⟩
  have hmb : ∀ w : World, (Instr.makeSlice 47 (.int .i64 ((n : Int) * 128)) (.int .i64 ((n : Int) * 128))).run Tryz.prog w = .ok (.slice (some ⟨w.heap.size, 0, none⟩) (n * 128) (n * 128)) (w.alloc (.cells MB 5)) := fun w => by
    rw [← hMB]
    exact run_make_row' (P := Tryz.prog) 47 5 (.int .u8 0) 1 Tryz.underlying47 info5 rfl .i64 .i64 (n * 128) (by omega) (by omega) w
  have hmi : ∀ w : World, (Instr.makeSlice 26 (.int .i64 (n : Int)) (.int .i64 (n : Int))).run Tryz.prog w = .ok (.slice (some ⟨w.heap.size, 0, none⟩) n n) (w.alloc (.cells MI 3)) := fun w => by
    rw [← hMI]
    exact run_make_row' (P := Tryz.prog) 26 3 (.int .i64 0) 8 Tryz.underlying26 info3 rfl .i64 .i64 n (by omega) (by omega) w
  have HB : Hid (∀ v : World, Own (v.alloc (.cells MB 5)) 0 (.slice (some ⟨v.heap.size, 0, none⟩) (n * 128) (n * 128)) (lst (fun _ => 0) (n * 128))) := fun v => by
    have := own_made (w := v) (MB := MB) (xs := lst (fun _ => 0) (n * 128)) (by rw [← hMB, made_bytes]) (by rw [lst_length]; omega)
    rw [lst_length] at this
    exact this
  have HI : Hid (∀ v : World, OwnI (v.alloc (.cells MI 3)) 0 (.slice (some ⟨v.heap.size, 0, none⟩) n n) (lst (fun _ => 0) n)) := fun v => by
    have := ownI_made (w := v) (MB := MI) (xs := lst (fun _ => 0) n) (by rw [← hMI, made_ints]) (by rw [lst_length]; omega)
    rw [lst_length] at this
    exact this
  clear hMB hMI
  have h1' : (1 : Int) ≤ (n : Int) := by omega
  have h2' : (n : Int) ≤ 4096 := by omega
  have hq : ((n : Int) * 128).tdiv 128 = (n : Int) := by rw [Int.tdiv_eq_ediv_of_nonneg (by omega)]; omega
  have hq2 : ((n : Int) * 128) / 128 = (n : Int) := by omega
  go_enter Tryz.func37, Tryz.ntmps37
  go_wp2
  go_ret2
  refine ⟨w.heap.size + 3, rfl, ⟨w.heap.size + 2, w.heap.size, w.heap.size + 1, n * 128, n, .slice none 0 0, .slice none 0 0, ?_⟩, ?_⟩
  · refine ⟨heap_alloc_at _ _ _ (by simp), ?_, ?_, ?_, World.ownsRow_nil _ _ _ _, ?_, (fun h => by cases h), (fun h => by cases h), ?_, ?_, ?_, ?_, (fun k h => by cases h), (fun k h => by cases h), fun k h => h.2, fun j h => by omega, fun _ => by decide, fun _ => by decide, h1, h2⟩
    · rw [heap_alloc_past _ _ _ (by simp), heap_alloc_at _ _ _ (by simp)]
    · exact ⟨Nat.le_refl _, by omega, _, World.ownsRow.alloc (World.ownsRow.alloc (World.ownsRow.alloc (HB.out w) _) _) _⟩
    · have := HI.out (w.alloc (.cells MB 5))
      simp only [World.size_alloc] at this
      exact World.ownsRow.alloc (World.ownsRow.alloc this _) _
    · rw [Nat.zero_mul]; exact World.ownsRow_nil _ _ _ _
    all_goals (simp)
    all_goals omega
  · repeat (first | exact Below.refl _ _ | refine Below.alloc ?_ (by simp <;> omega) _)

set_option maxHeartbeats 400000 in
theorem dMissing (D S : Nat) (w : World) (k1 : w.cell? ⟨D, 0, none⟩ = some (.pointer (some ⟨S, 0, none⟩))) : Calls Tryz.prog 22 #[.pointer (some ⟨D, 0, none⟩)] w fun e w' => e = .returned (.bool false) ∧ w' = w := by
  go_enter Tryz.func22, Tryz.ntmps22
  go_wp2
  go_ret
  exact ⟨rfl, rfl⟩
set_option maxHeartbeats 400000 in
theorem dHas (S n i : Nat) (a : Option Addr) (c : Nat) (hi : i < n) (w : World) (k3 : w.cell? ⟨S, 1, none⟩ = some (.slice a n c)) : Calls Tryz.prog 161 #[.pointer (some ⟨S, 0, none⟩), .int .i64 (i : Int)] w fun e w' => e = .returned (.bool true) ∧ w' = w := by
  have h1 : (0 : Int) ≤ (i : Int) := by omega
  have h2 : (i : Int) < (n : Int) := by omega
  go_enter Tryz.func161, Tryz.ntmps161
  go_wp2
  go_ret
  exact ⟨rfl, rfl⟩
set_option maxHeartbeats 400000 in
theorem dHas_no (S n : Nat) (i : Int) (a : Option Addr) (c : Nat) (hi : i < 0 ∨ (n : Int) ≤ i) (w : World) (k3 : w.cell? ⟨S, 1, none⟩ = some (.slice a n c)) : Calls Tryz.prog 161 #[.pointer (some ⟨S, 0, none⟩), .int .i64 i] w fun e w' => e = .returned (.bool false) ∧ w' = w := by
  by_cases h0 : i < 0
  · have h1 : ¬ (0 : Int) ≤ i := by omega
    go_enter Tryz.func161, Tryz.ntmps161
    go_wp2
    go_ret
    exact ⟨rfl, rfl⟩
  · have h1 : (0 : Int) ≤ i := by omega
    have h2 : ¬ i < (n : Int) := by omega
    go_enter Tryz.func161, Tryz.ntmps161
    go_wp2
    go_ret
    exact ⟨rfl, rfl⟩
set_option maxHeartbeats 400000 in
theorem cut_at (b L C i : Nat) (hi : (i + 1) * 128 ≤ C) (hC : C ≤ 9223372036854775807) (w : World) : Calls Tryz.prog 24 #[.slice (some ⟨b, 0, none⟩) L C, .int .i64 (i : Int)] w fun e w' => e = .returned (.slice (some ⟨b, i * 128, none⟩) 128 128) ∧ w' = w := by
  have h3 : (i : Int) * 128 ≤ (C : Int) := by omega
  have h4 : ((i : Int) + 1) * 128 ≤ (C : Int) := by omega
  have h5 : (i : Int) * 128 < (C : Int) := by omega
  go_enter Tryz.func24, Tryz.ntmps24
  go_wp2
  go_ret
  have e : (i + 1) * 128 - i * 128 = 128 := by omega
  rw [e]
  exact ⟨rfl, rfl⟩
set_option maxHeartbeats 400000 in
theorem dSectors (D S n c : Nat) (a : Option Addr) (w : World) (k1 : w.cell? ⟨D, 0, none⟩ = some (.pointer (some ⟨S, 0, none⟩))) (k3 : w.cell? ⟨S, 1, none⟩ = some (.slice a n c)) :
    Calls Tryz.prog 65 #[.pointer (some ⟨D, 0, none⟩)] w fun e w' => e = .returned (.int .i64 (n : Int)) ∧ w' = w := by
  go_enter Tryz.func65, Tryz.ntmps65
  go_wp2_with fail
  refine (dMissing D S w k1).mono ?_
  rintro e w1 ⟨rfl, hw⟩
  obtain rfl : w = w1 := hw.symm
  clear hw
  go_wp2
  go_ret
  exact ⟨rfl, rfl⟩
end Go.Proofs.YthfokciijcmhbaaGreatDoor

namespace Go.Proofs.YthfokciijcmhbaaGreatDoor
open Go.RowKit
set_option linter.unusedVariables false

theorem row_block {w : World} {B : Nat} {e : TypeId} {sz : Nat} {v : Value} {n : Nat} {xs : List Value} (h : w.ownsRow B e sz v n xs) {k : Nat} (hk : v.ownBlock = some k) : ∃ cur, w.heap[k]? = some (.cells cur e (0, 0)) := by
  rcases h.2 with ⟨rfl, _⟩ | ⟨g, cap, cur, rfl, _, h3, _⟩
  · cases hk
  · cases hk
    exact ⟨cur, h3⟩
/-- The blocks of a disk are apart. -/
structure Sep (D S Bd Bl : Nat) (vT vL : Value) : Prop where
  DS : D ≠ S
  DBd : D ≠ Bd
  DBl : D ≠ Bl
  SBd : S ≠ Bd
  SBl : S ≠ Bl
  BdBl : Bd ≠ Bl
  T : ∀ k, vT.ownBlock = some k → k ≠ D ∧ k ≠ S ∧ k ≠ Bd ∧ k ≠ Bl ∧ vL.ownBlock ≠ some k
  L : ∀ k, vL.ownBlock = some k → k ≠ D ∧ k ≠ S ∧ k ≠ Bd ∧ k ≠ Bl ∧ vT.ownBlock ≠ some k
theorem two_types {w : World} {a b : Nat} {x y : Array Value} {s t : TypeId} (h1 : w.heap[a]? = some (.cells x s (0, 0))) (h2 : w.heap[b]? = some (.cells y t (0, 0))) (h : s ≠ t) : a ≠ b := by
  rintro rfl
  rw [h1] at h2
  injection h2 with h2
  injection h2 with _ h3
  exact h h3
theorem DkAt.sep {w : World} {D S Bd Bl cD cL : Nat} {vT vL : Value} {F : Nat → Prop} {n : Nat} {dur : Nat → Int} {m : Nat} {tf : Nat → Nat} {ld : Nat → Int} (h : DkAt w D S Bd Bl cD cL vT vL F n dur m tf ld) : Sep D S Bd Bl vT vL := by
  obtain ⟨_, _, _, hob⟩ := h.ob
  obtain ⟨c1, k1⟩ := row_block hob rfl
  obtain ⟨c2, k2⟩ := row_block h.ol rfl
  refine ⟨two_types h.hD h.hS (by decide), two_types h.hD k1 (by decide), two_types h.hD k2 (by decide), two_types h.hS k1 (by decide), two_types h.hS k2 (by decide), two_types k1 k2 (by decide), fun k hk => ?_, fun k hk => ?_⟩
  · obtain ⟨c3, k3⟩ := row_block h.ot hk
    refine ⟨(two_types h.hD k3 (by decide)).symm, (two_types h.hS k3 (by decide)).symm, (two_types k1 k3 (by decide)).symm, fun e => h.nT (by rw [hk, e]), fun e => ?_⟩
    obtain ⟨c4, k4⟩ := row_block h.oo e
    exact two_types k4 k3 (by decide) rfl
  · obtain ⟨c3, k3⟩ := row_block h.oo hk
    refine ⟨(two_types h.hD k3 (by decide)).symm, (two_types h.hS k3 (by decide)).symm, fun e => h.nL (by rw [hk, e]), (two_types k2 k3 (by decide)).symm, fun e => ?_⟩
    obtain ⟨c4, k4⟩ := row_block h.ot e
    exact two_types k4 k3 (by decide) rfl
theorem heap_set_same {w : World} {g : Nat} {cs : Array Value} {t : TypeId} (h : w.heap[g]? = some (.cells cs t (0, 0))) (i : Nat) (v : Value) : (w.setCell ⟨g, i, none⟩ v).heap[g]? = some (.cells (cs.setIfInBounds i v) t (0, 0)) := by
  have := heap_setCell_same w g i cs t v h
  simpa using this
theorem heap_set_other (w : World) {g k : Nat} (h : k ≠ g) (i : Nat) (v : Value) : (w.setCell ⟨g, i, none⟩ v).heap[k]? = w.heap[k]? := Below.heap_setCell w ⟨g, i, none⟩ v k h
theorem row_set {w : World} {B : Nat} {e : TypeId} {sz : Nat} {v : Value} {n : Nat} {xs : List Value} (h : w.ownsRow B e sz v n xs) {g : Nat} (hk : v.ownBlock ≠ some g) (i : Nat) (u : Value) : (w.setCell ⟨g, i, none⟩ u).ownsRow B e sz v n xs := by
  refine ⟨h.1, ?_⟩
  rcases h.2 with h2 | ⟨g', cap, cur, rfl, h2, h3, h4⟩
  · exact .inl h2
  · exact .inr ⟨g', cap, cur, rfl, h2, by rw [heap_set_other w (fun e => hk (by rw [← e]; rfl))]; exact h3, h4⟩
theorem row_grown {w w' : World} {r : Option Nat} {B : Nat} {e : TypeId} {sz : Nat} {v : Value} {n : Nat} {xs : List Value} (h : w.ownsRow B e sz v n xs) (hg : w.grownBy w' r) (hk : ∀ k, v.ownBlock = some k → r ≠ some k) : w'.ownsRow B e sz v n xs := by
  refine h.kept hg ?_
  cases hv : v.ownBlock with
  | none => exact .inl rfl
  | some k => exact .inr (fun e => hk k hv e.symm)
/-- The block of what grew: the old one, or one that was not there. -/
theorem grown_block {w w' : World} {B : Nat} {e : TypeId} {sz : Nat} {v' : Value} {n' : Nat} {ys : List Value} {r : Option Nat} (h : w'.ownsRow B e sz v' n' ys) (hg : w.grownBy w' r) {t : TypeId} {k : Nat} {cs : Array Value} (hk : w.heap[k]? = some (.cells cs t (0, 0))) (ht : t ≠ e) (hr : r ≠ some k) : v'.ownBlock ≠ some k := fun hv => by
  obtain ⟨c, k3⟩ := row_block h hv
  have hlt : k < w.heap.size := (Array.getElem?_eq_some_iff.1 hk).1
  rw [hg.block k hlt (fun e => hr e.symm), hk] at k3
  injection k3 with k3
  injection k3 with _ k4
  exact ht k4

/-- append onto a slice of the call's own, as one step of a region that draws. -/
theorem step_append_own_at {P : Program} {ops : Array Oper} {o : Oper} {a : Act} {w : World} {K : Act → World → Prop} {Q : Exit → Act → World → Prop} {E : Prop}
    (hg : o.guard = none) (s x : Operand) (t : TypeId) (hop : o.op = Op.call { callee := Callee.builtin Builtin.append, args := #[s, x], argTypes := #[t, t] })
    (base : Nat) (e : TypeId) (i : TypeInfo) (z : Value) (size bytes : Nat) (ht : P.underlying t = some (.slice e)) (hi : P.info? e = some i) (hz : i.zero = some z)
    (hsize : i.size = size) (hby : i.bytes = bytes) (hzs : z.cells.size = size) (hsz : 0 < size)
    (v : Value) (n : Nat) (xs : List Value) (hs : a.eval s = v) (hown : w.ownsRow base e size v n xs)
    (ad : Addr) (m c : Nat) (news : List Value) (hx : a.eval x = .slice (some ad) m c) (hl : news.length = m * size) (hnews : ∀ j u, news[j]? = some u → w.cell? (ad.add j) = some u) (h1 : ∀ u ∈ news, u.oneCell' = true)
    (h63 : n + m ≤ maxLen) (hbytes : (n + m) * bytes ≤ 140737488355328) (hbase : base ≤ w.heap.size)
    (h : ∀ v' w', w'.ownsRow base e size v' (n + m) (xs ++ news) → w.grownBy w' v.ownBlock → (v'.ownBlock = v.ownBlock ∨ v'.ownBlock = some w.heap.size) → K (a.put o.dst v') w') :
    if Region.wanted o (yielded ops a.tmps) = true then Oper.wp P o a w K Q else E := by
  have hw : Region.wanted o (yielded ops a.tmps) = true := by simp [Region.wanted, hg]
  rw [if_pos hw]
  obtain ⟨v', w', hr, h2, h3, h4, h5⟩ := run_append_own_at (P := P) w base t o.type e i z size bytes ht hi hz hsize hby hzs hsz v n xs hown ad m c news hl hnews h1 h63 hbytes hbase
  unfold Oper.wp execOp
  simp only [hop, resolve, invoke, builtin, Sem.run_bind, Sem.run_pure, Result.andThen_ok, List.map_toArray, List.map_cons, List.map_nil, hs, hx, hr]
  exact h v' w' h2 h3 h5
theorem row_heap {w w' : World} {B : Nat} {e : TypeId} {sz : Nat} {v : Value} {n : Nat} {xs : List Value} (h : w.ownsRow B e sz v n xs) (hh : w'.heap = w.heap) : w'.ownsRow B e sz v n xs := by
  unfold World.ownsRow at h ⊢
  rw [hh]
  exact h
theorem DkAt.heap {w w' : World} {D S Bd Bl cD cL : Nat} {vT vL : Value} {F : Nat → Prop} {n : Nat} {dur : Nat → Int} {m : Nat} {tf : Nat → Nat} {ld : Nat → Int} (h : DkAt w D S Bd Bl cD cL vT vL F n dur m tf ld) (hh : w'.heap = w.heap) : DkAt w' D S Bd Bl cD cL vT vL F n dur m tf ld :=
  { h with
    hD := by rw [hh]; exact h.hD
    hS := by rw [hh]; exact h.hS
    ob := h.ob.map fun C ho => row_heap ho hh
    ol := row_heap h.ol hh
    ot := row_heap h.ot hh
    oo := row_heap h.oo hh
    lt := fun k hk => by rw [hh]; exact h.lt k hk }
theorem Dk.heap {w w' : World} {D : Nat} {F : Nat → Prop} {n : Nat} {dur : Nat → Int} {m : Nat} {tf : Nat → Nat} {ld : Nat → Int} (h : Dk w D F n dur m tf ld) (hh : w'.heap = w.heap) : Dk w' D F n dur m tf ld := by
  obtain ⟨S, Bd, Bl, cD, cL, vT, vL, h⟩ := h
  exact ⟨S, Bd, Bl, cD, cL, vT, vL, h.heap hh⟩
theorem Part.heap {F : Nat → Prop} {a w w' : World} (h : Part F a w) (hh : w'.heap = w.heap) (h1 : w'.os = w.os) (h2 : w'.tape = w.tape) (h3 : w'.output = w.output) : Part F a w' :=
  ⟨h1.trans h.os, h2.trans h.tape, h3.trans h.output, by rw [hh]; exact h.size, fun k hk hn => by rw [hh]; exact h.block k hk hn⟩
theorem grown_drew {w w' : World} {r : Option Nat} (h : w.drew.grownBy w' r) : w.grownBy w' r := ⟨h.os, h.tape, h.output, h.size, h.block⟩

theorem lst_app (f g : Nat → Int) (a b : Nat) : lst f a ++ lst g b = lst (fun k => if k < a then f k else g (k - a)) (a + b) := by
  apply List.ext_getElem?
  intro i
  rw [List.getElem?_append, lst_length]
  by_cases h : i < a
  · rw [if_pos h, lst_get _ _ _ h, lst_get _ _ _ (by omega), if_pos h]
  · rw [if_neg h]
    by_cases h2 : i < a + b
    · rw [lst_get _ _ _ (by omega), lst_get _ _ _ h2, if_neg h]
    · rw [List.getElem?_eq_none (by rw [lst_length]; omega), List.getElem?_eq_none (by rw [lst_length]; omega)]
theorem row_some {w : World} {B : Nat} {e : TypeId} {sz : Nat} {v : Value} {n : Nat} {xs : List Value} (h : w.ownsRow B e sz v n xs) (hn : 0 < n) : ∃ g cap, v = .slice (some ⟨g, 0, none⟩) n cap ∧ g < w.heap.size ∧ n ≤ cap ∧ cap ≤ maxLen := by
  rcases h.2 with ⟨_, h0⟩ | ⟨g, cap, cur, rfl, _, h3, h4, h5, _⟩
  · omega
  · exact ⟨g, cap, rfl, (Array.getElem?_eq_some_iff.1 h3).1, h4, h5⟩

theorem row_cap {w : World} {B : Nat} {e : TypeId} {sz g L C n : Nat} {xs : List Value} (h : w.ownsRow B e sz (.slice (some ⟨g, 0, none⟩) L C) n xs) : L ≤ C ∧ C ≤ 9223372036854775807 ∧ L = n := by
  rcases h.2 with ⟨e, _⟩ | ⟨g', cap, cur, e, _, _, e1, e2, _⟩
  · cases e
  · injection e with _ k2 k3
    have : maxLen = 9223372036854775807 := rfl
    omega

theorem own_some {w : World} {B n : Nat} {v : Value} {f : Nat → Int} (h : Own w B v (lst f n)) (hn : 0 < n) : ∃ g c, v = .slice (some ⟨g, 0, none⟩) n c ∧ Own w B (.slice (some ⟨g, 0, none⟩) n c) (lst f n) ∧ B ≤ g ∧ g < w.heap.size ∧ n ≤ c ∧ c ≤ 9223372036854775807 := by
  obtain ⟨g, c, e, h1, h2, h3⟩ := row_some h (by rw [lst_length]; omega)
  rw [lst_length] at e h2
  subst e
  exact ⟨g, c, rfl, h, (World.ownsRow.lt h g rfl).1, h1, h2, h3⟩
theorem ownI_some {w : World} {B n : Nat} {v : Value} {f : Nat → Int} (h : OwnI w B v (lst f n)) (hn : 0 < n) : ∃ g c, v = .slice (some ⟨g, 0, none⟩) n c ∧ OwnI w B (.slice (some ⟨g, 0, none⟩) n c) (lst f n) ∧ B ≤ g ∧ g < w.heap.size ∧ n ≤ c ∧ c ≤ 9223372036854775807 := by
  obtain ⟨g, c, e, h1, h2, h3⟩ := row_some h (by rw [lst_length]; omega)
  rw [lst_length] at e h2
  subst e
  exact ⟨g, c, rfl, h, (World.ownsRow.lt h g rfl).1, h1, h2, h3⟩
/-- Whatever its length: nil, or at a block's head. -/
theorem ownI_any {w : World} {B n : Nat} {v : Value} {f : Nat → Int} (h : OwnI w B v (lst f n)) : ∃ a c, v = .slice a n c := by
  have h9 := h.2
  rw [lst_length] at h9
  rcases h9 with ⟨rfl, h0⟩ | ⟨g, cap, cur, rfl, _⟩
  · rw [h0]; exact ⟨none, 0, rfl⟩
  · exact ⟨_, cap, rfl⟩
theorem own_any {w : World} {B n : Nat} {v : Value} {f : Nat → Int} (h : Own w B v (lst f n)) : ∃ a c, v = .slice a n c ∧ From w a n f ∧ (a = none → c = 0) := by
  have h8 := h
  unfold Own at h8
  have h9 := h.2
  rw [lst_length] at h8 h9
  rcases h9 with ⟨rfl, h0⟩ | ⟨g, cap, cur, rfl, _⟩
  · rw [h0]; exact ⟨none, 0, rfl, .inl ⟨rfl, rfl⟩, fun _ => rfl⟩
  · exact ⟨_, cap, rfl, .inr ⟨_, rfl, fun i hi => by rw [Addr.add_lit, Nat.zero_add]; exact Own.cellF h i hi⟩, fun e => by cases e⟩

/-- What Write has made of the disk. -/
theorem DkAt.written {w w1 w2 : World} {D S Bd Bl cD cL : Nat} {vT vL : Value} {F : Nat → Prop} {n : Nat} {dur : Nat → Int} {m : Nat} {tf : Nat → Nat} {ld f : Nat → Int} (h : DkAt w D S Bd Bl cD cL vT vL F n dur m tf ld) (i : Nat) (hi : i < n) (hby : ∀ j, 0 ≤ f j ∧ f j ≤ 255)
    (o : Obj) {v1 v2 : Value} (ho1 : OwnI w1 0 v1 (lst (fun j => (tf j : Int)) m ++ [(i : Int)])) (hg1 : (w.alloc o).grownBy w1 vT.ownBlock) (ha1 : v1.ownBlock = vT.ownBlock ∨ v1.ownBlock = some (w.alloc o).heap.size)
    (ho2 : Own w2 0 v2 (lst ld (m * 128) ++ lst f 128)) (hg2 : (w1.setCell ⟨S, 2, none⟩ v1).grownBy w2 vL.ownBlock) (ha2 : v2.ownBlock = vL.ownBlock ∨ v2.ownBlock = some (w1.setCell ⟨S, 2, none⟩ v1).heap.size) :
    (∃ w3, w3 = (w2.setCell ⟨S, 3, none⟩ v2).setCell ⟨Bl, i, none⟩ (.int .i64 ((m + 1 : Nat) : Int)) ∧ DkAt w3 D S Bd Bl cD cL v1 v2 (fun k => F k ∨ (w.heap.size ≤ k ∧ k < w3.heap.size)) n dur (m + 1) (fun j => if j = m then i else tf j) (fun k => if k < m * 128 then ld k else f (k - m * 128)) ∧ Part F w w3) ∧
    w1.heap[D]? = some (.cells #[.pointer (some ⟨S, 0, none⟩)] 64 (0, 0)) ∧ w1.heap[S]? = some (.cells #[.slice (some ⟨Bd, 0, none⟩) (n * 128) cD, .slice (some ⟨Bl, 0, none⟩) n cL, vT, vL] 68 (0, 0)) ∧
    w2.heap[D]? = some (.cells #[.pointer (some ⟨S, 0, none⟩)] 64 (0, 0)) ∧ w2.heap[S]? = some (.cells #[.slice (some ⟨Bd, 0, none⟩) (n * 128) cD, .slice (some ⟨Bl, 0, none⟩) n cL, v1, vL] 68 (0, 0)) ∧ OwnI w2 0 (.slice (some ⟨Bl, 0, none⟩) n cL) (lst (lastAt tf m) n) := by
  have sp := h.sep
  have hsz : (w.alloc o).heap.size = w.heap.size + 1 := by simp
  have lD := h.lt _ h.FD
  have lS := h.lt _ h.FS
  have lBd := h.lt _ h.FBd
  have lBl := h.lt _ h.FBl
  have b1 : ∀ k, k < w.heap.size → vT.ownBlock ≠ some k → w1.heap[k]? = w.heap[k]? := fun k hk hn => by rw [hg1.block k (by omega) (fun e => hn e.symm), heap_alloc_past _ _ _ hk]
  have nT : ∀ k, (k = D ∨ k = S ∨ k = Bd ∨ k = Bl) → vT.ownBlock ≠ some k := fun k hk e => by
    obtain ⟨a1, a2, a3, a4, _⟩ := sp.T k e
    rcases hk with r | r | r | r <;> subst r <;> contradiction
  have nL : ∀ k, (k = D ∨ k = S ∨ k = Bd ∨ k = Bl) → vL.ownBlock ≠ some k := fun k hk e => by
    obtain ⟨a1, a2, a3, a4, _⟩ := sp.L k e
    rcases hk with r | r | r | r <;> subst r <;> contradiction
  have hD1 : w1.heap[D]? = _ := (b1 D lD (nT D (.inl rfl))).trans h.hD
  have hS1 : w1.heap[S]? = _ := (b1 S lS (nT S (.inr (.inl rfl)))).trans h.hS
  have hs1 : w.heap.size + 1 ≤ w1.heap.size := by have := hg1.size; omega
  have hs2 : w1.heap.size ≤ w2.heap.size := by have := hg2.size; simpa [World.setCell] using this
  have b2 : ∀ k, k < w1.heap.size → k ≠ S → vL.ownBlock ≠ some k → w2.heap[k]? = w1.heap[k]? := fun k hk hn hl => by
    rw [hg2.block k (by simpa [World.setCell] using hk) (fun e => hl e.symm), heap_set_other _ hn]
  have hD2 : w2.heap[D]? = _ := (b2 D (by omega) sp.DS (nL D (.inl rfl))).trans hD1
  have hS2 : w2.heap[S]? = some (.cells #[.slice (some ⟨Bd, 0, none⟩) (n * 128) cD, .slice (some ⟨Bl, 0, none⟩) n cL, v1, vL] 68 (0, 0)) := by
    rw [hg2.block S (by simp [World.setCell]; omega) (fun e => nL S (.inr (.inl rfl)) e.symm), heap_set_same hS1]
    rfl
  have t1 : ∀ k, v1.ownBlock = some k → (vT.ownBlock = some k ∨ k = w.heap.size + 1) := fun k hk => by
    rcases ha1 with e | e
    · exact .inl (by rw [← e]; exact hk)
    · rw [e, hsz] at hk; cases hk; exact .inr rfl
  have t2 : ∀ k, v2.ownBlock = some k → (vL.ownBlock = some k ∨ k = w1.heap.size) := fun k hk => by
    rcases ha2 with e | e
    · exact .inl (by rw [← e]; exact hk)
    · rw [e] at hk; cases hk; exact .inr (by simp [World.setCell])
  have ob2 : OwnC w2 Bd (n * 128) cD dur := h.ob.map fun C hoC => by
    refine row_grown (row_set (row_grown (World.ownsRow.alloc hoC o) hg1 ?_) ?_ _ _) hg2 ?_
    · intro k hk; cases hk; exact nT _ (.inr (.inr (.inl rfl)))
    · intro e; cases e; exact sp.SBd rfl
    · intro k hk; cases hk; exact nL _ (.inr (.inr (.inl rfl)))
  have ol2 : OwnI w2 0 (.slice (some ⟨Bl, 0, none⟩) n cL) (lst (lastAt tf m) n) := by
    refine row_grown (row_set (row_grown (World.ownsRow.alloc h.ol o) hg1 ?_) ?_ _ _) hg2 ?_
    · intro k hk; cases hk; exact nT _ (.inr (.inr (.inr rfl)))
    · intro e; cases e; exact sp.SBl rfl
    · intro k hk; cases hk; exact nL _ (.inr (.inr (.inr rfl)))
  have v1n : ∀ k, (k = D ∨ k = S ∨ k = Bd ∨ k = Bl) → v1.ownBlock ≠ some k := fun k hk e => by
    rcases t1 k e with e2 | e2
    · exact nT k hk e2
    · rcases hk with r | r | r | r <;> omega
  have v2n : ∀ k, (k = D ∨ k = S ∨ k = Bd ∨ k = Bl) → v2.ownBlock ≠ some k := fun k hk e => by
    rcases t2 k e with e2 | e2
    · exact nL k hk e2
    · rcases hk with r | r | r | r <;> omega
  have ot2 : OwnI w2 0 v1 (lst (fun j => (tf j : Int)) m ++ [(i : Int)]) := by
    refine row_grown (row_set ho1 (v1n S (.inr (.inl rfl))) _ _) hg2 (fun k hk hl => ?_)
    rcases t1 k hk with e | e
    · exact (sp.T k e).2.2.2.2 hl
    · have := h.lt k (h.FL k hl); omega
  refine ⟨⟨_, rfl, ⟨?_, ?_, ?_, ?_, ?_, ?_, v1n Bl (.inr (.inr (.inr rfl))), v2n Bd (.inr (.inr (.inl rfl))), .inl h.FD, .inl h.FS, .inl h.FBd, .inl h.FBl, fun k hk => ?_, fun k hk => ?_, fun k hk => ?_, fun j hj => ?_, h.by1, fun k => ?_, h.n1, h.n2⟩, ?_⟩, hD1, hS1, hD2, hS2, ol2⟩
  · rw [heap_set_other _ sp.DBl, heap_set_other _ sp.DS]; exact hD2
  · rw [heap_set_other _ sp.SBl, heap_set_same hS2]; rfl
  · exact ob2.map fun C hoC => row_set (row_set hoC (fun e => by cases e; exact sp.SBd rfl) _ _) (fun e => by cases e; exact sp.BdBl rfl) _ _
  · refine (OwnI.set (row_set ol2 (fun e => by cases e; exact sp.SBl rfl) _ _) i hi _).ext (fun j hj => ?_)
    show (if j = i then ((m + 1 : Nat) : Int) else lastAt tf m j) = lastAt (fun j => if j = m then i else tf j) (m + 1) j
    rw [lastAt]
    simp only [if_true]
    by_cases e : j = i
    · rw [if_pos e, if_pos e.symm]
    · rw [if_neg e, if_neg (Ne.symm e)]
      exact (lastAt_ext (fun q hq => by simp [show q ≠ m by omega]) j)
  · have := row_set (row_set ot2 (v1n S (.inr (.inl rfl))) 3 v2) (v1n Bl (.inr (.inr (.inr rfl)))) i (.int .i64 ((m + 1 : Nat) : Int))
    have e : lst (fun j => (tf j : Int)) m ++ [(i : Int)] = lst (fun j => ((if j = m then i else tf j : Nat) : Int)) (m + 1) := by
      rw [lst_snoc]
      exact lst_ext (fun j hj => by split <;> rfl)
    unfold OwnI
    rw [← e]
    exact this
  · have := row_set (row_set ho2 (v2n S (.inr (.inl rfl))) 3 v2) (v2n Bl (.inr (.inr (.inr rfl)))) i (.int .i64 ((m + 1 : Nat) : Int))
    unfold Own
    rw [show (m + 1) * 128 = m * 128 + 128 by omega, ← lst_app]
    exact this
  · rcases t1 k hk with e | e
    · exact .inl (h.FT k e)
    · refine .inr ⟨by omega, ?_⟩
      have := (World.ownsRow.lt ot2 k hk).2
      simpa [World.setCell] using this
  · rcases t2 k hk with e | e
    · exact .inl (h.FL k e)
    · refine .inr ⟨by omega, ?_⟩
      have := (World.ownsRow.lt ho2 k hk).2
      simpa [World.setCell] using this
  · rcases hk with e | e
    · have := h.lt k e
      have : k < w2.heap.size := by omega
      simpa [World.setCell] using this
    · exact e.2
  · show (if j = m then i else tf j) < n
    split
    · exact hi
    · exact h.tn j (by omega)
  · show 0 ≤ (if k < m * 128 then ld k else f (k - m * 128)) ∧ _
    split
    · exact h.by2 k
    · exact hby _
  · refine ((((((Part.refl F w).alloc o).grown hg1 (fun k hk _ => h.FT k hk)).setCell (p := ⟨S, 2, none⟩) (fun _ => h.FS) v1).grown hg2 (fun k hk _ => h.FL k hk)).setCell (p := ⟨S, 3, none⟩) (fun _ => h.FS) v2).setCell (p := ⟨Bl, i, none⟩) (fun _ => h.FBl) _

/-- What stands in the disk's two structs. -/
structure Heads (w : World) (D S Bd Bl n cD cL : Nat) (vT vL : Value) : Prop where
  d0 : w.cell? ⟨D, 0, none⟩ = some (.pointer (some ⟨S, 0, none⟩))
  s0 : w.cell? ⟨S, 0, none⟩ = some (.slice (some ⟨Bd, 0, none⟩) (n * 128) cD)
  s1 : w.cell? ⟨S, 1, none⟩ = some (.slice (some ⟨Bl, 0, none⟩) n cL)
  s2 : w.cell? ⟨S, 2, none⟩ = some vT
  s3 : w.cell? ⟨S, 3, none⟩ = some vL
  fz : ∀ i, w.frozen? ⟨S, i, none⟩ = false
theorem heads {w : World} {D S Bd Bl n cD cL : Nat} {vT vL : Value} (h1 : w.heap[D]? = some (.cells #[.pointer (some ⟨S, 0, none⟩)] 64 (0, 0))) (h2 : w.heap[S]? = some (.cells #[.slice (some ⟨Bd, 0, none⟩) (n * 128) cD, .slice (some ⟨Bl, 0, none⟩) n cL, vT, vL] 68 (0, 0))) : Heads w D S Bd Bl n cD cL vT vL :=
  ⟨cells_at h1 0, cells_at h2 0, cells_at h2 1, cells_at h2 2, cells_at h2 3, fun i => cells_free h2 i⟩
end Go.Proofs.YthfokciijcmhbaaGreatDoor
