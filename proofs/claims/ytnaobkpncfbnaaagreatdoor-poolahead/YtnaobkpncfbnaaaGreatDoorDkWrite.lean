/-
  Contract of a disk's Write over Dk. Condition: at most 2^46 bytes are pending.
-/
import Derived.Test.YtnaobkpncfbnaaaGreatDoorDkOps
import Derived.Maps.AppendAt
import Derived.Deep.RegionLaw
namespace Go.Proofs.YtnaobkpncfbnaaaGreatDoor
open Go.RowKit
set_option linter.unusedVariables false

theorem row_block {w : World} {B : Nat} {e : TypeId} {sz : Nat} {v : Value} {n : Nat} {xs : List Value} (h : w.ownsRow B e sz v n xs) {k : Nat} (hk : v.ownBlock = some k) : ∃ cur, w.heap[k]? = some (.cells cur e (0, 0)) := by
  rcases h.2 with ⟨rfl, _⟩ | ⟨g, cap, cur, rfl, _, h3, _⟩
  · cases hk
  · cases hk
    exact ⟨cur, h3⟩
/-- The blocks of a disk are apart. -/
structure Sep (D S Bd Bl : Nat) (vT vL : Value) : Prop where
  DS : D ≠ S
  DBd : D ≠ Bd
  DBl : D ≠ Bl
  SBd : S ≠ Bd
  SBl : S ≠ Bl
  BdBl : Bd ≠ Bl
  T : ∀ k, vT.ownBlock = some k → k ≠ D ∧ k ≠ S ∧ k ≠ Bd ∧ k ≠ Bl ∧ vL.ownBlock ≠ some k
  L : ∀ k, vL.ownBlock = some k → k ≠ D ∧ k ≠ S ∧ k ≠ Bd ∧ k ≠ Bl ∧ vT.ownBlock ≠ some k
theorem two_types {w : World} {a b : Nat} {x y : Array Value} {s t : TypeId} (h1 : w.heap[a]? = some (.cells x s (0, 0))) (h2 : w.heap[b]? = some (.cells y t (0, 0))) (h : s ≠ t) : a ≠ b := by
  rintro rfl
  rw [h1] at h2
  injection h2 with h2
  injection h2 with _ h3
  exact h h3
theorem DkAt.sep {w : World} {D S Bd Bl cD cL : Nat} {vT vL : Value} {F : Nat → Prop} {n : Nat} {dur : Nat → Int} {m : Nat} {tf : Nat → Nat} {ld : Nat → Int} (h : DkAt w D S Bd Bl cD cL vT vL F n dur m tf ld) : Sep D S Bd Bl vT vL := by
  obtain ⟨_, _, _, hob⟩ := h.ob
  obtain ⟨c1, k1⟩ := row_block hob rfl
  obtain ⟨c2, k2⟩ := row_block h.ol rfl
  refine ⟨two_types h.hD h.hS (by decide), two_types h.hD k1 (by decide), two_types h.hD k2 (by decide), two_types h.hS k1 (by decide), two_types h.hS k2 (by decide), two_types k1 k2 (by decide), fun k hk => ?_, fun k hk => ?_⟩
  · obtain ⟨c3, k3⟩ := row_block h.ot hk
    refine ⟨(two_types h.hD k3 (by decide)).symm, (two_types h.hS k3 (by decide)).symm, (two_types k1 k3 (by decide)).symm, fun e => h.nT (by rw [hk, e]), fun e => ?_⟩
    obtain ⟨c4, k4⟩ := row_block h.oo e
    exact two_types k4 k3 (by decide) rfl
  · obtain ⟨c3, k3⟩ := row_block h.oo hk
    refine ⟨(two_types h.hD k3 (by decide)).symm, (two_types h.hS k3 (by decide)).symm, fun e => h.nL (by rw [hk, e]), (two_types k2 k3 (by decide)).symm, fun e => ?_⟩
    obtain ⟨c4, k4⟩ := row_block h.ot e
    exact two_types k4 k3 (by decide) rfl
theorem heap_set_same {w : World} {g : Nat} {cs : Array Value} {t : TypeId} (h : w.heap[g]? = some (.cells cs t (0, 0))) (i : Nat) (v : Value) : (w.setCell ⟨g, i, none⟩ v).heap[g]? = some (.cells (cs.setIfInBounds i v) t (0, 0)) := by
  have := heap_setCell_same w g i cs t v h
  simpa using this
theorem heap_set_other (w : World) {g k : Nat} (h : k ≠ g) (i : Nat) (v : Value) : (w.setCell ⟨g, i, none⟩ v).heap[k]? = w.heap[k]? := Below.heap_setCell w ⟨g, i, none⟩ v k h
theorem row_set {w : World} {B : Nat} {e : TypeId} {sz : Nat} {v : Value} {n : Nat} {xs : List Value} (h : w.ownsRow B e sz v n xs) {g : Nat} (hk : v.ownBlock ≠ some g) (i : Nat) (u : Value) : (w.setCell ⟨g, i, none⟩ u).ownsRow B e sz v n xs := by
  refine ⟨h.1, ?_⟩
  rcases h.2 with h2 | ⟨g', cap, cur, rfl, h2, h3, h4⟩
  · exact .inl h2
  · exact .inr ⟨g', cap, cur, rfl, h2, by rw [heap_set_other w (fun e => hk (by rw [← e]; rfl))]; exact h3, h4⟩
theorem row_grown {w w' : World} {r : Option Nat} {B : Nat} {e : TypeId} {sz : Nat} {v : Value} {n : Nat} {xs : List Value} (h : w.ownsRow B e sz v n xs) (hg : w.grownBy w' r) (hk : ∀ k, v.ownBlock = some k → r ≠ some k) : w'.ownsRow B e sz v n xs := by
  refine h.kept hg ?_
  cases hv : v.ownBlock with
  | none => exact .inl rfl
  | some k => exact .inr (fun e => hk k hv e.symm)
/-- The block of what grew: the old one, or one that was not there. -/
theorem grown_block {w w' : World} {B : Nat} {e : TypeId} {sz : Nat} {v' : Value} {n' : Nat} {ys : List Value} {r : Option Nat} (h : w'.ownsRow B e sz v' n' ys) (hg : w.grownBy w' r) {t : TypeId} {k : Nat} {cs : Array Value} (hk : w.heap[k]? = some (.cells cs t (0, 0))) (ht : t ≠ e) (hr : r ≠ some k) : v'.ownBlock ≠ some k := fun hv => by
  obtain ⟨c, k3⟩ := row_block h hv
  have hlt : k < w.heap.size := (Array.getElem?_eq_some_iff.1 hk).1
  rw [hg.block k hlt (fun e => hr e.symm), hk] at k3
  injection k3 with k3
  injection k3 with _ k4
  exact ht k4

/-- append onto a slice of the call's own, as one step of a region that draws. -/
theorem step_append_own_at {P : Program} {ops : Array Oper} {o : Oper} {a : Act} {w : World} {K : Act → World → Prop} {Q : Exit → Act → World → Prop} {E : Prop}
    (hg : o.guard = none) (s x : Operand) (t : TypeId) (hop : o.op = Op.call { callee := Callee.builtin Builtin.append, args := #[s, x], argTypes := #[t, t] })
    (base : Nat) (e : TypeId) (i : TypeInfo) (z : Value) (size bytes : Nat) (ht : P.underlying t = some (.slice e)) (hi : P.info? e = some i) (hz : i.zero = some z)
    (hsize : i.size = size) (hby : i.bytes = bytes) (hzs : z.cells.size = size) (hsz : 0 < size)
    (v : Value) (n : Nat) (xs : List Value) (hs : a.eval s = v) (hown : w.ownsRow base e size v n xs)
    (ad : Addr) (m c : Nat) (news : List Value) (hx : a.eval x = .slice (some ad) m c) (hl : news.length = m * size) (hnews : ∀ j u, news[j]? = some u → w.cell? (ad.add j) = some u) (h1 : ∀ u ∈ news, u.oneCell' = true)
    (h63 : n + m ≤ maxLen) (hbytes : (n + m) * bytes ≤ 140737488355328) (hbase : base ≤ w.heap.size)
    (h : ∀ v' w', w'.ownsRow base e size v' (n + m) (xs ++ news) → w.grownBy w' v.ownBlock → (v'.ownBlock = v.ownBlock ∨ v'.ownBlock = some w.heap.size) → K (a.put o.dst v') w') :
    if Region.wanted o (yielded ops a.tmps) = true then Oper.wp P o a w K Q else E := by
  have hw : Region.wanted o (yielded ops a.tmps) = true := by simp [Region.wanted, hg]
  rw [if_pos hw]
  obtain ⟨v', w', hr, h2, h3, h4, h5⟩ := run_append_own_at (P := P) w base t o.type e i z size bytes ht hi hz hsize hby hzs hsz v n xs hown ad m c news hl hnews h1 h63 hbytes hbase
  unfold Oper.wp execOp
  simp only [hop, resolve, invoke, builtin, Sem.run_bind, Sem.run_pure, Result.andThen_ok, List.map_toArray, List.map_cons, List.map_nil, hs, hx, hr]
  exact h v' w' h2 h3 h5
theorem row_heap {w w' : World} {B : Nat} {e : TypeId} {sz : Nat} {v : Value} {n : Nat} {xs : List Value} (h : w.ownsRow B e sz v n xs) (hh : w'.heap = w.heap) : w'.ownsRow B e sz v n xs := by
  unfold World.ownsRow at h ⊢
  rw [hh]
  exact h
theorem DkAt.heap {w w' : World} {D S Bd Bl cD cL : Nat} {vT vL : Value} {F : Nat → Prop} {n : Nat} {dur : Nat → Int} {m : Nat} {tf : Nat → Nat} {ld : Nat → Int} (h : DkAt w D S Bd Bl cD cL vT vL F n dur m tf ld) (hh : w'.heap = w.heap) : DkAt w' D S Bd Bl cD cL vT vL F n dur m tf ld :=
  { h with
    hD := by rw [hh]; exact h.hD
    hS := by rw [hh]; exact h.hS
    ob := h.ob.map fun C ho => row_heap ho hh
    ol := row_heap h.ol hh
    ot := row_heap h.ot hh
    oo := row_heap h.oo hh
    lt := fun k hk => by rw [hh]; exact h.lt k hk }
theorem Dk.heap {w w' : World} {D : Nat} {F : Nat → Prop} {n : Nat} {dur : Nat → Int} {m : Nat} {tf : Nat → Nat} {ld : Nat → Int} (h : Dk w D F n dur m tf ld) (hh : w'.heap = w.heap) : Dk w' D F n dur m tf ld := by
  obtain ⟨S, Bd, Bl, cD, cL, vT, vL, h⟩ := h
  exact ⟨S, Bd, Bl, cD, cL, vT, vL, h.heap hh⟩
theorem Part.heap {F : Nat → Prop} {a w w' : World} (h : Part F a w) (hh : w'.heap = w.heap) (h1 : w'.os = w.os) (h2 : w'.tape = w.tape) (h3 : w'.output = w.output) : Part F a w' :=
  ⟨h1.trans h.os, h2.trans h.tape, h3.trans h.output, by rw [hh]; exact h.size, fun k hk hn => by rw [hh]; exact h.block k hk hn⟩
theorem grown_drew {w w' : World} {r : Option Nat} (h : w.drew.grownBy w' r) : w.grownBy w' r := ⟨h.os, h.tape, h.output, h.size, h.block⟩

theorem lst_app (f g : Nat → Int) (a b : Nat) : lst f a ++ lst g b = lst (fun k => if k < a then f k else g (k - a)) (a + b) := by
  apply List.ext_getElem?
  intro i
  rw [List.getElem?_append, lst_length]
  by_cases h : i < a
  · rw [if_pos h, lst_get _ _ _ h, lst_get _ _ _ (by omega), if_pos h]
  · rw [if_neg h]
    by_cases h2 : i < a + b
    · rw [lst_get _ _ _ (by omega), lst_get _ _ _ h2, if_neg h]
    · rw [List.getElem?_eq_none (by rw [lst_length]; omega), List.getElem?_eq_none (by rw [lst_length]; omega)]
theorem row_some {w : World} {B : Nat} {e : TypeId} {sz : Nat} {v : Value} {n : Nat} {xs : List Value} (h : w.ownsRow B e sz v n xs) (hn : 0 < n) : ∃ g cap, v = .slice (some ⟨g, 0, none⟩) n cap ∧ g < w.heap.size ∧ n ≤ cap ∧ cap ≤ maxLen := by
  rcases h.2 with ⟨_, h0⟩ | ⟨g, cap, cur, rfl, _, h3, h4, h5, _⟩
  · omega
  · exact ⟨g, cap, rfl, (Array.getElem?_eq_some_iff.1 h3).1, h4, h5⟩

theorem row_cap {w : World} {B : Nat} {e : TypeId} {sz g L C n : Nat} {xs : List Value} (h : w.ownsRow B e sz (.slice (some ⟨g, 0, none⟩) L C) n xs) : L ≤ C ∧ C ≤ 9223372036854775807 ∧ L = n := by
  rcases h.2 with ⟨e, _⟩ | ⟨g', cap, cur, e, _, _, e1, e2, _⟩
  · cases e
  · injection e with _ k2 k3
    have : maxLen = 9223372036854775807 := rfl
    omega

theorem own_some {w : World} {B n : Nat} {v : Value} {f : Nat → Int} (h : Own w B v (lst f n)) (hn : 0 < n) : ∃ g c, v = .slice (some ⟨g, 0, none⟩) n c ∧ Own w B (.slice (some ⟨g, 0, none⟩) n c) (lst f n) ∧ B ≤ g ∧ g < w.heap.size ∧ n ≤ c ∧ c ≤ 9223372036854775807 := by
  obtain ⟨g, c, e, h1, h2, h3⟩ := row_some h (by rw [lst_length]; omega)
  rw [lst_length] at e h2
  subst e
  exact ⟨g, c, rfl, h, (World.ownsRow.lt h g rfl).1, h1, h2, h3⟩
theorem ownI_some {w : World} {B n : Nat} {v : Value} {f : Nat → Int} (h : OwnI w B v (lst f n)) (hn : 0 < n) : ∃ g c, v = .slice (some ⟨g, 0, none⟩) n c ∧ OwnI w B (.slice (some ⟨g, 0, none⟩) n c) (lst f n) ∧ B ≤ g ∧ g < w.heap.size ∧ n ≤ c ∧ c ≤ 9223372036854775807 := by
  obtain ⟨g, c, e, h1, h2, h3⟩ := row_some h (by rw [lst_length]; omega)
  rw [lst_length] at e h2
  subst e
  exact ⟨g, c, rfl, h, (World.ownsRow.lt h g rfl).1, h1, h2, h3⟩
/-- Whatever its length: nil, or at a block's head. -/
theorem ownI_any {w : World} {B n : Nat} {v : Value} {f : Nat → Int} (h : OwnI w B v (lst f n)) : ∃ a c, v = .slice a n c := by
  have h9 := h.2
  rw [lst_length] at h9
  rcases h9 with ⟨rfl, h0⟩ | ⟨g, cap, cur, rfl, _⟩
  · rw [h0]; exact ⟨none, 0, rfl⟩
  · exact ⟨_, cap, rfl⟩
theorem own_any {w : World} {B n : Nat} {v : Value} {f : Nat → Int} (h : Own w B v (lst f n)) : ∃ a c, v = .slice a n c ∧ From w a n f ∧ (a = none → c = 0) := by
  have h8 := h
  unfold Own at h8
  have h9 := h.2
  rw [lst_length] at h8 h9
  rcases h9 with ⟨rfl, h0⟩ | ⟨g, cap, cur, rfl, _⟩
  · rw [h0]; exact ⟨none, 0, rfl, .inl ⟨rfl, rfl⟩, fun _ => rfl⟩
  · exact ⟨_, cap, rfl, .inr ⟨_, rfl, fun i hi => by rw [Addr.add_lit, Nat.zero_add]; exact Own.cellF h i hi⟩, fun e => by cases e⟩

/-- What Write has made of the disk. -/
theorem DkAt.written {w w1 w2 : World} {D S Bd Bl cD cL : Nat} {vT vL : Value} {F : Nat → Prop} {n : Nat} {dur : Nat → Int} {m : Nat} {tf : Nat → Nat} {ld f : Nat → Int} (h : DkAt w D S Bd Bl cD cL vT vL F n dur m tf ld) (i : Nat) (hi : i < n) (hby : ∀ j, 0 ≤ f j ∧ f j ≤ 255)
    (o : Obj) {v1 v2 : Value} (ho1 : OwnI w1 0 v1 (lst (fun j => (tf j : Int)) m ++ [(i : Int)])) (hg1 : (w.alloc o).grownBy w1 vT.ownBlock) (ha1 : v1.ownBlock = vT.ownBlock ∨ v1.ownBlock = some (w.alloc o).heap.size)
    (ho2 : Own w2 0 v2 (lst ld (m * 128) ++ lst f 128)) (hg2 : (w1.setCell ⟨S, 2, none⟩ v1).grownBy w2 vL.ownBlock) (ha2 : v2.ownBlock = vL.ownBlock ∨ v2.ownBlock = some (w1.setCell ⟨S, 2, none⟩ v1).heap.size) :
    (∃ w3, w3 = (w2.setCell ⟨S, 3, none⟩ v2).setCell ⟨Bl, i, none⟩ (.int .i64 ((m + 1 : Nat) : Int)) ∧ DkAt w3 D S Bd Bl cD cL v1 v2 (fun k => F k ∨ (w.heap.size ≤ k ∧ k < w3.heap.size)) n dur (m + 1) (fun j => if j = m then i else tf j) (fun k => if k < m * 128 then ld k else f (k - m * 128)) ∧ Part F w w3) ∧
    w1.heap[D]? = some (.cells #[.pointer (some ⟨S, 0, none⟩)] 105 (0, 0)) ∧ w1.heap[S]? = some (.cells #[.slice (some ⟨Bd, 0, none⟩) (n * 128) cD, .slice (some ⟨Bl, 0, none⟩) n cL, vT, vL] 109 (0, 0)) ∧
    w2.heap[D]? = some (.cells #[.pointer (some ⟨S, 0, none⟩)] 105 (0, 0)) ∧ w2.heap[S]? = some (.cells #[.slice (some ⟨Bd, 0, none⟩) (n * 128) cD, .slice (some ⟨Bl, 0, none⟩) n cL, v1, vL] 109 (0, 0)) ∧ OwnI w2 0 (.slice (some ⟨Bl, 0, none⟩) n cL) (lst (lastAt tf m) n) := by
  have sp := h.sep
  have hsz : (w.alloc o).heap.size = w.heap.size + 1 := by simp
  have lD := h.lt _ h.FD
  have lS := h.lt _ h.FS
  have lBd := h.lt _ h.FBd
  have lBl := h.lt _ h.FBl
  have b1 : ∀ k, k < w.heap.size → vT.ownBlock ≠ some k → w1.heap[k]? = w.heap[k]? := fun k hk hn => by rw [hg1.block k (by omega) (fun e => hn e.symm), heap_alloc_past _ _ _ hk]
  have nT : ∀ k, (k = D ∨ k = S ∨ k = Bd ∨ k = Bl) → vT.ownBlock ≠ some k := fun k hk e => by
    obtain ⟨a1, a2, a3, a4, _⟩ := sp.T k e
    rcases hk with r | r | r | r <;> subst r <;> contradiction
  have nL : ∀ k, (k = D ∨ k = S ∨ k = Bd ∨ k = Bl) → vL.ownBlock ≠ some k := fun k hk e => by
    obtain ⟨a1, a2, a3, a4, _⟩ := sp.L k e
    rcases hk with r | r | r | r <;> subst r <;> contradiction
  have hD1 : w1.heap[D]? = _ := (b1 D lD (nT D (.inl rfl))).trans h.hD
  have hS1 : w1.heap[S]? = _ := (b1 S lS (nT S (.inr (.inl rfl)))).trans h.hS
  have hs1 : w.heap.size + 1 ≤ w1.heap.size := by have := hg1.size; omega
  have hs2 : w1.heap.size ≤ w2.heap.size := by have := hg2.size; simpa [World.setCell] using this
  have b2 : ∀ k, k < w1.heap.size → k ≠ S → vL.ownBlock ≠ some k → w2.heap[k]? = w1.heap[k]? := fun k hk hn hl => by
    rw [hg2.block k (by simpa [World.setCell] using hk) (fun e => hl e.symm), heap_set_other _ hn]
  have hD2 : w2.heap[D]? = _ := (b2 D (by omega) sp.DS (nL D (.inl rfl))).trans hD1
  have hS2 : w2.heap[S]? = some (.cells #[.slice (some ⟨Bd, 0, none⟩) (n * 128) cD, .slice (some ⟨Bl, 0, none⟩) n cL, v1, vL] 109 (0, 0)) := by
    rw [hg2.block S (by simp [World.setCell]; omega) (fun e => nL S (.inr (.inl rfl)) e.symm), heap_set_same hS1]
    rfl
  have t1 : ∀ k, v1.ownBlock = some k → (vT.ownBlock = some k ∨ k = w.heap.size + 1) := fun k hk => by
    rcases ha1 with e | e
    · exact .inl (by rw [← e]; exact hk)
    · rw [e, hsz] at hk; cases hk; exact .inr rfl
  have t2 : ∀ k, v2.ownBlock = some k → (vL.ownBlock = some k ∨ k = w1.heap.size) := fun k hk => by
    rcases ha2 with e | e
    · exact .inl (by rw [← e]; exact hk)
    · rw [e] at hk; cases hk; exact .inr (by simp [World.setCell])
  have ob2 : OwnC w2 Bd (n * 128) cD dur := h.ob.map fun C hoC => by
    refine row_grown (row_set (row_grown (World.ownsRow.alloc hoC o) hg1 ?_) ?_ _ _) hg2 ?_
    · intro k hk; cases hk; exact nT _ (.inr (.inr (.inl rfl)))
    · intro e; cases e; exact sp.SBd rfl
    · intro k hk; cases hk; exact nL _ (.inr (.inr (.inl rfl)))
  have ol2 : OwnI w2 0 (.slice (some ⟨Bl, 0, none⟩) n cL) (lst (lastAt tf m) n) := by
    refine row_grown (row_set (row_grown (World.ownsRow.alloc h.ol o) hg1 ?_) ?_ _ _) hg2 ?_
    · intro k hk; cases hk; exact nT _ (.inr (.inr (.inr rfl)))
    · intro e; cases e; exact sp.SBl rfl
    · intro k hk; cases hk; exact nL _ (.inr (.inr (.inr rfl)))
  have v1n : ∀ k, (k = D ∨ k = S ∨ k = Bd ∨ k = Bl) → v1.ownBlock ≠ some k := fun k hk e => by
    rcases t1 k e with e2 | e2
    · exact nT k hk e2
    · rcases hk with r | r | r | r <;> omega
  have v2n : ∀ k, (k = D ∨ k = S ∨ k = Bd ∨ k = Bl) → v2.ownBlock ≠ some k := fun k hk e => by
    rcases t2 k e with e2 | e2
    · exact nL k hk e2
    · rcases hk with r | r | r | r <;> omega
  have ot2 : OwnI w2 0 v1 (lst (fun j => (tf j : Int)) m ++ [(i : Int)]) := by
    refine row_grown (row_set ho1 (v1n S (.inr (.inl rfl))) _ _) hg2 (fun k hk hl => ?_)
    rcases t1 k hk with e | e
    · exact (sp.T k e).2.2.2.2 hl
    · have := h.lt k (h.FL k hl); omega
  refine ⟨⟨_, rfl, ⟨?_, ?_, ?_, ?_, ?_, ?_, v1n Bl (.inr (.inr (.inr rfl))), v2n Bd (.inr (.inr (.inl rfl))), .inl h.FD, .inl h.FS, .inl h.FBd, .inl h.FBl, fun k hk => ?_, fun k hk => ?_, fun k hk => ?_, fun j hj => ?_, h.by1, fun k => ?_, h.n1, h.n2⟩, ?_⟩, hD1, hS1, hD2, hS2, ol2⟩
  · rw [heap_set_other _ sp.DBl, heap_set_other _ sp.DS]; exact hD2
  · rw [heap_set_other _ sp.SBl, heap_set_same hS2]; rfl
  · exact ob2.map fun C hoC => row_set (row_set hoC (fun e => by cases e; exact sp.SBd rfl) _ _) (fun e => by cases e; exact sp.BdBl rfl) _ _
  · refine (OwnI.set (row_set ol2 (fun e => by cases e; exact sp.SBl rfl) _ _) i hi _).ext (fun j hj => ?_)
    show (if j = i then ((m + 1 : Nat) : Int) else lastAt tf m j) = lastAt (fun j => if j = m then i else tf j) (m + 1) j
    rw [lastAt]
    simp only [if_true]
    by_cases e : j = i
    · rw [if_pos e, if_pos e.symm]
    · rw [if_neg e, if_neg (Ne.symm e)]
      exact (lastAt_ext (fun q hq => by simp [show q ≠ m by omega]) j)
  · have := row_set (row_set ot2 (v1n S (.inr (.inl rfl))) 3 v2) (v1n Bl (.inr (.inr (.inr rfl)))) i (.int .i64 ((m + 1 : Nat) : Int))
    have e : lst (fun j => (tf j : Int)) m ++ [(i : Int)] = lst (fun j => ((if j = m then i else tf j : Nat) : Int)) (m + 1) := by
      rw [lst_snoc]
      exact lst_ext (fun j hj => by split <;> rfl)
    unfold OwnI
    rw [← e]
    exact this
  · have := row_set (row_set ho2 (v2n S (.inr (.inl rfl))) 3 v2) (v2n Bl (.inr (.inr (.inr rfl)))) i (.int .i64 ((m + 1 : Nat) : Int))
    unfold Own
    rw [show (m + 1) * 128 = m * 128 + 128 by omega, ← lst_app]
    exact this
  · rcases t1 k hk with e | e
    · exact .inl (h.FT k e)
    · refine .inr ⟨by omega, ?_⟩
      have := (World.ownsRow.lt ot2 k hk).2
      simpa [World.setCell] using this
  · rcases t2 k hk with e | e
    · exact .inl (h.FL k e)
    · refine .inr ⟨by omega, ?_⟩
      have := (World.ownsRow.lt ho2 k hk).2
      simpa [World.setCell] using this
  · rcases hk with e | e
    · have := h.lt k e
      have : k < w2.heap.size := by omega
      simpa [World.setCell] using this
    · exact e.2
  · show (if j = m then i else tf j) < n
    split
    · exact hi
    · exact h.tn j (by omega)
  · show 0 ≤ (if k < m * 128 then ld k else f (k - m * 128)) ∧ _
    split
    · exact h.by2 k
    · exact hby _
  · refine ((((((Part.refl F w).alloc o).grown hg1 (fun k hk _ => h.FT k hk)).setCell (p := ⟨S, 2, none⟩) (fun _ => h.FS) v1).grown hg2 (fun k hk _ => h.FL k hk)).setCell (p := ⟨S, 3, none⟩) (fun _ => h.FS) v2).setCell (p := ⟨Bl, i, none⟩) (fun _ => h.FBl) _

/-- What stands in the disk's two structs. -/
structure Heads (w : World) (D S Bd Bl n cD cL : Nat) (vT vL : Value) : Prop where
  d0 : w.cell? ⟨D, 0, none⟩ = some (.pointer (some ⟨S, 0, none⟩))
  s0 : w.cell? ⟨S, 0, none⟩ = some (.slice (some ⟨Bd, 0, none⟩) (n * 128) cD)
  s1 : w.cell? ⟨S, 1, none⟩ = some (.slice (some ⟨Bl, 0, none⟩) n cL)
  s2 : w.cell? ⟨S, 2, none⟩ = some vT
  s3 : w.cell? ⟨S, 3, none⟩ = some vL
  fz : ∀ i, w.frozen? ⟨S, i, none⟩ = false
theorem heads {w : World} {D S Bd Bl n cD cL : Nat} {vT vL : Value} (h1 : w.heap[D]? = some (.cells #[.pointer (some ⟨S, 0, none⟩)] 105 (0, 0))) (h2 : w.heap[S]? = some (.cells #[.slice (some ⟨Bd, 0, none⟩) (n * 128) cD, .slice (some ⟨Bl, 0, none⟩) n cL, vT, vL] 109 (0, 0))) : Heads w D S Bd Bl n cD cL vT vL :=
  ⟨cells_at h1 0, cells_at h2 0, cells_at h2 1, cells_at h2 2, cells_at h2 3, fun i => cells_free h2 i⟩
end Go.Proofs.YtnaobkpncfbnaaaGreatDoor
