/-
  Data whose trees lie in blocks of one's own: they stay whatever goes on elsewhere; rows of them that grow.
  The program's reader: a piece.
-/
import Derived.Test.YtfobiknbjijphaaDoorGam
import Derived.Test.YtfobiknbjijphaaDoorGai
import Derived.Maps.AppendAt
import Derived.Test.YtfobiknbjijphaaDoorGao
namespace Go.Proofs.YtfobiknbjijphaaDoor
open Go.RowKit
set_option linter.unusedVariables false
set_option linter.unusedSimpArgs false

/-- Four cells of one block. -/
structure C4 (w : World) (g : Nat) (v0 v1 v2 v3 : Value) : Prop where
  c0 : w.cell? ⟨g, 0, none⟩ = some v0
  c1 : w.cell? ⟨g, 1, none⟩ = some v1
  c2 : w.cell? ⟨g, 2, none⟩ = some v2
  c3 : w.cell? ⟨g, 3, none⟩ = some v3
  f0 : w.frozen? ⟨g, 0, none⟩ = false
  f1 : w.frozen? ⟨g, 1, none⟩ = false
  f2 : w.frozen? ⟨g, 2, none⟩ = false
  f3 : w.frozen? ⟨g, 3, none⟩ = false
def D4 (w : World) (g : Nat) (v0 v1 v2 v3 : Value) : Prop := w.heap[g]? = some (.cells #[v0, v1, v2, v3] 34 (0, 0))
theorem D4.c4 {w : World} {g : Nat} {v0 v1 v2 v3 : Value} (e : D4 w g v0 v1 v2 v3) : C4 w g v0 v1 v2 v3 :=
  ⟨by rw [cells_at e 0]; rfl, by rw [cells_at e 1]; rfl, by rw [cells_at e 2]; rfl, by rw [cells_at e 3]; rfl, cells_free e 0, cells_free e 1, cells_free e 2, cells_free e 3⟩
def set4 (w : World) (g : Nat) (v0 v1 v2 v3 : Value) : World := (((w.setCell ⟨g, 0, none⟩ v0).setCell ⟨g, 1, none⟩ v1).setCell ⟨g, 2, none⟩ v2).setCell ⟨g, 3, none⟩ v3
theorem D4.set {w : World} {g : Nat} {v0 v1 v2 v3 : Value} (e : D4 w g v0 v1 v2 v3) (u0 u1 u2 u3 : Value) : D4 (set4 w g u0 u1 u2 u3) g u0 u1 u2 u3 :=
  heap_set_at (heap_set_at (heap_set_at (heap_set_at e u0) u1) u2) u3
theorem set4_other (w : World) {g k : Nat} (h : k ≠ g) (u0 u1 u2 u3 : Value) : (set4 w g u0 u1 u2 u3).heap[k]? = w.heap[k]? := by
  unfold set4
  rw [heap_set_other _ h, heap_set_other _ h, heap_set_other _ h, heap_set_other _ h]
theorem set4_part (w : World) (g : Nat) (u0 u1 u2 u3 : Value) : Part (fun k => k = g) w (set4 w g u0 u1 u2 u3) :=
  ⟨rfl, rfl, rfl, by simp [set4, World.setCell], fun k _ hn => set4_other w hn _ _ _ _⟩
theorem D4.part {w w' : World} {g : Nat} {v0 v1 v2 v3 : Value} {F : Nat → Prop} (e : D4 w g v0 v1 v2 v3) (h : Part F w w') (hg : ¬ F g) : D4 w' g v0 v1 v2 v3 :=
  (h.block g (Array.getElem?_eq_some_iff.1 e).1 hg).trans e
theorem D4.under {w w' : World} {g : Nat} {v0 v1 v2 v3 : Value} (e : D4 w g v0 v1 v2 v3) (h : Below w.heap.size w w') : D4 w' g v0 v1 v2 v3 :=
  (h.block g (Array.getElem?_eq_some_iff.1 e).1).trans e
theorem load_block {P : Program} {w : World} {b : Nat} {cs : Array Value} {t : TypeId} (hb : w.heap[b]? = some (.cells cs t (0, 0))) (n : Nat) (hn : n = cs.size) : (loadCellsFrom ⟨b, 0, none⟩ 0 n #[]).run P w = .ok cs w := by
  have h := run_loadCellsFrom (P := P) w ⟨b, 0, none⟩ (fun j => (cs[j]?).getD undef) n 0 #[] (fun j hj => by
    rw [Addr.add_lit, cells_at hb]
    simp
    rw [Array.getElem?_eq_getElem (by omega)]
    rfl)
  rw [h]
  congr 1
  apply Array.ext_getElem?
  intro i
  by_cases hi : i < n
  · simp [hi]
    rw [Array.getElem?_eq_getElem (by omega)]
    rfl
  · simp [hi]
    omega
theorem results_cell {P : Program} {f : Func} {tmps : Array Value} {w : World} {k n b : Nat} {t : TypeId} {cs : Array Value} (hr : f.results = #[.cell k t]) (ht : tmps.getD k undef = .pointer (some ⟨b, 0, none⟩)) (ha : (isAgg t).run P w = .ok true w) (hs : (sizeOf t).run P w = .ok n w) (hl : (loadCellsFrom ⟨b, 0, none⟩ 0 n #[]).run P w = .ok cs w) : (results f tmps).run P w = .ok (.agg cs) w := by
  unfold results
  rw [hr]
  have h0 : tmps[k]?.getD undef = .pointer (some ⟨b, 0, none⟩) := by simpa using ht
  have h1 : (asAddr (tmps[k]?.getD undef)).run P w = .ok ⟨b, 0, none⟩ w := by rw [h0]; rfl
  simp [loadVar, loadCells, h1, ha, hs, hl, Result.andThen]
theorem agg4 (w : World) : (isAgg 34).run Tryd.prog w = .ok true w := by simp [go_sem]
theorem size4 (w : World) : (sizeOf 34).run Tryd.prog w = .ok 4 w := by simp [go_sem]
/-- A datum is handed back out of its block. -/
theorem res4 {f : Func} {tmps : Array Value} {w : World} {k g : Nat} {v0 v1 v2 v3 : Value} (h : D4 w g v0 v1 v2 v3) (hr : f.results = #[.cell k 34]) (ht : tmps.getD k undef = .pointer (some ⟨g, 0, none⟩)) : (results f tmps).run Tryd.prog w = .ok (.agg #[v0, v1, v2, v3]) w :=
  results_cell hr ht (agg4 w) (size4 w) (load_block h 4 rfl)
/-- The world, but for the blocks that are below lo or are x. -/
def cutW (lo : Nat) (x : Option Nat) (w : World) : World := { w with heap := w.heap.mapIdx fun q o => if lo ≤ q ∧ some q ≠ x then o else .cells #[] 0 (0, 0) }
theorem cutW_cell {lo : Nat} {x : Option Nat} {w : World} {a : Addr} {u : Value} : (cutW lo x w).cell? a = some u ↔ (lo ≤ a.block ∧ some a.block ≠ x) ∧ w.cell? a = some u := by
  unfold World.cell? cutW
  simp only [Array.getElem?_mapIdx]
  cases h : w.heap[a.block]? with
  | none => simp
  | some o =>
    by_cases hc : lo ≤ a.block ∧ some a.block ≠ x
    · simp [hc]
    · rw [Option.map_some, if_neg hc]
      simp [hc]
theorem DAt.mono {w w' : World} {d : Dt} {v : Value} (h : DAt w d v) (hb : ∀ a u, w.cell? a = some u → w'.cell? a = some u) : DAt w' d v := by
  have hr : ∀ {a : Option Addr} {n : Nat} {X : Nat → Nat → Value}, RowAt w a n X → RowAt w' a n X := fun h hn => by
    obtain ⟨g, o, h1, h2⟩ := h hn
    exact ⟨g, o, h1, fun j hj i hi => hb _ _ (h2 j hj i hi)⟩
  induction h with
  | mk k t l m a b c c2 X Y hl hm ra rb sz ih1 ih2 => exact .mk k t l m a b c c2 X Y ih1 ih2 (hr ra) (hr rb) sz
theorem RowAt.mono {w w' : World} {a : Option Addr} {n : Nat} {X : Nat → Nat → Value} (h : RowAt w a n X) (hb : ∀ a u, w.cell? a = some u → w'.cell? a = some u) : RowAt w' a n X := fun hn => by
  obtain ⟨g, o, h1, h2⟩ := h hn
  exact ⟨g, o, h1, fun j hj i hi => hb _ _ (h2 j hj i hi)⟩
/-- A datum whose tree lies in blocks from lo on, and none in x. -/
def DS (lo : Nat) (x : Option Nat) (w : World) (d : Dt) (v : Value) : Prop := DAt (cutW lo x w) d v
/-- A row of data, likewise. -/
def SS (lo : Nat) (x : Option Nat) (w : World) (l : List Dt) (v : Value) : Prop :=
  ∃ a c X, v = .slice a l.length c ∧ (l.length ≤ c ∧ c ≤ 9223372036854775807) ∧ RowAt (cutW lo x w) a l.length X ∧ ∀ j (h : j < l.length), DS lo x w l[j] (vx X j)
/-- From one world to a later one: the blocks of the first part are as they were, and belong to the second part. -/
def Nx (lo : Nat) (x : Option Nat) (w : World) (lo' : Nat) (x' : Option Nat) (w' : World) : Prop := ∀ q, lo ≤ q → some q ≠ x → q < w.heap.size → w'.heap[q]? = w.heap[q]? ∧ lo' ≤ q ∧ some q ≠ x'
theorem Nx.cell {lo lo' : Nat} {x x' : Option Nat} {w w' : World} (h : Nx lo x w lo' x' w') : ∀ a u, (cutW lo x w).cell? a = some u → (cutW lo' x' w').cell? a = some u := fun a u hc => by
  rw [cutW_cell] at hc ⊢
  obtain ⟨h1, h2, h3⟩ := h a.block hc.1.1 hc.1.2 (World.block_lt_of_cell? w _ hc.2)
  exact ⟨⟨h2, h3⟩, (World.cell?_of_block h1).trans hc.2⟩
theorem DS.nx {lo lo' : Nat} {x x' : Option Nat} {w w' : World} {d : Dt} {v : Value} (h : DS lo x w d v) (n : Nx lo x w lo' x' w') : DS lo' x' w' d v := DAt.mono h n.cell
theorem SS.nx {lo lo' : Nat} {x x' : Option Nat} {w w' : World} {l : List Dt} {v : Value} (h : SS lo x w l v) (n : Nx lo x w lo' x' w') : SS lo' x' w' l v := by
  obtain ⟨a, c, X, h1, h2, h3, h4⟩ := h
  exact ⟨a, c, X, h1, h2, h3.mono n.cell, fun j hj => (h4 j hj).nx n⟩
theorem DS.at_ {lo : Nat} {x : Option Nat} {w : World} {d : Dt} {v : Value} (h : DS lo x w d v) : DAt w d v := DAt.mono h fun a u hc => (cutW_cell.1 hc).2
theorem DS.node {lo : Nat} {x : Option Nat} {w : World} {l m : List Dt} {v1 v2 : Value} (h1 : SS lo x w l v1) (h2 : SS lo x w m v2) (k : Int) (t : ByteArray) (ht : t.size ≤ 140737488355328) : DS lo x w (.node k t l m) (.agg #[.int .i64 k, .string t, v1, v2]) := by
  obtain ⟨a, c, X, rfl, e2, e3, e4⟩ := h1
  obtain ⟨b, c2, Y, rfl, f2, f3, f4⟩ := h2
  exact .mk k t l m a b c c2 X Y e4 f4 e3 f3 ⟨e2.1, e2.2, f2.1, f2.2, ht⟩
theorem DS.parts {lo : Nat} {x : Option Nat} {w : World} {d : Dt} {v : Value} (h : DS lo x w d v) : ∃ v1 v2, v = .agg #[.int .i64 d.kd, .string d.tx, v1, v2] ∧ SS lo x w d.its v1 ∧ SS lo x w d.tl v2 := by
  cases h with
  | mk k t l m a b c c2 X Y hl hm ra rb sz => exact ⟨_, _, rfl, ⟨a, c, X, rfl, ⟨sz.1, sz.2.1⟩, ra, hl⟩, ⟨b, c2, Y, rfl, ⟨sz.2.2.1, sz.2.2.2.1⟩, rb, hm⟩⟩
theorem SS.nil (lo : Nat) (x : Option Nat) (w : World) (a : Option Addr) (c : Nat) (hc : c ≤ 9223372036854775807) : SS lo x w [] (.slice a 0 c) :=
  ⟨a, c, fun _ _ => .nilIface, rfl, ⟨Nat.zero_le _, hc⟩, fun h => absurd h (by decide), fun j h => absurd h (Nat.not_lt_zero _)⟩
theorem DS.leaf (lo : Nat) (x : Option Nat) (w : World) (k : Int) (t : ByteArray) (ht : t.size ≤ 140737488355328) : DS lo x w (.node k t [] []) (.agg #[.int .i64 k, .string t, .slice none 0 0, .slice none 0 0]) :=
  DS.node (SS.nil lo x w none 0 (by decide)) (SS.nil lo x w none 0 (by decide)) k t ht
def rx (xs : List Value) (j i : Nat) : Value := xs[j * 4 + i]?.getD .nilIface
/-- A row of data in a slice of one's own. -/
def DRow (lo : Nat) (w : World) (v : Value) (ds : List Dt) : Prop := ∃ xs, w.ownsRow lo 34 4 v ds.length xs ∧ ∀ j (h : j < ds.length), DS lo v.ownBlock w ds[j] (vx (rx xs) j)
theorem DRow.nil (lo : Nat) (w : World) : DRow lo w (.slice none 0 0) [] := ⟨[], World.ownsRow_nil _ _ _ _, fun j h => absurd h (Nat.not_lt_zero _)⟩
/-- What went on elsewhere. -/
theorem DRow.keep {lo : Nat} {w w' : World} {v : Value} {ds : List Dt} (h : DRow lo w v ds) (hk : ∀ q, lo ≤ q → q < w.heap.size → w'.heap[q]? = w.heap[q]?) : DRow lo w' v ds := by
  obtain ⟨xs, h1, h2⟩ := h
  refine ⟨xs, ⟨h1.1, ?_⟩, fun j hj => (h2 j hj).nx fun q q1 q2 q3 => ⟨hk q q1 q3, q1, q2⟩⟩
  rcases h1.2 with e | ⟨g, cap, cur, e1, e2, e3, e4⟩
  · exact .inl e
  · exact .inr ⟨g, cap, cur, e1, e2, (hk g e2 (Array.getElem?_eq_some_iff.1 e3).1).trans e3, e4⟩
theorem DRow.ss {lo : Nat} {w : World} {v : Value} {ds : List Dt} (h : DRow lo w v ds) : SS lo none w ds v := by
  obtain ⟨xs, h1, h2⟩ := h
  have hn : Nx lo v.ownBlock w lo none w := fun q q1 q2 q3 => ⟨rfl, q1, by simp⟩
  rcases h1.2 with ⟨e1, e2⟩ | ⟨g, cap, cur, rfl, e2, e3, e4, e5, e6, e7⟩
  · have : ds = [] := List.length_eq_zero_iff.1 e2
    subst this
    rw [e1]
    exact SS.nil _ _ _ _ _ (by decide)
  · refine ⟨_, cap, rx xs, rfl, ⟨e4, e5⟩, fun _ => ⟨g, 0, rfl, fun j hj i hi => ?_⟩, fun j hj => (h2 j hj).nx hn⟩
    rw [cutW_cell]
    refine ⟨⟨e2, by simp⟩, ?_⟩
    have hl : j * 4 + i < xs.length := by rw [h1.1]; omega
    have := h1.cellAt (j * 4 + i) (by omega)
    rw [Nat.zero_add, this]
    unfold rx
    rw [List.getElem?_eq_getElem hl]
    rfl
theorem DRow.lt {lo : Nat} {w : World} {v : Value} {ds : List Dt} (h : DRow lo w v ds) : ∃ a c, v = .slice a ds.length c ∧ c ≤ 9223372036854775807 := by
  obtain ⟨a, c, X, h1, h2, _⟩ := h.ss
  exact ⟨a, c, h1, h2.2⟩
/-- It has grown by data whose values these are. -/
theorem DRow.more {lo : Nat} {w w' : World} {v v' : Value} {ds es : List Dt} {xs ys : List Value} (h1 : w.ownsRow lo 34 4 v ds.length xs) (h2 : ∀ j (h : j < ds.length), DS lo v.ownBlock w ds[j] (vx (rx xs) j))
    (k2 : ∀ j (h : j < es.length), DS lo v.ownBlock w es[j] (vx (rx ys) j)) (hy : ys.length = es.length * 4)
    (g1 : w'.ownsRow lo 34 4 v' (ds.length + es.length) (xs ++ ys)) (g2 : w.grownBy w' v.ownBlock) (g3 : v'.ownBlock = v.ownBlock ∨ v'.ownBlock = some w.heap.size) : DRow lo w' v' (ds ++ es) := by
  have hn : Nx lo v.ownBlock w lo v'.ownBlock w' := fun q q1 q2 q3 => ⟨g2.block q q3 q2, q1, by
    rcases g3 with e | e
    · rw [e]; exact q2
    · rw [e]; intro h; injection h with h; omega⟩
  refine ⟨xs ++ ys, by rw [List.length_append]; exact g1, fun j hj => ?_⟩
  have hlx := h1.1
  by_cases hlt : j < ds.length
  · have e : vx (rx (xs ++ ys)) j = vx (rx xs) j := by
      unfold vx rx
      rw [List.getElem?_append_left (by omega), List.getElem?_append_left (by omega), List.getElem?_append_left (by omega), List.getElem?_append_left (by omega)]
    rw [e, List.getElem_append_left hlt]
    exact (h2 j hlt).nx hn
  · have hj2 : j - ds.length < es.length := by rw [List.length_append] at hj; omega
    have hx : ∀ i, j * 4 + i - xs.length = (j - ds.length) * 4 + i := fun i => by omega
    have e : vx (rx (xs ++ ys)) j = vx (rx ys) (j - ds.length) := by
      unfold vx rx
      rw [List.getElem?_append_right (by omega), List.getElem?_append_right (by omega), List.getElem?_append_right (by omega), List.getElem?_append_right (by omega), hx, hx, hx, hx]
    rw [e, List.getElem_append_right (by omega)]
    exact (k2 _ hj2).nx hn
end Go.Proofs.YtfobiknbjijphaaDoor

namespace Go.Proofs.YtfobiknbjijphaaDoor
open Go.RowKit
set_option linter.unusedVariables false
set_option linter.unusedSimpArgs false

theorem stp_head {l : List UInt8} {y : UInt8} {r : List UInt8} (h : stp l = y :: r) : y ≠ 48 := by
  have := dw_head _ _ _ h
  simpa using this
theorem can_cn {s : List UInt8} (h : numP s) : canP (cnL s) ↔ (stp (dgT s)).length ≤ 200 := by
  have hd : ∀ c ∈ stp (dgT s), dgB c = true := fun c hc => h.2 c ((List.dropWhile_suffix _).subset hc)
  unfold cnL
  cases hs : stp (dgT s) with
  | nil =>
    rw [if_pos rfl]
    refine ⟨fun _ => Nat.zero_le _, fun _ => .inl ⟨by simp, by simp, fun c hc => ?_, fun _ => rfl⟩⟩
    have : c = 48 := by simpa using hc
    subst this
    exact (dgB_iff _).1 (by decide)
  | cons y r =>
    rw [if_neg (by simp)]
    rw [hs] at hd
    have h48 := stp_head hs
    have hg : digs (y :: r) ↔ (y :: r).length ≤ 200 := ⟨fun g => g.2.1, fun g => ⟨by simp, g, fun c hc => (dgB_iff _).1 (hd c hc), fun e => absurd (by simpa using e) h48⟩⟩
    split
    · rw [← hg]
      constructor
      · rintro (g | ⟨r2, e, g, _⟩)
        · have := g.2.2.1 45 (by simp)
          unfold isDg at this
          exact absurd this.1 (by decide)
        · injection e with _ e2
          rw [e2]; exact g
      · intro g
        exact .inr ⟨_, rfl, g, fun e => h48 (by simpa using e)⟩
    · rw [← hg]
      constructor
      · rintro (g | ⟨r2, e, g, _⟩)
        · exact g
        · injection e with e1 e2
          have := hd y (by simp)
          rw [e1] at this
          exact absurd this (by decide)
      · exact .inl
theorem Pt.set4_ {b g : Nat} {w wr : World} (h : Pt b w wr) (hg : w.heap.size ≤ g) (u0 u1 u2 u3 : Value) : Pt b w (set4 wr g u0 u1 u2 u3) :=
  Part.trans h (set4_part wr g u0 u1 u2 u3) (fun i hi e => by omega)
/-- A datum without items. -/
def LeafV (d : Dt) (v : Value) : Prop := ∃ k t, d = .node k t [] [] ∧ v = .agg #[.int .i64 k, .string t, .slice none 0 0, .slice none 0 0] ∧ t.size ≤ 1099511627777
/-- What piece answers. -/
def PcO (b : Nat) (s : ByteArray) (p o : Nat) (w : World) (e : Ending) (w' : World) : Prop :=
  (∃ d v q, e = .returned v ∧ Hid (atL ((rst s p).take (pcL (rst s p))) = .ok d ∧ rst s q = (rst s p).drop (pcL (rst s p)) ∧ Rr b s q o w' ∧ Pt b w w' ∧ LeafV d v)) ∨
  (∃ n, Pnc e ∧ Hid (atL ((rst s p).take (pcL (rst s p))) = .bad n ∧ Flt b s (s.size - p) n w' ∧ Pt b w w'))
theorem z4 : (4 : Nat) = 4 := rfl
set_option maxHeartbeats 4000000 in
theorem rd_piece {b : Nat} {s : ByteArray} {p o : Nat} {w : World} (h : Rr b s p o w) : Calls Tryd.prog 52 #[.pointer (some ⟨b, 0, none⟩)] w fun e w' => PcO b s p o w e w' := by
  obtain ⟨G, hG⟩ : ∃ G, w.heap.size = G := ⟨_, rfl⟩
  obtain ⟨W1, hW⟩ : ∃ W1, w.alloc (.cells #[.int .i64 0, .string ⟨#[]⟩, .slice none 0 0, .slice none 0 0] 34) = W1 := ⟨_, rfl⟩
  have hbG : b < G := by rw [← hG]; exact h.lt
  have hB1 : Below w.heap.size w W1 := by rw [← hW]; exact (Below.refl _ w).alloc (Nat.le_refl _) _
  have r1 : Rr b s p o W1 := h.under hB1
  have d1 : D4 W1 G (.int .i64 0) (.string ⟨#[]⟩) (.slice none 0 0) (.slice none 0 0) := by rw [← hW]; exact heap_alloc_at _ _ _ hG.symm
  obtain ⟨N, hN⟩ : ∃ N, pcL (rst s p) = N := ⟨_, rfl⟩
  have hNs : p + N ≤ s.size := by
    have := pcL_le (rst s p)
    have h2 := h.1.1
    rw [rst_len] at this
    omega
  have HE := hid (rd_end r1)
  obtain ⟨L, hL⟩ : ∃ L, (rst s p).take N = L := ⟨_, rfl⟩
  obtain ⟨T, hT⟩ : ∃ T, s.extract p (p + N) = T := ⟨_, rfl⟩
  have hTL : T.data.toList = L := by rw [← hT, ext_list, ← hL]; congr 1; omega
  have hTb : ba L = T := by rw [← hTL, ba_data]
  have hTs : T.size ≤ 1099511627776 := by
    have h2 := h.1.2.1
    rw [← hT]
    simp
    omega
  obtain ⟨q, hq⟩ : ∃ q, p + N = q := ⟨_, rfl⟩
  rw [hN, hq] at HE
  rw [hq] at hT
  have hqs : q ≤ s.size := by omega
  -- what is kept from here on
  have HK : Hid (∀ V, Below W1.heap.size (W1.setCell ⟨b, 1, none⟩ (.int .i64 (q : Int))) V → Rr b s q o V ∧ D4 V G (.int .i64 0) (.string ⟨#[]⟩) (.slice none 0 0) (.slice none 0 0) ∧ Pt b w V) := hid fun V hV => by
    have e1 : Rr b s q o (W1.setCell ⟨b, 1, none⟩ (.int .i64 (q : Int))) := r1.at_ q hqs
    have e2 : D4 (W1.setCell ⟨b, 1, none⟩ (.int .i64 (q : Int))) G (.int .i64 0) (.string ⟨#[]⟩) (.slice none 0 0) (.slice none 0 0) := by
      have := heap_set_other W1 (show G ≠ b by omega) 1 (.int .i64 (q : Int))
      exact this.trans d1
    have hsz : (W1.setCell ⟨b, 1, none⟩ (.int .i64 (q : Int))).heap.size = W1.heap.size := by simp [World.setCell]
    have hV' : Below (W1.setCell ⟨b, 1, none⟩ (.int .i64 (q : Int))).heap.size (W1.setCell ⟨b, 1, none⟩ (.int .i64 (q : Int))) V := by rw [hsz]; exact hV
    exact ⟨e1.under hV', e2.under hV', (Pt.set (Pt.ofB hB1) 1 _).trans_ (Pt.ofB hV')⟩
  have HO : Hid (∀ V d v, Rr b s q o V → Pt b w V → atL L = .ok d → LeafV d v → PcO b s p o w (.returned v) V) := hid fun V d v h1 h2 h3 h4 => by
    refine .inl ⟨d, v, q, rfl, ?_, ?_, h1, h2, h4⟩
    · rw [hN, hL]; exact h3
    · rw [hN, rst_drop, hq]
  have HX : Hid (∀ V n e, Pnc e → Flt b s (s.size - p) n V → Pt b w V → atL L = .bad n → PcO b s p o w e V) := hid fun V n e h1 h2 h3 h4 => .inr ⟨n, h1, by rw [hN, hL]; exact h4, h2, h3⟩
  have hat : Hid (∀ dt, ((T.toList == [35, 116]) || (T.toList == [35, 102])) = dt → ((dt = true → atL L = .ok (.node 2 T [] [])) ∧ (dt = false → (nameP T → atL L = .ok (.node 4 T [] [])) ∧ (¬ nameP T → (numP L → ((stp (dgT L)).length ≤ 200 → atL L = .ok (.node 1 (ba (cnL L)) [] [])) ∧ (¬ (stp (dgT L)).length ≤ 200 → atL L = .bad 91)) ∧ (¬ numP L → atL L = .bad 100))))) := hid fun dt e => by
    have e2 : (L = [35, 116] ∨ L = [35, 102]) ↔ dt = true := by
      rw [← e, Bool.or_eq_true, beq_iff_eq, beq_iff_eq, list_eq, hTL]
    unfold atL
    rw [hTb]
    refine ⟨fun h1 => if_pos (e2.2 h1), fun h1 => ?_⟩
    have hn : ¬ (L = [35, 116] ∨ L = [35, 102]) := fun h => by rw [e2.1 h] at h1; cases h1
    rw [if_neg hn]
    refine ⟨fun h2 => if_pos h2, fun h2 => ?_⟩
    rw [if_neg h2]
    exact ⟨fun h3 => by rw [if_pos h3]; exact ⟨fun h4 => if_pos h4, fun h4 => if_neg h4⟩, fun h3 => if_neg h3⟩
  have HTs := hid hTs
  have HTL := hid hTL
  obtain ⟨y0, y1, -, -, -, f1, -, -, -⟩ := r1.cells
  have l0 : (0 : Int) ≤ (p : Int) := by omega
  have l1 : (p : Int) ≤ (q : Int) := by omega
  have l2 : (q : Int) ≤ (s.size : Int) := by omega
  have lM : (s.size : Int) ≤ 1099511627776 := by have := h.1.2.1; omega
  have HP : Hid (p ≤ s.size ∧ b < G ∧ w.heap.size ≤ G) := hid ⟨h.1.1, hbG, by omega⟩
  clear h hbG hB1 r1 d1 hNs hL hTL hTb hTs hqs hN hq
  go_enter Tryd.func52, Tryd.ntmps52
  go_wp2_with fail
  try rw [hW]
  try rw [hG]
  try go_wp2_with fail
  refine HE.out.mono ?_
  rintro e w2 ⟨rfl, hw⟩
  obtain rfl : W1 = w2 := hw.symm
  clear hw HE hW
  go_wp2
  obtain ⟨k0, k1, -, -, -, -, -, -, -⟩ := (HK.out _ (Below.refl _ _)).1.cells
  have HB : Hid (∀ n, Below W1.heap.size (W1.setCell ⟨b, 1, none⟩ (.int .i64 (q : Int))) ((W1.setCell ⟨b, 1, none⟩ (.int .i64 (q : Int))).drewN n)) := hid fun n => blw_drewN n (Below.refl _ _)
  obtain ⟨dt, hdt⟩ : ∃ dt, ((T.toList == [35, 116]) || (T.toList == [35, 102])) = dt := ⟨_, rfl⟩
  have HTR := hid (fun V => dt_truth T V)
  simp only [hdt] at HTR
  have hat2 := hid (hat.out dt hdt)
  clear y0 y1 f1 hat hdt
  go_region
  all_goals
    try rw [hT]
    go_wp2_with fail
    refine (HTR.out _).mono ?_
    rintro e w2 ⟨rfl, hw⟩
    have HW := hid (HK.out w2 (by rw [hw]; exact HB.out 1))
    clear HTR hw HK HB k0 k1
    cases dt
    · have HE2 := hat2.out.2 rfl
      have HN := hid (dt_name T w2)
      clear hat2
      go_wp2_with fail
      refine HN.out.mono ?_
      clear HN
      rintro e w3 ⟨⟨nm, rfl, hnm⟩, hb3⟩
      have HW3 := hid (show Rr b s q o w3 ∧ D4 w3 G (.int .i64 0) (.string ⟨#[]⟩) (.slice none 0 0) (.slice none 0 0) ∧ Pt b w w3 from ⟨HW.out.1.under hb3.out, HW.out.2.1.under hb3.out, HW.out.2.2.trans_ (Pt.ofB hb3.out)⟩)
      clear hb3 HW
      cases nm
      · have HE3 := hid (HE2.2 (fun h => by have := hnm.2 h; cases this))
        have HD := hid (rd_digits T w3 HTs.out)
        clear hnm HE2
        go_wp2_with fail
        refine HD.out.mono ?_
        clear HD
        rintro e w4 ⟨hd, hb4⟩
        have HW4 := hid (show Rr b s q o w4 ∧ D4 w4 G (.int .i64 0) (.string ⟨#[]⟩) (.slice none 0 0) (.slice none 0 0) ∧ Pt b w w4 from ⟨HW3.out.1.under hb4.out, HW3.out.2.1.under hb4.out, HW3.out.2.2.trans_ (Pt.ofB hb4.out)⟩)
        clear hb4 HW3
        unfold DgO at hd
        rw [HTL.out] at hd
        rcases hd with ⟨hn, rfl⟩ | ⟨hn, rfl⟩
        · have HE4 := hid (HE3.out.1 hn)
          have HC := hid (nCan (ba (cnL L)) w4)
          have hcc : (ba (cnL L)).data.toList = cnL L := rfl
          rw [hcc] at HC
          have hcn := can_cn hn
          have hcs : (ba (cnL L)).size ≤ 1099511627777 := by
            have h1 := HTs.out
            have h2 := HTL.out
            have h3 := congrArg List.length h2
            rw [dlen] at h3
            have h4 : (cnL L).length ≤ L.length + 1 := by
              have h5 := stp_len (dgT L)
              have h6 : (dgT L).length ≤ L.length := by
                unfold dgT
                split
                · exact Nat.le_refl _
                · split
                  · simp
                  · exact Nat.le_refl _
              unfold cnL
              split
              · simp
              · split
                · simp; omega
                · omega
            show (cnL L).length ≤ _
            omega
          have hcz := hid hcs
          clear hcc hcs hn HE3
          obtain ⟨cn, hcne⟩ : ∃ cn, ba (cnL L) = cn := ⟨_, rfl⟩
          rw [hcne] at HC hcz HE4
          rw [hcne]
          go_wp2_with fail
          refine HC.out.mono ?_
          clear HC
          rintro e w5 ⟨⟨ok, rfl, hok⟩, rfl⟩
          have hq2 := hid (hok.trans hcn)
          clear hok hcn
          cases ok
          · have HE5 := hid (HE4.out.2 (fun h => by have := hq2.out.2 h; cases this))
            have HG := hid (rd_giveUp HW4.out.1 p 91 HP.out.1)
            clear HE4 hq2 
            go_wp2_with fail
            refine HG.out.mono ?_
            rintro e w6 ⟨⟨v, rfl⟩, hf, hp⟩
            have HF := hid (HX.out w6 91 (.panicked [{ v := .iface 44 v, recovered := false }]) ⟨v, rfl⟩ (hf.out 91 rfl) (HW4.out.2.2.trans_ hp.out) HE5.out)
            clear hf hp HG HX HO HE5
            go_wp2
            refine ⟨rfl, ?_⟩
            exact HF.out
          · have HE5 := hid (HE4.out.1 (hq2.out.1 rfl))
            obtain ⟨e0, e1, e2, e3, g0, g1, g2, g3⟩ := HW4.out.2.1.c4
            clear HE4 hq2
            go_wp2
            refine bodyPost_ret (v := .agg #[.int .i64 1, .string cn, .slice none 0 0, .slice none 0 0]) (res4 (HW4.out.2.1.set _ _ _ _) Tryd.results52 rfl) rfl ?_
            exact HO.out _ _ _ (HW4.out.1.part (set4_part w5 G _ _ _ _) (fun e => by have := HP.out.2.1; omega)) (Pt.set4_ HW4.out.2.2 HP.out.2.2 _ _ _ _) HE5.out ⟨_, _, rfl, rfl, hcz.out⟩
        · have HE5 := hid (HE3.out.2 hn)
          have HG := hid (rd_giveUp HW4.out.1 p 100 HP.out.1)
          clear HE3 hn
          go_wp2_with fail
          refine HG.out.mono ?_
          rintro e w6 ⟨⟨v, rfl⟩, hf, hp⟩
          have HF := hid (HX.out w6 100 (.panicked [{ v := .iface 44 v, recovered := false }]) ⟨v, rfl⟩ (hf.out 100 rfl) (HW4.out.2.2.trans_ hp.out) HE5.out)
          clear hf hp HG HX HO HE5
          go_wp2
          refine ⟨rfl, ?_⟩
          exact HF.out
      · have HE3 := hid (HE2.1 (hnm.1 rfl))
        obtain ⟨e0, e1, e2, e3, g0, g1, g2, g3⟩ := HW3.out.2.1.c4
        clear hnm HE2
        go_wp2
        refine bodyPost_ret (v := .agg #[.int .i64 4, .string T, .slice none 0 0, .slice none 0 0]) (res4 (HW3.out.2.1.set _ _ _ _) Tryd.results52 rfl) rfl ?_
        exact HO.out _ _ _ (HW3.out.1.part (set4_part w3 G _ _ _ _) (fun e => by have := HP.out.2.1; omega)) (Pt.set4_ HW3.out.2.2 HP.out.2.2 _ _ _ _) HE3.out ⟨_, _, rfl, rfl, by have := HTs.out; omega⟩
    · have HE2 := hid (hat2.out.1 rfl)
      obtain ⟨e0, e1, e2, e3, g0, g1, g2, g3⟩ := HW.out.2.1.c4
      clear hat2
      go_wp2
      refine bodyPost_ret (v := .agg #[.int .i64 2, .string T, .slice none 0 0, .slice none 0 0]) (res4 (HW.out.2.1.set _ _ _ _) Tryd.results52 rfl) rfl ?_
      exact HO.out _ _ _ (HW.out.1.part (set4_part w2 G _ _ _ _) (fun e => by have := HP.out.2.1; omega)) (Pt.set4_ HW.out.2.2 HP.out.2.2 _ _ _ _) HE2.out ⟨_, _, rfl, rfl, by have := HTs.out; omega⟩
end Go.Proofs.YtfobiknbjijphaaDoor
