/-
  Words for memory: what stays where other blocks change (Part), blocks of cells, a row of one's own.
  Contracts of datum's leaves: digits, bytes of names, names, truths; the document's, too.
-/
import Derived.WalkKit
import Derived.Deep.QuietTactic
import Derived.Test.YtpjgdpfpgpaenaaDoorProg
import Derived.Test.YtpjgdpfpgpaenaaDoorGae
import Derived.WalkLawsBesides
import Derived.WalkSpells
import Derived.Laws.AppendOwnNone
import Derived.Deep.RegionWith
import Derived.BigQuiet
import Derived.BigRegion
import Derived.Deep.OwnRows
import Derived.Maps.AppendAt
import Derived.OwnWalk
import Derived.Deep.RegionHeld
import Derived.Deep.RegionHeld2
import Derived.Test.YtpjgdpfpgpaenaaDoorGac
import Derived.Deep.DeepCutAuto
import Derived.Deep.CutBlock
import Derived.Lib.SlBytesConst
namespace Go.Proofs.YtpjgdpfpgpaenaaDoor
open Go.RowKit
set_option linter.unusedVariables false

/-- Of the blocks that are there only F's may change. -/
structure Part (F : Nat → Prop) (w w' : World) : Prop where
  os : w'.os = w.os
  tape : w'.tape = w.tape
  output : w'.output = w.output
  size : w.heap.size ≤ w'.heap.size
  block : ∀ k, k < w.heap.size → ¬ F k → w'.heap[k]? = w.heap[k]?
theorem Part.refl (F : Nat → Prop) (w : World) : Part F w w := ⟨rfl, rfl, rfl, Nat.le_refl _, fun _ _ _ => rfl⟩
theorem Part.trans {F G : Nat → Prop} {a b c : World} (h : Part F a b) (k : Part G b c) (hG : ∀ i, i < a.heap.size → G i → F i) : Part F a c :=
  ⟨k.os.trans h.os, k.tape.trans h.tape, k.output.trans h.output, Nat.le_trans h.size k.size, fun i hi hn => (k.block i (Nat.lt_of_lt_of_le hi h.size) (fun g => hn (hG i hi g))).trans (h.block i hi hn)⟩
theorem Part.mono {F G : Nat → Prop} {a b : World} (h : Part F a b) (hG : ∀ i, i < a.heap.size → F i → G i) : Part G a b :=
  ⟨h.os, h.tape, h.output, h.size, fun i hi hn => h.block i hi (fun g => hn (hG i hi g))⟩
theorem Part.ofBelow {F : Nat → Prop} {w w' : World} (h : Below w.heap.size w w') : Part F w w' := ⟨h.os, h.tape, h.output, h.size, fun k hk _ => h.block k hk⟩
theorem Part.below {F : Nat → Prop} {B : Nat} {w w' : World} (h : Part F w w') (hF : ∀ k, F k → B ≤ k) (hB : B ≤ w.heap.size) : Below B w w' :=
  ⟨h.os, h.tape, h.output, h.size, fun k hk => h.block k (by omega) (fun f => by have := hF k f; omega)⟩
theorem Part.alloc {F : Nat → Prop} {a w : World} (h : Part F a w) (o : Obj) : Part F a (w.alloc o) :=
  h.trans (Part.ofBelow (F := fun _ => False) ((Below.refl _ w).alloc (Nat.le_refl _) o)) (fun _ _ h => h.elim)
theorem Part.drewN {F : Nat → Prop} {a w : World} (h : Part F a w) (q : Nat) : Part F a (w.drewN q) := ⟨h.os, h.tape, h.output, h.size, h.block⟩
theorem Part.setCell {F : Nat → Prop} {a w : World} (h : Part F a w) {p : Addr} (hp : p.block < a.heap.size → F p.block) (u : Value) : Part F a (w.setCell p u) :=
  h.trans (G := fun k => k = p.block) ⟨rfl, rfl, rfl, by simp [World.setCell], fun k hk hn => Below.heap_setCell _ _ _ _ hn⟩ (fun i hi e => by rw [e] at hi ⊢; exact hp hi)
theorem Part.grown {F : Nat → Prop} {a w w' : World} {row : Option Nat} (h : Part F a w) (hg : w.grownBy w' row) (hr : ∀ k, row = some k → k < a.heap.size → F k) : Part F a w' :=
  h.trans (G := fun k => row = some k) ⟨hg.os, hg.tape, hg.output, hg.size, fun k hk hn => hg.block k hk (fun e => hn e.symm)⟩ (fun i hi e => hr i e hi)
theorem Part.cell {F : Nat → Prop} {w w' : World} (h : Part F w w') {p : Addr} {v : Value} (hp : ¬ F p.block) (hc : w.cell? p = some v) : w'.cell? p = some v := by
  rw [World.cell?_of_block (w := w) (h.block p.block (World.block_lt_of_cell? w _ hc) hp)]; exact hc
theorem Part.row {F : Nat → Prop} {w w' : World} {B : Nat} {e : TypeId} {sz : Nat} {v : Value} {n : Nat} {xs : List Value} (h : Part F w w') (ho : w.ownsRow B e sz v n xs) (hn : ∀ k, v.ownBlock = some k → ¬ F k) : w'.ownsRow B e sz v n xs := by
  have hlt := World.ownsRow.lt ho
  refine ⟨ho.1, ?_⟩
  rcases ho.2 with h2 | ⟨g, cap, cur, h1, h2, h3, h4⟩
  · exact .inl h2
  · subst h1
    exact .inr ⟨g, cap, cur, rfl, h2, by rw [h.block g (hlt g rfl).2 (hn g rfl)]; exact h3, h4⟩
theorem cells_at {w : World} {g : Nat} {cs : Array Value} {t : TypeId} (h : w.heap[g]? = some (.cells cs t (0, 0))) (i : Nat) : w.cell? ⟨g, i, none⟩ = cs[i]? := by
  simp [World.cell?, h]
theorem cells_free {w : World} {g : Nat} {cs : Array Value} {t : TypeId} (h : w.heap[g]? = some (.cells cs t (0, 0))) (i : Nat) : w.frozen? ⟨g, i, none⟩ = false := by
  simp [World.frozen?, h]
theorem heap_set_other (w : World) {g k : Nat} (h : k ≠ g) (i : Nat) (v : Value) : (w.setCell ⟨g, i, none⟩ v).heap[k]? = w.heap[k]? := Below.heap_setCell w ⟨g, i, none⟩ v k h
theorem row_set {w : World} {B : Nat} {e : TypeId} {sz : Nat} {v : Value} {n : Nat} {xs : List Value} (h : w.ownsRow B e sz v n xs) {g : Nat} (hk : v.ownBlock ≠ some g) (i : Nat) (u : Value) : (w.setCell ⟨g, i, none⟩ u).ownsRow B e sz v n xs := by
  refine ⟨h.1, ?_⟩
  rcases h.2 with h2 | ⟨g', cap, cur, rfl, h2, h3, h4⟩
  · exact .inl h2
  · exact .inr ⟨g', cap, cur, rfl, h2, by rw [heap_set_other w (fun e => hk (by rw [← e]; rfl))]; exact h3, h4⟩
theorem row_heap {w w' : World} {B : Nat} {e : TypeId} {sz : Nat} {v : Value} {n : Nat} {xs : List Value} (h : w.ownsRow B e sz v n xs) (hh : w'.heap = w.heap) : w'.ownsRow B e sz v n xs := by
  unfold World.ownsRow at *
  rw [hh]; exact h

/-- append onto a slice of the call's own, as one step of a region that draws. -/
theorem step_append_own_at {P : Program} {ops : Array Oper} {o : Oper} {a : Act} {w : World} {K : Act → World → Prop} {Q : Exit → Act → World → Prop} {E : Prop}
    (hg : o.guard = none) (s x : Operand) (t : TypeId) (hop : o.op = Op.call { callee := Callee.builtin Builtin.append, args := #[s, x], argTypes := #[t, t] })
    (base : Nat) (e : TypeId) (i : TypeInfo) (z : Value) (size bytes : Nat) (ht : P.underlying t = some (.slice e)) (hi : P.info? e = some i) (hz : i.zero = some z)
    (hsize : i.size = size) (hby : i.bytes = bytes) (hzs : z.cells.size = size) (hsz : 0 < size)
    (v : Value) (n : Nat) (xs : List Value) (hs : a.eval s = v) (hown : w.ownsRow base e size v n xs)
    (ad : Addr) (m c : Nat) (news : List Value) (hx : a.eval x = .slice (some ad) m c) (hl : news.length = m * size) (hnews : ∀ j u, news[j]? = some u → w.cell? (ad.add j) = some u) (h1 : ∀ u ∈ news, u.oneCell' = true)
    (h63 : n + m ≤ maxLen) (hbytes : (n + m) * bytes ≤ 140737488355328) (hbase : base ≤ w.heap.size)
    (h : ∀ v' w', w'.ownsRow base e size v' (n + m) (xs ++ news) → w.grownBy w' v.ownBlock → (v'.ownBlock = v.ownBlock ∨ v'.ownBlock = some w.heap.size) → K (a.put o.dst v') w') :
    if Region.wanted o (yielded ops a.tmps) = true then Oper.wp P o a w K Q else E := by
  have hw : Region.wanted o (yielded ops a.tmps) = true := by simp [Region.wanted, hg]
  rw [if_pos hw]
  obtain ⟨v', w', hr, h2, h3, h4, h5⟩ := run_append_own_at (P := P) w base t o.type e i z size bytes ht hi hz hsize hby hzs hsz v n xs hown ad m c news hl hnews h1 h63 hbytes hbase
  unfold Oper.wp execOp
  simp only [hop, resolve, invoke, builtin, Sem.run_bind, Sem.run_pure, Result.andThen_ok, List.map_toArray, List.map_cons, List.map_nil, hs, hx, hr]
  exact h v' w' h2 h3 h5

theorem heap_alloc_at (w : World) (o : Obj) (k : Nat) (h : k = w.heap.size) : (w.alloc o).heap[k]? = some o := by subst h; show (w.heap.push o)[w.heap.size]? = some o; simp
theorem grown_drew {w w' : World} {r : Option Nat} (h : w.drew.grownBy w' r) : w.grownBy w' r := ⟨h.os, h.tape, h.output, h.size, h.block⟩
theorem heap_setCell_same (w : World) (T i : Nat) (cs : Array Value) (t : TypeId) (v : Value) (h : w.heap[T]? = some (.cells cs t (0, 0))) : (w.setCell ⟨T, i, none⟩ v).heap[T]? = some (.cells (cs.setIfInBounds i v) t (0, 0)) := by
  simp [World.setCell, Array.getElem?_modify, h]
theorem heap_set_at {w : World} {T i : Nat} {cs : Array Value} {t : TypeId} (h : w.heap[T]? = some (.cells cs t (0, 0))) (v : Value) : (w.setCell ⟨T, i, none⟩ v).heap[T]? = some (.cells (cs.setIfInBounds i v) t (0, 0)) := by
  rw [heap_setCell_same w T i cs t v h]
end Go.Proofs.YtpjgdpfpgpaenaaDoor

namespace Go.Proofs.YtpjgdpfpgpaenaaDoor
open Go.RowKit
set_option linter.unusedVariables false

def dgB (c : UInt8) : Bool := decide (48 ≤ c.toNat) && decide (c.toNat ≤ 57)
theorem dgB_iff (c : UInt8) : dgB c = true ↔ isDg c := by unfold dgB isDg; simp
theorem dt_digit (c : UInt8) (w : World) : Calls Tryd.prog 60 #[.int .u8 (c.toNat : Int)] w fun e w' => e = .returned (.bool (dgB c)) ∧ w' = w := by
  have hb : dgB c = (decide (48 ≤ c.toNat) && decide (c.toNat ≤ 57)) := rfl
  by_cases h1 : 48 ≤ c.toNat
  · by_cases h2 : c.toNat ≤ 57
    · rw [decide_eq_true h1, decide_eq_true h2] at hb
      rw [hb]
      have d1 : (48 : Int) ≤ (c.toNat : Int) := by omega
      have d2 : (c.toNat : Int) ≤ 57 := by omega
      clear h1 h2 hb
      go_enter Tryd.func60, Tryd.ntmps60
      go_wp2
      go_ret
      exact ⟨rfl, rfl⟩
    · rw [decide_eq_true h1, decide_eq_false h2] at hb
      rw [hb]
      have d1 : (48 : Int) ≤ (c.toNat : Int) := by omega
      have d2 : ¬ (c.toNat : Int) ≤ 57 := by omega
      clear h1 h2 hb
      go_enter Tryd.func60, Tryd.ntmps60
      go_wp2
      go_ret
      exact ⟨rfl, rfl⟩
  · rw [decide_eq_false h1] at hb
    rw [hb]
    have d1 : ¬ (48 : Int) ≤ (c.toNat : Int) := by omega
    clear h1 hb
    go_enter Tryd.func60, Tryd.ntmps60
    go_wp2
    go_ret
    exact ⟨rfl, rfl⟩
theorem z_digit (c : UInt8) (w : World) : Calls Tryd.prog 37 #[.int .u8 (c.toNat : Int)] w fun e w' => e = .returned (.bool (dgB c)) ∧ w' = w := by
  have hb : dgB c = (decide (48 ≤ c.toNat) && decide (c.toNat ≤ 57)) := rfl
  by_cases h1 : 48 ≤ c.toNat
  · by_cases h2 : c.toNat ≤ 57
    · rw [decide_eq_true h1, decide_eq_true h2] at hb
      rw [hb]
      have d1 : (48 : Int) ≤ (c.toNat : Int) := by omega
      have d2 : (c.toNat : Int) ≤ 57 := by omega
      clear h1 h2 hb
      go_enter Tryd.func37, Tryd.ntmps37
      go_wp2
      go_ret
      exact ⟨rfl, rfl⟩
    · rw [decide_eq_true h1, decide_eq_false h2] at hb
      rw [hb]
      have d1 : (48 : Int) ≤ (c.toNat : Int) := by omega
      have d2 : ¬ (c.toNat : Int) ≤ 57 := by omega
      clear h1 h2 hb
      go_enter Tryd.func37, Tryd.ntmps37
      go_wp2
      go_ret
      exact ⟨rfl, rfl⟩
  · rw [decide_eq_false h1] at hb
    rw [hb]
    have d1 : ¬ (48 : Int) ≤ (c.toNat : Int) := by omega
    clear h1 hb
    go_enter Tryd.func37, Tryd.ntmps37
    go_wp2
    go_ret
    exact ⟨rfl, rfl⟩
/-- The signs that may stand in a name. -/
def marksL : List UInt8 := [33, 36, 37, 38, 42, 47, 58, 60, 61, 62, 63, 94, 95, 126, 43, 45, 46, 64]
def markB (c : UInt8) : Bool := marksL.contains c
def letB (c : UInt8) : Bool := (decide (97 ≤ c.toNat) && decide (c.toNat ≤ 122)) || (decide (65 ≤ c.toNat) && decide (c.toNat ≤ 90))
/-- A byte that may stand in a name. -/
def partB (c : UInt8) : Bool := letB c || (dgB c || markB c)
theorem all256 {p : UInt8 → Prop} (h : ∀ i : Fin 256, p (UInt8.ofNat i.val)) (c : UInt8) : p c := by
  have := h ⟨c.toNat, c.toNat_lt⟩
  simpa using this
theorem mark_idx (c : UInt8) : decide (0 ≤ Lib.indexByte marksL c) = markB c := all256 (p := fun c => decide (0 ≤ Lib.indexByte marksL c) = markB c) (by decide +kernel) c
theorem let_or (c : UInt8) : letB c = (decide (97 ≤ (c ||| 32).toNat) && decide ((c ||| 32).toNat ≤ 122)) := all256 (p := fun c => letB c = (decide (97 ≤ (c ||| 32).toNat) && decide ((c ||| 32).toNat ≤ 122))) (by decide +kernel) c
theorem or_bits (c : UInt8) : Go.bits .or .u8 (c.toNat : Int) 32 = (((c ||| 32).toNat : Nat) : Int) := all256 (p := fun c => Go.bits .or .u8 (c.toNat : Int) 32 = (((c ||| 32).toNat : Nat) : Int)) (by decide +kernel) c
theorem dt_in (c : UInt8) (w : World) : Calls Tryd.prog 57 #[.int .u8 (c.toNat : Int)] w fun e w' => e = .returned (.bool (partB c)) ∧ w' = w := by
  have HD : Hid (∀ w, Calls Tryd.prog 60 #[.int .u8 (c.toNat : Int)] w fun e w' => e = .returned (.bool (dgB c)) ∧ w' = w) := fun w => dt_digit c w
  have HX : Hid (∀ w, Calls Tryd.prog 61 #[.string ⟨#[33, 36, 37, 38, 42, 47, 58, 60, 61, 62, 63, 94, 95, 126, 43, 45, 46, 64]⟩, .int .u8 (c.toNat : Int)] w fun e w' => e = .returned (.int .i64 (Lib.indexByte marksL c)) ∧ w' = w) := fun w => by
    have := Tryd.strings_IndexByte ⟨#[33, 36, 37, 38, 42, 47, 58, 60, 61, 62, 63, 94, 95, 126, 43, 45, 46, 64]⟩ (c.toNat : Int) w
    rw [show ((c.toNat : Int).toNat.toUInt8) = c by simp] at this
    exact this
  have hx := mark_idx c
  have hb : partB c = (letB c || (dgB c || markB c)) := rfl
  rw [let_or] at hb
  have ho := or_bits c
  generalize (c ||| 32).toNat = q at *
  generalize Lib.indexByte marksL c = ix at *
  by_cases h1 : 97 ≤ q
  · by_cases h2 : q ≤ 122
    · rw [decide_eq_true h1, decide_eq_true h2] at hb
      have hb : partB c = true := hb
      rw [hb]
      have d1 : (97 : Int) ≤ (q : Int) := by omega
      have d2 : (q : Int) ≤ 122 := by omega
      clear h1 h2 hb hx
      go_enter Tryd.func57, Tryd.ntmps57
      go_wp2
      go_ret
      exact ⟨rfl, rfl⟩
    · rw [decide_eq_true h1, decide_eq_false h2] at hb
      have hb : partB c = (dgB c || markB c) := hb
      rw [hb, ← hx]
      have d1 : (97 : Int) ≤ (q : Int) := by omega
      have d2 : ¬ (q : Int) ≤ 122 := by omega
      clear h1 h2 hb hx
      go_enter Tryd.func57, Tryd.ntmps57
      go_wp2_with fail
      refine (HD.out w).mono ?_
      rintro r w1 ⟨rfl, hw⟩
      obtain rfl : w = w1 := hw.symm
      cases hd : dgB c
      · go_wp2_with fail
        refine (HX.out w).mono ?_
        rintro r w1 ⟨rfl, hw⟩
        obtain rfl : w = w1 := hw.symm
        go_wp2
        go_ret
        exact ⟨by rw [hd]; rfl, rfl⟩
      · go_wp2
        go_ret
        exact ⟨by rw [hd]; rfl, rfl⟩
  · rw [decide_eq_false h1] at hb
    have hb : partB c = (dgB c || markB c) := hb
    rw [hb, ← hx]
    have d1 : ¬ (97 : Int) ≤ (q : Int) := by omega
    clear h1 hb hx
    go_enter Tryd.func57, Tryd.ntmps57
    go_wp2_with fail
    refine (HD.out w).mono ?_
    rintro r w1 ⟨rfl, hw⟩
    obtain rfl : w = w1 := hw.symm
    cases hd : dgB c
    · go_wp2_with fail
      refine (HX.out w).mono ?_
      rintro r w1 ⟨rfl, hw⟩
      obtain rfl : w = w1 := hw.symm
      go_wp2
      go_ret
      exact ⟨by rw [hd]; rfl, rfl⟩
    · go_wp2
      go_ret
      exact ⟨by rw [hd]; rfl, rfl⟩
theorem let_two (c : UInt8) : partB c = (dgB c || ((decide (97 ≤ c.toNat) && decide (c.toNat ≤ 122)) || ((decide (65 ≤ c.toNat) && decide (c.toNat ≤ 90)) || markB c))) := all256 (p := fun c => partB c = (dgB c || ((decide (97 ≤ c.toNat) && decide (c.toNat ≤ 122)) || ((decide (65 ≤ c.toNat) && decide (c.toNat ≤ 90)) || markB c)))) (by decide +kernel) c
/-- The signs, told by a function. -/
def mk (j : Nat) : UInt8 := marksL.getD j 0
theorem mark_no (c : UInt8) (h : ∀ j, j < 18 → mk j ≠ c) : markB c = false := by
  unfold markB
  rw [Bool.eq_false_iff]
  intro e
  obtain ⟨j, hj, e2⟩ := List.getElem_of_mem (List.contains_iff_mem.1 e)
  have hl : marksL.length = 18 := rfl
  refine h j (by omega) ?_
  unfold mk
  rw [List.getD_eq_getElem?_getD, List.getElem?_eq_getElem hj]
  exact e2
theorem mark_yes (c : UInt8) (j : Nat) (hj : j < 18) (h : mk j = c) : markB c = true := by
  have hl : marksL.length = 18 := rfl
  unfold markB
  rw [List.contains_iff_mem]
  unfold mk at h
  rw [List.getD_eq_getElem?_getD, List.getElem?_eq_getElem (by omega)] at h
  exact h ▸ List.getElem_mem _
theorem marks_len : marksL.length = 18 := rfl
theorem mark_cells (w1 : World) (o : Obj) (ho : o = Obj.cells #[.int .u8 33, .int .u8 36, .int .u8 37, .int .u8 38, .int .u8 42, .int .u8 47, .int .u8 58, .int .u8 60, .int .u8 61, .int .u8 62, .int .u8 63, .int .u8 94, .int .u8 95, .int .u8 126, .int .u8 43, .int .u8 45, .int .u8 46, .int .u8 64] 5 (18, 19)) : ∀ j, j < 18 → (w1.alloc o).cell? ⟨w1.heap.size, j, none⟩ = some (.int .u8 ((mk j).toNat : Int)) := fun j hj => by
  rw [ho, World.cell?_alloc_mark]
  have hr : j = 0 ∨ j = 1 ∨ j = 2 ∨ j = 3 ∨ j = 4 ∨ j = 5 ∨ j = 6 ∨ j = 7 ∨ j = 8 ∨ j = 9 ∨ j = 10 ∨ j = 11 ∨ j = 12 ∨ j = 13 ∨ j = 14 ∨ j = 15 ∨ j = 16 ∨ j = 17 := by omega
  rcases hr with rfl | rfl | rfl | rfl | rfl | rfl | rfl | rfl | rfl | rfl | rfl | rfl | rfl | rfl | rfl | rfl | rfl | rfl <;> rfl
set_option maxRecDepth 100000 in
set_option maxHeartbeats 2000000 in
theorem z_part (c : UInt8) (w : World) : Calls Tryd.prog 38 #[.int .u8 (c.toNat : Int)] w fun e w' => e = .returned (.bool (partB c)) ∧ Below w.heap.size w w' := by
  have HD : Hid (Calls Tryd.prog 37 #[.int .u8 (c.toNat : Int)] w fun e w' => e = .returned (.bool (dgB c)) ∧ w' = w) := z_digit c w
  have hb0 := let_two c
  cases hd : dgB c
  · rw [hd] at hb0 HD
    clear hd
    by_cases h1 : 97 ≤ c.toNat ∧ c.toNat ≤ 122
    · rw [decide_eq_true h1.1, decide_eq_true h1.2] at hb0
      have hb : Hid (partB c = true) := hb0
      rw [hb.out]
      have d1 : (97 : Int) ≤ (c.toNat : Int) := by omega
      have d2 : (c.toNat : Int) ≤ 122 := by omega
      clear h1 hb0 hb
      go_enter Tryd.func38, Tryd.ntmps38
      go_wp2_with fail
      refine HD.out.mono ?_
      rintro r w1 ⟨rfl, hw⟩
      obtain rfl : w = w1 := hw.symm
      clear hw HD
      go_wp2
      go_ret
      exact ⟨rfl, Below.refl _ _⟩
    · by_cases h2 : 65 ≤ c.toNat ∧ c.toNat ≤ 90
      · have hb : partB c = true := by
          rw [hb0, decide_eq_true h2.1, decide_eq_true h2.2]
          simp
        rw [hb]
        have d3 : (65 : Int) ≤ (c.toNat : Int) := by omega
        have d4 : (c.toNat : Int) ≤ 90 := by omega
        have d1 : ¬ (97 : Int) ≤ (c.toNat : Int) := by omega
        clear h1 h2 hb0 hb
        go_enter Tryd.func38, Tryd.ntmps38
        go_wp2_with fail
        refine HD.out.mono ?_
        rintro r w1 ⟨rfl, hw⟩
        obtain rfl : w = w1 := hw.symm
        clear hw HD
        go_wp2
        go_ret
        exact ⟨rfl, Below.refl _ _⟩
      · have hb : partB c = markB c := by
          have e1 : (decide (97 ≤ c.toNat) && decide (c.toNat ≤ 122)) = false := by
            rw [Bool.eq_false_iff]; intro e; simp at e; exact h1 e
          have e2 : (decide (65 ≤ c.toNat) && decide (c.toNat ≤ 90)) = false := by
            rw [Bool.eq_false_iff]; intro e; simp at e; exact h2 e
          rw [hb0, e1, e2]
          rfl
        rw [hb]
        have hcl : ((decide ((97 : Int) ≤ (c.toNat : Int)) && decide ((c.toNat : Int) ≤ 122)) = false) ∧ ((decide ((65 : Int) ≤ (c.toNat : Int)) && decide ((c.toNat : Int) ≤ 90)) = false) := by
          constructor
          · rw [Bool.eq_false_iff]; intro e; simp only [Bool.and_eq_true, decide_eq_true_eq] at e; exact h1 (by omega)
          · rw [Bool.eq_false_iff]; intro e; simp only [Bool.and_eq_true, decide_eq_true_eq] at e; exact h2 (by omega)
        have HM : Hid (∀ o, o = Obj.cells #[.int .u8 33, .int .u8 36, .int .u8 37, .int .u8 38, .int .u8 42, .int .u8 47, .int .u8 58, .int .u8 60, .int .u8 61, .int .u8 62, .int .u8 63, .int .u8 94, .int .u8 95, .int .u8 126, .int .u8 43, .int .u8 45, .int .u8 46, .int .u8 64] 5 (18, 19) → (∀ j, j < 18 → (w.alloc o).cell? ⟨w.heap.size, j, none⟩ = some (.int .u8 ((mk j).toNat : Int))) ∧ Below w.heap.size w (w.alloc o)) := fun o ho => ⟨mark_cells w o ho, (Below.refl _ w).alloc (Nat.le_refl _) o⟩
        have HN : Hid ((∀ j, j < 18 → mk j ≠ c) → markB c = false) := mark_no c
        have HY : Hid (∀ j, j < 18 → mk j = c → markB c = true) := mark_yes c
        obtain ⟨mb, hmb⟩ : ∃ mb, markB c = mb := ⟨_, rfl⟩
        rw [hmb] at HN HY ⊢
        have hcase : decide ((97 : Int) ≤ (c.toNat : Int)) = false ∨ (decide ((97 : Int) ≤ (c.toNat : Int)) = true ∧ decide ((c.toNat : Int) ≤ 122) = false) := by
          by_cases h : (97 : Int) ≤ (c.toNat : Int)
          · exact .inr ⟨decide_eq_true h, decide_eq_false (by omega)⟩
          · exact .inl (decide_eq_false h)
        have hcase2 : decide ((65 : Int) ≤ (c.toNat : Int)) = false ∨ (decide ((65 : Int) ≤ (c.toNat : Int)) = true ∧ decide ((c.toNat : Int) ≤ 90) = false) := by
          by_cases h : (65 : Int) ≤ (c.toNat : Int)
          · exact .inr ⟨decide_eq_true h, decide_eq_false (by omega)⟩
          · exact .inl (decide_eq_false h)
        have hcv : (convert 27 27 (.slice (some ⟨w.heap.size, 0, none⟩) 18 18)).run Tryd.prog (w.alloc (.cells #[.int .u8 33, .int .u8 36, .int .u8 37, .int .u8 38, .int .u8 42, .int .u8 47, .int .u8 58, .int .u8 60, .int .u8 61, .int .u8 62, .int .u8 63, .int .u8 94, .int .u8 95, .int .u8 126, .int .u8 43, .int .u8 45, .int .u8 46, .int .u8 64] 5)) = .ok (.slice (some ⟨w.heap.size, 0, none⟩) 18 18) (w.alloc (.cells #[.int .u8 33, .int .u8 36, .int .u8 37, .int .u8 38, .int .u8 42, .int .u8 47, .int .u8 58, .int .u8 60, .int .u8 61, .int .u8 62, .int .u8 63, .int .u8 94, .int .u8 95, .int .u8 126, .int .u8 43, .int .u8 45, .int .u8 46, .int .u8 64] 5 (18, 19))) := Lib.run_convert_bytes_const w 27 5 _ 18 18 Tryd.underlying27 Tryd.underlying5
        clear h1 h2 hb hb0 hcl hmb
        go_enter Tryd.func38, Tryd.ntmps38
        go_wp2_with fail
        refine HD.out.mono ?_
        rintro r w1 ⟨rfl, hw⟩
        obtain rfl : w = w1 := hw.symm
        clear hw HD
        rcases hcase with c1 | ⟨c1, c2⟩ <;> rcases hcase2 with c3 | ⟨c3, c4⟩
        all_goals
          go_wp2_with fail
          obtain ⟨wv, hwv⟩ : ∃ wv, w.alloc (Obj.cells #[.int .u8 33, .int .u8 36, .int .u8 37, .int .u8 38, .int .u8 42, .int .u8 47, .int .u8 58, .int .u8 60, .int .u8 61, .int .u8 62, .int .u8 63, .int .u8 94, .int .u8 95, .int .u8 126, .int .u8 43, .int .u8 45, .int .u8 46, .int .u8 64] 5 (18, 19)) = wv := ⟨_, rfl⟩
          obtain ⟨HC, HB⟩ := HM.out _ rfl
          rw [hwv] at HC HB ⊢
          have HC : Hid (∀ j, j < 18 → wv.cell? ⟨w.heap.size, j, none⟩ = some (.int .u8 ((mk j).toNat : Int))) := HC
          have HB : Hid (Below w.heap.size w wv) := HB
          obtain ⟨G, hG⟩ : ∃ G, w.heap.size = G := ⟨_, rfl⟩
          rw [hG] at HC ⊢
          clear HM hwv hG c1 c3
          go_loopw [26] (fun i wr => ∃ k : Nat, k ≤ 18 ∧ i = .int .i64 (k : Int) ∧ Hid (∀ j, j < k → mk j ≠ c) ∧ wr = wv) (fun i _ => 18 - (intOf i).toNat)
          case atStart => exact ⟨0, Nat.zero_le _, rfl, fun j hj => absurd hj (by omega), rfl⟩
          case round =>
            obtain ⟨k, hk, rfl, HJ, hw⟩ := hrel
            obtain rfl : wv = wr := hw.symm
            clear hw
            by_cases hlt : k < 18
            · have hc := HC.out k hlt
              have l1 : (k : Int) < 18 := by omega
              have l2 : (0 : Int) ≤ (k : Int) := by omega
              by_cases he : mk k = c
              · have hm := HY.out k hlt he
                have d1 : (((mk k).toNat : Int) == (c.toNat : Int)) = true := by rw [he]; simp
                have hm : Hid (mb = true) := hm
                clear he
                go_wp2
                go_ret
                exact ⟨by rw [hm.out]; rfl, HB.out⟩
              · have HF : Hid (∀ j, j < k + 1 → mk j ≠ c) := fun j hj => by
                  by_cases h : j < k
                  · exact HJ.out j h
                  · obtain rfl : j = k := by omega
                    exact he
                have d1 : (((mk k).toNat : Int) == (c.toNat : Int)) = false := by
                  rw [Bool.eq_false_iff]
                  intro e
                  refine he ?_
                  have e : ((mk k).toNat : Int) = (c.toNat : Int) := by simpa using e
                  exact UInt8.toNat_inj.1 (by omega)
                clear he
                go_wp2
                go_roundw
                case rel => exact ⟨k + 1, by omega, by go_num, HF, trivial⟩
                case measure => simp [intOf]; omega
            · obtain rfl : k = 18 := by omega
              have hm : Hid (mb = false) := HN.out HJ.out
              go_wp2
              go_ret
              exact ⟨by rw [hm.out]; rfl, HB.out⟩
  · rw [hd] at hb0 HD
    have hb : Hid (partB c = true) := hb0
    rw [hb.out]
    clear hb0 hb
    go_enter Tryd.func38, Tryd.ntmps38
    go_wp2_with fail
    refine HD.out.mono ?_
    rintro r w1 ⟨rfl, hw⟩
    obtain rfl : w = w1 := hw.symm
    clear hw HD
    go_wp2
    go_ret
    exact ⟨rfl, Below.refl _ _⟩
end Go.Proofs.YtpjgdpfpgpaenaaDoor
