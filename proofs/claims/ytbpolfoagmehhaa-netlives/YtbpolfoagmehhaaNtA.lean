/-
  A net as it stands in memory (Nt: the program's, or the document's), its messages; what stays where other blocks change.
-/
import Derived.Test.YtbpolfoagmehhaaSl
import Derived.Test.YtbpolfoagmehhaaHpM
import Derived.Deep.DeepCutAuto
import Derived.Deep.RegionLaw
import Derived.StillTailTactics
namespace Go.Proofs.Ytbpolfoagmehhaa
open Go.RowKit
set_option linter.unusedVariables false

theorem infoB : (Try.prog.info? 29).map (fun i => (i.zero, i.size, i.bytes)) = some (some (.slice none 0 0), 1, 24) := by kernel_rfl
theorem Own.slice {w : World} {B : Nat} {v : Value} {xs : List Int} (h : Own w B v xs) : ∃ a c, v = .slice a xs.length c := by
  obtain ⟨a, c, h, _⟩ := h.open
  exact ⟨a, c, h⟩
theorem row_ty {W : World} {B : Nat} {e : TypeId} {sz n : Nat} {v : Value} {xs : List Value} (h : W.ownsRow B e sz v n xs) {g : Nat} (hg : v.ownBlock = some g) : ∃ cur, W.heap[g]? = some (.cells cur e (0, 0)) ∧ B ≤ g := by
  rcases h.2 with ⟨h1, _⟩ | ⟨g', cap, cur', h1, hb, h2, _⟩
  · rw [h1] at hg; cases hg
  · rw [h1] at hg
    have hg : some g' = some g := hg
    injection hg with hg
    subst hg
    exact ⟨cur', h2, hb⟩
theorem row_slice {W : World} {B : Nat} {e : TypeId} {sz n : Nat} {v : Value} {xs : List Value} (h : W.ownsRow B e sz v n xs) : ∃ a c, v = .slice a n c ∧ (a = none → c = 0) ∧ n ≤ c ∧ c ≤ 9223372036854775807 ∧ (∀ x, a = some x → ∃ g, x = ⟨g, 0, none⟩) := by
  rcases h.2 with ⟨h1, h2⟩ | ⟨g, cap, cur, h1, _, _, h4, h5, _⟩
  · rw [h2]; exact ⟨_, _, h1, fun _ => rfl, Nat.le_refl _, by decide, (fun x hx => by cases hx)⟩
  · exact ⟨_, _, h1, (fun h => by cases h), h4, h5, (fun x hx => by cases hx; exact ⟨g, rfl⟩)⟩
theorem tyne {W : World} {g : Nat} {c1 c2 : Array Value} {t1 t2 : TypeId} {z1 z2 : Nat × Nat} (h1 : W.heap[g]? = some (.cells c1 t1 z1)) (h2 : W.heap[g]? = some (.cells c2 t2 z2)) (h : t1 ≠ t2) : False := by
  rw [h1] at h2
  injection h2 with h2
  injection h2 with _ h2
  exact h h2

/-- A message: the slice, and its bytes. -/
abbrev Ms := Value × List Int
/-- A row of messages, in memory from block B on. -/
structure Mq (w : World) (B : Nat) (v : Value) (zs : List Ms) : Prop where
  row : w.ownsRow B 29 1 v zs.length (zs.map Prod.fst)
  own : ∀ z ∈ zs, Own w B z.1 z.2
theorem Mq.nil (w : World) (B : Nat) : Mq w B (.slice none 0 0) [] := ⟨⟨rfl, .inl ⟨rfl, rfl⟩⟩, fun z hz => by cases hz⟩
theorem Mq.kept {w w' : World} {B : Nat} {v : Value} {zs : List Ms} {F : Nat → Prop} (h : Mq w B v zs) (p : Part F w w') (h1 : ∀ k, v.ownBlock = some k → ¬ F k) (h2 : ∀ z ∈ zs, ∀ k, z.1.ownBlock = some k → ¬ F k) : Mq w' B v zs :=
  ⟨p.row h.row h1, fun z hz => p.row (h.own z hz) (h2 z hz)⟩
theorem Mq.below {w w' : World} {B : Nat} {v : Value} {zs : List Ms} (h : Mq w B v zs) (p : Below w.heap.size w w') : Mq w' B v zs := h.kept (F := fun _ => False) (.ofBelow p) (fun _ _ h => h) (fun _ _ _ _ h => h)
theorem Mq.vty {w : World} {B : Nat} {v : Value} {zs : List Ms} (h : Mq w B v zs) {k : Nat} (hk : v.ownBlock = some k) : B ≤ k ∧ ∃ cur, w.heap[k]? = some (.cells cur 29 (0, 0)) := by
  obtain ⟨cur, h1, h2⟩ := row_ty h.row hk
  exact ⟨h2, cur, h1⟩
theorem Mq.zty {w : World} {B : Nat} {v : Value} {zs : List Ms} (h : Mq w B v zs) {z : Ms} (hz : z ∈ zs) {k : Nat} (hk : z.1.ownBlock = some k) : B ≤ k ∧ ∃ cur, w.heap[k]? = some (.cells cur 5 (0, 0)) := by
  obtain ⟨cur, h1, h2⟩ := row_ty (h.own z hz) hk
  exact ⟨h2, cur, h1⟩
/-- One message more. -/
theorem Mq.more {w w1 w2 : World} {B : Nat} {v v2 : Value} {zs : List Ms} (h : Mq w B v zs) {m : Value} {x : List Int} (hB : B ≤ w.heap.size) (hb1 : Below w.heap.size w w1) (ho : Own w1 w.heap.size m x) (o : Obj)
    (h2 : w2.ownsRow B 29 1 v2 (zs.length + 1) (zs.map Prod.fst ++ [m])) (hg2 : (w1.alloc o).grownBy w2 v.ownBlock) : Mq w2 B v2 (zs ++ [(m, x)]) := by
  have hp1 : Part (fun _ => False) w (w1.alloc o) := (Part.ofBelow hb1).alloc o
  have hp2 : Part (fun k => v.ownBlock = some k) (w1.alloc o) w2 := (Part.refl _ _).grown hg2 (fun k hk _ => hk)
  have hv : Mq (w1.alloc o) B v zs := h.kept hp1 (fun _ _ h => h) (fun _ _ _ _ h => h)
  have ho' : Own (w1.alloc o) B m x := (ho.below ((Below.refl _ w1).alloc (Nat.le_refl _) o) (Nat.le_refl _)).mono hB
  have k5 : ∀ (q : Value) (y : List Int), Own (w1.alloc o) B q y → Own w2 B q y := fun q y hq => hp2.row hq (fun k hk hf => by
    obtain ⟨cur, e1, _⟩ := row_ty hq hk
    obtain ⟨_, cur2, e2⟩ := hv.vty hf
    exact tyne e1 e2 (by decide))
  refine ⟨?_, fun z hz => ?_⟩
  · rw [List.length_append, List.map_append]; exact h2
  · rcases List.mem_append.1 hz with hz | hz
    · exact k5 _ _ (hv.own z hz)
    · obtain rfl : z = (m, x) := by simpa using hz
      exact k5 _ _ ho'

/-- The program's net (true), or the document's (false), in a box with its row of messages. -/
def bx : Bool → Value → Obj
  | true, v => .cells #[v, .bool true] 45 (0, 0)
  | false, v => .cells #[v] 28 (0, 0)
structure Nt (w : World) (B : Nat) (s : Bool) (b : Nat) (v : Value) (zs : List Ms) : Prop where
  hb : w.heap[b]? = some (bx s v)
  q : Mq w B v zs
  lo : B ≤ b
  n : zs.length ≤ 64
  by_ : ∀ z ∈ zs, z.2.length ≤ 4096
theorem Nt.lt {w : World} {B b : Nat} {s : Bool} {v : Value} {zs : List Ms} (h : Nt w B s b v zs) : b < w.heap.size := (Array.getElem?_eq_some_iff.1 h.hb).1
theorem Nt.cell0 {w : World} {B b : Nat} {s : Bool} {v : Value} {zs : List Ms} (h : Nt w B s b v zs) : w.cell? ⟨b, 0, none⟩ = some v ∧ w.frozen? ⟨b, 0, none⟩ = false := by
  have hb := h.hb
  cases s
  · exact ⟨cells_at hb 0, cells_free hb 0⟩
  · exact ⟨cells_at hb 0, cells_free hb 0⟩
theorem Nt.cell1 {w : World} {B b : Nat} {v : Value} {zs : List Ms} (h : Nt w B true b v zs) : w.cell? ⟨b, 1, none⟩ = some (.bool true) := cells_at h.hb 1
theorem Nt.bne {w : World} {B b : Nat} {s : Bool} {v : Value} {zs : List Ms} (h : Nt w B s b v zs) : v.ownBlock ≠ some b := fun e => by
  obtain ⟨_, cur, hc⟩ := h.q.vty e
  have hb := h.hb
  cases s <;> exact tyne hb hc (by decide)
theorem Nt.zne {w : World} {B b : Nat} {s : Bool} {v : Value} {zs : List Ms} (h : Nt w B s b v zs) {z : Ms} (hz : z ∈ zs) : z.1.ownBlock ≠ some b := fun e => by
  obtain ⟨_, cur, hc⟩ := h.q.zty hz e
  have hb := h.hb
  cases s <;> exact tyne hb hc (by decide)
/-- The net's own blocks that calls write to. -/
def Foot (b : Nat) (v : Value) (k : Nat) : Prop := k = b ∨ v.ownBlock = some k
theorem Nt.kept {w w' : World} {B b : Nat} {s : Bool} {v : Value} {zs : List Ms} {F : Nat → Prop} (h : Nt w B s b v zs) (p : Part F w w') (h0 : ¬ F b) (h1 : ∀ k, v.ownBlock = some k → ¬ F k) (h2 : ∀ z ∈ zs, ∀ k, z.1.ownBlock = some k → ¬ F k) : Nt w' B s b v zs :=
  ⟨(p.block b h.lt h0).trans h.hb, h.q.kept p h1 h2, h.lo, h.n, h.by_⟩
theorem Nt.below {w w' : World} {B b : Nat} {s : Bool} {v : Value} {zs : List Ms} (h : Nt w B s b v zs) (p : Below w.heap.size w w') : Nt w' B s b v zs := h.kept (F := fun _ => False) (.ofBelow p) (fun h => h) (fun _ _ h => h) (fun _ _ _ _ h => h)
/-- Another net stays where this one's blocks change. -/
theorem Nt.other {w w' : World} {B b b' : Nat} {s s' : Bool} {v v' : Value} {zs zs' : List Ms} (h : Nt w B s b v zs) (h' : Nt w B s' b' v' zs') (p : Part (Foot b' v') w w') (hb : b ≠ b') (hv : ∀ k, v.ownBlock = some k → v'.ownBlock ≠ some k) : Nt w' B s b v zs := by
  refine h.kept p (fun hf => ?_) (fun k hk hf => ?_) (fun z hz k hk hf => ?_)
  · rcases hf with hf | hf
    · exact hb hf
    · obtain ⟨_, cur, hc⟩ := h'.q.vty hf
      have hb := h.hb
      cases s <;> exact tyne hb hc (by decide)
  · rcases hf with hf | hf
    · subst hf
      obtain ⟨_, cur, hc⟩ := h.q.vty hk
      have hb := h'.hb
      cases s' <;> exact tyne hb hc (by decide)
    · exact hv k hk hf
  · obtain ⟨_, cur, hc⟩ := h.q.zty hz hk
    rcases hf with hf | hf
    · subst hf
      have hb := h'.hb
      cases s' <;> exact tyne hb hc (by decide)
    · obtain ⟨_, cur2, hc2⟩ := h'.q.vty hf
      exact tyne hc hc2 (by decide)
/-- What a call that changes a net leaves alone; its row lies where it lay, or in new memory. -/
structure Went (w w' : World) (b : Nat) (v v' : Value) : Prop where
  part : Part (Foot b v) w w'
  row : ∀ k, v'.ownBlock = some k → v.ownBlock = some k ∨ w.heap.size ≤ k
theorem bx_set {w : World} {b : Nat} {s : Bool} {v : Value} (h : w.heap[b]? = some (bx s v)) (u : Value) : (w.setCell ⟨b, 0, none⟩ u).heap[b]? = some (bx s u) := by
  cases s
  · exact heap_set_at h u
  · exact heap_set_at h u
/-- A new row is stored into the box. -/
theorem Nt.stored {w w2 : World} {B b : Nat} {s : Bool} {v v2 : Value} {zs zs2 : List Ms} (h : Nt w B s b v zs) (hp : Part (fun k => v.ownBlock = some k) w w2) (hq : Mq w2 B v2 zs2) (hn : zs2.length ≤ 64) (hby : ∀ z ∈ zs2, z.2.length ≤ 4096) (hr : ∀ k, v2.ownBlock = some k → v.ownBlock = some k ∨ w.heap.size ≤ k) :
    w2.heap[b]? = some (bx s v) ∧ ∀ wf : World, wf.heap = (w2.setCell ⟨b, 0, none⟩ v2).heap → wf.os = w2.os → wf.tape = w2.tape → wf.output = w2.output → Nt wf B s b v2 zs2 ∧ Went w wf b v v2 := by
  have hb2 : w2.heap[b]? = some (bx s v) := (hp.block b h.lt h.bne).trans h.hb
  refine ⟨hb2, fun wf e1 e2 e3 e4 => ?_⟩
  have e5 : Part (fun k => k = b) w2 wf := by
    have p0 : Part (fun k => k = b) w2 (w2.setCell ⟨b, 0, none⟩ v2) := (Part.refl (fun k => k = b) w2).setCell (p := ⟨b, 0, none⟩) (fun _ => rfl) v2
    exact ⟨by rw [e2], by rw [e3], by rw [e4], by rw [e1]; exact p0.size, fun k hk hn => by rw [e1]; exact p0.block k hk hn⟩
  refine ⟨⟨by rw [e1]; exact bx_set hb2 v2, hq.kept e5 (fun k hk hf => ?_) (fun z hz k hk hf => ?_), h.lo, hn, hby⟩, (hp.mono (fun _ _ h => .inr h)).trans e5 (fun i _ e => .inl e), hr⟩
  · subst hf
    obtain ⟨_, cur, hc⟩ := hq.vty hk
    cases s <;> exact tyne hb2 hc (by decide)
  · subst hf
    obtain ⟨_, cur, hc⟩ := hq.zty hz hk
    cases s <;> exact tyne hb2 hc (by decide)
/-- One message more, by append; the new row goes into the box. -/
theorem Nt.added {w w1 w2 : World} {B b : Nat} {s : Bool} {v v2 : Value} {zs : List Ms} (h : Nt w B s b v zs) {m : Value} {x : List Int} (hn : zs.length < 64) (hx : x.length ≤ 4096) (hb1 : Below w.heap.size w w1) (ho : Own w1 w.heap.size m x) (o : Obj)
    (h2 : w2.ownsRow B 29 1 v2 (zs.length + 1) (zs.map Prod.fst ++ [m])) (hg2 : (w1.alloc o).grownBy w2 v.ownBlock) (ha : v2.ownBlock = v.ownBlock ∨ v2.ownBlock = some (w1.alloc o).heap.size) :
    w2.heap[b]? = some (bx s v) ∧ ∀ wf : World, wf.heap = (w2.setCell ⟨b, 0, none⟩ v2).heap → wf.os = w2.os → wf.tape = w2.tape → wf.output = w2.output → Nt wf B s b v2 (zs ++ [(m, x)]) ∧ Went w wf b v v2 := by
  have hB : B ≤ w.heap.size := Nat.le_of_lt (Nat.lt_of_le_of_lt h.lo h.lt)
  refine h.stored (((Part.ofBelow hb1).alloc o).grown hg2 (fun k hk _ => hk)) (h.q.more hB hb1 ho o h2 hg2) (by simp; omega) (fun z hz => ?_) (fun k hk => ?_)
  · rcases List.mem_append.1 hz with hz | hz
    · exact h.by_ z hz
    · obtain rfl : z = (m, x) := by simpa using hz
      exact hx
  · rcases ha with e | e
    · exact .inl (by rw [← e]; exact hk)
    · rw [e] at hk
      injection hk with hk
      have := hb1.size
      simp at hk
      exact .inr (by omega)
end Go.Proofs.Ytbpolfoagmehhaa
