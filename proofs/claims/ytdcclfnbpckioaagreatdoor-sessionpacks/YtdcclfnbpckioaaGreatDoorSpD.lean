/-
  Rows of changes with their bytes; which numbers are a session's.
-/
import Derived.Test.YtdcclfnbpckioaaGreatDoorSpQ
namespace Go.Proofs.YtdcclfnbpckioaaGreatDoor
open Go.RowKit Go.Shelf
set_option linter.unusedVariables false
set_option maxRecDepth 100000
set_option maxHeartbeats 2000000

/-- A change that is told: key, the slice of its bytes, the bytes. -/
structure Zc where
  ky : List UInt8
  val : Value
  xs : List Int
def Zc.cs (z : Zc) : List Value := [.string ⟨z.ky.toArray⟩, z.val, .bool false]
/-- A row of changes in memory from block B on, with their bytes. -/
structure Rlc (W : World) (B : Nat) (v : Value) (zs : List Zc) : Prop where
  row : W.ownsRow B 31 3 v zs.length (zs.flatMap Zc.cs)
  own : ∀ z ∈ zs, Own W B z.val z.xs
theorem infoC : (Tryz.prog.info? 31).map (fun i => (i.zero, i.size, i.bytes)) = some (some (.agg #[.string ⟨#[]⟩, .slice none 0 0, .bool false]), 3, 48) := by kernel_rfl
theorem Own.off {w : World} {B g : Nat} {v : Value} {xs : List Int} (h : Own w B v xs) {cur : Array Value} {t : TypeId} {z : Nat × Nat} (hg : w.heap[g]? = some (.cells cur t z)) (ht : t ≠ 5) : v.ownBlock ≠ some g := fun e => by
  rcases h.2 with ⟨h1, _⟩ | ⟨g', cap, cur', h1, _, h2, _⟩
  · rw [h1] at e; cases e
  · rw [h1] at e
    have e : some g' = some g := e
    injection e with e
    rw [e, hg] at h2
    injection h2 with h2
    injection h2 with _ h2
    exact ht h2
theorem Own.grown {w w' : World} {B : Nat} {v : Value} {xs : List Int} {r : Option Nat} (h : Own w B v xs) (hg : w.grownBy w' r) (hr : ∀ g, r = some g → v.ownBlock ≠ some g) : Own w' B v xs := World.ownsRow.kept h hg (by
  cases r with
  | none =>
    cases hv : v.ownBlock with
    | none => exact .inl rfl
    | some g => exact .inr (fun e => by cases e)
  | some g => exact .inr (hr g rfl))
theorem row_ty {W : World} {B : Nat} {e : TypeId} {sz n : Nat} {v : Value} {xs : List Value} (h : W.ownsRow B e sz v n xs) {g : Nat} (hg : v.ownBlock = some g) : ∃ cur, W.heap[g]? = some (.cells cur e (0, 0)) ∧ B ≤ g := by
  rcases h.2 with ⟨h1, _⟩ | ⟨g', cap, cur', h1, hb, h2, _⟩
  · rw [h1] at hg; cases hg
  · rw [h1] at hg
    have hg : some g' = some g := hg
    injection hg with hg
    subst hg
    exact ⟨cur', h2, hb⟩
/-- One change more. -/
theorem Rlc.more {W W' : World} {B : Nat} {v v' : Value} {zs : List Zc} (h : Rlc W B v zs) (z : Zc) (hz : Own W B z.val z.xs) (hg : W.grownBy W' v.ownBlock) (ho : W'.ownsRow B 31 3 v' (zs.length + 1) (zs.flatMap Zc.cs ++ z.cs)) : Rlc W' B v' (zs ++ [z]) := by
  refine ⟨?_, fun y hy => ?_⟩
  · rw [List.length_append, List.flatMap_append]
    simpa using ho
  · have hy' : Own W B y.val y.xs := by
      rcases List.mem_append.1 hy with hy | hy
      · exact h.own y hy
      · obtain rfl : y = z := by simpa using hy
        exact hz
    refine hy'.grown hg (fun g e => ?_)
    obtain ⟨cur, hc, _⟩ := row_ty h.row e
    exact hy'.off hc (by decide)
theorem Rlc.kept {W W' : World} {B : Nat} {v : Value} {zs : List Zc} (h : Rlc W B v zs) {F : Nat → Prop} (p : Part F W W') (hF : ∀ b cs t, F b → W.heap[b]? = some (.cells cs t (0, 0)) → t ≠ 31 ∧ t ≠ 5) : Rlc W' B v zs := by
  refine ⟨p.row h.row (fun q hq hf => ?_), fun z hz => p.row (h.own z hz) (fun q hq hf => ?_)⟩
  · obtain ⟨cur, hc, _⟩ := row_ty h.row hq
    exact (hF q cur _ hf hc).1 rfl
  · obtain ⟨cur, hc, _⟩ := row_ty (h.own z hz) hq
    exact (hF q cur _ hf hc).2 rfl
theorem Rlc.below {W W' : World} {B : Nat} {v : Value} {zs : List Zc} (h : Rlc W B v zs) (hb : Below W.heap.size W W') : Rlc W' B v zs := h.kept (F := fun _ => False) (.ofBelow hb) (fun _ _ _ h => h.elim)
theorem Rlc.nil (W : World) (B : Nat) : Rlc W B (.slice none 0 0) [] := ⟨⟨rfl, .inl ⟨rfl, rfl⟩⟩, fun z hz => by cases hz⟩
theorem Rlc.mono {W : World} {B B' : Nat} {v : Value} {zs : List Zc} (h : Rlc W B v zs) (hB : B' ≤ B) : Rlc W B' v zs := by
  refine ⟨⟨h.row.1, ?_⟩, fun z hz => (h.own z hz).mono hB⟩
  rcases h.row.2 with h1 | ⟨g, cap, cur, h1, h2, h3⟩
  · exact .inl h1
  · exact .inr ⟨g, cap, cur, h1, Nat.le_trans hB h2, h3⟩
/-- One round: a change was appended. -/
theorem Rlc.push {w w2 w3 : World} {B : Nat} {v v3 : Value} {zs : List Zc} (z : Zc) (o : Obj) (hB : B ≤ w.heap.size) (hR : Rlc w B v zs) (hb2 : Below w.heap.size w w2) (hz : Own w2 B z.val z.xs) (ho3 : w3.ownsRow B 31 3 v3 (zs.length + 1) (zs.flatMap Zc.cs ++ z.cs)) (hg3 : (w2.alloc o).grownBy w3 v.ownBlock) :
    Rlc w3 B v3 (zs ++ [z]) ∧ Below B w w3 := by
  have hb2a : Below w.heap.size w (w2.alloc o) := hb2.alloc hb2.size o
  have hR2 := hR.below hb2a
  have hz2 : Own (w2.alloc o) B z.val z.xs := hz.below ((Below.refl _ w2).alloc (Nat.le_refl _) o) (Nat.le_refl _)
  refine ⟨hR2.more z hz2 hg3 ho3, (hb2a.mono hB).grown hg3 (Nat.le_trans hB hb2a.size) (fun k e => ?_)⟩
  exact (World.ownsRow.lt hR2.row k e).1
theorem j_is (n : Int) (w : World) : Calls Tryz.prog 17 #[.int .i64 n] w fun e w' => e = .returned (.bool (decide (1 ≤ n) && decide (n ≤ 9999))) ∧ w' = w := by
  by_cases h : 1 ≤ n
  · go_enter Tryz.func17, Tryz.ntmps17
    go_wp2
    go_ret
    exact ⟨by simp [h], rfl⟩
  · have h' : decide (1 ≤ n) = false := by simp; omega
    go_enter Tryz.func17, Tryz.ntmps17
    go_wp2
    go_ret
    exact ⟨by simp, rfl⟩
theorem z_is (n : Int) (w : World) : Calls Tryz.prog 22 #[.int .i64 n] w fun e w' => e = .returned (.bool (decide (1 ≤ n) && decide (n ≤ 9999))) ∧ w' = w := by
  by_cases h : 1 ≤ n
  · go_enter Tryz.func22, Tryz.ntmps22
    go_wp2
    go_ret
    exact ⟨by simp [h], rfl⟩
  · have h' : decide (1 ≤ n) = false := by simp; omega
    go_enter Tryz.func22, Tryz.ntmps22
    go_wp2
    go_ret
    exact ⟨by simp, rfl⟩
/-- How many pieces so many bytes are. -/
def pkN (n : Nat) : Nat := max 1 ((n + 1399) / 1400)
/-- The bytes of a piece. -/
def pkX (f : Nat → Int) (n i : Nat) : List Int := (if i = 0 then [(pkN n : Int)] else []) ++ lst (sh f (i * 1400)) (ckL n i)
/-- The first k changes of a session: keys and bytes. -/
def pk (id : Nat) (f : Nat → Int) (n k : Nat) : List (List UInt8 × List Int) := (List.range k).map fun i => (keyL id i, pkX f n i)
theorem pk_succ (id : Nat) (f : Nat → Int) (n k : Nat) : pk id f n (k + 1) = pk id f n k ++ [(keyL id k, pkX f n k)] := by simp [pk, List.range_succ]
end Go.Proofs.YtdcclfnbpckioaaGreatDoor
