/-
  How a datum that is handed in is read, where it is of bulk at most 1048576.
  How code that is handed in is read, where it is of bulk at most 1048576.
-/
import Derived.Test.YtpjgdpfpgpaenaaDoorRows
import Derived.Test.YtpjgdpfpgpaenaaDoorCvL
import Derived.ProofKit
import Derived.OpenShut
import Derived.ShutString
import Derived.ChangeOld
import Derived.SizedLaws
import Derived.Deep.Slices
namespace Go.Proofs.YtpjgdpfpgpaenaaDoor
open Go.ChangeShapes Go.WideShapes Go.ChangeAt Go.RowKit
set_option linter.unusedVariables false

theorem ownK : ownKnob Tryd.prog.godebug = none := by kernel_rfl
theorem laidOutP : laidOutB Tryd.prog = true := by kernel_rfl
theorem cells3 : Tryd.prog.cellsOf 3 = 1 := by kernel_rfl
theorem cells9 : Tryd.prog.cellsOf 9 = 1 := by kernel_rfl
theorem cellsDs : Tryd.prog.cellsOf 23 = 1 := by kernel_rfl
theorem cellsD : Tryd.prog.cellsOf 42 = 4 := by kernel_rfl
theorem ls4 {α : Type} (l : List α) (h : l.length = 4) : ∃ a b c d, l = [a, b, c, d] := by
  match l, h with
  | [a, b, c, d], _ => exact ⟨a, b, c, d, rfl⟩
theorem bulkAll_app {H : Type} (a b : List (DataW H)) : Rows.uptoBulkAll (a ++ b) = Rows.uptoBulkAll a + Rows.uptoBulkAll b := by
  induction a with
  | nil => simp [Rows.uptoBulkAll]
  | cons x r ih => simp only [List.cons_append, Rows.uptoBulkAll, ih]; omega
theorem wtL_append : ∀ (l r : List Dt), wtL (l ++ r) = wtL l + wtL r
  | [], r => by simp [wtL]
  | y :: l, r => by
    show y.wt + wtL (l ++ r) = y.wt + wtL l + wtL r
    rw [wtL_append l r]; omega
theorem row_bulk {H : Type} {T : Nat → Dt} {D : Nat → DataW H} : ∀ n : Nat, (∀ r, r < n → (T r).siz ≤ Rows.uptoBulk (D r) ∧ (T r).wt ≤ Rows.uptoBulk (D r)) → sizL ((List.range n).map T) ≤ Rows.uptoBulkAll ((List.range n).map D) ∧ wtL ((List.range n).map T) ≤ Rows.uptoBulkAll ((List.range n).map D)
  | 0, _ => ⟨Nat.zero_le _, Nat.zero_le _⟩
  | n + 1, h => by
    obtain ⟨h1, h2⟩ := row_bulk n (fun r hr => h r (by omega))
    obtain ⟨h3, h4⟩ := h n (by omega)
    rw [List.range_succ, List.map_append, List.map_append, sizL_append, wtL_append, bulkAll_app]
    simp only [List.map_cons, List.map_nil, sizL, wtL, Rows.uptoBulkAll]
    omega
theorem bulk_part {H : Type} {d : DataW H} {l : List (DataW H)} (h : d ∈ l) : Rows.uptoBulk d ≤ Rows.uptoBulkAll l := by
  induction l with
  | nil => cases h
  | cons x r ih =>
    simp only [Rows.uptoBulkAll]
    rcases List.mem_cons.1 h with e | e
    · subst e; omega
    · have := ih e; omega
/-- What is told of a datum's four cells. -/
def Rd {H : Type} (W : World) (cs : List Value) (d : DataW H) (t : Dt) (V : Nat → Value) : Prop := cs = [V 0, V 1, V 2, V 3] ∧ DAt W t (.agg #[V 0, V 1, V 2, V 3]) ∧ t.siz ≤ Rows.uptoBulk d ∧ t.wt ≤ Rows.uptoBulk d
theorem open_row {H : Type} {enc : TypeId × Value → H} {W : World} {N : Nat} (IH : ∀ (fuel : Nat) (cs : List Value) (x : DataW H × List MemPlace), Rows.uptoBulk x.1 < N → DataW.trod enc Tryd.prog W 0 (fun _ => true) true fuel 42 cs = some x → Rows.uptoBulk x.1 ≤ 1048576 → ∃ t V, Rd W cs x.1 t V)
    {fuel : Nat} {cs : List Value} {x : DataW H × List MemPlace} (hN : Rows.uptoBulk x.1 < N + 1) (h : DataW.trod enc Tryd.prog W 0 (fun _ => true) true fuel 23 cs = some x) (hb : Rows.uptoBulk x.1 ≤ 1048576) :
    ∃ (a : Option Addr) (n c : Nat) (l : List Dt) (X : Nat → Nat → Value), cs = [.slice a n c] ∧ l.length = n ∧ RowAt W a n X ∧ (∀ j (h : j < l.length), DAt W l[j] (vx X j)) ∧ n ≤ c ∧ c ≤ 9223372036854775807 ∧ sizL l + 1 ≤ Rows.uptoBulk x.1 ∧ wtL l + 1 ≤ Rows.uptoBulk x.1 := by
  rcases Go.Deep.open_slice Tryd.underlying23 h with ⟨hcs, hx⟩ | ⟨a, len, cap, m, k, D, Pl, hcs, _, hl, hm, hmm, hxx, hx⟩
  · refine ⟨none, 0, 0, [], fun _ _ => .int .i64 0, hcs, rfl, fun h => absurd h (by decide), fun j h => absurd h (Nat.not_lt_zero _), Nat.le_refl _, by omega, ?_, ?_⟩ <;> rw [hx] <;> simp [Rows.uptoBulk, sizL, wtL]
  · simp only [if_true] at hmm
    subst hmm
    have hd : x.1 = .slice ((List.range len).map D) ((List.range (m - len)).map fun j => D (len + j)) := congrArg Prod.fst hxx
    have hbk : Rows.uptoBulkAll ((List.range len).map D) + 1 ≤ Rows.uptoBulk x.1 := by
      rw [hd]
      simp only [Rows.uptoBulk]
      omega
    have hDb : ∀ r, r < len → Rows.uptoBulk (D r) ≤ Rows.uptoBulkAll ((List.range len).map D) := fun r hr => bulk_part (List.mem_map.2 ⟨r, List.mem_range.2 hr, rfl⟩)
    have hE : ∀ r, ∃ (t : Dt) (V : Nat → Value), r < len → (DAt W t (.agg #[V 0, V 1, V 2, V 3]) ∧ t.siz ≤ Rows.uptoBulk (D r) ∧ t.wt ≤ Rows.uptoBulk (D r)) ∧ ∀ i, i < 4 → W.cell? ((a.add (r * 4)).add i) = some (V i) := fun r => by
      by_cases hr : r < len
      · obtain ⟨cs', h1, h2⟩ := hx r (by omega)
        rw [cellsD] at h1
        obtain ⟨_, hlen, hcell⟩ := World.cells?_some h1
        have h3 := hDb r hr
        obtain ⟨t, V, e1, e2, e3, e4⟩ := IH k cs' _ (by show Rows.uptoBulk (D r) < N; omega) h2 (by show Rows.uptoBulk (D r) ≤ _; omega)
        refine ⟨t, V, fun _ => ⟨⟨e2, e3, e4⟩, fun i hi => ?_⟩⟩
        have h5 := hcell i (by omega)
        rw [h5, e1]
        match i, hi with
        | 0, _ => rfl
        | 1, _ => rfl
        | 2, _ => rfl
        | 3, _ => rfl
      · exact ⟨.node 0 ⟨#[]⟩ [] [], fun _ => .int .i64 0, fun h => absurd h hr⟩
    let T : Nat → Dt := fun r => Classical.choose (hE r)
    let X : Nat → Nat → Value := fun r => Classical.choose (Classical.choose_spec (hE r))
    have hS : ∀ r, r < len → (DAt W (T r) (vx X r) ∧ (T r).siz ≤ Rows.uptoBulk (D r) ∧ (T r).wt ≤ Rows.uptoBulk (D r)) ∧ ∀ i, i < 4 → W.cell? ((a.add (r * 4)).add i) = some (X r i) := fun r hr => Classical.choose_spec (Classical.choose_spec (hE r)) hr
    obtain ⟨b1, b2⟩ := row_bulk (T := T) (D := D) len (fun r hr => (hS r hr).1.2)
    refine ⟨some a, len, m, (List.range len).map T, X, hcs, by simp, fun h0 => ?_, fun j hj => ?_, hl, hm, by omega, by omega⟩
    · obtain ⟨b, off, spot⟩ := a
      have hspot : spot = none := by
        have := (hS 0 h0).2 0 (by decide)
        simpa [Addr.add] using World.cell?_spot this
      subst hspot
      refine ⟨b, off, rfl, fun j hj i hi => ?_⟩
      have := (hS j hj).2 i hi
      rw [Go.Deep.add_add, Addr.add_lit, ← Nat.add_assoc] at this
      exact this
    · have hj' : j < len := by simpa using hj
      have := (hS j hj').1.1
      simpa using this
theorem open_datum {H : Type} {enc : TypeId × Value → H} {W : World} (N : Nat) : ∀ (fuel : Nat) (cs : List Value) (x : DataW H × List MemPlace), Rows.uptoBulk x.1 < N → DataW.trod enc Tryd.prog W 0 (fun _ => true) true fuel 42 cs = some x → Rows.uptoBulk x.1 ≤ 1048576 → ∃ t V, Rd W cs x.1 t V := by
  induction N with
  | zero => exact fun _ _ _ h _ _ => absurd h (Nat.not_lt_zero _)
  | succ N IH =>
    intro fuel cs x hN h hb
    obtain ⟨xs, q, _, hag, hlen, hxl, hfl⟩ := DataW.trod_struct Tryd.underlying42 h
    have hx1 : x.1 = .agg (xs.map (·.1)) := congrArg Prod.fst hag
    obtain ⟨y0, y1, y2, y3, rfl⟩ := ls4 xs hxl
    rw [cellsD] at hlen
    obtain ⟨v0, v1, v2, v3, rfl⟩ := ls4 cs hlen
    have g0 := hfl 0 _ rfl
    have g1 := hfl 1 _ rfl
    have g2 := hfl 2 _ rfl
    have g3 := hfl 3 _ rfl
    simp [cells3, cells9, cellsDs] at g0 g1 g2 g3
    have hB : Rows.uptoBulk x.1 = Rows.uptoBulk y0.1 + (Rows.uptoBulk y1.1 + (Rows.uptoBulk y2.1 + (Rows.uptoBulk y3.1 + 0))) + 1 := by
      rw [hx1]
      simp only [List.map_cons, List.map_nil, Rows.uptoBulk, Rows.uptoBulkAll]
    obtain ⟨z0, e0, _⟩ := DataW.trod_int Tryd.underlying3 g0
    obtain ⟨s, e1, e1', _⟩ := DataW.trod_string Tryd.underlying9 g1
    obtain ⟨a, n, c, l, X, e2, l1, l2, l3, l4, l5, l6, l7⟩ := open_row IH (by omega) g2 (by omega)
    obtain ⟨a2, n2, c2, m, Y, e3, m1, m2, m3, m4, m5, m6, m7⟩ := open_row IH (by omega) g3 (by omega)
    cases e0
    cases e1
    cases e2
    cases e3
    have hs : s.size + 1 = Rows.uptoBulk y1.1 := by
      rw [e1']
      simp [Rows.uptoBulk]
    subst l1 m1
    refine ⟨.node z0 s l m, fun i => if i = 0 then .int .i64 z0 else if i = 1 then .string s else if i = 2 then .slice a l.length c else .slice a2 m.length c2, rfl, DAt.mk z0 s l m a a2 c c2 X Y l3 m3 l2 m2 ⟨l4, l5, m4, m5, by omega⟩, ?_, ?_⟩
    · show 1 + (sizL l + sizL m) ≤ _
      omega
    · show 1 + s.size + (wtL l + wtL m) ≤ _
      omega
end Go.Proofs.YtpjgdpfpgpaenaaDoor

namespace Go.Proofs.YtpjgdpfpgpaenaaDoor
open Go.ChangeShapes Go.WideShapes Go.ChangeAt Go.RowKit
set_option linter.unusedVariables false
set_option linter.unusedSimpArgs false

theorem cellsI : Tryd.prog.cellsOf 40 = 3 := by kernel_rfl
theorem cellsIs : Tryd.prog.cellsOf 22 = 1 := by kernel_rfl
theorem cellsSs : Tryd.prog.cellsOf 24 = 1 := by kernel_rfl
theorem cellsC : Tryd.prog.cellsOf 26 = 3 := by kernel_rfl
theorem ls3 {α : Type} (l : List α) (h : l.length = 3) : ∃ a b c, l = [a, b, c] := by
  match l, h with
  | [a, b, c], _ => exact ⟨a, b, c, rfl⟩
theorem bulk_pos {H : Type} (d : DataW H) : 1 ≤ Rows.uptoBulk d := by
  unfold Rows.uptoBulk
  split <;> omega
theorem bulk_len {H : Type} (l : List (DataW H)) : l.length ≤ Rows.uptoBulkAll l := by
  induction l with
  | nil => exact Nat.zero_le _
  | cons x r ih =>
    have := bulk_pos x
    simp only [List.length_cons, Rows.uptoBulkAll]
    omega
theorem open_instr {H : Type} {enc : TypeId × Value → H} {W : World} {fuel : Nat} {cs : List Value} {x : DataW H × List MemPlace} (h : DataW.trod enc Tryd.prog W 0 (fun _ => true) true fuel 40 cs = some x) : ∃ a b c : Int, cs = [.int .i64 a, .int .i64 b, .int .i64 c] := by
  obtain ⟨xs, q, _, hag, hlen, hxl, hfl⟩ := DataW.trod_struct Tryd.underlying40 h
  obtain ⟨y0, y1, y2, rfl⟩ := ls3 xs hxl
  rw [cellsI] at hlen
  obtain ⟨v0, v1, v2, rfl⟩ := ls3 cs hlen
  have g0 := hfl 0 _ rfl
  have g1 := hfl 1 _ rfl
  have g2 := hfl 2 _ rfl
  simp [cells3] at g0 g1 g2
  obtain ⟨z0, e0, _⟩ := DataW.trod_int Tryd.underlying3 g0
  obtain ⟨z1, e1, _⟩ := DataW.trod_int Tryd.underlying3 g1
  obtain ⟨z2, e2, _⟩ := DataW.trod_int Tryd.underlying3 g2
  cases e0
  cases e1
  cases e2
  exact ⟨z0, z1, z2, rfl⟩
theorem open_instrs {H : Type} {enc : TypeId × Value → H} {W : World} {fuel : Nat} {cs : List Value} {x : DataW H × List MemPlace} (h : DataW.trod enc Tryd.prog W 0 (fun _ => true) true fuel 22 cs = some x) :
    ∃ (a : Option Addr) (n c : Nat) (I : Nat → Nat → Int), cs = [.slice a n c] ∧ RI W a n I ∧ n ≤ c ∧ c ≤ 9223372036854775807 := by
  rcases Go.Deep.open_slice Tryd.underlying22 h with ⟨hcs, hx⟩ | ⟨a, len, cap, m, k, D, Pl, hcs, _, hl, hm, hmm, hxx, hx⟩
  · exact ⟨none, 0, 0, fun _ _ => 0, hcs, fun h => absurd h (by decide), Nat.le_refl _, by omega⟩
  · simp only [if_true] at hmm
    subst hmm
    have hE : ∀ r, ∃ V : Nat → Int, r < len → ∀ i, i < 3 → W.cell? ((a.add (r * 3)).add i) = some (.int .i64 (V i)) := fun r => by
      by_cases hr : r < len
      · obtain ⟨cs', h1, h2⟩ := hx r (by omega)
        rw [cellsI] at h1
        obtain ⟨_, hlen, hcell⟩ := World.cells?_some h1
        obtain ⟨z0, z1, z2, e1⟩ := open_instr h2
        refine ⟨fun i => if i = 0 then z0 else if i = 1 then z1 else z2, fun _ i hi => ?_⟩
        rw [hcell i (by omega), e1]
        match i, hi with
        | 0, _ => rfl
        | 1, _ => rfl
        | 2, _ => rfl
      · exact ⟨fun _ => 0, fun h => absurd h hr⟩
    let X : Nat → Nat → Int := fun r => Classical.choose (hE r)
    have hS : ∀ r, r < len → ∀ i, i < 3 → W.cell? ((a.add (r * 3)).add i) = some (.int .i64 (X r i)) := fun r hr => Classical.choose_spec (hE r) hr
    refine ⟨some a, len, m, X, hcs, fun h0 => ?_, hl, hm⟩
    obtain ⟨b, off, spot⟩ := a
    have hspot : spot = none := by
      have := hS 0 h0 0 (by decide)
      simpa [Addr.add] using World.cell?_spot this
    subst hspot
    refine ⟨b, off, rfl, fun j hj i hi => ?_⟩
    have := hS j hj i hi
    rw [Go.Deep.add_add, Addr.add_lit, ← Nat.add_assoc] at this
    exact this
theorem open_names {H : Type} {enc : TypeId × Value → H} {W : World} {fuel : Nat} {cs : List Value} {x : DataW H × List MemPlace} (h : DataW.trod enc Tryd.prog W 0 (fun _ => true) true fuel 24 cs = some x) :
    ∃ (a : Option Addr) (n c : Nat) (S : Nat → ByteArray), cs = [.slice a n c] ∧ RN W a n S ∧ n ≤ c ∧ c ≤ 9223372036854775807 ∧ n ≤ Rows.uptoBulk x.1 ∧ ∀ j, j < n → (S j).size ≤ Rows.uptoBulk x.1 := by
  rcases Go.Deep.open_slice Tryd.underlying24 h with ⟨hcs, hx⟩ | ⟨a, len, cap, m, k, D, Pl, hcs, _, hl, hm, hmm, hxx, hx⟩
  · exact ⟨none, 0, 0, fun _ => ⟨#[]⟩, hcs, fun h => absurd h (by decide), Nat.le_refl _, by omega, Nat.zero_le _, fun j h => absurd h (Nat.not_lt_zero _)⟩
  · simp only [if_true] at hmm
    subst hmm
    have hd : x.1 = .slice ((List.range len).map D) ((List.range (m - len)).map fun j => D (len + j)) := congrArg Prod.fst hxx
    have hbk : Rows.uptoBulkAll ((List.range len).map D) + 1 ≤ Rows.uptoBulk x.1 := by
      rw [hd]
      simp only [Rows.uptoBulk]
      omega
    have hln := bulk_len ((List.range len).map D)
    rw [List.length_map, List.length_range] at hln
    have hDb : ∀ r, r < len → Rows.uptoBulk (D r) ≤ Rows.uptoBulkAll ((List.range len).map D) := fun r hr => bulk_part (List.mem_map.2 ⟨r, List.mem_range.2 hr, rfl⟩)
    have hE : ∀ r, ∃ s : ByteArray, r < len → W.cell? (a.add r) = some (.string s) ∧ s.size ≤ Rows.uptoBulk (D r) := fun r => by
      by_cases hr : r < len
      · obtain ⟨cs', h1, h2⟩ := hx r (by omega)
        rw [cells9] at h1
        obtain ⟨_, hlen, hcell⟩ := World.cells?_some h1
        obtain ⟨s, e1, e1', _⟩ := DataW.trod_string Tryd.underlying9 h2
        refine ⟨s, fun _ => ⟨?_, ?_⟩⟩
        · have h5 := hcell 0 (by omega)
          rw [e1, Go.Deep.add_add, Nat.mul_one, Nat.add_zero] at h5
          exact h5
        · have e2 : D r = .lit (.string s.data.toList) := congrArg Prod.fst e1'
          rw [e2]
          simp [Rows.uptoBulk]
      · exact ⟨⟨#[]⟩, fun h => absurd h hr⟩
    let S : Nat → ByteArray := fun r => Classical.choose (hE r)
    have hS : ∀ r, r < len → W.cell? (a.add r) = some (.string (S r)) ∧ (S r).size ≤ Rows.uptoBulk (D r) := fun r hr => Classical.choose_spec (hE r) hr
    refine ⟨some a, len, m, S, hcs, fun h0 => ?_, hl, hm, by omega, fun j hj => by have h1 := (hS j hj).2; have h2 := hDb j hj; omega⟩
    obtain ⟨b, off, spot⟩ := a
    have hspot : spot = none := by
      have := (hS 0 h0).1
      simpa [Addr.add] using World.cell?_spot this
    subst hspot
    refine ⟨b, off, rfl, fun j hj => ?_⟩
    have := (hS j hj).1
    rw [Addr.add_lit] at this
    exact this
theorem open_code {H : Type} {enc : TypeId × Value → H} {W : World} {fuel : Nat} {cs : List Value} {x : DataW H × List MemPlace} (h : DataW.trod enc Tryd.prog W 0 (fun _ => true) true fuel 26 cs = some x) (hb : Rows.uptoBulk x.1 ≤ 1048576) :
    ∃ c : Cd, CAt W c (.agg cs.toArray) ∧ c.fit := by
  obtain ⟨xs, q, _, hag, hlen, hxl, hfl⟩ := DataW.trod_struct Tryd.underlying26 h
  have hx1 : x.1 = .agg (xs.map (·.1)) := congrArg Prod.fst hag
  obtain ⟨y0, y1, y2, rfl⟩ := ls3 xs hxl
  rw [cellsC] at hlen
  obtain ⟨v0, v1, v2, rfl⟩ := ls3 cs hlen
  have g0 := hfl 0 _ rfl
  have g1 := hfl 1 _ rfl
  have g2 := hfl 2 _ rfl
  simp [cellsIs, cellsDs, cellsSs] at g0 g1 g2
  have hB : Rows.uptoBulk x.1 = Rows.uptoBulk y0.1 + (Rows.uptoBulk y1.1 + (Rows.uptoBulk y2.1 + 0)) + 1 := by
    rw [hx1]
    simp only [List.map_cons, List.map_nil, Rows.uptoBulk, Rows.uptoBulkAll]
  obtain ⟨ai, ni, ci, I, e0, i1, i2, i3⟩ := open_instrs g0
  obtain ⟨ad, nd, cd, l, X, e1, l1, l2, l3, l4, l5, l6, l7⟩ := open_row (N := Rows.uptoBulk y1.1) (fun fuel cs x hN h hb => open_datum _ fuel cs x hN h hb) (Nat.lt_succ_self _) g1 (by omega)
  obtain ⟨an, ns, cn, S, e2, n1, n2, n3, n4, n5⟩ := open_names g2
  cases e0
  cases e1
  cases e2
  subst l1
  have hlen2 : ∀ l : List Dt, l.length ≤ sizL l := fun l => by
    induction l with
    | nil => exact Nat.zero_le _
    | cons y r ih =>
      have h1 : 1 ≤ y.siz := by cases y; show 1 ≤ 1 + _; omega
      show r.length + 1 ≤ y.siz + sizL r
      omega
  have hl := hlen2 l
  refine ⟨⟨ni, I, l, ns, S⟩, ⟨ai, ci, ad, cd, an, cn, X, rfl, ⟨i2, i3⟩, ⟨l4, l5⟩, ⟨n2, n3⟩, i1, l2, l3, n1⟩, ?_⟩
  simp only [Cd.fit]
  exact ⟨by omega, by omega, by omega, by omega, fun j hj => by have := n5 j hj; omega⟩
end Go.Proofs.YtpjgdpfpgpaenaaDoor
