/-
  transaction.add: its walk.
-/
import Derived.Test.YthfokciijcmhbaaGreatDoorGbj
namespace Go.Proofs.YthfokciijcmhbaaGreatDoor
open Go.RowKit
set_option linter.unusedVariables false

variable {B0 : Nat} {P P' : Nat → Prop} {w w' : World} {Z S L la N : Nat} {g : Int} {T : Nat → Tr}
set_option maxRecDepth 100000 in
/-- The update is put behind the others. -/
theorem Mt.addUpd (k : Mt B0 P w Z S L g la N T) (hlt : ∀ b, P b → b < w.heap.size) (i : Nat) (hi : i < N) (u : Up) (hs : (T i).us.length < 1000) (wq : World) (o : Obj) (hq : Below w.heap.size w wq) (gg cap : Nat) (w2 : World) (h2 : w2.ownsRow B0 163 8 (.slice (some ⟨gg, 0, none⟩) ((T i).us.length + 1) cap) ((T i).us.length + 1) (usL (T i).no (T i).us ++ upL (T i).no u)) (hg : (wq.alloc o).grownBy w2 (T i).uv.ownBlock) (ha : (T i).uv.ownBlock = some gg ∨ gg = (wq.alloc o).heap.size) :
    (w2.cell? ⟨(T i).b, 2, none⟩ = some (T i).uv ∧ w2.frozen? ⟨(T i).b, 2, none⟩ = false) ∧ Hid (∀ v, v.heap = (w2.setCell ⟨(T i).b, 2, none⟩ (.slice (some ⟨gg, 0, none⟩) ((T i).us.length + 1) cap)).heap → v.os = w2.os → v.tape = w2.tape → v.output = w2.output → ∃ uv, Mt B0 P v Z S L g la N (updT T i ⟨(T i).b, (T i).no, (T i).pv, (T i).ps, uv, (T i).us ++ [u]⟩) ∧ Part (Ours B0 P w) w v) := by
  have hb2 : Below w.heap.size w (wq.alloc o) := hq.alloc hq.size o
  have hs2 := hb2.size
  have nT : (T i).uv.ownBlock ≠ some (T i).b := fun e => by
    obtain ⟨cur, e2⟩ := row_block (k.ur i hi) e
    exact absurd (ty_same e2 (k.tr i hi)) (by decide)
  have nU : ∀ q, (T i).pv.ownBlock = some q → (T i).uv.ownBlock ≠ some q := fun q e e' => by
    obtain ⟨cur, e2⟩ := row_block (k.ur i hi) e'
    obtain ⟨cu2, e3⟩ := row_block (k.pr i hi) e
    exact absurd (ty_same e2 e3) (by decide)
  have hTl := (Array.getElem?_eq_some_iff.1 (k.tr i hi)).1
  have eT : w2.heap[(T i).b]? = some (trO (T i)) := (hg.block _ (by omega) (fun e => nT e.symm)).trans ((hb2.block _ hTl).trans (k.tr i hi))
  have pg : Part (fun b => (T i).uv.ownBlock = some b) w w2 := (Part.ofBelow hb2).grown hg (fun q e _ => e)
  refine ⟨⟨by rw [cells_at eT 2]; rfl, cells_free eT 2⟩, fun v hv h1 h3 h4 => ?_⟩
  obtain ⟨uv, hpv⟩ : ∃ uv, Value.slice (some ⟨gg, 0, none⟩) ((T i).us.length + 1) cap = uv := ⟨_, rfl⟩
  have gr := grew_at ha ((T i).us.length + 1) cap
  rw [hpv] at hv h2 gr
  have ne9 : uv.ownBlock ≠ some (T i).b := fun e => by
    rcases gr _ e with e | e
    · exact nT e
    · omega
  have p2 : Part (fun b => b = (T i).b ∨ (T i).pv.ownBlock = some b ∨ (T i).uv.ownBlock = some b) w v := by
    have a1 : Part (fun b => b = (T i).b ∨ (T i).pv.ownBlock = some b ∨ (T i).uv.ownBlock = some b) w (w2.setCell ⟨(T i).b, 2, none⟩ uv) := (pg.mono fun b _ h => .inr (.inr h)).setCell (p := ⟨(T i).b, 2, none⟩) (fun _ => .inl rfl) _
    exact a1.heap hv h1 h3 h4
  have e1 : v.heap[(T i).b]? = some (trO ⟨(T i).b, (T i).no, (T i).pv, (T i).ps, uv, (T i).us ++ [u]⟩) := by
    rw [hv, heap_set_at eT]
    rfl
  have r1 : v.ownsRow B0 163 8 uv ((T i).us ++ [u]).length (usL (T i).no ((T i).us ++ [u])) := by
    rw [← usL_snoc, List.length_append]
    exact row_heap (row_set h2 ne9 2 uv) hv
  have r2 : v.ownsRow B0 3 1 (T i).pv (T i).ps.length (psL (T i).ps) := by
    have a2 := pg.row (k.pr i hi) nU
    refine row_heap (row_set a2 (fun e => ?_) 2 uv) hv
    obtain ⟨cur, e2⟩ := row_block (k.pr i hi) e
    exact absurd (ty_same e2 (k.tr i hi)) (by decide)
  have key := k.newT hlt i hi ⟨(T i).b, (T i).no, (T i).pv, (T i).ps, uv, (T i).us ++ [u]⟩ rfl rfl p2 e1 r2 r1 (fun q e => .inl e) (fun q e => (gr q e).imp id (fun h => by omega)) ⟨(k.sm i hi).1, by show ((T i).us ++ [u]).length ≤ 1000; rw [List.length_append]; show _ + 1 ≤ 1000; omega⟩
  exact ⟨uv, key.1, key.2⟩
set_option maxRecDepth 100000 in
set_option maxHeartbeats 4000000 in
theorem m_add (k : Mt B0 P w Z S L g la N T) (hlt : ∀ b, P b → b < w.heap.size) (hB0 : B0 ≤ w.heap.size) (i : Nat) (hi : i < N) (nm pg off : Nat) (ah be : ByteArray) (hp : (T i).ps.length < 1000) (hu : (T i).us.length < 1000) :
    Calls Tryz.prog 55 #[.pointer (some ⟨(T i).b, 0, none⟩), .int .i64 (nm : Int), .agg #[.int .i64 1, .int .i64 ((T i).no : Int), .int .i64 (pg : Int), .int .i64 (off : Int), .string ah, .string be, .int .i64 0]] w fun r w' => r = .returned (.tuple #[]) ∧ Hid (Adt B0 P w Z S L g la N T i ⟨nm, pg, off, ah, be⟩ w') := by
  obtain ⟨i0, hi0, hz0, hz1, hz2⟩ := info_parts infoNum
  obtain ⟨j0, hj0, hy0, hy1, hy2⟩ := info_parts infoEnt
  obtain ⟨cs, hcs⟩ : ∃ cs, (#[.int .i64 1, .int .i64 ((T i).no : Int), .int .i64 (pg : Int), .int .i64 (off : Int), .string ah, .string be, .int .i64 0] : Array Value) = cs := ⟨_, rfl⟩
  obtain ⟨ob, hO⟩ : ∃ ob, Obj.cells #[.int .i64 1, .int .i64 ((T i).no : Int), .int .i64 (pg : Int), .int .i64 (off : Int), .string ah, .string be, .int .i64 0] 114 = ob := ⟨_, rfl⟩
  obtain ⟨W0, hW⟩ : ∃ W0, w.alloc ob = W0 := ⟨_, rfl⟩
  obtain ⟨B, hB⟩ : ∃ B, w.heap.size = B := ⟨_, rfl⟩
  have hb0 : Below w.heap.size w W0 := by rw [← hW]; exact (Below.refl _ w).alloc (Nat.le_refl _) ob
  have h00 : W0.heap[B]? = some (.cells cs 114 (0, 0)) := by rw [← hW, ← hO, ← hcs]; exact heap_alloc_at _ _ _ hB.symm
  have hBl : B < W0.heap.size := (Array.getElem?_eq_some_iff.1 h00).1
  have k0 := k.below hb0
  have hs0 := hb0.size
  have hlt0 : ∀ b, P b → b < W0.heap.size := fun b h => by have := hlt b h; omega
  obtain ⟨pa, pc, hpv⟩ : ∃ a c, (T i).pv = .slice a (T i).ps.length c := by
    rcases (k.pr i hi).2 with ⟨e, e2⟩ | ⟨gg, cap, cur, e, _⟩
    · exact ⟨none, 0, by rw [e, e2]⟩
    · exact ⟨_, cap, e⟩
  obtain ⟨q, hq⟩ : ∃ q, (T i).b = q := ⟨_, rfl⟩
  obtain ⟨no, hno⟩ : ∃ no, (T i).no = no := ⟨_, rfl⟩
  obtain ⟨n, hn⟩ : ∃ n, (T i).ps.length = n := ⟨_, rfl⟩
  have hBc : ∀ v : World, v.heap[B]? = some (.cells cs 114 (0, 0)) → v.cell? ⟨B, 0, none⟩ = some (.int .i64 1) ∧ v.cell? ⟨B, 1, none⟩ = some (.int .i64 (no : Int)) ∧ v.cell? ⟨B, 2, none⟩ = some (.int .i64 (pg : Int)) ∧ v.cell? ⟨B, 3, none⟩ = some (.int .i64 (off : Int)) ∧ v.cell? ⟨B, 4, none⟩ = some (.string ah) ∧ v.cell? ⟨B, 5, none⟩ = some (.string be) ∧ v.cell? ⟨B, 6, none⟩ = some (.int .i64 0) := fun v e => by
    rw [← hno]
    subst hcs
    exact ⟨by rw [cells_at e 0]; rfl, by rw [cells_at e 1]; rfl, by rw [cells_at e 2]; rfl, by rw [cells_at e 3]; rfl, by rw [cells_at e 4]; rfl, by rw [cells_at e 5]; rfl, by rw [cells_at e 6]; rfl⟩
  -- is the page there
  have HC : Hid (∀ wq, Below W0.heap.size W0 wq → (wq.cell? ⟨q, 1, none⟩ = some (.slice pa n pc) ∧ wq.cell? ⟨B, 2, none⟩ = some (.int .i64 (pg : Int))) ∧ Hid (Calls Tryz.prog 86 #[.slice pa n pc, .int .i64 (pg : Int)] wq fun r w' => r = .returned (.bool (Ci (T i).ps (pg : Int))) ∧ w' = wq)) := fun wq hb => by
    have kq := k0.below hb
    have h1 := hBc wq ((hb.block B hBl).trans h00)
    refine ⟨⟨by rw [← hq, cells_at (kq.tr i hi) 1, ← hn, ← hpv]; rfl, h1.2.2.1⟩, ?_⟩
    rw [← hn, ← hpv]
    exact c_contains (kq.pr i hi) (pg : Int) (k.sm i hi).1
  -- the page put behind
  have HR : Hid (∀ wq o, Below W0.heap.size W0 wq → (wq.alloc o).ownsRow B0 3 1 (.slice pa n pc) n (psL (T i).ps) ∧ B0 ≤ (wq.alloc o).heap.size) := fun wq o hb => by
    have kq := (k0.below hb).pr i hi
    rw [hpv, hn] at kq
    exact ⟨World.ownsRow.alloc kq o, by have := hb.size; simp; omega⟩
  have HN : Hid (∀ wq o gg cap w2, Below W0.heap.size W0 wq → w2.ownsRow B0 3 1 (.slice (some ⟨gg, 0, none⟩) (n + 1) cap) (n + 1) (psL (T i).ps ++ [.int .i64 (pg : Int)]) → (wq.alloc o).grownBy w2 (Value.slice pa n pc).ownBlock → ((Value.slice pa n pc).ownBlock = some gg ∨ gg = (wq.alloc o).heap.size) → (w2.cell? ⟨q, 1, none⟩ = some (.slice pa n pc) ∧ w2.frozen? ⟨q, 1, none⟩ = false) ∧ (w2.cell? ⟨B, 2, none⟩ = some (.int .i64 (pg : Int))) ∧ Hid (Ad1 B0 P W0 Z S L g la N T i B cs ((T i).ps ++ [pg]) (w2.setCell ⟨q, 1, none⟩ (.slice (some ⟨gg, 0, none⟩) (n + 1) cap)))) := fun wq o gg cap w2 hb h2 hg ha => by
    have hp' := hp
    rw [← hn, ← hpv] at hg ha
    rw [← hn] at h2
    obtain ⟨a1, a2, a3⟩ := k0.addPage hlt0 i hi B cs h00 pg hp wq o hb gg cap w2 h2 hg ha
    rw [hpv, hn, hq] at a1
    rw [hn, hq] at a3
    exact ⟨a1, a2.trans (hBc W0 h00).2.2.1, a3.out _ rfl rfl rfl rfl⟩
  -- the update put behind
  obtain ⟨ua, uc, huv⟩ : ∃ a c, (T i).uv = .slice a (T i).us.length c := by
    rcases (k.ur i hi).2 with ⟨e, e2⟩ | ⟨gg, cap, cur, e, _⟩
    · exact ⟨none, 0, by rw [e, e2]⟩
    · exact ⟨_, cap, e⟩
  obtain ⟨m, hm⟩ : ∃ m, (T i).us.length = m := ⟨_, rfl⟩
  have HU : Hid (∀ ps v, Ad1 B0 P W0 Z S L g la N T i B cs ps v → (∀ wq, Below v.heap.size v wq → wq.cell? ⟨q, 2, none⟩ = some (.slice ua m uc) ∧ wq.cell? ⟨B, 0, none⟩ = some (.int .i64 1) ∧ wq.cell? ⟨B, 1, none⟩ = some (.int .i64 (no : Int)) ∧ wq.cell? ⟨B, 2, none⟩ = some (.int .i64 (pg : Int)) ∧ wq.cell? ⟨B, 3, none⟩ = some (.int .i64 (off : Int)) ∧ wq.cell? ⟨B, 4, none⟩ = some (.string ah) ∧ wq.cell? ⟨B, 5, none⟩ = some (.string be) ∧ wq.cell? ⟨B, 6, none⟩ = some (.int .i64 0)) ∧ (∀ wq o, Below v.heap.size v wq → (wq.alloc o).ownsRow B0 163 8 (.slice ua m uc) m (usL no (T i).us) ∧ B0 ≤ (wq.alloc o).heap.size) ∧ ∀ wq o gg cap w2, Below v.heap.size v wq → w2.ownsRow B0 163 8 (.slice (some ⟨gg, 0, none⟩) (m + 1) cap) (m + 1) (usL no (T i).us ++ upL no ⟨nm, pg, off, ah, be⟩) → (wq.alloc o).grownBy w2 (Value.slice ua m uc).ownBlock → ((Value.slice ua m uc).ownBlock = some gg ∨ gg = (wq.alloc o).heap.size) → (w2.cell? ⟨q, 2, none⟩ = some (.slice ua m uc) ∧ w2.frozen? ⟨q, 2, none⟩ = false) ∧ Hid (∃ pv uv, Mt B0 P (w2.setCell ⟨q, 2, none⟩ (.slice (some ⟨gg, 0, none⟩) (m + 1) cap)) Z S L g la N (updT T i ⟨(T i).b, (T i).no, pv, ps, uv, (T i).us ++ [⟨nm, pg, off, ah, be⟩]⟩) ∧ Part (Ours B0 P w) w (w2.setCell ⟨q, 2, none⟩ (.slice (some ⟨gg, 0, none⟩) (m + 1) cap)))) := fun ps v ⟨h1, pv, h2, h3⟩ => by
    have us' : updT T i ⟨(T i).b, (T i).no, pv, ps, (T i).uv, (T i).us⟩ i = ⟨(T i).b, (T i).no, pv, ps, (T i).uv, (T i).us⟩ := updT_same T i _
    have hlv : ∀ b, P b → b < v.heap.size := fun b h => by have := hlt0 b h; have := h3.size; omega
    have hls := h3.size
    refine ⟨fun wq hb => ?_, fun wq o hb => ?_, fun wq o gg cap w2 hb r2 hg ha => ?_⟩
    · have kq := (h2.below hb).tr i hi
      rw [us'] at kq
      refine ⟨?_, hBc wq ((hb.block B (Array.getElem?_eq_some_iff.1 h1).1).trans h1)⟩
      have := cells_at kq 2
      rw [← hm, ← huv, ← hq]
      exact this
    · have kq := (h2.below hb).ur i hi
      rw [us'] at kq
      have kq : wq.ownsRow B0 163 8 (T i).uv (T i).us.length (usL (T i).no (T i).us) := kq
      rw [huv, hm, hno] at kq
      exact ⟨World.ownsRow.alloc kq o, by have := hb.size; simp; omega⟩
    · have key := h2.addUpd hlv i hi ⟨nm, pg, off, ah, be⟩ (by rw [us']; exact hu) wq o hb gg cap w2 (by rw [us']; show w2.ownsRow B0 163 8 (.slice (some ⟨gg, 0, none⟩) ((T i).us.length + 1) cap) ((T i).us.length + 1) (usL (T i).no (T i).us ++ upL (T i).no ⟨nm, pg, off, ah, be⟩); rw [hm, hno]; exact r2) (by rw [us']; show (wq.alloc o).grownBy w2 (T i).uv.ownBlock; rw [huv, hm]; exact hg) (by rw [us']; show (T i).uv.ownBlock = some gg ∨ _; rw [huv, hm]; exact ha)
      rw [us'] at key
      obtain ⟨a1, a2⟩ := key
      have a1 : w2.cell? ⟨(T i).b, 2, none⟩ = some (T i).uv ∧ w2.frozen? ⟨(T i).b, 2, none⟩ = false := a1
      rw [huv, hm, hq] at a1
      obtain ⟨uv, a3, a4⟩ := a2.out (w2.setCell ⟨q, 2, none⟩ (.slice (some ⟨gg, 0, none⟩) (m + 1) cap)) (by show _ = (w2.setCell ⟨(T i).b, 2, none⟩ (.slice (some ⟨gg, 0, none⟩) ((T i).us.length + 1) cap)).heap; rw [hq, hm]) rfl rfl rfl
      rw [updT_twice] at a3
      have p0 : Part (Ours B0 P w) w W0 := Part.ofBelow hb0
      have p1 := p0.trans h3 (Ours.back p0)
      exact ⟨a1, pv, uv, a3, p1.trans a4 (Ours.back p1)⟩
  have H1 : Hid (Ci (T i).ps (pg : Int) = true → Ad1 B0 P W0 Z S L g la N T i B cs (T i).ps W0) := fun _ => ⟨h00, (T i).pv, by have e : (⟨(T i).b, (T i).no, (T i).pv, (T i).ps, (T i).uv, (T i).us⟩ : Tr) = T i := rfl; rw [e, updT_self]; exact k0, Part.refl _ _⟩
  have HZ : Hid (∀ (d : Bool) ps v, Ci (T i).ps (pg : Int) = d → ps = (if d then (T i).ps else (T i).ps ++ [pg]) → (∃ pv uv, Mt B0 P v Z S L g la N (updT T i ⟨(T i).b, (T i).no, pv, ps, uv, (T i).us ++ [⟨nm, pg, off, ah, be⟩]⟩) ∧ Part (Ours B0 P w) w v) → Adt B0 P w Z S L g la N T i ⟨nm, pg, off, ah, be⟩ v) := fun d ps v hd hps ⟨pv, uv, h1, h2⟩ => by
    subst hps
    rw [← hd] at h1
    exact ⟨pv, uv, h1, h2⟩
  rw [hno] at hO
  have hup : upL no ⟨nm, pg, off, ah, be⟩ = [.int .i64 (nm : Int), .int .i64 1, .int .i64 (no : Int), .int .i64 (pg : Int), .int .i64 (off : Int), .string ah, .string be, .int .i64 0] := by
    rfl
  rw [hup] at HU
  have hn9 : n < 1000 := by omega
  have hm9 : m < 1000 := by omega
  obtain ⟨d, hd⟩ : ∃ d, Ci (T i).ps (pg : Int) = d := ⟨_, rfl⟩
  have HZd := HZ.out d
  rw [hd] at HC H1
  obtain ⟨psl, hpsl⟩ : ∃ psl, psL (T i).ps = psl := ⟨_, rfl⟩
  obtain ⟨usl, husl⟩ : ∃ usl, usL no (T i).us = usl := ⟨_, rfl⟩
  rw [hpsl] at HR HN
  rw [husl] at HU
  rw [hq, hno]
  have b0 : Below W0.heap.size W0 W0 := Below.refl _ _
  obtain ⟨c1, c2⟩ := (HC.out W0 b0).1
  have HS : Hid (∀ wq, Below W0.heap.size W0 wq → wq.cell? ⟨q, 1, none⟩ = some (.slice pa n pc) ∧ wq.cell? ⟨B, 2, none⟩ = some (.int .i64 (pg : Int))) := fun wq hb => (HC.out wq hb).1
  clear k k0 hlt hlt0 hBc hn hm hp hu hno hq hpv huv hcs h00 hi hpsl husl
  go_enter Tryz.func55, Tryz.ntmps55
  go_wp2_with fail
  try rw [hO]
  try rw [hW]
  try rw [hB]
  go_region_held2 (fun wq => wq.cell? ⟨q, 1, none⟩ = some (.slice pa n pc) ∧ wq.cell? ⟨B, 2, none⟩ = some (.int .i64 (pg : Int)))
    (first | assumption | exact HS.out _ (by assumption) | exact HS.out _ (blw_drewN 1 (by assumption)) | go_keep)
    (first
      | (go_at_call 86; refine ((HC.out _ (by first | exact b0 | exact blw_drewN 1 b0)).2.out).mono ?_; rintro e' v1 ⟨rfl, hv1⟩; subst hv1))
  have b1 : Below W0.heap.size W0 W0.drew := blw_drewN 1 b0
  clear hO hW hB
  clear HC c1 c2
  generalize W0.drew = W1 at *
  cases d
  · have HZ1 := HZd ((T i).ps ++ [pg])
    obtain ⟨c1, c2⟩ := HS.out W1 b1
    have al1 : ∀ o, (W1.alloc o).cell? ⟨q, 1, none⟩ = some (.slice pa n pc) := fun o => (HS.out _ (b1.alloc b1.size o)).1
    have al2 : ∀ o, (W1.alloc o).cell? ⟨B, 2, none⟩ = some (.int .i64 (pg : Int)) := fun o => (HS.out _ (b1.alloc b1.size o)).2
    clear H1 HZ HZd
    go_wp2_with fail
    go_region_law (first
      | (refine step_append_lies _ (by rfl) _ _ 26 (by rfl) B0 3 i0 (.int .i64 0) 1 8 Tryz.underlying26 hi0 hz0 hz1 hz2 rfl (by decide) (.slice pa n pc) n psl (by go_simp) (by first | exact (HR.out _ _ b1).1 | exact (HR.out _ _ (blw_drewN 1 b1)).1) ⟨W1.heap.size, 0, none⟩ 1 1 [.int .i64 (pg : Int)] (by go_simp) rfl (by first | exact cell_one_new _ _ _) (by intro y hy; simp at hy; subst hy; rfl) (by decide) (by unfold maxLen; omega) (by omega) (by first | exact (HR.out _ _ b1).2 | exact (HR.out _ _ (blw_drewN 1 b1)).2) _ rfl ?_; intro gg cap w2 ho2 hg2 ha2 _; obtain ⟨⟨x1, x2⟩, x3, HE⟩ := HN.out W1 _ gg cap w2 b1 ho2 (by first | exact hg2 | exact grown_drew hg2 | exact grown_drew (grown_drew hg2)) ha2))
    all_goals
      have HV := HE
      generalize World.setCell w2 ⟨q, 1, none⟩ _ = V at *
      clear HN HR HS HE x1 x2 x3 hg2 ha2 ho2 al1 al2 c1 c2
      have b2 : Below V.heap.size V V := Below.refl _ _
      have HU1 : Hid (∀ wq, Below V.heap.size V wq → wq.cell? ⟨q, 2, none⟩ = some (.slice ua m uc) ∧ wq.cell? ⟨B, 0, none⟩ = some (.int .i64 1) ∧ wq.cell? ⟨B, 1, none⟩ = some (.int .i64 (no : Int)) ∧ wq.cell? ⟨B, 2, none⟩ = some (.int .i64 (pg : Int)) ∧ wq.cell? ⟨B, 3, none⟩ = some (.int .i64 (off : Int)) ∧ wq.cell? ⟨B, 4, none⟩ = some (.string ah) ∧ wq.cell? ⟨B, 5, none⟩ = some (.string be) ∧ wq.cell? ⟨B, 6, none⟩ = some (.int .i64 0)) := (HU.out _ V HV.out).1
      have HU2 := (HU.out _ V HV.out).2.1
      have HU3 := (HU.out _ V HV.out).2.2
      have HU2 : Hid _ := HU2
      have HU3 : Hid _ := HU3
      have HZ1 : Hid _ := HZ1
      obtain ⟨z0, z1, z2, z3, z4, z5, z6, z7⟩ := HU1.out V b2
      have al1 : ∀ o, (V.alloc o).cell? ⟨q, 2, none⟩ = some (.slice ua m uc) := fun o => (HU1.out _ (b2.alloc b2.size o)).1
      clear HU HV
      go_wp2_with fail
      go_region_law (first
        | (refine step_append_lies _ (by rfl) _ _ 93 (by rfl) B0 163 j0 _ 8 80 Tryz.underlying93 hj0 hy0 hy1 hy2 rfl (by decide) (.slice ua m uc) m usl (by go_simp) (by first | exact (HU2.out _ _ b2).1 | exact (HU2.out _ _ (blw_drewN 1 b2)).1) ⟨V.heap.size, 0, none⟩ 1 1 [.int .i64 (nm : Int), .int .i64 1, .int .i64 (no : Int), .int .i64 (pg : Int), .int .i64 (off : Int), .string ah, .string be, .int .i64 0] (by go_simp) rfl (by exact World.news_of_block (heap_alloc_new _ _)) (by intro y hy; simp at hy; rcases hy with rfl | rfl | rfl | rfl | rfl | rfl | rfl | rfl <;> rfl) (by decide) (by unfold maxLen; omega) (by omega) (by first | exact (HU2.out _ _ b2).2 | exact (HU2.out _ _ (blw_drewN 1 b2)).2) _ rfl ?_; intro gg cap w3 ho3 hg3 ha3 _; obtain ⟨⟨y1, y2⟩, HE3⟩ := HU3.out V _ gg cap w3 b2 ho3 (by first | exact hg3 | exact grown_drew hg3 | exact grown_drew (grown_drew hg3)) ha3))
      all_goals
        go_wp2
        refine bodyPost_end (results_none rfl _ _ _) rfl ?_
        exact ⟨rfl, HZ1.out _ hd rfl HE3.out⟩
  · have HZ1 := HZd (T i).ps
    have HV : Hid (Ad1 B0 P W0 Z S L g la N T i B cs (T i).ps W1) := (H1.out rfl).below b1
    clear H1 HZ HZd HS HN HR
    generalize W1 = V at *
    have b2 : Below V.heap.size V V := Below.refl _ _
    have HU1 : Hid (∀ wq, Below V.heap.size V wq → wq.cell? ⟨q, 2, none⟩ = some (.slice ua m uc) ∧ wq.cell? ⟨B, 0, none⟩ = some (.int .i64 1) ∧ wq.cell? ⟨B, 1, none⟩ = some (.int .i64 (no : Int)) ∧ wq.cell? ⟨B, 2, none⟩ = some (.int .i64 (pg : Int)) ∧ wq.cell? ⟨B, 3, none⟩ = some (.int .i64 (off : Int)) ∧ wq.cell? ⟨B, 4, none⟩ = some (.string ah) ∧ wq.cell? ⟨B, 5, none⟩ = some (.string be) ∧ wq.cell? ⟨B, 6, none⟩ = some (.int .i64 0)) := (HU.out _ V HV.out).1
    have HU2 := (HU.out _ V HV.out).2.1
    have HU3 := (HU.out _ V HV.out).2.2
    have HU2 : Hid _ := HU2
    have HU3 : Hid _ := HU3
    have HZ1 : Hid _ := HZ1
    obtain ⟨z0, z1, z2, z3, z4, z5, z6, z7⟩ := HU1.out V b2
    have al1 : ∀ o, (V.alloc o).cell? ⟨q, 2, none⟩ = some (.slice ua m uc) := fun o => (HU1.out _ (b2.alloc b2.size o)).1
    clear HU HV
    go_wp2_with fail
    go_region_law (first
      | (refine step_append_lies _ (by rfl) _ _ 93 (by rfl) B0 163 j0 _ 8 80 Tryz.underlying93 hj0 hy0 hy1 hy2 rfl (by decide) (.slice ua m uc) m usl (by go_simp) (by first | exact (HU2.out _ _ b2).1 | exact (HU2.out _ _ (blw_drewN 1 b2)).1) ⟨V.heap.size, 0, none⟩ 1 1 [.int .i64 (nm : Int), .int .i64 1, .int .i64 (no : Int), .int .i64 (pg : Int), .int .i64 (off : Int), .string ah, .string be, .int .i64 0] (by go_simp) rfl (by exact World.news_of_block (heap_alloc_new _ _)) (by intro y hy; simp at hy; rcases hy with rfl | rfl | rfl | rfl | rfl | rfl | rfl | rfl <;> rfl) (by decide) (by unfold maxLen; omega) (by omega) (by first | exact (HU2.out _ _ b2).2 | exact (HU2.out _ _ (blw_drewN 1 b2)).2) _ rfl ?_; intro gg cap w3 ho3 hg3 ha3 _; obtain ⟨⟨y1, y2⟩, HE3⟩ := HU3.out V _ gg cap w3 b2 ho3 (by first | exact hg3 | exact grown_drew hg3 | exact grown_drew (grown_drew hg3)) ha3))
    all_goals
      go_wp2
      refine bodyPost_end (results_none rfl _ _ _) rfl ?_
      exact ⟨rfl, HZ1.out _ hd rfl HE3.out⟩
end Go.Proofs.YthfokciijcmhbaaGreatDoor
