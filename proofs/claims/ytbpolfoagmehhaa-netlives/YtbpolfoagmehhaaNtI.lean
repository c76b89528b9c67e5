/-
  Contracts of the document's net: Send, Look.
-/
import Derived.Test.YtbpolfoagmehhaaNtD
namespace Go.Proofs.Ytbpolfoagmehhaa
open Go.RowKit
set_option linter.unusedVariables false
set_option maxRecDepth 100000
set_option maxHeartbeats 2000000

theorem y_send_long (v : Value) (a0 : Option Addr) (n c : Nat) (w : World) (hL : 4096 < n) : Calls Try.prog 9 #[v, .slice a0 n c] w fun e w' => e = .returned (.int .i64 12) ∧ w' = w := by
  have hL' : (4096 : Int) < (n : Int) := by omega
  go_enter Try.func9, Try.ntmps9
  go_wp2
  go_ret
  exact ⟨rfl, rfl⟩
theorem y_send_full {w : World} {B b : Nat} {v : Value} {zs : List Ms} (h : Nt w B false b v zs) (a0 : Option Addr) (n c : Nat) (hL : n ≤ 4096) (hn : zs.length = 64) : Calls Try.prog 9 #[.pointer (some ⟨b, 0, none⟩), .slice a0 n c] w fun e w' => e = .returned (.int .i64 4) ∧ w' = w := by
  obtain ⟨h0, _⟩ := h.cell0
  obtain ⟨a, c, hv, _⟩ := row_slice h.q.row
  rw [hv, hn] at h0
  have hL' : ¬ (4096 : Int) < (n : Int) := by omega
  clear hv h hn
  go_enter Try.func9, Try.ntmps9
  go_wp2
  go_ret
  exact ⟨rfl, rfl⟩
theorem y_send {w : World} {B b : Nat} {v : Value} {zs : List Ms} (h : Nt w B false b v zs) (hn : zs.length < 64) (a0 : Option Addr) (n c : Nat) (f : Nat → Int) (hf : From w a0 n f) (hL : n ≤ 4096) (hc0 : a0 = none → c = 0) :
    Calls Try.prog 9 #[.pointer (some ⟨b, 0, none⟩), .slice a0 n c] w fun e w' => e = .returned (.int .i64 0) ∧ Sent w w' B b false v zs (lst f n) := by
  obtain ⟨i0, hi0, hz0, hz1, hz2⟩ := info_parts infoB
  obtain ⟨h0, _⟩ := h.cell0
  have hlb := h.lt
  have hB : B ≤ w.heap.size := Nat.le_of_lt (Nat.lt_of_le_of_lt h.lo h.lt)
  obtain ⟨L, hL0⟩ : ∃ L, zs.length = L := ⟨_, rfl⟩
  obtain ⟨av, cv, hv, hv0, _⟩ := row_slice h.q.row
  have HX : Hid (∀ wq, Below w.heap.size w.drew wq → wq.cell? ⟨b, 0, none⟩ = some v ∧ b < wq.heap.size ∧ (∀ o, (wq.alloc o).cell? ⟨b, 0, none⟩ = some v) ∧ (∀ o, (wq.alloc o).ownsRow B 29 1 v zs.length (zs.map Prod.fst)) ∧ ∀ o, B ≤ (wq.alloc o).heap.size) := fun wq hq => by
    have hs : w.heap.size ≤ wq.heap.size := hq.size
    have e : wq.cell? ⟨b, 0, none⟩ = some v := by rw [hq.cell (p := ⟨b, 0, none⟩) hlb]; exact h0
    have hrow : wq.ownsRow B 29 1 v zs.length (zs.map Prod.fst) := Part.row (F := fun _ => False) (Part.ofBelow (w := w.drew) hq) (row_heap h.q.row rfl) (fun _ _ h => h)
    exact ⟨e, by omega, fun o => (World.cell?_alloc_past (w := wq) o b 0 (by omega)).trans e, fun o => World.ownsRow.alloc hrow o, fun o => by simp; omega⟩
  have HF : Hid (From w.drew a0 n f) := hf
  have HW : Hid (∀ (w1 w2 : World) (m : Value) (o : Obj) (v2 : Value), Below w.heap.size w.drew w1 → Own w1 w.heap.size m (lst f n) → w2.ownsRow B 29 1 v2 (zs.length + 1) (zs.map Prod.fst ++ [m]) → (w1.alloc o).grownBy w2 v.ownBlock → (v2.ownBlock = v.ownBlock ∨ v2.ownBlock = some (w1.alloc o).heap.size) →
      (∃ g2 c2, v2 = .slice g2 (zs.length + 1) c2) ∧ w2.cell? ⟨b, 0, none⟩ = some v ∧ w2.frozen? ⟨b, 0, none⟩ = false ∧ Hid (∀ wf : World, wf.heap = (w2.setCell ⟨b, 0, none⟩ v2).heap → wf.os = w2.os → wf.tape = w2.tape → wf.output = w2.output → Sent w wf B b false v zs (lst f n))) := fun w1 w2 m o v2 hb ho h2 hg2 ha => by
    have hb' : Below w.heap.size w w1 := ⟨hb.os, hb.tape, hb.output, hb.size, hb.block⟩
    obtain ⟨r1, r2⟩ := h.added hn (by rw [lst_length]; exact hL) hb' ho o h2 hg2 ha
    obtain ⟨g2, c2, e2, _⟩ := row_slice h2
    exact ⟨⟨g2, c2, e2⟩, cells_at r1 0, cells_free r1 0, fun wf e1 e2 e3 e4 => by
      obtain ⟨s1, s2⟩ := r2 wf e1 e2 e3 e4
      exact ⟨v2, m, s1, s2, fun k hk => (World.ownsRow.lt ho k hk).1⟩⟩
  have g1 : ¬ (64 : Int) ≤ (L : Int) := by omega
  rw [hL0] at hv HX HW hn
  have HL : Hid (zs.length = L) := hL0
  have hv' := hv
  rw [hv] at h0
  have hmn : n ≤ 140737488355328 := by omega
  have hL' : ¬ (4096 : Int) < (n : Int) := by omega
  clear h hf hv hL0
  go_enter Try.func9, Try.ntmps9
  go_wp2_with fail
  go_cut [] (fun wx => ∃ (w2 : World) (v2 : Value), wx = w2.setCell ⟨b, 0, none⟩ v2 ∧ Hid (∀ wf : World, wf.heap = (w2.setCell ⟨b, 0, none⟩ v2).heap → wf.os = w2.os → wf.tape = w2.tape → wf.output = w2.output → Sent w wf B b false v zs (lst f n)))
  case first =>
    go_region_law (first
      | (refine step_append_own_at rfl _ _ 26 rfl B 29 i0 (.slice none 0 0) 1 24 Try.underlying26 hi0 hz0 hz1 hz2 rfl (by decide) v L (zs.map Prod.fst) (by rw [hv']; go_simp) (by exact (HX.out w1 hb1).2.2.2.1 _) ⟨w1.heap.size, 0, none⟩ 1 1 [.slice am n cm] (by go_simp) rfl (by intro j u hj; rw [Addr.add_lit, Nat.zero_add, World.cell?_alloc_at _ _ _ _ rfl]; simpa using hj) (by intro u hu; simp at hu; subst hu; rfl) (by unfold maxLen; omega) (by omega) (by exact (HX.out w1 hb1).2.2.2.2 _) ?_; intro v2 w2 ho2 hg2 ha2; obtain ⟨⟨gx, cx, hv2⟩, x1, x2, HE⟩ := HW.out w1 w2 _ _ v2 hb1 ho1 ho2 hg2 ha2; subst hv2)
      | (go_simp; go_at_call 24; refine (y_copied a0 n c f _ hmn (by exact HF.out) hc0).mono ?_; rintro e' w1 ⟨v1, rfl, ho1, hb1⟩; obtain ⟨am, cm, hv1⟩ := ho1.slice; rw [lst_length] at hv1; subst hv1; obtain ⟨y1, y2, y3, _⟩ := HX.out w1 hb1; rw [hv'] at y1 y3))
    all_goals (go_wp2_with fail; go_meet; exact ⟨w2, _, rfl, HE⟩)
  case rest =>
  obtain ⟨w2, v2, rfl, HE⟩ := hcut
  go_wp2
  go_ret
  exact ⟨rfl, HE.out _ (by rfl) (by rfl) (by rfl) (by rfl)⟩
theorem y_look_no {w : World} {B b : Nat} {v : Value} {zs : List Ms} (h : Nt w B false b v zs) (i : Int) (hi : i < 0 ∨ (zs.length : Int) ≤ i) : Calls Try.prog 19 #[.pointer (some ⟨b, 0, none⟩), .int .i64 i] w fun e w' => e = .returned (.tuple #[.slice none 0 0, .int .i64 190]) ∧ w' = w := by
  obtain ⟨h0, _⟩ := h.cell0
  obtain ⟨a, c, hv, _⟩ := row_slice h.q.row
  rw [hv] at h0
  clear hv h
  by_cases h1 : i < 0
  · clear hi
    go_enter Try.func19, Try.ntmps19
    go_wp2
    go_ret2
    exact ⟨rfl, rfl⟩
  · have h2 : (zs.length : Int) ≤ i := by omega
    clear hi
    go_enter Try.func19, Try.ntmps19
    go_wp2
    go_ret2
    exact ⟨rfl, rfl⟩
theorem y_look {w : World} {B b : Nat} {v : Value} {zs : List Ms} (h : Nt w B false b v zs) (i : Nat) (hi : i < zs.length) : Calls Try.prog 19 #[.pointer (some ⟨b, 0, none⟩), .int .i64 (i : Int)] w fun e w' => ∃ u, e = .returned (.tuple #[u, .int .i64 0]) ∧ Own w' w.heap.size u zs[i].2 ∧ Below w.heap.size w w' := by
  obtain ⟨g, c, rfl, hg1, hg2, hc1, hc2⟩ := h.q.some_ (by omega)
  obtain ⟨h0, _⟩ := h.cell0
  have hat := h.q.at_ i hi
  have hby := h.by_ zs[i] (List.getElem_mem hi)
  obtain ⟨a, ca, hu, hf, ha0, _⟩ := (h.q.own zs[i] (List.getElem_mem hi)).open
  rw [hu] at hat
  have hcl := y_copied a zs[i].2.length ca (fn zs[i].2) w (by omega) hf ha0
  rw [lst_fn] at hcl
  generalize zs[i].2 = xs at *
  have hib : (i : Int) ≤ 64 := by have := h.n; omega
  have hlt : (i : Int) < (zs.length : Int) := by omega
  have h1 : ¬ (i : Int) < 0 := by omega
  clear h hf hu
  go_enter Try.func19, Try.ntmps19
  go_wp2_with (go_at_call 24; refine hcl.mono ?_; rintro e w2 ⟨v2, rfl, ho, hb⟩)
  go_ret2
  exact ⟨v2, rfl, ho, hb⟩
end Go.Proofs.Ytbpolfoagmehhaa
