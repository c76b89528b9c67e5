/-
  Contracts of the program's net: missing, refuse, New, add, Send; of the document's copied and Send.
-/
import Derived.Test.YtbpolfoagmehhaaNtA
namespace Go.Proofs.Ytbpolfoagmehhaa
open Go.RowKit
set_option linter.unusedVariables false
set_option maxRecDepth 100000
set_option maxHeartbeats 2000000

theorem n_missing {w : World} {B b : Nat} {v : Value} {zs : List Ms} (h : Nt w B true b v zs) : Calls Try.prog 22 #[.pointer (some ⟨b, 0, none⟩)] w fun e w' => e = .returned (.bool false) ∧ w' = w := by
  have h1 := h.cell1
  clear h
  go_enter Try.func22, Try.ntmps22
  go_wp2
  go_ret
  exact ⟨rfl, rfl⟩
theorem n_new (w : World) (B : Nat) (hB : B ≤ w.heap.size) : Calls Try.prog 6 #[] w fun e w' => e = .returned (.pointer (some ⟨w.heap.size, 0, none⟩)) ∧ Nt w' B true w.heap.size (.slice none 0 0) [] ∧ w' = w.alloc (.cells #[.slice none 0 0, .bool true] 45) := by
  have H : Hid (Nt (w.alloc (.cells #[.slice none 0 0, .bool true] 45)) B true w.heap.size (.slice none 0 0) []) := ⟨heap_alloc_at w _ _ rfl, Mq.nil _ _, hB, by simp, fun z hz => by cases hz⟩
  go_enter Try.func6, Try.ntmps6
  go_wp2
  go_ret
  exact ⟨rfl, H.out, rfl⟩
/-- There is no i-th message. -/
theorem n_refuse_no {w : World} {B b : Nat} {v : Value} {zs : List Ms} (h : Nt w B true b v zs) (i : Int) (hi : i < 0 ∨ (zs.length : Int) ≤ i) : Calls Try.prog 25 #[.pointer (some ⟨b, 0, none⟩), .int .i64 i] w fun e w' => e = .returned (.int .i64 190) ∧ w' = w := by
  have hm := n_missing h
  obtain ⟨h0, _⟩ := h.cell0
  obtain ⟨a, c, hv, _⟩ := row_slice h.q.row
  rw [hv] at h0
  clear hv h
  by_cases h1 : i < 0
  · clear hi
    go_enter Try.func25, Try.ntmps25
    go_wp2_with (go_at_call 22; refine hm.mono ?_; rintro e w2 ⟨rfl, hw⟩; rw [hw]; clear hw)
    go_ret
    exact ⟨rfl, rfl⟩
  · have h2 : (zs.length : Int) ≤ i := by omega
    clear hi
    go_enter Try.func25, Try.ntmps25
    go_wp2_with (go_at_call 22; refine hm.mono ?_; rintro e w2 ⟨rfl, hw⟩; rw [hw]; clear hw)
    go_ret
    exact ⟨rfl, rfl⟩
theorem n_refuse_ok {w : World} {B b : Nat} {v : Value} {zs : List Ms} (h : Nt w B true b v zs) (i : Nat) (hi : i < zs.length) : Calls Try.prog 25 #[.pointer (some ⟨b, 0, none⟩), .int .i64 (i : Int)] w fun e w' => e = .returned (.int .i64 0) ∧ w' = w := by
  have hm := n_missing h
  obtain ⟨h0, _⟩ := h.cell0
  obtain ⟨a, c, hv, _⟩ := row_slice h.q.row
  rw [hv] at h0
  clear hv h
  have h1 : ¬ (i : Int) < 0 := by omega
  have h2 : ¬ (zs.length : Int) ≤ (i : Int) := by omega
  go_enter Try.func25, Try.ntmps25
  go_wp2_with (go_at_call 22; refine hm.mono ?_; rintro e w2 ⟨rfl, hw⟩; rw [hw]; clear hw)
  go_ret
  exact ⟨rfl, rfl⟩
theorem y_copied (a0 : Option Addr) (n c : Nat) (f : Nat → Int) (w : World) (hbig : n ≤ 140737488355328) (hf : From w a0 n f) (hc0 : a0 = none → c = 0) :
    Calls Try.prog 24 #[.slice a0 n c] w fun e w' => ∃ v', e = .returned v' ∧ Own w' w.heap.size v' (lst f n) ∧ Below w.heap.size w w' := by
  have hm : Own (w.alloc (.cells #[] 5)) w.heap.size (.slice (some ⟨w.heap.size, 0, none⟩) 0 0) [] := World.ownsRow_made w #[] 0 (Nat.le_refl _) (Nat.zero_le _) rfl
  have HF : Hid (From (w.alloc (.cells #[] 5)) a0 n f) := hf.alloc (.cells #[] 5)
  clear hf
  go_enter Try.func24, Try.ntmps24
  go_wp2_with (at_builtin; refine wpList_app rfl _ _ rfl w.heap.size _ [] rfl hm a0 n c f rfl HF.out hc0 ?q2 ?q3 ?_)
  case q2 => simp; omega
  case q3 => simp
  intro v' w' ho hb
  go_wp2
  go_ret
  exact ⟨v', rfl, ho, ((Below.refl _ w).alloc (Nat.le_refl _) _).trans hb⟩

/-- No room. -/
theorem n_add_full {w : World} {B b : Nat} {v : Value} {zs : List Ms} (h : Nt w B true b v zs) (hn : zs.length = 64) (u : Value) : Calls Try.prog 23 #[.pointer (some ⟨b, 0, none⟩), u] w fun e w' => e = .returned (.int .i64 4) ∧ w' = w := by
  obtain ⟨h0, _⟩ := h.cell0
  obtain ⟨a, c, hv, _⟩ := row_slice h.q.row
  rw [hv, hn] at h0
  clear hv h hn
  go_enter Try.func23, Try.ntmps23
  go_wp2
  go_ret
  exact ⟨rfl, rfl⟩
/-- What a call leaves that has put a message behind all. -/
def Sent (w w' : World) (B b : Nat) (s : Bool) (v : Value) (zs : List Ms) (x : List Int) : Prop := ∃ v' m, Nt w' B s b v' (zs ++ [(m, x)]) ∧ Went w w' b v v' ∧ ∀ k, m.ownBlock = some k → w.heap.size ≤ k
theorem n_add {w : World} {B b : Nat} {v : Value} {zs : List Ms} (h : Nt w B true b v zs) (hn : zs.length < 64) (a0 : Option Addr) (n c : Nat) (f : Nat → Int) (hf : From w a0 n f) (hL : n ≤ 4096) :
    Calls Try.prog 23 #[.pointer (some ⟨b, 0, none⟩), .slice a0 n c] w fun e w' => e = .returned (.int .i64 0) ∧ Sent w w' B b true v zs (lst f n) := by
  obtain ⟨i0, hi0, hz0, hz1, hz2⟩ := info_parts infoB
  obtain ⟨h0, _⟩ := h.cell0
  have hlb := h.lt
  have hB : B ≤ w.heap.size := Nat.le_of_lt (Nat.lt_of_le_of_lt h.lo h.lt)
  obtain ⟨L, hL0⟩ : ∃ L, zs.length = L := ⟨_, rfl⟩
  obtain ⟨av, cv, hv, hv0, _⟩ := row_slice h.q.row
  have HX : Hid (∀ wq, Below w.heap.size w.drew wq → wq.cell? ⟨b, 0, none⟩ = some v ∧ b < wq.heap.size ∧ (∀ o, (wq.alloc o).cell? ⟨b, 0, none⟩ = some v) ∧ (∀ o, (wq.alloc o).ownsRow B 29 1 v zs.length (zs.map Prod.fst)) ∧ ∀ o, B ≤ (wq.alloc o).heap.size) := fun wq hq => by
    have hs : w.heap.size ≤ wq.heap.size := hq.size
    have e : wq.cell? ⟨b, 0, none⟩ = some v := by rw [hq.cell (p := ⟨b, 0, none⟩) hlb]; exact h0
    have hrow : wq.ownsRow B 29 1 v zs.length (zs.map Prod.fst) := Part.row (F := fun _ => False) (Part.ofBelow (w := w.drew) hq) (row_heap h.q.row rfl) (fun _ _ h => h)
    exact ⟨e, by omega, fun o => (World.cell?_alloc_past (w := wq) o b 0 (by omega)).trans e, fun o => World.ownsRow.alloc hrow o, fun o => by simp; omega⟩
  have HF : Hid (From w.drew a0 n f) := hf
  have HW : Hid (∀ (w1 w2 : World) (m : Value) (o : Obj) (v2 : Value), Below w.heap.size w.drew w1 → Own w1 w.heap.size m (lst f n) → w2.ownsRow B 29 1 v2 (zs.length + 1) (zs.map Prod.fst ++ [m]) → (w1.alloc o).grownBy w2 v.ownBlock → (v2.ownBlock = v.ownBlock ∨ v2.ownBlock = some (w1.alloc o).heap.size) →
      (∃ g2 c2, v2 = .slice g2 (zs.length + 1) c2) ∧ w2.cell? ⟨b, 0, none⟩ = some v ∧ w2.frozen? ⟨b, 0, none⟩ = false ∧ Hid (∀ wf : World, wf.heap = (w2.setCell ⟨b, 0, none⟩ v2).heap → wf.os = w2.os → wf.tape = w2.tape → wf.output = w2.output → Sent w wf B b true v zs (lst f n))) := fun w1 w2 m o v2 hb ho h2 hg2 ha => by
    have hb' : Below w.heap.size w w1 := ⟨hb.os, hb.tape, hb.output, hb.size, hb.block⟩
    obtain ⟨r1, r2⟩ := h.added hn (by rw [lst_length]; exact hL) hb' ho o h2 hg2 ha
    obtain ⟨g2, c2, e2, _⟩ := row_slice h2
    exact ⟨⟨g2, c2, e2⟩, cells_at r1 0, cells_free r1 0, fun wf e1 e2 e3 e4 => by
      obtain ⟨s1, s2⟩ := r2 wf e1 e2 e3 e4
      exact ⟨v2, m, s1, s2, fun k hk => (World.ownsRow.lt ho k hk).1⟩⟩
  have g1 : ¬ (64 : Int) ≤ (L : Int) := by omega
  rw [hL0] at hv HX HW hn
  have HL : Hid (zs.length = L) := hL0
  have hv' := hv
  rw [hv] at h0
  have hmn : n ≤ 140737488355328 := by omega
  clear h hf hv hL0
  go_enter Try.func23, Try.ntmps23
  go_wp2_with fail
  go_cut [] (fun wx => ∃ (w2 : World) (v2 : Value), wx = w2.setCell ⟨b, 0, none⟩ v2 ∧ Hid (∀ wf : World, wf.heap = (w2.setCell ⟨b, 0, none⟩ v2).heap → wf.os = w2.os → wf.tape = w2.tape → wf.output = w2.output → Sent w wf B b true v zs (lst f n)))
  case first =>
    go_region_law (first
      | (refine step_append_own_at rfl _ _ 26 rfl B 29 i0 (.slice none 0 0) 1 24 Try.underlying26 hi0 hz0 hz1 hz2 rfl (by decide) v L (zs.map Prod.fst) (by rw [hv']; go_simp) (by exact (HX.out w1 hb1).2.2.2.1 _) ⟨w1.heap.size, 0, none⟩ 1 1 [.slice am n cm] (by go_simp) rfl (by intro j u hj; rw [Addr.add_lit, Nat.zero_add, World.cell?_alloc_at _ _ _ _ rfl]; simpa using hj) (by intro u hu; simp at hu; subst hu; rfl) (by unfold maxLen; omega) (by omega) (by exact (HX.out w1 hb1).2.2.2.2 _) ?_; intro v2 w2 ho2 hg2 ha2; obtain ⟨⟨gx, cx, hv2⟩, x1, x2, HE⟩ := HW.out w1 w2 _ _ v2 hb1 ho1 ho2 hg2 ha2; subst hv2)
      | (go_simp; go_at_call 7; refine (clone a0 n c f _ hmn (by exact HF.out)).mono ?_; rintro e' w1 ⟨v1, rfl, ho1, hb1⟩; obtain ⟨am, cm, hv1⟩ := ho1.slice; rw [lst_length] at hv1; subst hv1; obtain ⟨y1, y2, y3, _⟩ := HX.out w1 hb1; rw [hv'] at y1 y3))
    all_goals (go_wp2_with fail; go_meet; exact ⟨w2, _, rfl, HE⟩)
  case rest =>
  obtain ⟨w2, v2, rfl, HE⟩ := hcut
  go_wp2
  go_ret
  exact ⟨rfl, HE.out _ (by rfl) (by rfl) (by rfl) (by rfl)⟩
theorem n_send_long {w : World} {B b : Nat} {v : Value} {zs : List Ms} (h : Nt w B true b v zs) (a0 : Option Addr) (n c : Nat) (hL : 4096 < n) : Calls Try.prog 8 #[.pointer (some ⟨b, 0, none⟩), .slice a0 n c] w fun e w' => e = .returned (.int .i64 12) ∧ w' = w := by
  have hm := n_missing h
  have hL' : (4096 : Int) < (n : Int) := by omega
  clear h
  go_enter Try.func8, Try.ntmps8
  go_wp2_with (go_at_call 22; refine hm.mono ?_; rintro e w2 ⟨rfl, hw⟩; rw [hw]; clear hw)
  go_ret
  exact ⟨rfl, rfl⟩
theorem n_send_full {w : World} {B b : Nat} {v : Value} {zs : List Ms} (h : Nt w B true b v zs) (a0 : Option Addr) (n c : Nat) (hL : n ≤ 4096) (hn : zs.length = 64) : Calls Try.prog 8 #[.pointer (some ⟨b, 0, none⟩), .slice a0 n c] w fun e w' => e = .returned (.int .i64 4) ∧ w' = w := by
  have hm := n_missing h
  have ha := n_add_full h hn (.slice a0 n c)
  have hL' : ¬ (4096 : Int) < (n : Int) := by omega
  clear h hn
  go_enter Try.func8, Try.ntmps8
  go_wp2_with (first
    | (go_at_call 22; refine hm.mono ?_; rintro e w2 ⟨rfl, hw⟩; rw [hw]; clear hw)
    | (go_at_call 23; refine ha.mono ?_; rintro e w2 ⟨rfl, hw⟩; rw [hw]; clear hw))
  go_ret
  exact ⟨rfl, rfl⟩
theorem n_send {w : World} {B b : Nat} {v : Value} {zs : List Ms} (h : Nt w B true b v zs) (hn : zs.length < 64) (a0 : Option Addr) (n c : Nat) (f : Nat → Int) (hf : From w a0 n f) (hL : n ≤ 4096) :
    Calls Try.prog 8 #[.pointer (some ⟨b, 0, none⟩), .slice a0 n c] w fun e w' => e = .returned (.int .i64 0) ∧ Sent w w' B b true v zs (lst f n) := by
  have hm := n_missing h
  have ha := n_add h hn a0 n c f hf hL
  have hL' : ¬ (4096 : Int) < (n : Int) := by omega
  clear h hn hf
  go_enter Try.func8, Try.ntmps8
  go_wp2_with (first
    | (go_at_call 22; refine hm.mono ?_; rintro e w2 ⟨rfl, hw⟩; rw [hw]; clear hw)
    | (go_at_call 23; refine ha.mono ?_; rintro e w2 ⟨rfl, HS⟩))
  go_ret
  exact ⟨rfl, HS⟩
end Go.Proofs.Ytbpolfoagmehhaa
