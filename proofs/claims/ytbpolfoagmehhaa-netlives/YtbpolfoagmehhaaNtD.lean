/-
  Contracts of the program's net: Drop, Look, Take, Twice.
-/
import Derived.Test.YtbpolfoagmehhaaNtC
namespace Go.Proofs.Ytbpolfoagmehhaa
open Go.RowKit
set_option linter.unusedVariables false
set_option maxRecDepth 100000
set_option maxHeartbeats 2000000

theorem Own.one1 {w : World} {B : Nat} {v : Value} {xs : List Int} (h : Own w B v xs) : v.oneCell' = true := by
  obtain ⟨a, c, rfl⟩ := h.slice
  rfl
theorem Mq.one {w : World} {B : Nat} {v : Value} {zs : List Ms} (h : Mq w B v zs) : ∀ u ∈ zs.map Prod.fst, u.oneCell' = true := fun u hu => by
  obtain ⟨z, hz, rfl⟩ := List.mem_map.1 hu
  exact (h.own z hz).one1
/-- The i-th message's cell. -/
theorem Mq.at_ {w : World} {B g n cap : Nat} {zs : List Ms} (h : Mq w B (.slice (some ⟨g, 0, none⟩) n cap) zs) (i : Nat) (hi : i < zs.length) : w.cell? ⟨g, i, none⟩ = some zs[i].1 := by
  have h0 := h.row
  obtain ⟨rfl⟩ : n = zs.length := by
    rcases h0.2 with ⟨e, _⟩ | ⟨_, _, _, e, _⟩
    · cases e
    · injection e
  rw [h0.cellAt i (by omega), List.getElem?_map, List.getElem?_eq_getElem hi]
  rfl
theorem Mq.some_ {w : World} {B : Nat} {v : Value} {zs : List Ms} (h : Mq w B v zs) (hn : 0 < zs.length) : ∃ g c, v = .slice (some ⟨g, 0, none⟩) zs.length c ∧ g < w.heap.size ∧ B ≤ g ∧ zs.length ≤ c ∧ c ≤ 9223372036854775807 := by
  rcases h.row.2 with ⟨_, e⟩ | ⟨g, c, cur, e, e1, e2, e3, e4, _⟩
  · omega
  · exact ⟨g, c, e, (Array.getElem?_eq_some_iff.1 e2).1, e1, e3, e4⟩
theorem erase_map {α β : Type} (f : α → β) (l : List α) (i : Nat) : (l.eraseIdx i).map f = (l.map f).eraseIdx i := by
  rw [List.eraseIdx_eq_take_drop_succ, List.eraseIdx_eq_take_drop_succ]
  simp
/-- What a call leaves that has taken the i-th message away. -/
def Gone (w w' : World) (B b : Nat) (s : Bool) (v : Value) (zs : List Ms) (i : Nat) : Prop := ∃ v', Nt w' B s b v' (zs.eraseIdx i) ∧ Went w w' b v v'
theorem Nt.gone {w w2 : World} {B b g cap : Nat} {s : Bool} {zs : List Ms} {i : Nat} (h : Nt w B s b (.slice (some ⟨g, 0, none⟩) zs.length cap) zs) (hi : i < zs.length) (ho : w2.ownsRow B 29 1 (.slice (some ⟨g, 0, none⟩) (zs.length - 1) cap) (zs.length - 1) ((zs.map Prod.fst).eraseIdx i)) (hp : Part (fun k => k = g) w w2) :
    w2.heap[b]? = some (bx s (.slice (some ⟨g, 0, none⟩) zs.length cap)) ∧ ∀ wf : World, wf.heap = (w2.setCell ⟨b, 0, none⟩ (.slice (some ⟨g, 0, none⟩) (zs.length - 1) cap)).heap → wf.os = w2.os → wf.tape = w2.tape → wf.output = w2.output → Gone w wf B b s (.slice (some ⟨g, 0, none⟩) zs.length cap) zs i := by
  have hl : (zs.eraseIdx i).length = zs.length - 1 := by rw [List.length_eraseIdx, if_pos hi]
  obtain ⟨r1, r2⟩ := h.stored (v2 := .slice (some ⟨g, 0, none⟩) (zs.length - 1) cap) (zs2 := zs.eraseIdx i) (hp.mono (fun k _ e => by rw [e]; rfl)) ⟨by rw [hl, erase_map]; exact ho, fun z hz => hp.row (h.q.own z (List.mem_of_mem_eraseIdx hz)) (fun k hk e => by
      subst e
      obtain ⟨_, c1, e1⟩ := h.q.zty (List.mem_of_mem_eraseIdx hz) hk
      obtain ⟨_, c2, e2⟩ := h.q.vty rfl
      exact tyne e1 e2 (by decide))⟩ (by have := h.n; omega) (fun z hz => h.by_ z (List.mem_of_mem_eraseIdx hz)) (fun k hk => .inl hk)
  refine ⟨r1, fun wf e1 e2 e3 e4 => ?_⟩
  obtain ⟨s1, s2⟩ := r2 wf e1 e2 e3 e4
  exact ⟨_, s1, s2⟩

theorem n_drop_no {w : World} {B b : Nat} {v : Value} {zs : List Ms} (h : Nt w B true b v zs) (i : Int) (hi : i < 0 ∨ (zs.length : Int) ≤ i) : Calls Try.prog 12 #[.pointer (some ⟨b, 0, none⟩), .int .i64 i] w fun e w' => e = .returned (.int .i64 190) ∧ w' = w := by
  have hr := n_refuse_no h i hi
  clear h hi
  go_enter Try.func12, Try.ntmps12
  go_wp2_with (go_at_call 25; refine hr.mono ?_; rintro e w2 ⟨rfl, hw⟩; rw [hw]; clear hw)
  go_ret
  exact ⟨rfl, rfl⟩
theorem n_drop {w : World} {B b : Nat} {v : Value} {zs : List Ms} (h : Nt w B true b v zs) (i : Nat) (hi : i < zs.length) : Calls Try.prog 12 #[.pointer (some ⟨b, 0, none⟩), .int .i64 (i : Int)] w fun e w' => e = .returned (.int .i64 0) ∧ Gone w w' B b true v zs i := by
  have hr := n_refuse_ok h i hi
  obtain ⟨g, c, rfl, hg1, hg2, hc1, hc2⟩ := h.q.some_ (by omega)
  have hn := h.n
  have hd := n_delete h.q.row h.q.one i hi hn
  obtain ⟨h0, _⟩ := h.cell0
  have HW : Hid (∀ w2 : World, w2.ownsRow B 29 1 (.slice (some ⟨g, 0, none⟩) (zs.length - 1) c) (zs.length - 1) ((zs.map Prod.fst).eraseIdx i) → Part (fun k => k = g) w w2 → w2.cell? ⟨b, 0, none⟩ = some (.slice (some ⟨g, 0, none⟩) zs.length c) ∧ w2.frozen? ⟨b, 0, none⟩ = false ∧ Hid (Gone w (w2.setCell ⟨b, 0, none⟩ (.slice (some ⟨g, 0, none⟩) (zs.length - 1) c)) B b true (.slice (some ⟨g, 0, none⟩) zs.length c) zs i)) := fun w2 h2 hp => by
    obtain ⟨r1, r2⟩ := h.gone hi h2 hp
    exact ⟨cells_at r1 0, cells_free r1 0, r2 _ rfl rfl rfl rfl⟩
  have hib : (i : Int) ≤ 64 := by omega
  clear h
  go_enter Try.func12, Try.ntmps12
  go_wp2_with (first
    | (go_at_call 25; refine hr.mono ?_; rintro e w2 ⟨rfl, hw⟩; rw [hw]; clear hw)
    | (go_at_call 26; refine hd.mono ?_; rintro e w2 ⟨rfl, ho, hp⟩; obtain ⟨x1, x2, HE⟩ := HW.out w2 ho hp))
  go_ret
  exact ⟨rfl, HE.out⟩
theorem n_look_no {w : World} {B b : Nat} {v : Value} {zs : List Ms} (h : Nt w B true b v zs) (i : Int) (hi : i < 0 ∨ (zs.length : Int) ≤ i) : Calls Try.prog 18 #[.pointer (some ⟨b, 0, none⟩), .int .i64 i] w fun e w' => e = .returned (.tuple #[.slice none 0 0, .int .i64 190]) ∧ w' = w := by
  have hr := n_refuse_no h i hi
  clear h hi
  go_enter Try.func18, Try.ntmps18
  go_wp2_with (go_at_call 25; refine hr.mono ?_; rintro e w2 ⟨rfl, hw⟩; rw [hw]; clear hw)
  go_ret2
  exact ⟨rfl, rfl⟩
theorem n_look {w : World} {B b : Nat} {v : Value} {zs : List Ms} (h : Nt w B true b v zs) (i : Nat) (hi : i < zs.length) : Calls Try.prog 18 #[.pointer (some ⟨b, 0, none⟩), .int .i64 (i : Int)] w fun e w' => ∃ u, e = .returned (.tuple #[u, .int .i64 0]) ∧ Own w' w.heap.size u zs[i].2 ∧ Below w.heap.size w w' := by
  have hr := n_refuse_ok h i hi
  obtain ⟨g, c, rfl, hg1, hg2, hc1, hc2⟩ := h.q.some_ (by omega)
  obtain ⟨h0, _⟩ := h.cell0
  have hat := h.q.at_ i hi
  have hby := h.by_ zs[i] (List.getElem_mem hi)
  obtain ⟨a, ca, hu, hf, _⟩ := (h.q.own zs[i] (List.getElem_mem hi)).open
  rw [hu] at hat
  have hcl := clone a zs[i].2.length ca (fn zs[i].2) w (by omega) hf
  rw [lst_fn] at hcl
  generalize zs[i].2 = xs at *
  have hib : (i : Int) ≤ 64 := by have := h.n; omega
  have hlt : (i : Int) < (zs.length : Int) := by omega
  clear h hf hu
  go_enter Try.func18, Try.ntmps18
  go_wp2_with (first
    | (go_at_call 25; refine hr.mono ?_; rintro e w2 ⟨rfl, hw⟩; rw [hw]; clear hw)
    | (go_at_call 7; refine hcl.mono ?_; rintro e w2 ⟨v2, rfl, ho, hb⟩))
  go_ret2
  exact ⟨v2, rfl, ho, hb⟩
theorem n_take_no {w : World} {B b : Nat} {v : Value} {zs : List Ms} (h : Nt w B true b v zs) (i : Int) (hi : i < 0 ∨ (zs.length : Int) ≤ i) : Calls Try.prog 16 #[.pointer (some ⟨b, 0, none⟩), .int .i64 i] w fun e w' => e = .returned (.tuple #[.slice none 0 0, .int .i64 190]) ∧ w' = w := by
  have hr := n_look_no h i hi
  clear h hi
  go_enter Try.func16, Try.ntmps16
  go_wp2_with (go_at_call 18; refine hr.mono ?_; rintro e w2 ⟨rfl, hw⟩; rw [hw]; clear hw)
  go_ret2
  exact ⟨rfl, rfl⟩
theorem Gone.from {w w1 w2 : World} {B b i : Nat} {s : Bool} {v : Value} {zs : List Ms} (hb : Below w.heap.size w w1) (h : Gone w1 w2 B b s v zs i) : Gone w w2 B b s v zs i := by
  obtain ⟨v', h1, h2, h3⟩ := h
  exact ⟨v', h1, (Part.ofBelow hb).trans h2 (fun _ _ h => h), fun k hk => (h3 k hk).imp id (fun h => Nat.le_trans hb.size h)⟩
theorem Sent.from {w w1 w2 : World} {B b : Nat} {s : Bool} {v : Value} {zs : List Ms} {x : List Int} (hb : Below w.heap.size w w1) (h : Sent w1 w2 B b s v zs x) : Sent w w2 B b s v zs x := by
  obtain ⟨v', m, h1, ⟨h2, h3⟩, h4⟩ := h
  exact ⟨v', m, h1, ⟨(Part.ofBelow hb).trans h2 (fun _ _ h => h), fun k hk => (h3 k hk).imp id (fun h => Nat.le_trans hb.size h)⟩, fun k hk => Nat.le_trans hb.size (h4 k hk)⟩
/-- What was told lies in blocks of its own, which taking away leaves alone. -/
theorem Own.gone {w1 w2 : World} {B B' b : Nat} {s : Bool} {v v' u : Value} {zs : List Ms} {xs : List Int} (ho : Own w1 B' u xs) (h : Nt w1 B s b v zs) (hw : Went w1 w2 b v v') : Own w2 B' u xs := by
  refine hw.part.row ho (fun k hk hf => ?_)
  obtain ⟨cur, e1, _⟩ := row_ty ho hk
  rcases hf with hf | hf
  · subst hf
    have hb := h.hb
    cases s <;> exact tyne hb e1 (by decide)
  · obtain ⟨_, c2, e2⟩ := h.q.vty hf
    exact tyne e1 e2 (by decide)
theorem n_take {w : World} {B b : Nat} {v : Value} {zs : List Ms} (h : Nt w B true b v zs) (i : Nat) (hi : i < zs.length) : Calls Try.prog 16 #[.pointer (some ⟨b, 0, none⟩), .int .i64 (i : Int)] w fun e w' => ∃ u, e = .returned (.tuple #[u, .int .i64 0]) ∧ Own w' w.heap.size u zs[i].2 ∧ Gone w w' B b true v zs i := by
  have hl := n_look h i hi
  have HD : Hid (∀ (w1 : World) (u : Value), Own w1 w.heap.size u zs[i].2 → Below w.heap.size w w1 → Calls Try.prog 12 #[.pointer (some ⟨b, 0, none⟩), .int .i64 (i : Int)] w1 fun e w' => e = .returned (.int .i64 0) ∧ Hid (Own w' w.heap.size u zs[i].2 ∧ Gone w w' B b true v zs i)) := fun w1 u ho hb => by
    refine (n_drop (h.below hb) i hi).mono ?_
    rintro e w2 ⟨rfl, hg⟩
    refine ⟨rfl, ?_, hg.from hb⟩
    obtain ⟨v', _, hw⟩ := hg
    exact ho.gone (h.below hb) hw
  clear h
  generalize zs[i].2 = xs at *
  go_enter Try.func16, Try.ntmps16
  go_wp2_with (first
    | (go_at_call 18; refine hl.mono ?_; rintro e w1 ⟨u, rfl, ho, hb⟩; have hd := HD.out w1 u ho hb; obtain ⟨au, cu, hu⟩ := ho.slice; clear ho hb; subst hu)
    | (go_at_call 12; refine hd.mono ?_; rintro e w2 ⟨rfl, HE⟩))
  go_ret2
  exact ⟨_, rfl, HE.out⟩
theorem n_twice_no {w : World} {B b : Nat} {v : Value} {zs : List Ms} (h : Nt w B true b v zs) (i : Int) (hi : i < 0 ∨ (zs.length : Int) ≤ i) : Calls Try.prog 14 #[.pointer (some ⟨b, 0, none⟩), .int .i64 i] w fun e w' => e = .returned (.int .i64 190) ∧ w' = w := by
  have hr := n_refuse_no h i hi
  clear h hi
  go_enter Try.func14, Try.ntmps14
  go_wp2_with (go_at_call 25; refine hr.mono ?_; rintro e w2 ⟨rfl, hw⟩; rw [hw]; clear hw)
  go_ret
  exact ⟨rfl, rfl⟩
theorem n_twice_full {w : World} {B b : Nat} {v : Value} {zs : List Ms} (h : Nt w B true b v zs) (i : Nat) (hi : i < zs.length) (hn : zs.length = 64) : Calls Try.prog 14 #[.pointer (some ⟨b, 0, none⟩), .int .i64 (i : Int)] w fun e w' => e = .returned (.int .i64 4) ∧ w' = w := by
  have hr := n_refuse_ok h i hi
  obtain ⟨g, c, rfl, hg1, hg2, hc1, hc2⟩ := h.q.some_ (by omega)
  obtain ⟨h0, _⟩ := h.cell0
  have hat := h.q.at_ i hi
  obtain ⟨a, ca, hu⟩ := (h.q.own zs[i] (List.getElem_mem hi)).slice
  have ha := n_add_full h hn (.slice a zs[i].2.length ca)
  rw [hu] at hat
  generalize zs[i].2.length = N at *
  have hib : (i : Int) ≤ 64 := by have := h.n; omega
  have hlt : (i : Int) < (zs.length : Int) := by omega
  clear h hu hn
  go_enter Try.func14, Try.ntmps14
  go_wp2_with (first
    | (go_at_call 25; refine hr.mono ?_; rintro e w2 ⟨rfl, hw⟩; rw [hw]; clear hw)
    | (go_at_call 23; refine ha.mono ?_; rintro e w2 ⟨rfl, hw⟩; rw [hw]; clear hw))
  go_ret
  exact ⟨rfl, rfl⟩
theorem n_twice {w : World} {B b : Nat} {v : Value} {zs : List Ms} (h : Nt w B true b v zs) (i : Nat) (hi : i < zs.length) (hn : zs.length < 64) : Calls Try.prog 14 #[.pointer (some ⟨b, 0, none⟩), .int .i64 (i : Int)] w fun e w' => e = .returned (.int .i64 0) ∧ Sent w w' B b true v zs zs[i].2 := by
  have hr := n_refuse_ok h i hi
  obtain ⟨g, c, rfl, hg1, hg2, hc1, hc2⟩ := h.q.some_ (by omega)
  obtain ⟨h0, _⟩ := h.cell0
  have hat := h.q.at_ i hi
  obtain ⟨a, ca, hu, hf, _⟩ := (h.q.own zs[i] (List.getElem_mem hi)).open
  have ha := n_add h hn a zs[i].2.length ca (fn zs[i].2) hf (h.by_ zs[i] (List.getElem_mem hi))
  rw [lst_fn] at ha
  rw [hu] at hat
  generalize zs[i].2 = xs at *
  have hib : (i : Int) ≤ 64 := by have := h.n; omega
  have hlt : (i : Int) < (zs.length : Int) := by omega
  clear h hu hn hf
  go_enter Try.func14, Try.ntmps14
  go_wp2_with (first
    | (go_at_call 25; refine hr.mono ?_; rintro e w2 ⟨rfl, hw⟩; rw [hw]; clear hw)
    | (go_at_call 23; refine ha.mono ?_; rintro e w2 ⟨rfl, HE⟩))
  go_ret
  exact ⟨rfl, HE⟩
end Go.Proofs.Ytbpolfoagmehhaa
