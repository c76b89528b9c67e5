/-
  Contracts of the document's net: Take, Drop, Twice.
-/
import Derived.Test.YtbpolfoagmehhaaNtI
namespace Go.Proofs.Ytbpolfoagmehhaa
open Go.RowKit
set_option linter.unusedVariables false
set_option maxRecDepth 100000
set_option maxHeartbeats 4000000

theorem y_take_no {w : World} {B b : Nat} {v : Value} {zs : List Ms} (h : Nt w B false b v zs) (i : Int) (hi : i < 0 ∨ (zs.length : Int) ≤ i) : Calls Try.prog 17 #[.pointer (some ⟨b, 0, none⟩), .int .i64 i] w fun e w' => e = .returned (.tuple #[.slice none 0 0, .int .i64 190]) ∧ w' = w := by
  have hr := y_look_no h i hi
  clear h hi
  go_enter Try.func17, Try.ntmps17
  go_wp2_with (go_at_call 19; refine hr.mono ?_; rintro e w2 ⟨rfl, hw⟩; rw [hw]; clear hw)
  go_ret2
  exact ⟨rfl, rfl⟩
/-- Two appends onto a new row make a row without the i-th message. -/
theorem Nt.without {w w2 w3 : World} {B b g cap : Nat} {s : Bool} {zs : List Ms} {i : Nat} (h : Nt w B s b (.slice (some ⟨g, 0, none⟩) zs.length cap) zs) (hi : i < zs.length) {v2 v3 : Value} (hg2 : (w.drew.alloc (.cells #[] 29)).grownBy w2 (some w.heap.size)) (ha2 : v2.ownBlock = some w.heap.size ∨ v2.ownBlock = some (w.heap.size + 1))
    (h3 : w3.ownsRow w.heap.size 29 1 v3 (zs.length - 1) ((zs.map Prod.fst).eraseIdx i)) (hg3 : w2.grownBy w3 v2.ownBlock) :
    w3.heap[b]? = some (bx s (.slice (some ⟨g, 0, none⟩) zs.length cap)) ∧ ∀ wf : World, wf.heap = (w3.setCell ⟨b, 0, none⟩ v3).heap → wf.os = w3.os → wf.tape = w3.tape → wf.output = w3.output → Gone w wf B b s (.slice (some ⟨g, 0, none⟩) zs.length cap) zs i := by
  have hl : (zs.eraseIdx i).length = zs.length - 1 := by rw [List.length_eraseIdx, if_pos hi]
  have p1 : Part (fun _ => False) w (w.drew.alloc (.cells #[] 29)) := ((Part.refl _ w).drewN 1).alloc _
  have p2 : Part (fun _ => False) w w2 := p1.grown hg2 (fun k hk hlt => by injection hk with hk; omega)
  have p3 : Part (fun _ => False) w w3 := p2.grown hg3 (fun k hk hlt => by
    rcases ha2 with e | e <;> (rw [e] at hk; injection hk with hk; omega))
  have hB : B ≤ w.heap.size := Nat.le_of_lt (Nat.lt_of_le_of_lt h.lo h.lt)
  have h3' : w3.ownsRow B 29 1 v3 (zs.length - 1) ((zs.map Prod.fst).eraseIdx i) := by
    refine ⟨h3.1, ?_⟩
    rcases h3.2 with e | ⟨g', c', cur, e1, e2, e3⟩
    · exact .inl e
    · exact .inr ⟨g', c', cur, e1, by omega, e3⟩
  obtain ⟨r1, r2⟩ := h.stored (v2 := v3) (zs2 := zs.eraseIdx i) (p3.mono (fun _ _ h => h.elim)) ⟨by rw [hl, erase_map]; exact h3', fun z hz => p3.row (h.q.own z (List.mem_of_mem_eraseIdx hz)) (fun _ _ h => h)⟩ (by have := h.n; omega) (fun z hz => h.by_ z (List.mem_of_mem_eraseIdx hz)) (fun k hk => .inr (row_ty h3 hk).choose_spec.2)
  refine ⟨r1, fun wf e1 e2 e3 e4 => ?_⟩
  obtain ⟨s1, s2⟩ := r2 wf e1 e2 e3 e4
  exact ⟨_, s1, s2⟩
/-- The rows that the two appends read. -/
theorem take_srcs {w : World} {B g n cap : Nat} {ys : List Value} (h : w.ownsRow B 29 1 (.slice (some ⟨g, 0, none⟩) n cap) n ys) (i : Nat) (hi : i < n) :
    (∀ j u, (ys.take i)[j]? = some u → w.cell? ((⟨g, 0, none⟩ : Addr).add j) = some u) ∧ ∃ A : Addr, (if cap = i + 1 then some (⟨g, 0, none⟩ : Addr) else some ⟨g, i + 1, none⟩) = some A ∧ A.block = g ∧ ∀ j u, (ys.drop (i + 1))[j]? = some u → w.cell? (A.add j) = some u := by
  have hyl : ys.length = n := by have := h.1; omega
  have hc : n ≤ cap := by
    rcases h.2 with ⟨e, _⟩ | ⟨g', c', cur, e, _, _, e4, _⟩
    · cases e
    · cases e; exact e4
  refine ⟨fun j u hj => ?_, ?_⟩
  · rw [List.getElem?_take] at hj
    by_cases hji : j < i
    · rw [if_pos hji] at hj
      rw [Addr.add_lit, Nat.zero_add, h.cellAt j (by omega)]
      exact hj
    · rw [if_neg hji] at hj; cases hj
  · by_cases hc2 : cap = i + 1
    · refine ⟨⟨g, 0, none⟩, by simp [hc2], rfl, fun j u hj => ?_⟩
      rw [List.getElem?_drop, List.getElem?_eq_none (by omega)] at hj
      cases hj
    · refine ⟨⟨g, i + 1, none⟩, by simp [hc2], rfl, fun j u hj => ?_⟩
      have hjn : i + 1 + j < n := by
        rw [List.getElem?_drop] at hj
        have := (List.getElem?_eq_some_iff.1 hj).1
        omega
      rw [List.getElem?_drop] at hj
      rw [Addr.add_lit, h.cellAt (i + 1 + j) (by omega)]
      exact hj
theorem y_take {w : World} {B b : Nat} {v : Value} {zs : List Ms} (h : Nt w B false b v zs) (i : Nat) (hi : i < zs.length) : Calls Try.prog 17 #[.pointer (some ⟨b, 0, none⟩), .int .i64 (i : Int)] w fun e w' => ∃ u, e = .returned (.tuple #[u, .int .i64 0]) ∧ Own w' w.heap.size u zs[i].2 ∧ Gone w w' B b false v zs i := by
  obtain ⟨i0, hi0, hz0, hz1, hz2⟩ := info_parts infoB
  have hl := y_look h i hi
  obtain ⟨g, c, rfl, hg1, hg2, hc1, hc2⟩ := h.q.some_ (by omega)
  obtain ⟨A, hA, hAb, _⟩ := (take_srcs h.q.row i hi).2
  have hn := h.n
  have o1 : Hid (∀ u ∈ zs.map Prod.fst, u.oneCell' = true) := h.q.one
  have HL : Hid (∀ (w1 : World) (u : Value), Own w1 w.heap.size u zs[i].2 → Below w.heap.size w w1 →
      w1.cell? ⟨b, 0, none⟩ = some (.slice (some ⟨g, 0, none⟩) zs.length c) ∧ b < w1.heap.size ∧ g < w1.heap.size ∧
      (∀ o, (w1.drew.alloc o).cell? ⟨b, 0, none⟩ = some (.slice (some ⟨g, 0, none⟩) zs.length c)) ∧
      Hid (∀ (j : Nat) (x : Value), ((zs.map Prod.fst).take i)[j]? = some x → (w1.drew.alloc (.cells #[] 29)).cell? ((⟨g, 0, none⟩ : Addr).add j) = some x) ∧
      Hid (∀ (w2 : World) (v2 : Value), w2.ownsRow w1.heap.size 29 1 v2 i ((zs.map Prod.fst).take i) → (w1.drew.alloc (.cells #[] 29)).grownBy w2 (some w1.heap.size) → (v2.ownBlock = some w1.heap.size ∨ v2.ownBlock = some (w1.heap.size + 1)) →
        w2.cell? ⟨b, 0, none⟩ = some (.slice (some ⟨g, 0, none⟩) zs.length c) ∧ (∃ a c, v2 = .slice a i c) ∧ w1.heap.size ≤ w2.heap.size ∧
        Hid (∀ (j : Nat) (x : Value), ((zs.map Prod.fst).drop (i + 1))[j]? = some x → w2.cell? (A.add j) = some x) ∧
        Hid (∀ (w3 : World) (v3 : Value), w3.ownsRow w1.heap.size 29 1 v3 (i + (zs.length - (i + 1))) ((zs.map Prod.fst).take i ++ (zs.map Prod.fst).drop (i + 1)) → w2.grownBy w3 v2.ownBlock →
          w3.cell? ⟨b, 0, none⟩ = some (.slice (some ⟨g, 0, none⟩) zs.length c) ∧ w3.frozen? ⟨b, 0, none⟩ = false ∧ (∃ a c, v3 = .slice a (i + (zs.length - (i + 1))) c) ∧
          Hid (∀ wf : World, wf.heap = (w3.setCell ⟨b, 0, none⟩ v3).heap → wf.os = w3.os → wf.tape = w3.tape → wf.output = w3.output → Own wf w.heap.size u zs[i].2 ∧ Gone w wf B b false (.slice (some ⟨g, 0, none⟩) zs.length c) zs i)))) := fun w1 u ho hb => by
    have h1 := h.below hb
    have hs := hb.size
    have hb1 := h1.lt
    have hg1' : g < w1.heap.size := by omega
    obtain ⟨s1, A', hA', hAb', s2⟩ := take_srcs h1.q.row i hi
    obtain rfl : A = A' := by rw [hA] at hA'; injection hA'
    have pA : ∀ o, Part (fun _ => False) w1 (w1.drew.alloc o) := fun o => ((Part.refl _ w1).drewN 1).alloc o
    have c0 := h1.cell0.1
    refine ⟨c0, hb1, hg1', fun o => (pA o).cell (fun h => h) c0, fun j x hj => (pA _).cell (fun h => h) (s1 j x hj), fun w2 v2 h2 hg2 ha2 => ?_⟩
    have p2 : Part (fun _ => False) w1 w2 := (pA _).grown hg2 (fun k hk hlt => by injection hk with hk; omega)
    obtain ⟨a2, c2, e2, _⟩ := row_slice h2
    refine ⟨p2.cell (fun h => h) c0, ⟨a2, c2, e2⟩, p2.size, fun j x hj => p2.cell (fun h => h) (s2 j x hj), fun w3 v3 h3 hg3 => ?_⟩
    obtain ⟨a3, c3, e3, _⟩ := row_slice h3
    have h3' : w3.ownsRow w1.heap.size 29 1 v3 (zs.length - 1) ((zs.map Prod.fst).eraseIdx i) := by
      rw [show zs.length - 1 = i + (zs.length - (i + 1)) by omega, List.eraseIdx_eq_take_drop_succ]; exact h3
    obtain ⟨r1, r2⟩ := h1.without hi hg2 ha2 h3' hg3
    refine ⟨cells_at r1 0, cells_free r1 0, ⟨a3, c3, e3⟩, fun wf q1 q2 q3 q4 => ?_⟩
    have hgo := r2 wf q1 q2 q3 q4
    refine ⟨?_, hgo.from hb⟩
    obtain ⟨v', _, hw⟩ := hgo
    exact ho.gone h1 hw
  clear h
  have hib : (i : Int) ≤ 64 := by omega
  have hlt : (i : Int) + 1 ≤ (zs.length : Int) := by omega
  have hlt0 : (i : Int) ≤ (zs.length : Int) := by omega
  have h0i : (0 : Int) ≤ (i : Int) + 1 := by omega
  have hwr : IntKind.i64.wrap ((i : Int) + 1) = (i : Int) + 1 := by rw [IntKind.wrap_i64]; omega
  have hic : i ≤ c := by omega
  have hic1 : i + 1 ≤ c := by omega
  have hM : ∀ w1 : World, (w1.drew.alloc (.cells #[] 29)).ownsRow w1.heap.size 29 1 (.slice (some ⟨w1.heap.size, 0, none⟩) 0 0) 0 [] := fun w1 => World.ownsRow_made w1.drew #[] 0 (Nat.le_refl _) (Nat.zero_le _) rfl
  have HM : Hid (∀ w1 : World, (w1.drew.alloc (.cells #[] 29)).ownsRow w1.heap.size 29 1 (.slice (some ⟨w1.heap.size, 0, none⟩) 0 0) 0 []) := hM
  have l1 : Hid (((zs.map Prod.fst).take i).length = i * 1) := show ((zs.map Prod.fst).take i).length = i * 1 by simp; omega
  have l2 : Hid (((zs.map Prod.fst).drop (i + 1)).length = (zs.length - (i + 1)) * 1) := show ((zs.map Prod.fst).drop (i + 1)).length = (zs.length - (i + 1)) * 1 by simp
  generalize zs[i].2 = xs at *
  clear hM
  go_enter Try.func17, Try.ntmps17
  go_wp2_with (go_at_call 19; refine hl.mono ?_; rintro e w1 ⟨u, rfl, ho, hb⟩; obtain ⟨x0, xb, xg, xo, HS1, H2⟩ := HL.out w1 u ho hb; obtain ⟨au, cu, hu⟩ := ho.slice; clear ho hb; subst hu)
  go_cut [] (fun wx => ∃ (w3 : World) (v3 : Value), wx = w3.setCell ⟨b, 0, none⟩ v3 ∧ Hid (∀ wf : World, wf.heap = (w3.setCell ⟨b, 0, none⟩ v3).heap → wf.os = w3.os → wf.tape = w3.tape → wf.output = w3.output → Own wf w.heap.size (.slice au xs.length cu) xs ∧ Gone w wf B b false (.slice (some ⟨g, 0, none⟩) zs.length c) zs i))
  case first =>
    go_region_law (first
      | (refine step_append_own_at rfl (.tmp 17) (.tmp 23) 26 rfl w1.heap.size 29 i0 (.slice none 0 0) 1 24 Try.underlying26 hi0 hz0 hz1 hz2 rfl (by decide) (.slice (some ⟨w1.heap.size, 0, none⟩) 0 0) 0 [] (by go_simp) (by exact HM.out w1) ⟨g, 0, none⟩ i c ((zs.map Prod.fst).take i) (by go_simp) (by exact l1.out) (by exact HS1.out) (by intro u hu; exact o1.out u (List.mem_of_mem_take hu)) (by unfold maxLen; omega) (by omega) (by simp) ?_; intro v2 w2 ho2 hg2 ha2; obtain ⟨y0, ⟨av2, cv2, hv2⟩, y1, HS2, H3⟩ := H2.out w2 v2 (by simpa using ho2) hg2 (ha2.imp (fun e => e.trans rfl) (fun e => by simpa using e)); subst hv2)
      | (refine step_append_own_at rfl (.tmp 24) (.tmp 31) 26 rfl w1.heap.size 29 i0 (.slice none 0 0) 1 24 Try.underlying26 hi0 hz0 hz1 hz2 rfl (by decide) (.slice av2 i cv2) i ((zs.map Prod.fst).take i) (by go_simp) (by simpa using ho2) A (zs.length - (i + 1)) (c - (i + 1)) ((zs.map Prod.fst).drop (i + 1)) (by go_simp) (by exact l2.out) (by exact HS2.out) (by intro u hu; exact o1.out u (List.mem_of_mem_drop hu)) (by unfold maxLen; omega) (by omega) (by exact y1) ?_; intro v3 w3 ho3 hg3 ha3; obtain ⟨z0, z1, ⟨av3, cv3, hv3⟩, HE⟩ := H3.out w3 v3 ho3 hg3; subst hv3))
    all_goals (go_wp2_with fail; go_meet; exact ⟨w3, _, rfl, HE⟩)
  case rest =>
  obtain ⟨w2, v2, rfl, HE⟩ := hcut
  go_wp2
  go_ret2
  exact ⟨_, rfl, HE.out _ (by rfl) (by rfl) (by rfl) (by rfl)⟩
theorem y_drop_no {w : World} {B b : Nat} {v : Value} {zs : List Ms} (h : Nt w B false b v zs) (i : Int) (hi : i < 0 ∨ (zs.length : Int) ≤ i) : Calls Try.prog 13 #[.pointer (some ⟨b, 0, none⟩), .int .i64 i] w fun e w' => e = .returned (.int .i64 190) ∧ w' = w := by
  have hr := y_take_no h i hi
  clear h hi
  go_enter Try.func13, Try.ntmps13
  go_wp2_with (go_at_call 17; refine hr.mono ?_; rintro e w2 ⟨rfl, hw⟩; rw [hw]; clear hw)
  go_ret
  exact ⟨rfl, rfl⟩
theorem y_drop {w : World} {B b : Nat} {v : Value} {zs : List Ms} (h : Nt w B false b v zs) (i : Nat) (hi : i < zs.length) : Calls Try.prog 13 #[.pointer (some ⟨b, 0, none⟩), .int .i64 (i : Int)] w fun e w' => e = .returned (.int .i64 0) ∧ Gone w w' B b false v zs i := by
  have hr := y_take h i hi
  clear h
  go_enter Try.func13, Try.ntmps13
  go_wp2_with (go_at_call 17; refine hr.mono ?_; rintro e w2 ⟨u, rfl, ho, HG⟩; clear ho)
  go_ret
  exact ⟨rfl, HG⟩
theorem y_twice_no {w : World} {B b : Nat} {v : Value} {zs : List Ms} (h : Nt w B false b v zs) (i : Int) (hi : i < 0 ∨ (zs.length : Int) ≤ i) : Calls Try.prog 15 #[.pointer (some ⟨b, 0, none⟩), .int .i64 i] w fun e w' => e = .returned (.int .i64 190) ∧ w' = w := by
  have hr := y_look_no h i hi
  clear h hi
  go_enter Try.func15, Try.ntmps15
  go_wp2_with (go_at_call 19; refine hr.mono ?_; rintro e w2 ⟨rfl, hw⟩; rw [hw]; clear hw)
  go_ret
  exact ⟨rfl, rfl⟩
theorem y_twice_full {w : World} {B b : Nat} {v : Value} {zs : List Ms} (h : Nt w B false b v zs) (i : Nat) (hi : i < zs.length) (hn : zs.length = 64) : Calls Try.prog 15 #[.pointer (some ⟨b, 0, none⟩), .int .i64 (i : Int)] w fun e w' => e = .returned (.int .i64 4) ∧ Below w.heap.size w w' := by
  have hr := y_look h i hi
  have hby := h.by_ zs[i] (List.getElem_mem hi)
  have HS : Hid (∀ (w2 : World) (a : Option Addr) (c : Nat), Below w.heap.size w w2 → Calls Try.prog 9 #[.pointer (some ⟨b, 0, none⟩), .slice a zs[i].2.length c] w2 fun e w' => e = .returned (.int .i64 4) ∧ w' = w2) := fun w2 a c hb => y_send_full (h.below hb) a _ c hby hn
  generalize zs[i].2 = xs at *
  clear h hn
  go_enter Try.func15, Try.ntmps15
  go_wp2_with (first
    | (go_at_call 19; refine hr.mono ?_; rintro e w2 ⟨u, rfl, ho, HB⟩; obtain ⟨au, cu, hu⟩ := ho.slice; clear ho; have hS := HS.out w2 au cu HB; subst hu)
    | (go_at_call 9; refine hS.mono ?_; rintro e w3 ⟨rfl, hw⟩; rw [hw]; clear hw))
  go_ret
  exact ⟨rfl, HB⟩
theorem y_twice {w : World} {B b : Nat} {v : Value} {zs : List Ms} (h : Nt w B false b v zs) (i : Nat) (hi : i < zs.length) (hn : zs.length < 64) : Calls Try.prog 15 #[.pointer (some ⟨b, 0, none⟩), .int .i64 (i : Int)] w fun e w' => e = .returned (.int .i64 0) ∧ Sent w w' B b false v zs zs[i].2 := by
  have hr := y_look h i hi
  have hby := h.by_ zs[i] (List.getElem_mem hi)
  have HS : Hid (∀ (w2 : World) (u : Value), Below w.heap.size w w2 → Own w2 w.heap.size u zs[i].2 → Calls Try.prog 9 #[.pointer (some ⟨b, 0, none⟩), u] w2 fun e w' => e = .returned (.int .i64 0) ∧ Sent w w' B b false v zs zs[i].2) := fun w2 u hb ho => by
    obtain ⟨au, cu, hu, hf, hc0, _⟩ := ho.open
    have h9 := y_send (h.below hb) hn au zs[i].2.length cu (fn zs[i].2) hf hby hc0
    rw [lst_fn] at h9
    rw [hu]
    refine h9.mono ?_
    rintro e w3 ⟨rfl, hs⟩
    exact ⟨rfl, hs.from hb⟩
  generalize zs[i].2 = xs at *
  clear h hn
  go_enter Try.func15, Try.ntmps15
  go_wp2_with (first
    | (go_at_call 19; refine hr.mono ?_; rintro e w2 ⟨u, rfl, ho, HB⟩; have hS := HS.out w2 u HB ho; obtain ⟨au, cu, hu⟩ := ho.slice; clear ho HB; subst hu)
    | (go_at_call 9; refine hS.mono ?_; rintro e w3 ⟨rfl, HE⟩))
  go_ret
  exact ⟨rfl, HE⟩
end Go.Proofs.Ytbpolfoagmehhaa
