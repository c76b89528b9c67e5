/-
  The reply of a message: the program's ReadReply. Made by tools/mkrep.py.
-/
import Derived.Test.YtbpolfoagmehhaaDoorNqJ
import Derived.Test.YtbpolfoagmehhaaDoorNrF
namespace Go.Proofs.YtbpolfoagmehhaaDoor
open Go.RowKit
set_option linter.unusedVariables false

def zeroR : Array Value := #[.string ⟨#[]⟩, .int .i64 0, .int .i64 0, .int .i64 0, .string ⟨#[]⟩]
theorem rdq_rep (f : Nat → Int) (n : Nat) : rdq f n repS zeroR = (prs 2 repK f n).map (putAll zeroR [.nm 1, .nm 2, .nm 3, .tx 0 8, .tx 4 1000]) :=
  rdq_prs f n 2 [.nm 1, .nm 2, .nm 3, .tx 0 8, .tx 4 1000] zeroR (by intro s hs; simp at hs; rcases hs with rfl | rfl | rfl | rfl | rfl <;> simp [Sp.plain])
theorem rep_form {is : List It} (h : Fits repK is) : ∃ st se wy id t, is = [.num st, .num se, .num wy, .txt id, .txt t] ∧ st ≤ 9223372036854775807 ∧ se ≤ 9223372036854775807 ∧ wy ≤ 9223372036854775807 ∧ id.size ≤ 8 ∧ t.size ≤ 1000 := by
  rcases is with _ | ⟨a, _ | ⟨b, _ | ⟨y, _ | ⟨c, _ | ⟨d, _ | ⟨e, l⟩⟩⟩⟩⟩⟩
  · exact False.elim h
  · exact False.elim h.2
  · exact False.elim h.2.2
  · exact False.elim h.2.2.2
  · exact False.elim h.2.2.2.2
  · obtain ⟨h1, h2, h5, h3, h4, _⟩ := h
    cases a with
    | txt s => exact False.elim h1
    | num k =>
      cases b with
      | txt s => exact False.elim h2
      | num se =>
        cases y with
        | txt s => exact False.elim h5
        | num wy =>
          cases c with
          | num s => exact False.elim h3
          | txt id =>
            cases d with
            | num s => exact False.elim h4
            | txt t => exact ⟨k, se, wy, id, t, rfl, h1, h2, h5, h3, h4⟩
  · exact False.elim h.2.2.2.2.2
/-- The request that is told, and the error. -/
def resR (f : Nat → Int) (n : Nat) : ByteArray × Int × Int × Int × ByteArray × Int := match prs 2 repK f n with
  | some [.num st, .num se, .num wy, .txt id, .txt t] => if mayR id st se wy t then (id, (st : Int), (se : Int), (wy : Int), t, 0) else (⟨#[]⟩, 0, 0, 0, ⟨#[]⟩, 5)
  | _ => (⟨#[]⟩, 0, 0, 0, ⟨#[]⟩, 5)
abbrev tellR (r : ByteArray × Int × Int × Int × ByteArray × Int) : Value := .tuple #[.agg #[.string r.1, .int .i64 r.2.1, .int .i64 r.2.2.1, .int .i64 r.2.2.2.1, .string r.2.2.2.2.1], .int .i64 r.2.2.2.2.2]
theorem resR_none {f : Nat → Int} {n : Nat} (h : prs 2 repK f n = none) : resR f n = (⟨#[]⟩, 0, 0, 0, ⟨#[]⟩, 5) := by unfold resR; rw [h]
theorem resR_some {f : Nat → Int} {n st se wy : Nat} {id t : ByteArray} (h : prs 2 repK f n = some [.num st, .num se, .num wy, .txt id, .txt t]) : resR f n = if mayR id st se wy t then (id, (st : Int), (se : Int), (wy : Int), t, 0) else (⟨#[]⟩, 0, 0, 0, ⟨#[]⟩, 5) := by unfold resR; rw [h]
theorem set5 {w : World} {g : Nat} {u0 u1 u2 u3 u4 v0 v1 v2 v3 v4 : Value} {T : TypeId} (h : w.heap[g]? = some (.cells #[u0, u1, u2, u3, u4] T (0, 0))) :
    (((((w.setCell ⟨g, 0, none⟩ v0).setCell ⟨g, 1, none⟩ v1).setCell ⟨g, 2, none⟩ v2).setCell ⟨g, 3, none⟩ v3).setCell ⟨g, 4, none⟩ v4).heap[g]? = some (.cells #[v0, v1, v2, v3, v4] T (0, 0)) ∧ Only g w (((((w.setCell ⟨g, 0, none⟩ v0).setCell ⟨g, 1, none⟩ v1).setCell ⟨g, 2, none⟩ v2).setCell ⟨g, 3, none⟩ v3).setCell ⟨g, 4, none⟩ v4) :=
  ⟨set_at (set_at (set_at (set_at (set_at h v0) v1) v2) v3) v4, (((((Only.refl g w).setCell rfl _).setCell rfl _).setCell rfl _).setCell rfl _).setCell rfl _⟩
set_option maxHeartbeats 4000000 in
theorem n_readRep (a0 : Option Addr) (n c : Nat) (f : Nat → Int) (w : World) (hbig : n ≤ 140737488355328) (hby : ∀ i, 0 ≤ f i ∧ f i ≤ 255) (hf : From w a0 n f) (hnc : n ≤ c) (hc : c ≤ 9223372036854775807) (ht : Tab w) :
    Calls Tryd.prog 15 #[.slice a0 n c] w fun e w' => e = .returned (tellR (resR f n)) ∧ Below w.heap.size w w' := by
  have hbW : Below w.heap.size w ((w.alloc (.cells #[.string ⟨#[]⟩, .int .i64 0, .int .i64 0, .int .i64 0, .string ⟨#[]⟩] 34)).alloc (.cells #[.string ⟨#[]⟩, .int .i64 0, .int .i64 0, .int .i64 0, .string ⟨#[]⟩] 34)) := ((Below.refl _ w).alloc (Nat.le_refl _) _).alloc (by simp) _
  have hsz : ((w.alloc (.cells #[.string ⟨#[]⟩, .int .i64 0, .int .i64 0, .int .i64 0, .string ⟨#[]⟩] 34)).alloc (.cells #[.string ⟨#[]⟩, .int .i64 0, .int .i64 0, .int .i64 0, .string ⟨#[]⟩] 34)).heap.size = w.heap.size + 2 := by simp
  have hq0 := heap_new (w.alloc (.cells #[.string ⟨#[]⟩, .int .i64 0, .int .i64 0, .int .i64 0, .string ⟨#[]⟩] 34)) (.cells #[.string ⟨#[]⟩, .int .i64 0, .int .i64 0, .int .i64 0, .string ⟨#[]⟩] 34) (w.heap.size + 1) (by simp)
  have hr0 : ((w.alloc (.cells #[.string ⟨#[]⟩, .int .i64 0, .int .i64 0, .int .i64 0, .string ⟨#[]⟩] 34)).alloc (.cells #[.string ⟨#[]⟩, .int .i64 0, .int .i64 0, .int .i64 0, .string ⟨#[]⟩] 34)).heap[w.heap.size]? = some (.cells #[.string ⟨#[]⟩, .int .i64 0, .int .i64 0, .int .i64 0, .string ⟨#[]⟩] 34 (0, 0)) := by
    rw [Below.heap_alloc _ _ _ (by simp)]
    exact heap_new _ _ _ rfl
  have HA : Hid (Calls Tryd.prog 30 #[.pointer (some ⟨w.heap.size + 1, 0, none⟩)] ((w.alloc (.cells #[.string ⟨#[]⟩, .int .i64 0, .int .i64 0, .int .i64 0, .string ⟨#[]⟩] 34)).alloc (.cells #[.string ⟨#[]⟩, .int .i64 0, .int .i64 0, .int .i64 0, .string ⟨#[]⟩] 34)) fun e w' => ∃ j, e = .returned (cJ j) ∧ Hid (w.heap.size + 2 ≤ w'.heap.size ∧ Below w.heap.size w w' ∧ w'.heap[w.heap.size]? = some (.cells #[.string ⟨#[]⟩, .int .i64 0, .int .i64 0, .int .i64 0, .string ⟨#[]⟩] 34 (0, 0)) ∧ Calls Tryd.prog 24 #[cJ j, .slice a0 n c] w' fun e w3 => e = .returned (.bool (rdq f n repS zeroR).isSome) ∧ (∀ cs', rdq f n repS zeroR = some cs' → w3.heap[w.heap.size + 1]? = some (.cells cs' 34 (0, 0))) ∧ K2 (w.heap.size + 1) (w.heap.size + 1) w' w3)) := by
    refine (c_replying _ _).mono ?_
    rintro e w2 ⟨v, vs, j, g, rfl, hj, hb⟩
    have hv := hj.val
    subst hv
    have hs := hb.size
    have hbw : Below w.heap.size w w2 := hbW.trans (hb.mono (by omega))
    refine ⟨j, rfl, by omega, hbw, (hb.block _ (by omega)).trans hr0, ?_⟩
    exact n_reads hj (Nat.le_refl _) (by omega) ((hb.block _ (by omega)).trans hq0) (by decide) (by intro s hs; simp [repS] at hs; rcases hs with rfl | rfl | rfl | rfl | rfl | rfl <;> simp [Sp.ok]) a0 n c f hbig hby (hf.below hbw (Nat.le_refl _)) hnc hc (ht.below hbw (Nat.le_refl _))
  have HR : Hid (∀ w2 w3, w.heap.size + 2 ≤ w2.heap.size → Below w.heap.size w w2 → w2.heap[w.heap.size]? = some (.cells #[.string ⟨#[]⟩, .int .i64 0, .int .i64 0, .int .i64 0, .string ⟨#[]⟩] 34 (0, 0)) → K2 (w.heap.size + 1) (w.heap.size + 1) w2 w3 → w3.heap[w.heap.size]? = some (.cells #[.string ⟨#[]⟩, .int .i64 0, .int .i64 0, .int .i64 0, .string ⟨#[]⟩] 34 (0, 0)) ∧ Below w.heap.size w w3) := fun w2 w3 h1 h2 h3 h4 => ⟨(h4.block _ (by omega) (by omega) (by omega)).trans h3, h2.trans (h4.below (by omega) (by omega) (by omega))⟩
  have HX : Hid (∀ w3 : World, w3.heap[w.heap.size]? = some (.cells #[.string ⟨#[]⟩, .int .i64 0, .int .i64 0, .int .i64 0, .string ⟨#[]⟩] 34 (0, 0)) → w3.frozen? ⟨w.heap.size, 0, none⟩ = false ∧ w3.frozen? ⟨w.heap.size, 1, none⟩ = false ∧ w3.frozen? ⟨w.heap.size, 2, none⟩ = false ∧ w3.frozen? ⟨w.heap.size, 3, none⟩ = false ∧ w3.frozen? ⟨w.heap.size, 4, none⟩ = false) := fun w3 h => by
    refine ⟨?_, ?_, ?_, ?_, ?_⟩ <;> simp [World.frozen?, h]
  rw [rdq_rep] at HA
  cases hp : prs 2 repK f n with
  | none =>
    rw [resR_none hp]
    rw [hp] at HA
    simp only [Option.map_none, Option.isSome_none] at HA
    clear hf ht hby hbW hsz hq0 hr0 hp
    go_enter Tryd.func15, Tryd.ntmps15
    go_wp2_with (first
      | (go_at_call 24; refine HD.mono ?_; rintro e w3 ⟨rfl, m1, m2⟩; obtain ⟨hr3, hb3⟩ := HR.out w2 w3 k1 k2 k3 m2; have t0 := cell_of hr3 0; have t1 := cell_of hr3 1; have t2 := cell_of hr3 2; have t3 := cell_of hr3 3; have t4 := cell_of hr3 4; simp at t0 t1 t2 t3 t4; obtain ⟨z0, z1, z2, z3, z4⟩ := HX.out w3 hr3)
      | (go_at_call 30; refine HA.out.mono ?_; rintro e w2 ⟨j, rfl, HH⟩; obtain ⟨k1, k2, k3, HD⟩ := HH.out))
    obtain ⟨y1, y2⟩ := set5 (v0 := .string ⟨#[]⟩) (v1 := .int .i64 0) (v2 := .int .i64 0) (v3 := .int .i64 0) (v4 := .string ⟨#[]⟩) hr3
    refine bodyPost_ret (v := tellR (⟨#[]⟩, 0, 0, 0, ⟨#[]⟩, 5)) (by simp [results, Tryd.results15, go_sem, cell_of y1]) rfl ?_
    exact ⟨rfl, hb3.trans (y2.below (Nat.le_refl _))⟩
  | some is =>
    obtain ⟨hfit, _⟩ := prs_sound hby repK_le hp
    obtain ⟨st, se, wy, id, t, rfl, e1, e2, e5, e3, e4⟩ := rep_form hfit
    rw [resR_some hp]
    rw [hp] at HA
    simp only [Option.map_some, Option.isSome_some] at HA
    have hput : putAll zeroR [.nm 1, .nm 2, .nm 3, .tx 0 8, .tx 4 1000] [.num st, .num se, .num wy, .txt id, .txt t] = #[.string id, .int .i64 (st : Int), .int .i64 (se : Int), .int .i64 (wy : Int), .string t] := rfl
    rw [hput] at HA
    have HM := fun w3 => n_mayR id st se wy t w3
    have HY : Hid (∀ w3 w4 : World, Below w3.heap.size w3 w4 → w3.heap[w.heap.size]? = some (.cells #[.string ⟨#[]⟩, .int .i64 0, .int .i64 0, .int .i64 0, .string ⟨#[]⟩] 34 (0, 0)) → w3.heap[w.heap.size + 1]? = some (.cells #[.string id, .int .i64 (st : Int), .int .i64 (se : Int), .int .i64 (wy : Int), .string t] 34 (0, 0)) → Below w.heap.size w w3 → w4.heap[w.heap.size]? = some (.cells #[.string ⟨#[]⟩, .int .i64 0, .int .i64 0, .int .i64 0, .string ⟨#[]⟩] 34 (0, 0)) ∧ w4.heap[w.heap.size + 1]? = some (.cells #[.string id, .int .i64 (st : Int), .int .i64 (se : Int), .int .i64 (wy : Int), .string t] 34 (0, 0)) ∧ Below w.heap.size w w4) := fun w3 w4 h1 h2 h3 h4 => ⟨(h1.block _ (Array.getElem?_eq_some_iff.1 h2).1).trans h2, (h1.block _ (Array.getElem?_eq_some_iff.1 h3).1).trans h3, h4.trans (h1.mono h4.size)⟩
    clear hf ht hby hbW hsz hq0 hr0 hp hfit hput
    cases hm : mayR id st se wy t with
    | false =>
      rw [if_neg (by simp)]
      rw [hm] at HM
      clear hm
      go_enter Tryd.func15, Tryd.ntmps15
      go_wp2_with (first
        | (go_at_call 29; refine (HM _).mono ?_; rintro e w4 ⟨rfl, n1⟩; obtain ⟨hr4, hq4, hb4⟩ := HY.out w3 w4 n1 hr3 hq3 hb3; have t0 := cell_of hr4 0; have t1 := cell_of hr4 1; have t2 := cell_of hr4 2; have t3 := cell_of hr4 3; have t4 := cell_of hr4 4; simp at t0 t1 t2 t3 t4; obtain ⟨z0, z1, z2, z3, z4⟩ := HX.out w4 hr4)
        | (go_at_call 24; refine HD.mono ?_; rintro e w3 ⟨rfl, m1, m2⟩; obtain ⟨hr3, hb3⟩ := HR.out w2 w3 k1 k2 k3 m2; have hq3 := m1 _ rfl; have s0 := cell_of hq3 0; have s1 := cell_of hq3 1; have s2 := cell_of hq3 2; have s3 := cell_of hq3 3; have s4 := cell_of hq3 4; simp at s0 s1 s2 s3 s4)
        | (go_at_call 30; refine HA.out.mono ?_; rintro e w2 ⟨j, rfl, HH⟩; obtain ⟨k1, k2, k3, HD⟩ := HH.out))
      obtain ⟨y1, y2⟩ := set5 (v0 := .string ⟨#[]⟩) (v1 := .int .i64 0) (v2 := .int .i64 0) (v3 := .int .i64 0) (v4 := .string ⟨#[]⟩) hr4
      refine bodyPost_ret (v := tellR (⟨#[]⟩, 0, 0, 0, ⟨#[]⟩, 5)) (by simp [results, Tryd.results15, go_sem, cell_of y1]) rfl ?_
      exact ⟨rfl, hb4.trans (y2.below (Nat.le_refl _))⟩
    | true =>
      rw [if_pos rfl]
      rw [hm] at HM
      clear hm
      go_enter Tryd.func15, Tryd.ntmps15
      go_wp2_with (first
        | (go_at_call 29; refine (HM _).mono ?_; rintro e w4 ⟨rfl, n1⟩; obtain ⟨hr4, hq4, hb4⟩ := HY.out w3 w4 n1 hr3 hq3 hb3; have t0 := cell_of hr4 0; have t1 := cell_of hr4 1; have t2 := cell_of hr4 2; have t3 := cell_of hr4 3; have t4 := cell_of hr4 4; simp at t0 t1 t2 t3 t4; obtain ⟨z0, z1, z2, z3, z4⟩ := HX.out w4 hr4; have p0 := cell_of hq4 0; have p1 := cell_of hq4 1; have p2 := cell_of hq4 2; have p3 := cell_of hq4 3; have p4 := cell_of hq4 4; simp at p0 p1 p2 p3 p4)
        | (go_at_call 24; refine HD.mono ?_; rintro e w3 ⟨rfl, m1, m2⟩; obtain ⟨hr3, hb3⟩ := HR.out w2 w3 k1 k2 k3 m2; have hq3 := m1 _ rfl; have s0 := cell_of hq3 0; have s1 := cell_of hq3 1; have s2 := cell_of hq3 2; have s3 := cell_of hq3 3; have s4 := cell_of hq3 4; simp at s0 s1 s2 s3 s4)
        | (go_at_call 30; refine HA.out.mono ?_; rintro e w2 ⟨j, rfl, HH⟩; obtain ⟨k1, k2, k3, HD⟩ := HH.out))
      obtain ⟨y1, y2⟩ := set5 (v0 := .string id) (v1 := .int .i64 (st : Int)) (v2 := .int .i64 (se : Int)) (v3 := .int .i64 (wy : Int)) (v4 := .string t) hr4
      refine bodyPost_ret (v := tellR (id, (st : Int), (se : Int), (wy : Int), t, 0)) (by simp [results, Tryd.results15, go_sem, cell_of y1]) rfl ?_
      exact ⟨rfl, hb4.trans (y2.below (Nat.le_refl _))⟩
end Go.Proofs.YtbpolfoagmehhaaDoor
