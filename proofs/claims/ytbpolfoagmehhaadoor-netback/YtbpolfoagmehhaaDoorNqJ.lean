/-
  The request of a message: the program's ReadAsk.
-/
import Derived.Test.YtbpolfoagmehhaaDoorNqI
namespace Go.Proofs.YtbpolfoagmehhaaDoor
open Go.RowKit
set_option linter.unusedVariables false

def zeroA : Array Value := #[.string ⟨#[]⟩, .int .i64 0, .int .i64 0, .string ⟨#[]⟩]
def fmt : Sp → Option Nat
  | .mk _ => none
  | .nm _ => none
  | .tx _ m => some m.toNat
def Sp.plain : Sp → Prop
  | .mk _ => False
  | .nm _ => True
  | .tx _ m => 0 ≤ m
def putIt (cs : Array Value) : Sp → It → Array Value
  | .nm o, .num k => cs.setIfInBounds o (.int .i64 (k : Int))
  | .tx o _, .txt t => cs.setIfInBounds o (.string t)
  | _, _ => cs
def putAll (cs : Array Value) : List Sp → List It → Array Value
  | s :: ss, i :: is => putAll (putIt cs s i) ss is
  | _, _ => cs
theorem sp_rd (f : Nat → Int) (n : Nat) : ∀ (ss : List Sp) (p : Nat) (cs : Array Value), (∀ s ∈ ss, s.plain) → spAll f n ss p cs = (rdAll f n (ss.map fmt) p).map fun x => (x.2, putAll cs ss x.1)
  | [], p, cs, _ => rfl
  | s :: ss, p, cs, h => by
    have ih := fun p cs => sp_rd f n ss p cs (fun s hs => h s (by simp [hs]))
    have hs := h s (by simp)
    cases s with
    | mk m => exact False.elim hs
    | nm o =>
      have b1 := (Wm.num_bd (sh f p) (n - p)).1
      rw [spAll, List.map_cons, rdAll]
      simp only [fmt, step]
      by_cases hz : (Wm.num (sh f p) (n - p)).2.2 = 0
      · have hz' : sE f n p (.nm o) = 0 := hz
        rw [if_pos hz, if_pos hz', ih, Option.bind_some, Option.map_map]
        simp only [sP, sC]
        congr 1
        funext x
        simp only [Function.comp, putAll, putIt, Int.toNat_of_nonneg b1]
      · have hz' : ¬ sE f n p (.nm o) = 0 := hz
        rw [if_neg hz, if_neg hz']; rfl
    | tx o m =>
      have hm : ((m.toNat : Nat) : Int) = m := Int.toNat_of_nonneg hs
      rw [spAll, List.map_cons, rdAll]
      simp only [fmt, step, hm]
      by_cases hz : (txt f n p m).2.1 = 0
      · have hz' : sE f n p (.tx o m) = 0 := hz
        rw [if_pos hz, if_pos hz', ih, Option.bind_some, Option.map_map]
        rfl
      · have hz' : ¬ sE f n p (.tx o m) = 0 := hz
        rw [if_neg hz, if_neg hz']; rfl
/-- What the program's codecs read is just the message's parts. -/
theorem rdq_prs (f : Nat → Int) (n : Nat) (mk : Int) (ss : List Sp) (cs : Array Value) (h : ∀ s ∈ ss, s.plain) : rdq f n (.mk mk :: ss) cs = (prs mk (ss.map fmt) f n).map (putAll cs ss) := by
  unfold rdq prs
  by_cases hu : (unf f n).1 = 0 ∧ (unf f n).2.2 = []
  · rw [if_pos hu]
    generalize hP : (unf f n).2.1 = P
    by_cases hm : P ≠ [] ∧ fn P 0 = mk
    · rw [if_pos ⟨hu.1, hu.2, hm⟩]
      have hl : P.length ≠ 0 := by
        intro e
        exact hm.1 (List.length_eq_zero_iff.1 e)
      have e0 : sE (fn P) P.length 0 (.mk mk) = 0 := by simp [sE, mkE, hm.2, hl]
      have e1 : sP (fn P) P.length 0 (.mk mk) = 1 := by simp [sP, bP, hl]
      rw [spAll, if_pos e0, e1, show sC (fn P) P.length 0 cs (.mk mk) = cs from rfl, sp_rd _ _ _ _ _ h]
      cases rdAll (fn P) P.length (ss.map fmt) 1 with
      | none => rfl
      | some x =>
        simp only [Option.map_some, Option.bind_some]
        by_cases h5 : x.2 = P.length
        · rw [if_pos h5, if_pos h5]; rfl
        · rw [if_neg h5, if_neg h5]; rfl
    · rw [if_neg (by intro hh; exact hm ⟨hh.2.2.1, hh.2.2.2⟩)]
      have e0 : sE (fn P) P.length 0 (.mk mk) ≠ 0 := by
        simp only [sE, mkE]
        rw [if_pos]
        · decide
        · by_cases hz : P = []
          · left; simp [hz]
          · right; exact fun e => hm ⟨hz, e⟩
      rw [spAll, if_neg e0]
      rfl
  · rw [if_neg hu, if_neg (by intro hh; exact hu ⟨hh.1, hh.2.1⟩)]
    rfl
theorem rdq_ask (f : Nat → Int) (n : Nat) : rdq f n askS zeroA = (prs 1 askK f n).map (putAll zeroA [.nm 1, .nm 2, .tx 0 8, .tx 3 1200]) :=
  rdq_prs f n 1 [.nm 1, .nm 2, .tx 0 8, .tx 3 1200] zeroA (by intro s hs; simp at hs; rcases hs with rfl | rfl | rfl | rfl <;> simp [Sp.plain])
theorem ask_form {is : List It} (h : Fits askK is) : ∃ k se id t, is = [.num k, .num se, .txt id, .txt t] ∧ k ≤ 9223372036854775807 ∧ se ≤ 9223372036854775807 ∧ id.size ≤ 8 ∧ t.size ≤ 1200 := by
  rcases is with _ | ⟨a, _ | ⟨b, _ | ⟨c, _ | ⟨d, _ | ⟨e, l⟩⟩⟩⟩⟩
  · exact False.elim h
  · exact False.elim h.2
  · exact False.elim h.2.2
  · exact False.elim h.2.2.2
  · obtain ⟨h1, h2, h3, h4, _⟩ := h
    cases a with
    | txt s => exact False.elim h1
    | num k =>
      cases b with
      | txt s => exact False.elim h2
      | num se =>
        cases c with
        | num s => exact False.elim h3
        | txt id =>
          cases d with
          | num s => exact False.elim h4
          | txt t => exact ⟨k, se, id, t, rfl, h1, h2, h3, h4⟩
  · exact False.elim h.2.2.2.2
/-- The request that is told, and the error. -/
def resA (f : Nat → Int) (n : Nat) : ByteArray × Int × Int × ByteArray × Int := match prs 1 askK f n with
  | some [.num k, .num se, .txt id, .txt t] => if mayB id k se t then (id, (k : Int), (se : Int), t, 0) else (⟨#[]⟩, 0, 0, ⟨#[]⟩, 5)
  | _ => (⟨#[]⟩, 0, 0, ⟨#[]⟩, 5)
abbrev tellA (r : ByteArray × Int × Int × ByteArray × Int) : Value := .tuple #[.agg #[.string r.1, .int .i64 r.2.1, .int .i64 r.2.2.1, .string r.2.2.2.1], .int .i64 r.2.2.2.2]
theorem resA_none {f : Nat → Int} {n : Nat} (h : prs 1 askK f n = none) : resA f n = (⟨#[]⟩, 0, 0, ⟨#[]⟩, 5) := by unfold resA; rw [h]
theorem resA_some {f : Nat → Int} {n k se : Nat} {id t : ByteArray} (h : prs 1 askK f n = some [.num k, .num se, .txt id, .txt t]) : resA f n = if mayB id k se t then (id, (k : Int), (se : Int), t, 0) else (⟨#[]⟩, 0, 0, ⟨#[]⟩, 5) := by unfold resA; rw [h]
theorem set4 {w : World} {g : Nat} {u0 u1 u2 u3 v0 v1 v2 v3 : Value} {T : TypeId} (h : w.heap[g]? = some (.cells #[u0, u1, u2, u3] T (0, 0))) :
    ((((w.setCell ⟨g, 0, none⟩ v0).setCell ⟨g, 1, none⟩ v1).setCell ⟨g, 2, none⟩ v2).setCell ⟨g, 3, none⟩ v3).heap[g]? = some (.cells #[v0, v1, v2, v3] T (0, 0)) ∧ Only g w ((((w.setCell ⟨g, 0, none⟩ v0).setCell ⟨g, 1, none⟩ v1).setCell ⟨g, 2, none⟩ v2).setCell ⟨g, 3, none⟩ v3) :=
  ⟨set_at (set_at (set_at (set_at h v0) v1) v2) v3, ((((Only.refl g w).setCell rfl _).setCell rfl _).setCell rfl _).setCell rfl _⟩
set_option maxHeartbeats 4000000 in
theorem n_readAsk (a0 : Option Addr) (n c : Nat) (f : Nat → Int) (w : World) (hbig : n ≤ 140737488355328) (hby : ∀ i, 0 ≤ f i ∧ f i ≤ 255) (hf : From w a0 n f) (hnc : n ≤ c) (hc : c ≤ 9223372036854775807) (ht : Tab w) :
    Calls Tryd.prog 8 #[.slice a0 n c] w fun e w' => e = .returned (tellA (resA f n)) ∧ Below w.heap.size w w' := by
  have hbW : Below w.heap.size w ((w.alloc (.cells #[.string ⟨#[]⟩, .int .i64 0, .int .i64 0, .string ⟨#[]⟩] 23)).alloc (.cells #[.string ⟨#[]⟩, .int .i64 0, .int .i64 0, .string ⟨#[]⟩] 23)) := ((Below.refl _ w).alloc (Nat.le_refl _) _).alloc (by simp) _
  have hsz : ((w.alloc (.cells #[.string ⟨#[]⟩, .int .i64 0, .int .i64 0, .string ⟨#[]⟩] 23)).alloc (.cells #[.string ⟨#[]⟩, .int .i64 0, .int .i64 0, .string ⟨#[]⟩] 23)).heap.size = w.heap.size + 2 := by simp
  have hq0 := heap_new (w.alloc (.cells #[.string ⟨#[]⟩, .int .i64 0, .int .i64 0, .string ⟨#[]⟩] 23)) (.cells #[.string ⟨#[]⟩, .int .i64 0, .int .i64 0, .string ⟨#[]⟩] 23) (w.heap.size + 1) (by simp)
  have hr0 : ((w.alloc (.cells #[.string ⟨#[]⟩, .int .i64 0, .int .i64 0, .string ⟨#[]⟩] 23)).alloc (.cells #[.string ⟨#[]⟩, .int .i64 0, .int .i64 0, .string ⟨#[]⟩] 23)).heap[w.heap.size]? = some (.cells #[.string ⟨#[]⟩, .int .i64 0, .int .i64 0, .string ⟨#[]⟩] 23 (0, 0)) := by
    rw [Below.heap_alloc _ _ _ (by simp)]
    exact heap_new _ _ _ rfl
  have HA : Hid (Calls Tryd.prog 18 #[.pointer (some ⟨w.heap.size + 1, 0, none⟩)] ((w.alloc (.cells #[.string ⟨#[]⟩, .int .i64 0, .int .i64 0, .string ⟨#[]⟩] 23)).alloc (.cells #[.string ⟨#[]⟩, .int .i64 0, .int .i64 0, .string ⟨#[]⟩] 23)) fun e w' => ∃ j, e = .returned (cJ j) ∧ Hid (w.heap.size + 2 ≤ w'.heap.size ∧ Below w.heap.size w w' ∧ w'.heap[w.heap.size]? = some (.cells #[.string ⟨#[]⟩, .int .i64 0, .int .i64 0, .string ⟨#[]⟩] 23 (0, 0)) ∧ Calls Tryd.prog 24 #[cJ j, .slice a0 n c] w' fun e w3 => e = .returned (.bool (rdq f n askS zeroA).isSome) ∧ (∀ cs', rdq f n askS zeroA = some cs' → w3.heap[w.heap.size + 1]? = some (.cells cs' 23 (0, 0))) ∧ K2 (w.heap.size + 1) (w.heap.size + 1) w' w3)) := by
    refine (c_asking _ _).mono ?_
    rintro e w2 ⟨v, vs, j, g, rfl, hj, hb⟩
    have hv := hj.val
    subst hv
    have hs := hb.size
    have hbw : Below w.heap.size w w2 := hbW.trans (hb.mono (by omega))
    refine ⟨j, rfl, by omega, hbw, (hb.block _ (by omega)).trans hr0, ?_⟩
    exact n_reads hj (Nat.le_refl _) (by omega) ((hb.block _ (by omega)).trans hq0) (by decide) (by intro s hs; simp [askS] at hs; rcases hs with rfl | rfl | rfl | rfl | rfl <;> simp [Sp.ok]) a0 n c f hbig hby (hf.below hbw (Nat.le_refl _)) hnc hc (ht.below hbw (Nat.le_refl _))
  have HR : Hid (∀ w2 w3, w.heap.size + 2 ≤ w2.heap.size → Below w.heap.size w w2 → w2.heap[w.heap.size]? = some (.cells #[.string ⟨#[]⟩, .int .i64 0, .int .i64 0, .string ⟨#[]⟩] 23 (0, 0)) → K2 (w.heap.size + 1) (w.heap.size + 1) w2 w3 → w3.heap[w.heap.size]? = some (.cells #[.string ⟨#[]⟩, .int .i64 0, .int .i64 0, .string ⟨#[]⟩] 23 (0, 0)) ∧ Below w.heap.size w w3) := fun w2 w3 h1 h2 h3 h4 => ⟨(h4.block _ (by omega) (by omega) (by omega)).trans h3, h2.trans (h4.below (by omega) (by omega) (by omega))⟩
  have HX : Hid (∀ w3 : World, w3.heap[w.heap.size]? = some (.cells #[.string ⟨#[]⟩, .int .i64 0, .int .i64 0, .string ⟨#[]⟩] 23 (0, 0)) → w3.frozen? ⟨w.heap.size, 0, none⟩ = false ∧ w3.frozen? ⟨w.heap.size, 1, none⟩ = false ∧ w3.frozen? ⟨w.heap.size, 2, none⟩ = false ∧ w3.frozen? ⟨w.heap.size, 3, none⟩ = false) := fun w3 h => by
    refine ⟨?_, ?_, ?_, ?_⟩ <;> simp [World.frozen?, h]
  rw [rdq_ask] at HA
  cases hp : prs 1 askK f n with
  | none =>
    rw [resA_none hp]
    rw [hp] at HA
    simp only [Option.map_none, Option.isSome_none] at HA
    clear hf ht hby hbW hsz hq0 hr0 hp
    go_enter Tryd.func8, Tryd.ntmps8
    go_wp2_with (first
      | (go_at_call 24; refine HD.mono ?_; rintro e w3 ⟨rfl, m1, m2⟩; obtain ⟨hr3, hb3⟩ := HR.out w2 w3 k1 k2 k3 m2; have t0 := cell_of hr3 0; have t1 := cell_of hr3 1; have t2 := cell_of hr3 2; have t3 := cell_of hr3 3; simp at t0 t1 t2 t3; obtain ⟨z0, z1, z2, z3⟩ := HX.out w3 hr3)
      | (go_at_call 18; refine HA.out.mono ?_; rintro e w2 ⟨j, rfl, HH⟩; obtain ⟨k1, k2, k3, HD⟩ := HH.out))
    obtain ⟨y1, y2⟩ := set4 (v0 := .string ⟨#[]⟩) (v1 := .int .i64 0) (v2 := .int .i64 0) (v3 := .string ⟨#[]⟩) hr3
    refine bodyPost_ret (v := tellA (⟨#[]⟩, 0, 0, ⟨#[]⟩, 5)) (by simp [results, Tryd.results8, go_sem, cell_of y1]) rfl ?_
    exact ⟨rfl, hb3.trans (y2.below (Nat.le_refl _))⟩
  | some is =>
    obtain ⟨hfit, _⟩ := prs_sound hby askK_le hp
    obtain ⟨k, se, id, t, rfl, e1, e2, e3, e4⟩ := ask_form hfit
    rw [resA_some hp]
    rw [hp] at HA
    simp only [Option.map_some, Option.isSome_some] at HA
    have hput : putAll zeroA [.nm 1, .nm 2, .tx 0 8, .tx 3 1200] [.num k, .num se, .txt id, .txt t] = #[.string id, .int .i64 (k : Int), .int .i64 (se : Int), .string t] := rfl
    rw [hput] at HA
    have HM := fun w3 => n_may id k se t w3
    have HY : Hid (∀ w3 w4 : World, Below w3.heap.size w3 w4 → w3.heap[w.heap.size]? = some (.cells #[.string ⟨#[]⟩, .int .i64 0, .int .i64 0, .string ⟨#[]⟩] 23 (0, 0)) → w3.heap[w.heap.size + 1]? = some (.cells #[.string id, .int .i64 (k : Int), .int .i64 (se : Int), .string t] 23 (0, 0)) → Below w.heap.size w w3 → w4.heap[w.heap.size]? = some (.cells #[.string ⟨#[]⟩, .int .i64 0, .int .i64 0, .string ⟨#[]⟩] 23 (0, 0)) ∧ w4.heap[w.heap.size + 1]? = some (.cells #[.string id, .int .i64 (k : Int), .int .i64 (se : Int), .string t] 23 (0, 0)) ∧ Below w.heap.size w w4) := fun w3 w4 h1 h2 h3 h4 => ⟨(h1.block _ (Array.getElem?_eq_some_iff.1 h2).1).trans h2, (h1.block _ (Array.getElem?_eq_some_iff.1 h3).1).trans h3, h4.trans (h1.mono h4.size)⟩
    clear hf ht hby hbW hsz hq0 hr0 hp hfit hput
    cases hm : mayB id k se t with
    | false =>
      rw [if_neg (by simp)]
      rw [hm] at HM
      clear hm
      go_enter Tryd.func8, Tryd.ntmps8
      go_wp2_with (first
        | (go_at_call 17; refine (HM _).mono ?_; rintro e w4 ⟨rfl, n1⟩; obtain ⟨hr4, hq4, hb4⟩ := HY.out w3 w4 n1 hr3 hq3 hb3; have t0 := cell_of hr4 0; have t1 := cell_of hr4 1; have t2 := cell_of hr4 2; have t3 := cell_of hr4 3; simp at t0 t1 t2 t3; obtain ⟨z0, z1, z2, z3⟩ := HX.out w4 hr4)
        | (go_at_call 24; refine HD.mono ?_; rintro e w3 ⟨rfl, m1, m2⟩; obtain ⟨hr3, hb3⟩ := HR.out w2 w3 k1 k2 k3 m2; have hq3 := m1 _ rfl; have s0 := cell_of hq3 0; have s1 := cell_of hq3 1; have s2 := cell_of hq3 2; have s3 := cell_of hq3 3; simp at s0 s1 s2 s3)
        | (go_at_call 18; refine HA.out.mono ?_; rintro e w2 ⟨j, rfl, HH⟩; obtain ⟨k1, k2, k3, HD⟩ := HH.out))
      obtain ⟨y1, y2⟩ := set4 (v0 := .string ⟨#[]⟩) (v1 := .int .i64 0) (v2 := .int .i64 0) (v3 := .string ⟨#[]⟩) hr4
      refine bodyPost_ret (v := tellA (⟨#[]⟩, 0, 0, ⟨#[]⟩, 5)) (by simp [results, Tryd.results8, go_sem, cell_of y1]) rfl ?_
      exact ⟨rfl, hb4.trans (y2.below (Nat.le_refl _))⟩
    | true =>
      rw [if_pos rfl]
      rw [hm] at HM
      clear hm
      go_enter Tryd.func8, Tryd.ntmps8
      go_wp2_with (first
        | (go_at_call 17; refine (HM _).mono ?_; rintro e w4 ⟨rfl, n1⟩; obtain ⟨hr4, hq4, hb4⟩ := HY.out w3 w4 n1 hr3 hq3 hb3; have t0 := cell_of hr4 0; have t1 := cell_of hr4 1; have t2 := cell_of hr4 2; have t3 := cell_of hr4 3; simp at t0 t1 t2 t3; obtain ⟨z0, z1, z2, z3⟩ := HX.out w4 hr4; have p0 := cell_of hq4 0; have p1 := cell_of hq4 1; have p2 := cell_of hq4 2; have p3 := cell_of hq4 3; simp at p0 p1 p2 p3)
        | (go_at_call 24; refine HD.mono ?_; rintro e w3 ⟨rfl, m1, m2⟩; obtain ⟨hr3, hb3⟩ := HR.out w2 w3 k1 k2 k3 m2; have hq3 := m1 _ rfl; have s0 := cell_of hq3 0; have s1 := cell_of hq3 1; have s2 := cell_of hq3 2; have s3 := cell_of hq3 3; simp at s0 s1 s2 s3)
        | (go_at_call 18; refine HA.out.mono ?_; rintro e w2 ⟨j, rfl, HH⟩; obtain ⟨k1, k2, k3, HD⟩ := HH.out))
      obtain ⟨y1, y2⟩ := set4 (v0 := .string id) (v1 := .int .i64 (k : Int)) (v2 := .int .i64 (se : Int)) (v3 := .string t) hr4
      refine bodyPost_ret (v := tellA (id, (k : Int), (se : Int), t, 0)) (by simp [results, Tryd.results8, go_sem, cell_of y1]) rfl ?_
      exact ⟨rfl, hb4.trans (y2.below (Nat.le_refl _))⟩
end Go.Proofs.YtbpolfoagmehhaaDoor
