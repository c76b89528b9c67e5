/-
  The document's List.
  The document's reader: what stands in its list's loop.
-/
import Derived.Test.YtfobiknbjijphaaDoorGbb
import Derived.Test.YtfobiknbjijphaaDoorGaw
namespace Go.Proofs.YtfobiknbjijphaaDoor
open Go.RowKit
set_option linter.unusedVariables false
set_option linter.unusedSimpArgs false

theorem Srcs.below {w V : World} {ve : Value} {m B : Nat} {ys : List Value} (h : Srcs w ve m ys) (hb : Below B w V) (hB : w.heap.size ≤ B) : Srcs V ve m ys := by
  obtain ⟨h1, h2, a, c, h3, h4⟩ := h
  refine ⟨h1, h2, a, c, h3, fun hm => ?_⟩
  obtain ⟨g, o, g1, g2⟩ := h4 hm
  exact ⟨g, o, g1, fun j u hj => by
    have hlt : g < w.heap.size := World.block_lt_of_cell? w _ (g2 j u hj)
    exact (hb.cell (show g < B by omega)).trans (g2 j u hj)⟩
/-- No tail. -/
theorem z_listN {w : World} {acc : List Dt} {a a2 : Option Addr} {c c2 : Nat} {lo : Nat} (h : SS lo none w acc (.slice a acc.length c)) (hlo : lo ≤ w.heap.size) (hc2 : c2 ≤ 9223372036854775807) :
    Calls Tryd.prog 35 #[.slice a acc.length c, .slice a2 0 c2] w fun e w' => e = .returned (.agg #[.int .i64 5, .string ⟨#[]⟩, .slice a acc.length c, .slice a2 0 c2]) ∧ Hid (Below w.heap.size w w' ∧ DS lo none w' (.node 5 ⟨#[]⟩ acc []) (.agg #[.int .i64 5, .string ⟨#[]⟩, .slice a acc.length c, .slice a2 0 c2])) := by
  obtain ⟨G, hG⟩ : ∃ G, w.heap.size = G := ⟨_, rfl⟩
  have HE : Hid (∀ V, V = w.alloc (.cells #[.int .i64 5, .string ⟨#[]⟩, .slice a acc.length c, .slice a2 0 c2] 34) → D4 V G (.int .i64 5) (.string ⟨#[]⟩) (.slice a acc.length c) (.slice a2 0 c2) ∧ Hid (Below G w V ∧ DS lo none V (.node 5 ⟨#[]⟩ acc []) (.agg #[.int .i64 5, .string ⟨#[]⟩, .slice a acc.length c, .slice a2 0 c2]))) := hid fun V hV => by
    subst hV
    have hb : Below w.heap.size w (w.alloc (.cells #[.int .i64 5, .string ⟨#[]⟩, .slice a acc.length c, .slice a2 0 c2] 34)) := (Below.refl _ w).alloc (Nat.le_refl _) _
    refine ⟨heap_alloc_at _ _ _ hG.symm, hid ⟨by rw [← hG]; exact hb, ?_⟩⟩
    exact DS.node (h.nx fun k k1 k2 k3 => ⟨hb.block k k3, k1, by simp⟩) (SS.nil _ _ _ _ _ hc2) 5 ⟨#[]⟩ (by decide)
  clear h
  go_enter Tryd.func35, Tryd.ntmps35
  go_wp2
  try rw [hG]
  obtain ⟨k1, k2⟩ := HE.out _ rfl
  exact bodyPost_ret (v := .agg #[.int .i64 5, .string ⟨#[]⟩, .slice a acc.length c, .slice a2 0 c2]) (res4 k1 Tryd.results35 rfl) rfl ⟨rfl, k2⟩
set_option maxHeartbeats 8000000 in
theorem z_listT {w : World} {acc : List Dt} {x : Dt} {a a2 : Option Addr} {c c2 : Nat} {lo : Nat} (h : SS lo none w acc (.slice a acc.length c)) (h2 : SS lo none w [x] (.slice a2 1 c2)) (hlo : lo ≤ w.heap.size) (hn : acc.length + x.its.length ≤ 1099511627776) :
    Calls Tryd.prog 35 #[.slice a acc.length c, .slice a2 1 c2] w fun e w' => ∃ b1 e1 b2 e2, e = .returned (.agg #[.int .i64 5, .string ⟨#[]⟩, .slice b1 (mkl acc x).its.length e1, .slice b2 (mkl acc x).tl.length e2]) ∧ Hid (Below w.heap.size w w' ∧ DS lo none w' (mkl acc x) (.agg #[.int .i64 5, .string ⟨#[]⟩, .slice b1 (mkl acc x).its.length e1, .slice b2 (mkl acc x).tl.length e2])) := by
  obtain ⟨G, hG⟩ : ∃ G, w.heap.size = G := ⟨_, rfl⟩
  obtain ⟨W1, hW⟩ : ∃ W1, w.alloc (.cells #[.int .i64 0, .string ⟨#[]⟩, .slice none 0 0, .slice none 0 0] 34) = W1 := ⟨_, rfl⟩
  have hB1 : Below w.heap.size w W1 := by rw [← hW]; exact (Below.refl _ w).alloc (Nat.le_refl _) _
  have d1 : D4 W1 G (.int .i64 0) (.string ⟨#[]⟩) (.slice none 0 0) (.slice none 0 0) := by rw [← hW]; exact heap_alloc_at _ _ _ hG.symm
  have hs1 : W1.heap.size = G + 1 := by rw [← hW, World.size_alloc, hG]
  -- the tail's one datum
  obtain ⟨at_, ct, X, ht, hct, hrow, hds⟩ := id h2
  injection ht with ht1 ht2 ht3
  subst ht1; subst ht3
  clear ht2
  obtain ⟨g, o, rfl, hX⟩ := hrow (Nat.succ_pos _)
  have hx0 := hds 0 (Nat.succ_pos _)
  have hx0' : DS lo none w x (vx X 0) := hx0
  obtain ⟨u1, u2, hvx, su1, su2⟩ := hx0'.parts
  obtain ⟨ax, cx, -, hu1, -⟩ := id su1
  obtain ⟨ay, cy, -, hu2, -⟩ := id su2
  subst hu1; subst hu2
  unfold vx at hvx
  injection hvx with hvx
  have e0 := congrArg (fun z => z[0]?) hvx
  have e1 := congrArg (fun z => z[1]?) hvx
  have e2 := congrArg (fun z => z[2]?) hvx
  have e3 := congrArg (fun z => z[3]?) hvx
  simp at e0 e1 e2 e3
  have y0 := (cutW_cell.1 (hX 0 (Nat.succ_pos _) 0 (by decide))).2
  have y2 := (cutW_cell.1 (hX 0 (Nat.succ_pos _) 2 (by decide))).2
  have y3 := (cutW_cell.1 (hX 0 (Nat.succ_pos _) 3 (by decide))).2
  rw [e0] at y0
  rw [e2] at y2
  rw [e3] at y3
  have y0' : w.cell? ⟨g, o, none⟩ = some (.int .i64 x.kd) := y0
  have y2' : w.cell? ⟨g, o + 2, none⟩ = some (.slice ax x.its.length cx) := y2
  have y3' : w.cell? ⟨g, o + 3, none⟩ = some (.slice ay x.tl.length cy) := y3
  have hgw := World.block_lt_of_cell? w _ y0'
  have hgw2 : g < w.heap.size := hgw
  obtain ⟨ys1, s1, t1⟩ := h.cells
  obtain ⟨ys2, s2, t2⟩ := su1.cells
  have HV : Hid (∀ V, Below (G + 1) W1 V → C4 V G (.int .i64 0) (.string ⟨#[]⟩) (.slice none 0 0) (.slice none 0 0) ∧ Srcs V (.slice a acc.length c) acc.length ys1 ∧ Srcs V (.slice ax x.its.length cx) x.its.length ys2 ∧ V.cell? ⟨g, o, none⟩ = some (.int .i64 x.kd) ∧ V.cell? ⟨g, o + 2, none⟩ = some (.slice ax x.its.length cx) ∧ V.cell? ⟨g, o + 3, none⟩ = some (.slice ay x.tl.length cy) ∧ G + 1 ≤ V.heap.size ∧ Below G w V) := hid fun V hV => by
    have hwV : Below G w V := by
      rw [← hG]
      exact hB1.trans (hV.mono (by omega))
    exact ⟨(d1.below hV (Nat.lt_succ_self _)).c4, s1.below hwV (by omega), s2.below hwV (by omega), (hwV.cell (show g < G by omega)).trans y0', (hwV.cell (show g < G by omega)).trans y2', (hwV.cell (show g < G by omega)).trans y3', by have := hV.size; omega, hwV⟩
  obtain ⟨w0, w1, w2, w3, w4, w5, w6, w7⟩ := HV.out W1 (Below.refl _ _)
  obtain ⟨i0, i1, i2, i3, f0, f1, f2, f3⟩ := w0
  by_cases h5 : x.kd = 5
  · have b5 : (x.kd == 5) = true := by rw [h5]; rfl
    have hmk : mkl acc x = .node 5 ⟨#[]⟩ (acc ++ x.its) x.tl := by unfold mkl; rw [if_pos h5]
    obtain ⟨W2, hW2⟩ : ∃ W2, (W1.drewN 1).alloc (.cells #[] 34) = W2 := ⟨_, rfl⟩
    have hb2 : Below (G + 1) W1 W2 := by
      rw [← hW2]
      exact (blw_drewN 1 (Below.refl _ W1)).alloc (by show G + 1 ≤ W1.heap.size; omega) _
    have hE : W2.heap[G + 1]? = some (.cells #[] 34 (0, 0)) := by
      rw [← hW2]; exact heap_alloc_at _ _ _ hs1.symm
    have hown0 : W2.ownsRow (G + 1) 34 4 (.slice (some ⟨G + 1, 0, none⟩) 0 0) 0 [] := ⟨rfl, .inr ⟨G + 1, 0, #[], rfl, Nat.le_refl _, hE, Nat.le_refl _, by decide, rfl, rfl⟩⟩
    have HA := hid (⟨hb2, hown0⟩ : Below (G + 1) W1 W2 ∧ W2.ownsRow (G + 1) 34 4 (.slice (some ⟨G + 1, 0, none⟩) 0 0) 0 [])
    have HG : Hid (∀ (B : Nat) (V V' : World) (v : Value) (k : Nat) (xs : List Value), Below (G + 1) W1 V → V.ownsRow (G + 1) 34 4 v k xs → V.grownBy V' v.ownBlock → Below (G + 1) W1 V') := hid fun B V V' v k xs hV ho hg => by
      refine hV.grown hg ?_ (fun j hj => (World.ownsRow.lt ho j hj).1)
      have := hV.size
      omega
    have HL : Hid (0 + acc.length ≤ 1099511627776 ∧ acc.length + x.its.length ≤ 1099511627776) := hid ⟨by omega, hn⟩
    have HE : Hid (∀ V (a' : Option Addr) (c' : Nat), Below (G + 1) W1 V → V.ownsRow (G + 1) 34 4 (.slice a' (acc.length + x.its.length) c') (acc.length + x.its.length) (ys1 ++ ys2) →
        D4 (set4 V G (.int .i64 5) (.string ⟨#[]⟩) (.slice a' (acc.length + x.its.length) c') (.slice ay x.tl.length cy)) G (.int .i64 5) (.string ⟨#[]⟩) (.slice a' (acc.length + x.its.length) c') (.slice ay x.tl.length cy) ∧
        ∃ b1 e1 b2 e2, Ending.returned (.agg #[.int .i64 5, .string ⟨#[]⟩, .slice a' (acc.length + x.its.length) c', .slice ay x.tl.length cy]) = .returned (.agg #[.int .i64 5, .string ⟨#[]⟩, .slice b1 (mkl acc x).its.length e1, .slice b2 (mkl acc x).tl.length e2]) ∧ Hid (Below G w (set4 V G (.int .i64 5) (.string ⟨#[]⟩) (.slice a' (acc.length + x.its.length) c') (.slice ay x.tl.length cy)) ∧ DS lo none (set4 V G (.int .i64 5) (.string ⟨#[]⟩) (.slice a' (acc.length + x.its.length) c') (.slice ay x.tl.length cy)) (mkl acc x) (.agg #[.int .i64 5, .string ⟨#[]⟩, .slice b1 (mkl acc x).its.length e1, .slice b2 (mkl acc x).tl.length e2]))) := hid fun V a' c' hV ho => by
      obtain ⟨U, hU⟩ : ∃ U, set4 V G (.int .i64 5) (.string ⟨#[]⟩) (.slice a' (acc.length + x.its.length) c') (.slice ay x.tl.length cy) = U := ⟨_, rfl⟩
      have dU : D4 U G (.int .i64 5) (.string ⟨#[]⟩) (.slice a' (acc.length + x.its.length) c') (.slice ay x.tl.length cy) := by
        rw [← hU]; exact (d1.below hV (Nat.lt_succ_self _)).set _ _ _ _
      have pU : Part (fun k => k = G) V U := by rw [← hU]; exact set4_part V G _ _ _ _
      have bU : Below G w U := (HV.out V hV).2.2.2.2.2.2.2.trans (Part.below pU (fun k hk => by show G ≤ k; have : k = G := hk; omega) (by have := hV.size; omega))
      rw [hU]
      refine ⟨dU, a', c', ay, cy, by rw [hmk]; simp [Dt.its, Dt.tl], hid ⟨bU, ?_⟩⟩
      rw [hmk]
      have hoU : U.ownsRow (G + 1) 34 4 (.slice a' (acc.length + x.its.length) c') (acc.length + x.its.length) (ys1 ++ ys2) := pU.row ho (fun k hk e => by
        have := (World.ownsRow.lt ho k hk).1
        omega)
      have hnx : Nx lo none w lo (Value.slice a' (acc.length + x.its.length) c').ownBlock U := fun k k1 k2 k3 => ⟨bU.block k (by omega), k1, fun e => by
        have := (World.ownsRow.lt ho k e.symm).1
        omega⟩
      have hnx0 : Nx lo none w lo none U := fun k k1 k2 k3 => ⟨bU.block k (by omega), k1, by simp⟩
      have hoU2 : U.ownsRow lo 34 4 (.slice a' (acc.length + x.its.length) c') (acc.length + x.its.length) (ys1 ++ ys2) := by
        refine ⟨hoU.1, ?_⟩
        rcases hoU.2 with e | ⟨gg, cap, cur, e1, e2, e3, e4⟩
        · exact .inl e
        · exact .inr ⟨gg, cap, cur, e1, by omega, e3, e4⟩
      have hrow := DRow.of hoU2 s1.1 (fun j hj => (t1 j hj).nx hnx) (fun j hj => (t2 j hj).nx hnx)
      have := DS.node hrow.ss (su2.nx hnx0) 5 ⟨#[]⟩ (by decide)
      simpa [Dt.kd, Dt.tx, Dt.its, Dt.tl] using this
    subst hW2
    have hgG : g < G + 1 := by omega
    clear h h2 hds hX hx0 hx0' su1 su2 s1 s2 t1 t2 d1 hB1 e0 e1 e2 e3 y0 y2 y3 y0' y2' y3' hmk w1 w2 w6 w7 hvx hrow hct hgw hgw2 hlo hn h5 hb2 hE hown0
    go_enter Tryd.func35, Tryd.ntmps35
    go_wp2_with fail
    try rw [hW]
    try rw [hG]
    try go_wp2_with fail
    go_region_law (first | (refine step_push0 rfl _ _ rfl (G + 1) (.slice (some ⟨G + 1, 0, none⟩) 0 0) (.slice a acc.length c) 0 acc.length [] ys1 (by go_simp) (by go_simp) (by exact HA.out.2) (by exact (HV.out _ HA.out.1).2.1) (by exact HL.out.1) (by exact (HV.out _ HA.out.1).2.2.2.2.2.2.1) ?_; intro a1 z1 w6 ho3 hg3 hw3; have hb3 := HG.out 0 _ w6 _ _ _ HA.out.1 HA.out.2 hg3; have ho3' : w6.ownsRow (G + 1) 34 4 (.slice a1 acc.length z1) acc.length ys1 := (by simpa using ho3); obtain ⟨⟨i0, i1, i2, i3, f0, f1, f2, f3⟩, -, -, w3, w4, w5, -, -⟩ := HV.out w6 hb3; clear ho3 hg3 hw3) | (refine step_push0 rfl _ _ rfl (G + 1) (.slice a1 acc.length z1) (.slice ax x.its.length cx) acc.length x.its.length ys1 ys2 (by go_simp) (by go_simp) (by exact ho3') (by exact (HV.out _ hb3).2.2.1) (by exact HL.out.2) (by exact (HV.out _ hb3).2.2.2.2.2.2.1) ?_; intro a4 z4 w7 ho4 hg4 hw4; have hb4 := HG.out 0 _ w7 _ _ _ hb3 ho3' hg4; obtain ⟨⟨i0, i1, i2, i3, f0, f1, f2, f3⟩, -, -, w3, w4, w5, -, -⟩ := HV.out w7 hb4; clear hg4 hw4))
    all_goals
      obtain ⟨k1, b1, z1, b2, z2, k2, k3⟩ := HE.out w7 a4 z4 hb4 ho4
      injection k2 with k2
      clear HV HA HG HL HE
      go_wp2
      refine bodyPost_ret (v := .agg #[.int .i64 5, .string ⟨#[]⟩, .slice a4 (acc.length + x.its.length) z4, .slice ay x.tl.length cy]) (res4 k1 Tryd.results35 rfl) rfl ⟨b1, z1, b2, z2, by rw [k2], by first | exact k3 | (rw [hG]; exact k3)⟩
  · have b5 : (x.kd == 5) = false := by simp; exact h5
    have hmk : mkl acc x = .node 5 ⟨#[]⟩ acc [x] := by unfold mkl; rw [if_neg h5]
    have HE : Hid (D4 (set4 W1 G (.int .i64 5) (.string ⟨#[]⟩) (.slice a acc.length c) (.slice (some ⟨g, o, none⟩) 1 c2)) G (.int .i64 5) (.string ⟨#[]⟩) (.slice a acc.length c) (.slice (some ⟨g, o, none⟩) 1 c2) ∧ ∃ b1 e1 b2 e2, Ending.returned (.agg #[.int .i64 5, .string ⟨#[]⟩, .slice a acc.length c, .slice (some ⟨g, o, none⟩) 1 c2]) = .returned (.agg #[.int .i64 5, .string ⟨#[]⟩, .slice b1 (mkl acc x).its.length e1, .slice b2 (mkl acc x).tl.length e2]) ∧ Hid (Below G w (set4 W1 G (.int .i64 5) (.string ⟨#[]⟩) (.slice a acc.length c) (.slice (some ⟨g, o, none⟩) 1 c2)) ∧ DS lo none (set4 W1 G (.int .i64 5) (.string ⟨#[]⟩) (.slice a acc.length c) (.slice (some ⟨g, o, none⟩) 1 c2)) (mkl acc x) (.agg #[.int .i64 5, .string ⟨#[]⟩, .slice b1 (mkl acc x).its.length e1, .slice b2 (mkl acc x).tl.length e2]))) := hid (by
      have hb : Below G w (set4 W1 G (.int .i64 5) (.string ⟨#[]⟩) (.slice a acc.length c) (.slice (some ⟨g, o, none⟩) 1 c2)) := by
        refine w7.trans (Part.below (set4_part W1 G _ _ _ _) (fun k hk => ?_) (by omega))
        show G ≤ k
        have : k = G := hk
        omega
      refine ⟨d1.set _ _ _ _, a, c, some ⟨g, o, none⟩, c2, by rw [hmk]; rfl, hid ⟨hb, ?_⟩⟩
      rw [hmk]
      have hnx : Nx lo none w lo none (set4 W1 G (.int .i64 5) (.string ⟨#[]⟩) (.slice a acc.length c) (.slice (some ⟨g, o, none⟩) 1 c2)) := fun k k1 k2 k3 => ⟨hb.block k (by omega), k1, by simp⟩
      exact DS.node (h.nx hnx) (h2.nx hnx) 5 ⟨#[]⟩ (by decide))
    have HW := hid hW
    clear h h2 hds hX hx0 hx0' su1 su2 s1 s2 t1 t2 d1 hB1 e0 e1 e2 e3 y0 y2 y3 y0' y2' y3' hmk w1 w2 w6 w7 HV hvx hrow hct hgw hgw2 hs1 hlo hn h5
    go_enter Tryd.func35, Tryd.ntmps35
    go_wp2_with fail
    try rw [hW]
    try rw [hG]
    try go_wp2_with fail
    obtain ⟨k1, b1, z1, b2, z2, k2, k3⟩ := HE.out
    injection k2 with k2
    refine bodyPost_ret (v := .agg #[.int .i64 5, .string ⟨#[]⟩, .slice a acc.length c, .slice (some ⟨g, o, none⟩) 1 c2]) (res4 k1 Tryd.results35 rfl) rfl ⟨b1, z1, b2, z2, by rw [k2], by first | exact k3 | (rw [hG]; exact k3)⟩
end Go.Proofs.YtfobiknbjijphaaDoor

namespace Go.Proofs.YtfobiknbjijphaaDoor
open Go.RowKit
set_option linter.unusedVariables false
set_option linter.unusedSimpArgs false

/-- The document's reader reads data, where so many more may be open. -/
def ZD (n : Nat) : Prop := ∀ (b : Nat) (s : ByteArray) (p dp : Nat) (w : World), Zr b s p w → dp + n = 65 → Calls Tryd.prog 20 #[.pointer (some ⟨b, 0, none⟩), .int .i64 (dp : Int)] w fun e w' => ZdO b s w (rdD n (rst s p)) e w'
/-- A fault, with the place. -/
def Zfp (b : Nat) (s : ByteArray) (p k n : Nat) (w : World) : Prop := (k ≤ s.size ∧ p ≤ s.size + 1 ∧ s.size ≤ 1099511627776) ∧ w.heap[b]? = some (.cells #[.string s, .int .i64 (p : Int), .int .i64 ((s.size - k : Nat) : Int), .int .i64 (n : Int)] 50 (0, 0))
theorem Zfp.zf {b : Nat} {s : ByteArray} {p k n : Nat} {w : World} (h : Zfp b s p k n w) : Zf b s k n w := ⟨h.1.1, p, h.1.2.1, h.1.2.2, h.2⟩
theorem z_failP {b : Nat} {s : ByteArray} {p : Nat} {w : World} (h : Zr b s p w) (a : Nat) (ha : a ≤ s.size) : Calls Tryd.prog 32 #[.pointer (some ⟨b, 0, none⟩), .int .i64 (a : Int), .int .i64 100] w fun e w' => e = .returned (.tuple #[]) ∧ Hid (Zfp b s p (s.size - a) 100 w' ∧ Pt b w w') := by
  obtain ⟨c0, c1, c2, c3, f1, f2, f3⟩ := h.cells
  have HF : Hid (Zfp b s p (s.size - a) 100 ((w.setCell ⟨b, 2, none⟩ (.int .i64 (a : Int))).setCell ⟨b, 3, none⟩ (.int .i64 100)) ∧ Pt b w ((w.setCell ⟨b, 2, none⟩ (.int .i64 (a : Int))).setCell ⟨b, 3, none⟩ (.int .i64 100))) := hid ⟨by
    refine ⟨⟨by omega, by have := h.1.1; omega, h.1.2⟩, ?_⟩
    have := heap_set_at (heap_set_at h.2 (i := 2) (.int .i64 (a : Int))) (i := 3) (.int .i64 100)
    rw [this]
    have e2 : s.size - (s.size - a) = a := by omega
    rw [e2]
    rfl, Pt.set (Pt.set (Part.refl _ w) 2 _) 3 _⟩
  clear h ha
  go_enter Tryd.func32, Tryd.ntmps32
  go_wp2
  refine bodyPost_end (results_none rfl _ _ _) rfl ?_
  exact ⟨rfl, HF⟩
/-- A datum that is none is appended all the same. -/
theorem wpList_push0 {ops : Array Oper} {rest : List Oper} {o : Oper} {a : Act} {w : World} {Q : Exit → Act → World → Prop}
    (hg : o.guard = none) (s x : Operand) (hop : o.op = Op.call { callee := Callee.builtin Builtin.append, args := #[s, x], argTypes := #[22, 22] })
    (lo : Nat) (v ve : Value) (n m : Nat) (xs ys : List Value) (hs : a.eval s = v) (hx : a.eval x = ve) (hd : w.ownsRow lo 34 4 v n xs) (he : Srcs w ve m ys) (hn : n + m ≤ 1099511627776) (hlo : lo ≤ w.heap.size)
    (h : ∀ a' c' w', w'.ownsRow lo 34 4 (.slice a' (n + m) c') (n + m) (xs ++ ys) → w.grownBy w' v.ownBlock → wpList Tryd.prog ops Q rest (a.put o.dst (.slice a' (n + m) c')) w') : wpList Tryd.prog ops Q (o :: rest) a w := by
  refine wpList_plain hg fun K hK => ?_
  obtain ⟨a', c', w', hr, h2, h3, h4⟩ := run_push0 o.type hd he hn hlo
  unfold Oper.wp execOp
  simp only [hop, resolve, invoke, builtin, Sem.run_bind, Sem.run_pure, Result.andThen_ok, List.map_toArray, List.map_cons, List.map_nil, hs, hx, hr]
  exact hK _ _ (h a' c' w' h2 h3)
theorem srcs_lit {w : World} {k0 : Int} {t0 : ByteArray} {a a2 : Option Addr} {m c m2 c2 : Nat} : Srcs (w.alloc (.cells #[.int .i64 k0, .string t0, .slice a m c, .slice a2 m2 c2] 34)) (.slice (some ⟨w.heap.size, 0, none⟩) 1 1) 1 [.int .i64 k0, .string t0, .slice a m c, .slice a2 m2 c2] := by
  refine ⟨rfl, fun u hu => ?_, _, _, rfl, fun _ => ⟨w.heap.size, 0, rfl, fun j u hj => ?_⟩⟩
  · simp at hu
    rcases hu with rfl | rfl | rfl | rfl <;> rfl
  · have hT : (w.alloc (.cells #[.int .i64 k0, .string t0, .slice a m c, .slice a2 m2 c2] 34)).heap[w.heap.size]? = some (.cells #[.int .i64 k0, .string t0, .slice a m c, .slice a2 m2 c2] 34 (0, 0)) := heap_alloc_at _ _ _ rfl
    rw [Nat.zero_add, cells_at hT j]
    exact (by simpa using hj)
/-- Where the loop stands, whatever its mode. -/
structure Zb (b : Nat) (s : ByteArray) (w : World) (G q : Nat) (wr : World) : Prop where
  rr : Zr b s q wr
  pt : Pt b w wr
  g : D4 wr G (.int .i64 0) (.string ⟨#[]⟩) (.slice none 0 0) (.slice none 0 0)
  z : w.heap.size ≤ G ∧ b < G
theorem Zb.on {b : Nat} {s : ByteArray} {w : World} {G q q2 : Nat} {wr w' : World} (h : Zb b s w G q wr) (r : Zr b s q2 w') (p : Pt b wr w') : Zb b s w G q2 w' := ⟨r, h.pt.trans_ p, h.g.part p (fun e => by have := h.z; omega), h.z⟩
theorem Zb.under {b : Nat} {s : ByteArray} {w : World} {G q : Nat} {wr w' : World} (h : Zb b s w G q wr) (p : Below wr.heap.size wr w') : Zb b s w G q w' := h.on (h.rr.under p) (Pt.ofB p)
theorem Zb.lt {b : Nat} {s : ByteArray} {w : World} {G q : Nat} {wr : World} (h : Zb b s w G q wr) : G + 1 ≤ wr.heap.size := (Array.getElem?_eq_some_iff.1 h.g).1
/-- It has failed. -/
def Zg (b : Nat) (s : ByteArray) (w : World) (G : Nat) (R : Rs Dt) (wr : World) : Prop := ∃ k j, R = .bad k j ∧ Zf b s k j wr ∧ Pt b w wr ∧ D4 wr G (.int .i64 0) (.string ⟨#[]⟩) (.slice none 0 0) (.slice none 0 0)
/-- The row is as it was. -/
theorem row_on {b G : Nat} {wr w' : World} {v : Value} {acc : List Dt} (h : DRow (G + 1) wr v acc) (p : Pt b wr w') (hb : b < G) : DRow (G + 1) w' v acc := h.keep (fun k k1 k2 => p.block k k2 (by omega))
/-- Behind an append onto a row of one's own. -/
theorem Zb.grown {b : Nat} {s : ByteArray} {w : World} {G q q3 : Nat} {V w3 w5 : World} {v : Value} {acc : List Dt} {o1 : Obj} (h : Zb b s w G q V) (hr : DRow (G + 1) V v acc) (p : Pt b V w3) (r : Zr b s q3 w3) (hg : (w3.alloc o1).grownBy w5 v.ownBlock) : Zb b s w G q3 w5 := by
  have z := h.z
  have hl := h.lt
  have hp := p.size
  have hB : Below w3.heap.size w3 (w3.alloc o1) := (Below.refl _ w3).alloc (Nat.le_refl _) _
  have hs := hB.size
  have hown : ∀ k, v.ownBlock = some k → G + 1 ≤ k := fun k hk => by
    obtain ⟨xs, o1, _⟩ := hr
    exact (World.ownsRow.lt o1 k hk).1
  have hk : ∀ k, k < G + 1 → w5.heap[k]? = w3.heap[k]? := fun k k1 => (hg.block k (by omega) (fun e => by have := hown k e.symm; omega)).trans (hB.block k (by omega))
  refine ⟨⟨r.1, (hk b (by omega)).trans r.2⟩, ((h.pt.trans_ p).trans_ (Pt.ofB hB)).grown hg (fun k e1 e2 => by have := hown k e1; omega), ?_, z⟩
  exact (hk G (by omega)).trans (h.g.part p (fun e => by omega))
theorem Zg.grown {b : Nat} {s : ByteArray} {w : World} {G q : Nat} {R : Rs Dt} {V w3 w5 : World} {v : Value} {acc : List Dt} {o1 : Obj} {k j : Nat} (h : Zb b s w G q V) (hr : DRow (G + 1) V v acc) (p : Pt b V w3) (hR : R = .bad k j) (r : Zf b s k j w3) (hg : (w3.alloc o1).grownBy w5 v.ownBlock) : Zg b s w G R w5 := by
  have z := h.z
  have hl := h.lt
  have hp := p.size
  have hB : Below w3.heap.size w3 (w3.alloc o1) := (Below.refl _ w3).alloc (Nat.le_refl _) _
  have hs := hB.size
  have hown : ∀ k, v.ownBlock = some k → G + 1 ≤ k := fun k hk => by
    obtain ⟨xs, o1, _⟩ := hr
    exact (World.ownsRow.lt o1 k hk).1
  have hk : ∀ k, k < G + 1 → w5.heap[k]? = w3.heap[k]? := fun k k1 => (hg.block k (by omega) (fun e => by have := hown k e.symm; omega)).trans (hB.block k (by omega))
  obtain ⟨r1, p0, r2, r3, r4⟩ := r
  refine ⟨k, j, hR, ⟨r1, p0, r2, r3, (hk b (by omega)).trans r4⟩, ((h.pt.trans_ p).trans_ (Pt.ofB hB)).grown hg (fun k e1 e2 => by have := hown k e1; omega), ?_⟩
  exact (hk G (by omega)).trans (h.g.part p (fun e => by omega))
theorem dot_piece {s : ByteArray} {q : Nat} {c : UInt8} {r : List UInt8} (h : rst s q = c :: r) : ((s.extract q (q + pcL (rst s q))).toList == [46]) = decide (c = 46 ∧ pcL (c :: r) = 1) := by
  have hl : (s.extract q (q + pcL (rst s q))).toList = (rst s q).take (pcL (rst s q)) := by
    rw [list_eq, ext_list]; congr 1; omega
  rw [hl, h, Bool.eq_iff_iff, beq_iff_eq, decide_eq_true_iff]
  constructor
  · intro e
    have h1 := congrArg List.length e
    have h2 := pcL_le (c :: r)
    rw [List.length_take] at h1
    simp only [List.length_cons, List.length_nil] at h1 h2
    have h3 : pcL (c :: r) = 1 := by omega
    rw [h3] at e
    simp at e
    exact ⟨e, h3⟩
  · rintro ⟨rfl, h3⟩
    rw [h3]; rfl
theorem atL_dot : atL [46] = .bad 100 := by
  unfold atL
  rw [if_neg (by simp), if_neg (fun h => by have h1 := h.2.2.1; rw [list_eq] at h1; exact absurd h1 (by decide)), if_neg (fun h => by have := h.2 46 (by decide); revert this; decide)]
/-- A dot by itself is no datum. -/
theorem rdD_dot {n : Nat} {l r : List UInt8} {c : UInt8} (h : skB false l = c :: r) (hc : c = 46) (h1 : pcL (c :: r) = 1) : rdD n l = .bad (r.length + 1) 100 := by
  subst hc
  rw [rdD_pcR h (by decide) rfl]
  refine pcR_bad ?_
  rw [h1]
  exact atL_dot
end Go.Proofs.YtfobiknbjijphaaDoor
