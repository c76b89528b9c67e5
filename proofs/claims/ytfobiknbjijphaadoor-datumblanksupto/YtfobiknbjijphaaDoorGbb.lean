/-
  The document's reader: strings.
  The document's reader: atoms.
-/
import Derived.Test.YtfobiknbjijphaaDoorGax
import Derived.Test.YtfobiknbjijphaaDoorGba
import Derived.Test.YtfobiknbjijphaaDoorGav
namespace Go.Proofs.YtfobiknbjijphaaDoor
open Go.RowKit
set_option linter.unusedVariables false
set_option linter.unusedSimpArgs false

/-- What the document's reader of a datum answers. -/
def ZdO (b : Nat) (s : ByteArray) (w : World) (R : Rs Dt) (e : Ending) (w' : World) : Prop :=
  (∃ d a c a2 c2 q, e = .returned (.agg #[.int .i64 d.kd, .string d.tx, .slice a d.its.length c, .slice a2 d.tl.length c2]) ∧ Hid (R = .ok d (rst s q) ∧ Zr b s q w' ∧ Pt b w w' ∧ DS w.heap.size none w' d (.agg #[.int .i64 d.kd, .string d.tx, .slice a d.its.length c, .slice a2 d.tl.length c2]))) ∨
  (∃ k0 t0 a m c a2 m2 c2, e = .returned (.agg #[.int .i64 k0, .string t0, .slice a m c, .slice a2 m2 c2]) ∧ Hid (∃ k n, R = .bad k n ∧ Zf b s k n w' ∧ Pt b w w'))
theorem D4.below {w w' : World} {g B : Nat} {v0 v1 v2 v3 : Value} (e : D4 w g v0 v1 v2 v3) (h : Below B w w') (hg : g < B) : D4 w' g v0 v1 v2 v3 := (h.block g hg).trans e
theorem Zr.below {b : Nat} {s : ByteArray} {p B : Nat} {w w' : World} (h : Zr b s p w) (hb : Below B w w') (hB : b < B) : Zr b s p w' := ⟨h.1, (hb.block b hB).trans h.2⟩
/-- A fault: no datum is handed back. -/
theorem zd_bad {b : Nat} {s : ByteArray} {w V : World} {G k n : Nat} {R : Rs Dt} {z0 z1 z2 z3 : Value} (z : w.heap.size ≤ G ∧ b < G) (g : D4 V G z0 z1 z2 z3) (hr : R = .bad k n) (hf : Zf b s k n V) (pt : Pt b w V) :
    D4 (set4 V G (.int .i64 0) (.string ⟨#[]⟩) (.slice none 0 0) (.slice none 0 0)) G (.int .i64 0) (.string ⟨#[]⟩) (.slice none 0 0) (.slice none 0 0) ∧
    ZdO b s w R (.returned (.agg #[.int .i64 0, .string ⟨#[]⟩, .slice none 0 0, .slice none 0 0])) (set4 V G (.int .i64 0) (.string ⟨#[]⟩) (.slice none 0 0) (.slice none 0 0)) :=
  ⟨g.set _ _ _ _, .inr ⟨0, ⟨#[]⟩, none, 0, 0, none, 0, 0, rfl, hid ⟨k, n, hr, hf.part (set4_part V G _ _ _ _) (fun e => by omega), Pt.set4_ pt z.1 _ _ _ _⟩⟩⟩
/-- A datum without items is handed back. -/
theorem zd_leaf {b : Nat} {s : ByteArray} {w V : World} {G q : Nat} {R : Rs Dt} {kd : Int} {t : ByteArray} {z0 z1 z2 z3 : Value} (z : w.heap.size ≤ G ∧ b < G) (g : D4 V G z0 z1 z2 z3) (hr : R = .ok (.node kd t [] []) (rst s q)) (ht : t.size ≤ 140737488355328) (r : Zr b s q V) (pt : Pt b w V) :
    D4 (set4 V G (.int .i64 kd) (.string t) (.slice none 0 0) (.slice none 0 0)) G (.int .i64 kd) (.string t) (.slice none 0 0) (.slice none 0 0) ∧
    ZdO b s w R (.returned (.agg #[.int .i64 kd, .string t, .slice none 0 0, .slice none 0 0])) (set4 V G (.int .i64 kd) (.string t) (.slice none 0 0) (.slice none 0 0)) :=
  ⟨g.set _ _ _ _, .inl ⟨.node kd t [] [], none, 0, none, 0, q, rfl, hid ⟨hr, r.part (set4_part V G _ _ _ _) (fun e => by omega), Pt.set4_ pt z.1 _ _ _ _, DS.leaf _ _ _ kd t ht⟩⟩⟩
def stgF (k : Nat) (acc r : List UInt8) : Rs Dt := match stL k acc r with | .bad k n => .bad k n | .ok t r2 => .ok (.node 3 (ba t) [] []) r2
theorem stgF_ok {k : Nat} {acc r t r2 : List UInt8} (h : stL k acc r = .ok t r2) : stgF k acc r = .ok (.node 3 (ba t) [] []) r2 := by simp only [stgF, h]
theorem stgF_bad {k j n : Nat} {acc r : List UInt8} (h : stL k acc r = .bad j n) : stgF k acc r = .bad j n := by simp only [stgF, h]
theorem stgF_eq {k : Nat} {acc acc2 r r2 : List UInt8} (h : stL k acc r = stL k acc2 r2) : stgF k acc r = stgF k acc2 r2 := by simp only [stgF, h]
theorem stL_one (k : Nat) (acc : List UInt8) : stL k acc [92] = .bad k 100 := by simp [stL]
set_option maxRecDepth 100000 in
set_option maxHeartbeats 8000000 in
theorem z_text {b : Nat} {s : ByteArray} {p : Nat} {w : World} (h : Zr b s p w) (hp : p < s.size) : Calls Tryd.prog 33 #[.pointer (some ⟨b, 0, none⟩)] w fun e w' => ZdO b s w (strR (s.size - p) (rst s (p + 1))) e w' := by
  obtain ⟨G, hG⟩ : ∃ G, w.heap.size = G := ⟨_, rfl⟩
  obtain ⟨W1, hW⟩ : ∃ W1, w.alloc (.cells #[.int .i64 0, .string ⟨#[]⟩, .slice none 0 0, .slice none 0 0] 34) = W1 := ⟨_, rfl⟩
  have hbG : b < G := by rw [← hG]; exact h.lt
  have hB1 : Below w.heap.size w W1 := by rw [← hW]; exact (Below.refl _ w).alloc (Nat.le_refl _) _
  have hs1 : W1.heap.size = G + 1 := by rw [← hW, World.size_alloc, hG]
  have d1 : D4 W1 G (.int .i64 0) (.string ⟨#[]⟩) (.slice none 0 0) (.slice none 0 0) := by rw [← hW]; exact heap_alloc_at _ _ _ hG.symm
  have r1 := h.under hB1
  have HZ : Hid (w.heap.size ≤ G ∧ b < G ∧ W1.heap.size = G + 1) := hid ⟨by omega, hbG, hs1⟩
  obtain ⟨K, hK⟩ : ∃ K, s.size - p = K := ⟨_, rfl⟩
  obtain ⟨R, hR⟩ : ∃ R, strR K (rst s (p + 1)) = R := ⟨_, rfl⟩
  have HK : Hid (s.size - K = p ∧ K ≤ s.size ∧ p < s.size) := hid ⟨by omega, by omega, hp⟩
  have hsz := h.1.2
  have HS := hid hsz
  have HR := hid hR
  -- what holds of a later world
  have H1 : Hid (∀ V, Below (G + 1) W1 V → Zr b s p V ∧ D4 V G (.int .i64 0) (.string ⟨#[]⟩) (.slice none 0 0) (.slice none 0 0) ∧ Pt b w V) := hid fun V hV => ⟨r1.below hV (by omega), d1.below hV (Nat.lt_succ_self _), (Pt.ofB hB1).trans_ (Part.ofBelow (hV.mono (by omega)))⟩
  have HBad : Hid (∀ V a, Below (G + 1) W1 V → a ≤ s.size → Calls Tryd.prog 32 #[.pointer (some ⟨b, 0, none⟩), .int .i64 (a : Int), .int .i64 100] V fun e w' => e = .returned (.tuple #[]) ∧ Hid (Zf b s (s.size - a) 100 w' ∧ Pt b w w' ∧ D4 w' G (.int .i64 0) (.string ⟨#[]⟩) (.slice none 0 0) (.slice none 0 0))) := hid fun V a hV ha => by
    obtain ⟨g1, g2, g3⟩ := H1.out V hV
    refine (z_fail g1 a 100 ha).mono ?_
    rintro e w' ⟨he, h2⟩
    exact ⟨he, hid ⟨h2.out.1 100 rfl, g3.trans_ h2.out.2, g2.part h2.out.2 (fun e => by omega)⟩⟩
  have c0 := r1.cells.c0
  have c1 := r1.cells.c1
  have l0 : (0 : Int) ≤ (p : Int) := by omega
  have l1 : (p : Int) < (s.size : Int) := by omega
  have lM : (s.size : Int) ≤ 1099511627776 := by omega
  have H2 : Hid (∀ V, Below (G + 1) W1 V → V.cell? ⟨b, 0, none⟩ = some (.string s) ∧ V.cell? ⟨b, 1, none⟩ = some (.int .i64 (p : Int)) ∧ V.frozen? ⟨b, 1, none⟩ = false) := hid fun V hV => by
    have := (H1.out V hV).1.cells
    exact ⟨this.c0, this.c1, this.f1⟩
  rw [hK, hR]
  have H0 : Hid (R = stgF K [] (rst s (p + 1))) := hid hR.symm
  clear h hB1 d1 r1 hs1 hbG hR hK hp hsz
  go_enter Tryd.func33, Tryd.ntmps33
  go_wp2_with fail
  try rw [hW]
  try rw [hG]
  try go_wp2_with fail
  go_loopw [4, 5] (fun v i wr => ∃ (k : Nat) (acc : List UInt8), i = .int .i64 (k : Int) ∧ k ≤ s.size ∧ Hid (p < k ∧ Below (G + 1) W1 wr ∧ Ob (G + 1) v acc wr ∧ R = stgF K acc (rst s k) ∧ acc.length ≤ k)) (fun _ i _ => s.size - (intOf i).toNat)
  case atStart => exact ⟨p + 1, [], by go_num, HK.out.2.2, by omega, Below.refl _ _, World.ownsRow_nil _ _ _ _, H0.out, Nat.zero_le _⟩
  case round =>
    obtain ⟨k, acc, rfl, hk, HQ⟩ := hrel
    obtain ⟨v0, rfl⟩ : ∃ v0, v0 = wr := ⟨_, rfl⟩
    clear H0 c0 c1 hW
    obtain ⟨c0, c1, f1⟩ := H2.out v0 HQ.out.2.1
    have hgs : G < v0.heap.size := by
      have h1 := HQ.out.2.1.size
      have h2 := HZ.out.2.2
      omega
    by_cases hlt : k < s.size
    · have m0 : (0 : Int) ≤ (k : Int) := by omega
      have m1 : (k : Int) < (s.size : Int) := by omega
      obtain ⟨c, hc⟩ : ∃ c, s[k]'hlt = c := ⟨_, rfl⟩
      have hcons : rst s k = c :: rst s (k + 1) := by rw [rst_cons hlt, hc]
      have q34 : ((c.toNat : Int) == 34) = decide (c = 34) := @u8b c 34 (by decide)
      have q92 : ((c.toNat : Int) == 92) = decide (c = 92) := @u8b c 92 (by decide)
      have hLe : acc.length + 2 ≤ 140737488355328 := by
        have := HQ.out.2.2.2.2
        have := HS.out
        omega
      have HLe := hid hLe
      clear hLe
      by_cases h34 : c = 34
      · rw [decide_eq_true h34] at q34
        have HRR : Hid (R = .ok (.node 3 (ba acc) [] []) (rst s (k + 1))) := hid (HQ.out.2.2.2.1.trans (stgF_ok (by rw [hcons, h34, stL_quote])))
        have hOb : Ob (G + 1) u4 acc (v0.setCell ⟨b, 1, none⟩ (.int .i64 ((k : Int) + 1))) := by
          have hpt : Pt b v0 (v0.setCell ⟨b, 1, none⟩ (.int .i64 ((k : Int) + 1))) := Pt.set (Part.refl _ _) 1 _
          exact hpt.row HQ.out.2.2.1 (fun j hj e => by
            have := (World.ownsRow.lt HQ.out.2.2.1 j hj).1
            have := HZ.out
            omega)
        have HEq := ob_string hOb
        have HE : Hid (∀ V, V = set4 (v0.setCell ⟨b, 1, none⟩ (.int .i64 ((k : Int) + 1))) G (.int .i64 3) (.string (ba acc)) (.slice none 0 0) (.slice none 0 0) → D4 V G (.int .i64 3) (.string (ba acc)) (.slice none 0 0) (.slice none 0 0) ∧ ZdO b s w R (.returned (.agg #[.int .i64 3, .string (ba acc), .slice none 0 0, .slice none 0 0])) V) := hid fun V hV => by
          obtain ⟨g1, g2, g3⟩ := H1.out v0 HQ.out.2.1
          subst hV
          have := HZ.out
          refine zd_leaf ⟨HZ.out.1, HZ.out.2.1⟩ ((heap_set_other v0 (show G ≠ b by omega) 1 _).trans g2) HRR.out ?_ (g1.at_ (k + 1) hlt) (Pt.set g3 1 _)
          show acc.length ≤ _
          have := HLe.out
          omega
        obtain ⟨-, -, -, -, e0, e1, e2, e3⟩ := (H1.out v0 HQ.out.2.1).2.1.c4
        obtain ⟨i0, i1, i2, i3, -, -, -, -⟩ := (H1.out v0 HQ.out.2.1).2.1.c4
        have n1 : ¬ G = b := by have := HZ.out; omega
        have n2 : ¬ b = G := by have := HZ.out; omega
        have hbae : (⟨acc.toArray⟩ : ByteArray) = ba acc := rfl
        rw [hbae] at HEq
        clear h34 hcons HQ HRR q92 hOb
        go_wp2
        obtain ⟨k1, k2⟩ := HE.out _ rfl
        exact bodyPost_ret (v := .agg #[.int .i64 3, .string (ba acc), .slice none 0 0, .slice none 0 0]) (res4 k1 Tryd.results33 rfl) rfl k2
      · rw [decide_eq_false h34] at q34
        have HO : Hid (∀ o, Ob (G + 1) u4 acc (v0.alloc o)) := hid fun o => World.ownsRow.alloc HQ.out.2.2.1 o
        have HGs := hid hgs
        by_cases h92 : c = 92
        · rw [decide_eq_true h92] at q92
          by_cases hn : k + 1 < s.size
          · have n1 : (k : Int) + 1 < (s.size : Int) := by omega
            have n2 : (0 : Int) ≤ (k : Int) + 1 := by omega
            obtain ⟨y, hy⟩ : ∃ y, s[k + 1]'hn = y := ⟨_, rfl⟩
            have hcy : rst s k = 92 :: y :: rst s (k + 2) := by rw [hcons, h92, rst_cons hn, hy]
            have hesc := stL_esc K acc (rst s (k + 2)) y
            rw [← hcy] at hesc
            have Hesc := hid hesc
            have y92 : ((y.toNat : Int) == 92) = decide (y = 92) := @u8b y 92 (by decide)
            have y34 : ((y.toNat : Int) == 34) = decide (y = 34) := @u8b y 34 (by decide)
            have y110 : ((y.toNat : Int) == 110) = decide (y = 110) := @u8b y 110 (by decide)
            have y116 : ((y.toNat : Int) == 116) = decide (y = 116) := @u8b y 116 (by decide)
            have Hcy := hid hcy
            clear hesc hcy hcons h92 h34
            by_cases a92 : y = 92
            · have HEQ : Hid (stL K acc (rst s k) = stL K (acc ++ [y]) (rst s (k + 2))) := hid (by rw [Hesc.out, a92]; rfl)
              rw [decide_eq_true a92] at y92
              clear a92 y34 y110 y116 Hesc Hcy
              obtain ⟨V, hV⟩ : ∃ V, v0.alloc (.cells (Lib.byteCells [y]).toArray 5) = V := ⟨_, rfl⟩
              go_wp2_with (at_builtin; refine wpList_lit rfl _ _ rfl (G + 1) _ acc rfl (HO.out _) v0.heap.size [y] 1 rfl rfl ?pa1 ?pb1 ?pc1 ?_)
              case pa1 => exact heap_alloc_at _ _ _ rfl
              case pb1 => have := HLe.out; omega
              case pc1 => rw [World.size_alloc]; have := HGs.out; omega
              intro v' w4 ho4 hb4
              have HS4 : Hid (p < k + 2 ∧ Below (G + 1) W1 w4 ∧ Ob (G + 1) v' (acc ++ [y]) w4 ∧ R = stgF K (acc ++ [y]) (rst s (k + 2)) ∧ (acc ++ [y]).length ≤ k + 2) := hid ⟨by have := HQ.out.1; omega, (HQ.out.2.1.alloc (by have := HGs.out; omega) _).trans hb4, ho4, HQ.out.2.2.2.1.trans (stgF_eq HEQ.out), by have := HQ.out.2.2.2.2; simp; omega⟩
              clear ho4 hb4 HO HQ hV HEQ
              go_wp2
              go_roundw
              case rel => exact ⟨k + 2, acc ++ [y], by go_num, by omega, HS4⟩
              case measure => simp [intOf]; omega
            · rw [decide_eq_false a92] at y92
              by_cases a34 : y = 34
              · have HEQ : Hid (stL K acc (rst s k) = stL K (acc ++ [y]) (rst s (k + 2))) := hid (by rw [Hesc.out, a34]; rfl)
                rw [decide_eq_true a34] at y34
                clear a92 a34 y110 y116 Hesc Hcy
                obtain ⟨V, hV⟩ : ∃ V, v0.alloc (.cells (Lib.byteCells [y]).toArray 5) = V := ⟨_, rfl⟩
                go_wp2_with (at_builtin; refine wpList_lit rfl _ _ rfl (G + 1) _ acc rfl (HO.out _) v0.heap.size [y] 1 rfl rfl ?pa2 ?pb2 ?pc2 ?_)
                case pa2 => exact heap_alloc_at _ _ _ rfl
                case pb2 => have := HLe.out; omega
                case pc2 => rw [World.size_alloc]; have := HGs.out; omega
                intro v' w4 ho4 hb4
                have HS4 : Hid (p < k + 2 ∧ Below (G + 1) W1 w4 ∧ Ob (G + 1) v' (acc ++ [y]) w4 ∧ R = stgF K (acc ++ [y]) (rst s (k + 2)) ∧ (acc ++ [y]).length ≤ k + 2) := hid ⟨by have := HQ.out.1; omega, (HQ.out.2.1.alloc (by have := HGs.out; omega) _).trans hb4, ho4, HQ.out.2.2.2.1.trans (stgF_eq HEQ.out), by have := HQ.out.2.2.2.2; simp; omega⟩
                clear ho4 hb4 HO HQ hV HEQ
                go_wp2
                go_roundw
                case rel => exact ⟨k + 2, acc ++ [y], by go_num, by omega, HS4⟩
                case measure => simp [intOf]; omega
              · rw [decide_eq_false a34] at y34
                by_cases a110 : y = 110
                · have HEQ : Hid (stL K acc (rst s k) = stL K (acc ++ [10]) (rst s (k + 2))) := hid (by rw [Hesc.out, a110]; rfl)
                  rw [decide_eq_true a110] at y110
                  clear a92 a34 a110 y116 Hesc Hcy
                  obtain ⟨V, hV⟩ : ∃ V, v0.alloc (.cells (Lib.byteCells [10]).toArray 5) = V := ⟨_, rfl⟩
                  go_wp2_with (at_builtin; refine wpList_lit rfl _ _ rfl (G + 1) _ acc rfl (HO.out _) v0.heap.size [10] 1 rfl rfl ?pa3 ?pb3 ?pc3 ?_)
                  case pa3 => exact heap_alloc_at _ _ _ rfl
                  case pb3 => have := HLe.out; omega
                  case pc3 => rw [World.size_alloc]; have := HGs.out; omega
                  intro v' w4 ho4 hb4
                  have HS4 : Hid (p < k + 2 ∧ Below (G + 1) W1 w4 ∧ Ob (G + 1) v' (acc ++ [10]) w4 ∧ R = stgF K (acc ++ [10]) (rst s (k + 2)) ∧ (acc ++ [10]).length ≤ k + 2) := hid ⟨by have := HQ.out.1; omega, (HQ.out.2.1.alloc (by have := HGs.out; omega) _).trans hb4, ho4, HQ.out.2.2.2.1.trans (stgF_eq HEQ.out), by have := HQ.out.2.2.2.2; simp; omega⟩
                  clear ho4 hb4 HO HQ hV HEQ
                  go_wp2
                  go_roundw
                  case rel => exact ⟨k + 2, acc ++ [10], by go_num, by omega, HS4⟩
                  case measure => simp [intOf]; omega
                · rw [decide_eq_false a110] at y110
                  by_cases a116 : y = 116
                  · have HEQ : Hid (stL K acc (rst s k) = stL K (acc ++ [9]) (rst s (k + 2))) := hid (by rw [Hesc.out, a116]; rfl)
                    rw [decide_eq_true a116] at y116
                    clear a92 a34 a110 a116 Hesc Hcy
                    obtain ⟨V, hV⟩ : ∃ V, v0.alloc (.cells (Lib.byteCells [9]).toArray 5) = V := ⟨_, rfl⟩
                    go_wp2_with (at_builtin; refine wpList_lit rfl _ _ rfl (G + 1) _ acc rfl (HO.out _) v0.heap.size [9] 1 rfl rfl ?pa4 ?pb4 ?pc4 ?_)
                    case pa4 => exact heap_alloc_at _ _ _ rfl
                    case pb4 => have := HLe.out; omega
                    case pc4 => rw [World.size_alloc]; have := HGs.out; omega
                    intro v' w4 ho4 hb4
                    have HS4 : Hid (p < k + 2 ∧ Below (G + 1) W1 w4 ∧ Ob (G + 1) v' (acc ++ [9]) w4 ∧ R = stgF K (acc ++ [9]) (rst s (k + 2)) ∧ (acc ++ [9]).length ≤ k + 2) := hid ⟨by have := HQ.out.1; omega, (HQ.out.2.1.alloc (by have := HGs.out; omega) _).trans hb4, ho4, HQ.out.2.2.2.1.trans (stgF_eq HEQ.out), by have := HQ.out.2.2.2.2; simp; omega⟩
                    clear ho4 hb4 HO HQ hV HEQ
                    go_wp2
                    go_roundw
                    case rel => exact ⟨k + 2, acc ++ [9], by go_num, by omega, HS4⟩
                    case measure => simp [intOf]; omega
                  · rw [decide_eq_false a116] at y116
                    have hne : escO y = none := by simp [escO, a92, a34, a110, a116]
                    have HE2 : Hid (stL K acc (rst s k) = .bad (s.size - k) 100) := hid (by
                      rw [Hesc.out, hne]
                      show Rs.bad ((rst s (k + 2)).length + 2) 100 = _
                      rw [rst_len]
                      congr 1
                      omega)
                    clear a92 a34 a110 a116 Hesc Hcy hne
                    have HRR : Hid (R = .bad (s.size - k) 100) := hid (HQ.out.2.2.2.1.trans (stgF_bad HE2.out))
                    have HB := hid (HBad.out v0 k HQ.out.2.1 (by have := HK.out; omega))
                    have HZZ := hid (⟨HZ.out.1, HZ.out.2.1⟩ : w.heap.size ≤ G ∧ b < G)
                    clear HO HQ HLe
                    go_wp2_with fail
                    refine HB.out.mono ?_
                    clear HB
                    rintro e w3 ⟨rfl, HX⟩
                    have HE := hid (zd_bad HZZ.out HX.out.2.2 HRR.out HX.out.1 HX.out.2.1)
                    obtain ⟨i0, i1, i2, i3, e0, e1, e2, e3⟩ := HX.out.2.2.c4
                    clear HX
                    go_wp2
                    exact bodyPost_ret (v := .agg #[.int .i64 0, .string ⟨#[]⟩, .slice none 0 0, .slice none 0 0]) (res4 HE.out.1 Tryd.results33 rfl) rfl HE.out.2
          · have n1 : ¬ (k : Int) + 1 < (s.size : Int) := by omega
            have n3 : (s.size : Int) ≤ (k : Int) + 1 := by omega
            have HE2 : Hid (stL K acc (rst s k) = .bad K 100) := hid (by rw [hcons, h92, rst_nil (by omega), stL_one])
            clear hn hcons h92 h34
            have HRR : Hid (R = .bad (s.size - p) 100) := hid ((HQ.out.2.2.2.1.trans (stgF_bad HE2.out)).trans (by rw [show s.size - p = K by have := HK.out; omega]))
            have HB := hid (HBad.out v0 p HQ.out.2.1 (by have := HK.out; omega))
            have HZZ := hid (⟨HZ.out.1, HZ.out.2.1⟩ : w.heap.size ≤ G ∧ b < G)
            clear HO HQ HLe
            go_wp2_with fail
            refine HB.out.mono ?_
            clear HB
            rintro e w3 ⟨rfl, HX⟩
            have HE := hid (zd_bad HZZ.out HX.out.2.2 HRR.out HX.out.1 HX.out.2.1)
            obtain ⟨i0, i1, i2, i3, e0, e1, e2, e3⟩ := HX.out.2.2.c4
            clear HX
            go_wp2
            exact bodyPost_ret (v := .agg #[.int .i64 0, .string ⟨#[]⟩, .slice none 0 0, .slice none 0 0]) (res4 HE.out.1 Tryd.results33 rfl) rfl HE.out.2
        · rw [decide_eq_false h92] at q92
          have HEQ : Hid (stL K acc (rst s k) = stL K (acc ++ [c]) (rst s (k + 1))) := hid (by rw [hcons, stL_plain K acc _ c h34 h92])
          clear hcons h92 h34
          obtain ⟨V, hV⟩ : ∃ V, v0.alloc (.cells (Lib.byteCells [c]).toArray 5) = V := ⟨_, rfl⟩
          go_wp2_with (at_builtin; refine wpList_lit rfl _ _ rfl (G + 1) _ acc rfl (HO.out _) v0.heap.size [c] 1 rfl rfl ?pa5 ?pb5 ?pc5 ?_)
          case pa5 => exact heap_alloc_at _ _ _ rfl
          case pb5 => have := HLe.out; omega
          case pc5 => rw [World.size_alloc]; have := HGs.out; omega
          intro v' w4 ho4 hb4
          have HS4 : Hid (p < k + 1 ∧ Below (G + 1) W1 w4 ∧ Ob (G + 1) v' (acc ++ [c]) w4 ∧ R = stgF K (acc ++ [c]) (rst s (k + 1)) ∧ (acc ++ [c]).length ≤ k + 1) := hid ⟨by have := HQ.out.1; omega, (HQ.out.2.1.alloc (by have := HGs.out; omega) _).trans hb4, ho4, HQ.out.2.2.2.1.trans (stgF_eq HEQ.out), by have := HQ.out.2.2.2.2; simp; omega⟩
          clear ho4 hb4 HO HQ hV HEQ
          go_wp2
          go_roundw
          case rel => exact ⟨k + 1, acc ++ [c], by go_num, by omega, HS4⟩
          case measure => simp [intOf]; omega
    · have m1 : ¬ (k : Int) < (s.size : Int) := by omega
      have HE2 : Hid (stL K acc (rst s k) = .bad K 100) := hid (by rw [rst_nil (by omega)]; rfl)
      have HO := hid hlt
      have HLe := hid hlt
      clear hlt
      have HRR : Hid (R = .bad (s.size - p) 100) := hid ((HQ.out.2.2.2.1.trans (stgF_bad HE2.out)).trans (by rw [show s.size - p = K by have := HK.out; omega]))
      have HB := hid (HBad.out v0 p HQ.out.2.1 (by have := HK.out; omega))
      have HZZ := hid (⟨HZ.out.1, HZ.out.2.1⟩ : w.heap.size ≤ G ∧ b < G)
      clear HO HQ HLe
      go_wp2_with fail
      refine HB.out.mono ?_
      clear HB
      rintro e w3 ⟨rfl, HX⟩
      have HE := hid (zd_bad HZZ.out HX.out.2.2 HRR.out HX.out.1 HX.out.2.1)
      obtain ⟨i0, i1, i2, i3, e0, e1, e2, e3⟩ := HX.out.2.2.c4
      clear HX
      go_wp2
      exact bodyPost_ret (v := .agg #[.int .i64 0, .string ⟨#[]⟩, .slice none 0 0, .slice none 0 0]) (res4 HE.out.1 Tryd.results33 rfl) rfl HE.out.2
end Go.Proofs.YtfobiknbjijphaaDoor

namespace Go.Proofs.YtfobiknbjijphaaDoor
open Go.RowKit
set_option linter.unusedVariables false
set_option linter.unusedSimpArgs false

theorem z_symbol (t : ByteArray) (w : World) : Calls Tryd.prog 36 #[.string t] w fun e w' => e = .returned (.agg #[.int .i64 4, .string t, .slice none 0 0, .slice none 0 0]) ∧ Hid (Below w.heap.size w w') := by
  obtain ⟨G, hG⟩ : ∃ G, w.heap.size = G := ⟨_, rfl⟩
  have HE : Hid (∀ V, V = w.alloc (.cells #[.int .i64 4, .string t, .slice none 0 0, .slice none 0 0] 34) → D4 V G (.int .i64 4) (.string t) (.slice none 0 0) (.slice none 0 0) ∧ Below w.heap.size w V) := hid fun V hV => by
    subst hV
    exact ⟨heap_alloc_at _ _ _ hG.symm, (Below.refl _ w).alloc (Nat.le_refl _) _⟩
  go_enter Tryd.func36, Tryd.ntmps36
  go_wp2
  try rw [hG]
  obtain ⟨k1, k2⟩ := HE.out _ rfl
  exact bodyPost_ret (v := .agg #[.int .i64 4, .string t, .slice none 0 0, .slice none 0 0]) (res4 k1 Tryd.results36 rfl) rfl ⟨rfl, by rw [← hG]; exact k2⟩
theorem begB_ba {l : List UInt8} (h : numP l) : begB (ba l) = true := by
  obtain ⟨h1, h2⟩ := h
  cases l with
  | nil => exact absurd rfl h1
  | cons c r =>
    have e0 : ∀ hh : 0 < (ba (c :: r)).size, (ba (c :: r))[0] = c := fun _ => rfl
    unfold begB
    rw [dif_pos (show 0 < (ba (c :: r)).size by show 0 < (c :: r).length; simp)]
    rw [e0]
    by_cases hs : sgnB c = true
    · rw [if_pos hs]
      simp only [dgT, hs, if_true] at h1 h2
      cases r with
      | nil => exact absurd rfl h1
      | cons d r2 =>
        rw [dif_pos (show 1 < (ba (c :: d :: r2)).size by show 1 < (c :: d :: r2).length; simp)]
        exact h2 d (by simp)
    · rw [if_neg hs]
      have hs2 : sgnB c = false := by simpa using hs
      simp only [dgT, hs2] at h2
      exact h2 c (by simp)
theorem num_not {l : List UInt8} (h : numP l) : ¬ (l = [35, 116] ∨ l = [35, 102]) ∧ ¬ nameP (ba l) := by
  refine ⟨?_, fun hn => ?_⟩
  · rintro (rfl | rfl)
    · have := h.2 35 (by decide)
      revert this; decide
    · have := h.2 35 (by decide)
      revert this; decide
  · have h1 := hn.2.2.2.1
    rw [begB_ba h] at h1
    cases h1
theorem atL_num {l : List UInt8} (h : numP l) : ((stp (dgT l)).length ≤ 200 → atL l = .ok (.node 1 (ba (cnL l)) [] [])) ∧ (¬ (stp (dgT l)).length ≤ 200 → atL l = .bad 91) := by
  obtain ⟨h1, h2⟩ := num_not h
  unfold atL
  rw [if_neg h1, if_neg h2, if_pos h]
  exact ⟨fun h => if_pos h, fun h => if_neg h⟩
theorem atL_not {l : List UInt8} (h : ¬ numP l) : ((l = [35, 116] ∨ l = [35, 102]) → atL l = .ok (.node 2 (ba l) [] [])) ∧ (¬ (l = [35, 116] ∨ l = [35, 102]) → (nameP (ba l) → atL l = .ok (.node 4 (ba l) [] [])) ∧ (¬ nameP (ba l) → atL l = .bad 100)) := by
  unfold atL
  refine ⟨fun h1 => if_pos h1, fun h1 => ?_⟩
  rw [if_neg h1]
  refine ⟨fun h2 => if_pos h2, fun h2 => ?_⟩
  rw [if_neg h2, if_neg h]
set_option maxHeartbeats 8000000 in
theorem z_atom {b : Nat} {s : ByteArray} {p : Nat} {w : World} (h : Zr b s p w) : Calls Tryd.prog 34 #[.pointer (some ⟨b, 0, none⟩)] w fun e w' => ZdO b s w (pcR (s.size - p) (rst s p)) e w' := by
  obtain ⟨G, hG⟩ : ∃ G, w.heap.size = G := ⟨_, rfl⟩
  obtain ⟨W1, hW⟩ : ∃ W1, w.alloc (.cells #[.int .i64 0, .string ⟨#[]⟩, .slice none 0 0, .slice none 0 0] 34) = W1 := ⟨_, rfl⟩
  have hbG : b < G := by rw [← hG]; exact h.lt
  have hB1 : Below w.heap.size w W1 := by rw [← hW]; exact (Below.refl _ w).alloc (Nat.le_refl _) _
  have d1 : D4 W1 G (.int .i64 0) (.string ⟨#[]⟩) (.slice none 0 0) (.slice none 0 0) := by rw [← hW]; exact heap_alloc_at _ _ _ hG.symm
  have r1 := h.under hB1
  have HZ : Hid (w.heap.size ≤ G ∧ b < G) := hid ⟨by omega, hbG⟩
  obtain ⟨N, hN⟩ : ∃ N, pcL (rst s p) = N := ⟨_, rfl⟩
  have hNs : p + N ≤ s.size := by
    have := pcL_le (rst s p)
    have h2 := h.1.1
    rw [rst_len] at this
    omega
  have HP := hid (z_piece r1)
  obtain ⟨L, hL⟩ : ∃ L, (rst s p).take N = L := ⟨_, rfl⟩
  obtain ⟨T, hT⟩ : ∃ T, s.extract p (p + N) = T := ⟨_, rfl⟩
  have hTL : T.data.toList = L := by rw [← hT, ext_list, ← hL]; congr 1; omega
  have hTb : T = ba L := data_ba hTL
  have hTsz : T.size = N := by rw [← hT]; simp; omega
  obtain ⟨q, hq⟩ : ∃ q, p + N = q := ⟨_, rfl⟩
  rw [hN, hT] at HP
  have hqs : q ≤ s.size := by omega
  have hqi : (p : Int) + (T.size : Int) = (q : Int) := by omega
  obtain ⟨R, hR⟩ : ∃ R, pcR (s.size - p) (rst s p) = R := ⟨_, rfl⟩
  have HOk : Hid (∀ d, atL L = .ok d → R = .ok d (rst s q)) := hid fun d hd => by
    rw [← hR, pcR_ok (d := d) (by rw [hN, hL]; exact hd), hN, rst_drop, hq]
  have HBd : Hid (∀ n, atL L = .bad n → R = .bad (s.size - p) n) := hid fun n hd => by
    rw [← hR, pcR_bad (n := n) (by rw [hN, hL]; exact hd)]
  have HTs : Hid (T.size ≤ 1099511627776 ∧ T = ba L ∧ p ≤ s.size) := hid ⟨by have := h.1.2; omega, hTb, h.1.1⟩
  have HK : Hid (∀ V, Below W1.heap.size W1 V → Zr b s p V ∧ D4 V G (.int .i64 0) (.string ⟨#[]⟩) (.slice none 0 0) (.slice none 0 0) ∧ Pt b w V) := hid fun V hV => ⟨r1.under hV, d1.under hV, (Pt.ofB hB1).trans_ (Pt.ofB hV)⟩
  have Hqs := hid hqs
  have HTr := hid (⟨hTL, list_eq T⟩ : T.data.toList = L ∧ T.toList = T.data.toList)
  have lM : (s.size : Int) ≤ 1099511627776 := by have := h.1.2; omega
  have lq : (q : Int) ≤ (s.size : Int) := by omega
  have l0 : (0 : Int) ≤ (p : Int) := by omega
  rw [hR]
  clear h hB1 d1 r1 hbG hN hNs hL hT hTb hTsz hq hqs hR hTL
  go_enter Tryd.func34, Tryd.ntmps34
  go_wp2_with fail
  try rw [hW]
  try rw [hG]
  try go_wp2_with fail
  refine HP.out.mono ?_
  clear HP
  rintro e w2 ⟨rfl, hb2⟩
  obtain ⟨g1, g2, g3⟩ := HK.out w2 hb2.out
  have HK2 : Hid (∀ V, Below (w2.setCell ⟨b, 1, none⟩ (.int .i64 (q : Int))).heap.size (w2.setCell ⟨b, 1, none⟩ (.int .i64 (q : Int))) V → Zr b s q V ∧ D4 V G (.int .i64 0) (.string ⟨#[]⟩) (.slice none 0 0) (.slice none 0 0) ∧ Pt b w V) := hid fun V hV => by
    have := HZ.out
    have e1 := g1.at_ q Hqs.out
    have e2 : D4 (w2.setCell ⟨b, 1, none⟩ (.int .i64 (q : Int))) G (.int .i64 0) (.string ⟨#[]⟩) (.slice none 0 0) (.slice none 0 0) := (heap_set_other w2 (show G ≠ b by omega) 1 _).trans g2
    have e3 : Pt b w (w2.setCell ⟨b, 1, none⟩ (.int .i64 (q : Int))) := Pt.set g3 1 _
    exact ⟨e1.under hV, e2.under hV, e3.trans_ (Pt.ofB hV)⟩
  obtain ⟨c0, c1, -, -, f1, -, -⟩ := g1.cells
  obtain ⟨U, hU⟩ : ∃ U, w2.setCell ⟨b, 1, none⟩ (.int .i64 (q : Int)) = U := ⟨_, rfl⟩
  rw [hU] at HK2
  have HU := hid hU
  have HSl : Hid (∀ V, Zr b s q V → Pt b w V → D4 V G (.int .i64 0) (.string ⟨#[]⟩) (.slice none 0 0) (.slice none 0 0) → True) := hid fun _ _ _ _ => trivial
  clear HK g1 g2 g3 hb2 hU hW
  by_cases he0 : 0 < T.size
  · have he := notEmpty_of T he0
    have he2 : (T.toList != []) = true := by
      cases hq : T.toList with
      | nil => rw [hq] at he; cases he
      | cons x r => rfl
    have HNu := hid (z_number T U he0 HTs.out.1)
    rw [HTr.out.1] at HNu
    clear he0
    go_wp2_with fail
    rw [HU.out]
    refine HNu.out.mono ?_
    clear HNu
    rintro e w3 ⟨hn, hw⟩
    obtain rfl : U = w3 := hw.symm
    clear hw he he2 c0 c1 f1
    unfold NuO at hn
    rcases hn with ⟨hn, rfl⟩ | ⟨hn, hn2, rfl⟩ | ⟨hn, hn2, rfl⟩
    · skip
      have HA := hid (atL_not hn)
      have q1 : (T.toList == [35, 116]) = decide (L = [35, 116]) := by
        rw [list_eq, HTr.out.1, Bool.eq_iff_iff, beq_iff_eq, decide_eq_true_iff]
      have q2 : (T.toList == [35, 102]) = decide (L = [35, 102]) := by
        rw [list_eq, HTr.out.1, Bool.eq_iff_iff, beq_iff_eq, decide_eq_true_iff]
      clear hn
      by_cases t1 : L = [35, 116]
      · rw [decide_eq_true t1] at q1
        have Ha := hid (HA.out.1 (.inl t1))
        have HTe := hid HTs.out.2.1
        rw [← HTe.out] at Ha
        clear t1 q2 HA HTe
        have HE := hid (zd_leaf HZ.out (HK2.out U (Below.refl _ _)).2.1 (HOk.out _ Ha.out) (by have := HTs.out.1; omega) (HK2.out U (Below.refl _ _)).1 (HK2.out U (Below.refl _ _)).2.2)
        obtain ⟨i0, i1, i2, i3, j0, j1, j2, j3⟩ := (HK2.out U (Below.refl _ _)).2.1.c4
        clear HOk HBd HTr HK2 HTs
        go_wp2
        exact bodyPost_ret (v := .agg #[.int .i64 2, .string T, .slice none 0 0, .slice none 0 0]) (res4 HE.out.1 Tryd.results34 rfl) rfl HE.out.2
      · rw [decide_eq_false t1] at q1
        by_cases t2 : L = [35, 102]
        · rw [decide_eq_true t2] at q2
          have Ha := hid (HA.out.1 (.inr t2))
          have HTe := hid HTs.out.2.1
          rw [← HTe.out] at Ha
          clear t1 t2 HA HTe
          have HE := hid (zd_leaf HZ.out (HK2.out U (Below.refl _ _)).2.1 (HOk.out _ Ha.out) (by have := HTs.out.1; omega) (HK2.out U (Below.refl _ _)).1 (HK2.out U (Below.refl _ _)).2.2)
          obtain ⟨i0, i1, i2, i3, j0, j1, j2, j3⟩ := (HK2.out U (Below.refl _ _)).2.1.c4
          clear HOk HBd HTr HK2 HTs
          go_wp2
          exact bodyPost_ret (v := .agg #[.int .i64 2, .string T, .slice none 0 0, .slice none 0 0]) (res4 HE.out.1 Tryd.results34 rfl) rfl HE.out.2
        · rw [decide_eq_false t2] at q2
          have Ha := hid (HA.out.2 (by rintro (e | e); exact t1 e; exact t2 e))
          have HNm := hid (fun V => z_name T V)
          rw [← HTs.out.2.1] at Ha
          clear t1 t2 HA
          go_wp2_with fail
          refine (HNm.out _).mono ?_
          clear HNm
          rintro e w5 ⟨⟨nm, rfl, hnm⟩, hb5⟩
          cases nm
          · have HA2 := hid (Ha.out.2 (fun h => by have := hnm.2 h; cases this))
            clear Ha hnm
            have HB := hid (z_fail (HK2.out w5 (hb5.out)).1 p 100 HTs.out.2.2)
            have Hg := hid (HK2.out w5 (hb5.out)).2
            have HRR := hid (HBd.out 100 HA2.out)
            clear HOk HBd HTr HK2 HTs
            go_wp2_with fail
            refine HB.out.mono ?_
            clear HB
            rintro e w6 ⟨rfl, HX⟩
            have hg4 := Hg.out.1.part HX.out.2 (fun e => by have := HZ.out.2; omega)
            have HE := hid (zd_bad HZ.out hg4 HRR.out (HX.out.1 100 rfl) (Hg.out.2.trans_ HX.out.2))
            obtain ⟨i0, i1, i2, i3, j0, j1, j2, j3⟩ := hg4.c4
            clear HX Hg hg4
            go_wp2
            exact bodyPost_ret (v := .agg #[.int .i64 0, .string ⟨#[]⟩, .slice none 0 0, .slice none 0 0]) (res4 HE.out.1 Tryd.results34 rfl) rfl HE.out.2
          · have HA2 := hid (Ha.out.1 (hnm.1 rfl))
            have HSy := hid (z_symbol T w5)
            clear Ha hnm
            go_wp2_with fail
            refine HSy.out.mono ?_
            clear HSy
            rintro e w6 ⟨rfl, hb6⟩
            have hb56 := hb5.out.trans (hb6.out.mono hb5.out.size)
            have HE := hid (zd_leaf HZ.out (HK2.out w6 (hb56)).2.1 (HOk.out _ HA2.out) (by have := HTs.out.1; omega) (HK2.out w6 (hb56)).1 (HK2.out w6 (hb56)).2.2)
            obtain ⟨i0, i1, i2, i3, j0, j1, j2, j3⟩ := (HK2.out w6 (hb56)).2.1.c4
            clear HOk HBd HTr HK2 HTs
            go_wp2
            exact bodyPost_ret (v := .agg #[.int .i64 4, .string T, .slice none 0 0, .slice none 0 0]) (res4 HE.out.1 Tryd.results34 rfl) rfl HE.out.2
    · have Ha := hid ((atL_num hn).2 hn2)
      clear hn hn2
      have HB := hid (z_fail (HK2.out U (Below.refl _ _)).1 p 91 HTs.out.2.2)
      have Hg := hid (HK2.out U (Below.refl _ _)).2
      have HRR := hid (HBd.out 91 Ha.out)
      clear HOk HBd HTr HK2 HTs
      go_wp2_with fail
      refine HB.out.mono ?_
      clear HB
      rintro e w6 ⟨rfl, HX⟩
      have hg4 := Hg.out.1.part HX.out.2 (fun e => by have := HZ.out.2; omega)
      have HE := hid (zd_bad HZ.out hg4 HRR.out (HX.out.1 91 rfl) (Hg.out.2.trans_ HX.out.2))
      obtain ⟨i0, i1, i2, i3, j0, j1, j2, j3⟩ := hg4.c4
      clear HX Hg hg4
      go_wp2
      exact bodyPost_ret (v := .agg #[.int .i64 0, .string ⟨#[]⟩, .slice none 0 0, .slice none 0 0]) (res4 HE.out.1 Tryd.results34 rfl) rfl HE.out.2
    · have Ha := hid ((atL_num hn).1 hn2)
      have HSz : Hid ((ba (cnL L)).size ≤ 140737488355328) := hid (by
        have h1 := HTs.out
        have h5 := stp_len (dgT L)
        have h6 : (dgT L).length ≤ L.length := by
          unfold dgT
          split
          · exact Nat.le_refl _
          · split
            · simp
            · exact Nat.le_refl _
        have h7 : L.length = T.size := by rw [h1.2.1]; rfl
        have h4 : (cnL L).length ≤ L.length + 1 := by
          unfold cnL
          split
          · simp
          · split
            · simp; omega
            · omega
        show (cnL L).length ≤ _
        omega)
      clear hn hn2
      have HE := hid (zd_leaf HZ.out (HK2.out U (Below.refl _ _)).2.1 (HOk.out _ Ha.out) HSz.out (HK2.out U (Below.refl _ _)).1 (HK2.out U (Below.refl _ _)).2.2)
      obtain ⟨i0, i1, i2, i3, j0, j1, j2, j3⟩ := (HK2.out U (Below.refl _ _)).2.1.c4
      clear HOk HBd HTr HK2 HTs
      go_wp2
      exact bodyPost_ret (v := .agg #[.int .i64 1, .string (ba (cnL L)), .slice none 0 0, .slice none 0 0]) (res4 HE.out.1 Tryd.results34 rfl) rfl HE.out.2
  · have he := isEmpty_of T he0
    have hLn : L = [] := by
      rw [← HTr.out.1]
      exact dnil he0
    have he2 : (T.toList != []) = false := by
      rw [list_eq, HTr.out.1, hLn]; rfl
    have hn : ¬ numP L := fun h => h.1 (by rw [hLn]; rfl)
    clear he0 hLn
    have hUe := HU.out
    subst hUe
    have HA := hid (atL_not hn)
    have q1 : (T.toList == [35, 116]) = decide (L = [35, 116]) := by
      rw [list_eq, HTr.out.1, Bool.eq_iff_iff, beq_iff_eq, decide_eq_true_iff]
    have q2 : (T.toList == [35, 102]) = decide (L = [35, 102]) := by
      rw [list_eq, HTr.out.1, Bool.eq_iff_iff, beq_iff_eq, decide_eq_true_iff]
    clear hn
    by_cases t1 : L = [35, 116]
    · rw [decide_eq_true t1] at q1
      have Ha := hid (HA.out.1 (.inl t1))
      have HTe := hid HTs.out.2.1
      rw [← HTe.out] at Ha
      clear t1 q2 HA HTe
      have HE := hid (zd_leaf HZ.out (HK2.out _ (Below.refl _ _)).2.1 (HOk.out _ Ha.out) (by have := HTs.out.1; omega) (HK2.out _ (Below.refl _ _)).1 (HK2.out _ (Below.refl _ _)).2.2)
      obtain ⟨i0, i1, i2, i3, j0, j1, j2, j3⟩ := (HK2.out _ (Below.refl _ _)).2.1.c4
      clear HOk HBd HTr HK2 HTs
      go_wp2
      exact bodyPost_ret (v := .agg #[.int .i64 2, .string T, .slice none 0 0, .slice none 0 0]) (res4 HE.out.1 Tryd.results34 rfl) rfl HE.out.2
    · rw [decide_eq_false t1] at q1
      by_cases t2 : L = [35, 102]
      · rw [decide_eq_true t2] at q2
        have Ha := hid (HA.out.1 (.inr t2))
        have HTe := hid HTs.out.2.1
        rw [← HTe.out] at Ha
        clear t1 t2 HA HTe
        have HE := hid (zd_leaf HZ.out (HK2.out _ (Below.refl _ _)).2.1 (HOk.out _ Ha.out) (by have := HTs.out.1; omega) (HK2.out _ (Below.refl _ _)).1 (HK2.out _ (Below.refl _ _)).2.2)
        obtain ⟨i0, i1, i2, i3, j0, j1, j2, j3⟩ := (HK2.out _ (Below.refl _ _)).2.1.c4
        clear HOk HBd HTr HK2 HTs
        go_wp2
        exact bodyPost_ret (v := .agg #[.int .i64 2, .string T, .slice none 0 0, .slice none 0 0]) (res4 HE.out.1 Tryd.results34 rfl) rfl HE.out.2
      · rw [decide_eq_false t2] at q2
        have Ha := hid (HA.out.2 (by rintro (e | e); exact t1 e; exact t2 e))
        have HNm := hid (fun V => z_name T V)
        rw [← HTs.out.2.1] at Ha
        clear t1 t2 HA
        go_wp2_with fail
        refine (HNm.out _).mono ?_
        clear HNm
        rintro e w5 ⟨⟨nm, rfl, hnm⟩, hb5⟩
        cases nm
        · have HA2 := hid (Ha.out.2 (fun h => by have := hnm.2 h; cases this))
          clear Ha hnm
          have HB := hid (z_fail (HK2.out w5 (hb5.out)).1 p 100 HTs.out.2.2)
          have Hg := hid (HK2.out w5 (hb5.out)).2
          have HRR := hid (HBd.out 100 HA2.out)
          clear HOk HBd HTr HK2 HTs
          go_wp2_with fail
          refine HB.out.mono ?_
          clear HB
          rintro e w6 ⟨rfl, HX⟩
          have hg4 := Hg.out.1.part HX.out.2 (fun e => by have := HZ.out.2; omega)
          have HE := hid (zd_bad HZ.out hg4 HRR.out (HX.out.1 100 rfl) (Hg.out.2.trans_ HX.out.2))
          obtain ⟨i0, i1, i2, i3, j0, j1, j2, j3⟩ := hg4.c4
          clear HX Hg hg4
          go_wp2
          exact bodyPost_ret (v := .agg #[.int .i64 0, .string ⟨#[]⟩, .slice none 0 0, .slice none 0 0]) (res4 HE.out.1 Tryd.results34 rfl) rfl HE.out.2
        · have HA2 := hid (Ha.out.1 (hnm.1 rfl))
          have HSy := hid (z_symbol T w5)
          clear Ha hnm
          go_wp2_with fail
          refine HSy.out.mono ?_
          clear HSy
          rintro e w6 ⟨rfl, hb6⟩
          have hb56 := hb5.out.trans (hb6.out.mono hb5.out.size)
          have HE := hid (zd_leaf HZ.out (HK2.out w6 (hb56)).2.1 (HOk.out _ HA2.out) (by have := HTs.out.1; omega) (HK2.out w6 (hb56)).1 (HK2.out w6 (hb56)).2.2)
          obtain ⟨i0, i1, i2, i3, j0, j1, j2, j3⟩ := (HK2.out w6 (hb56)).2.1.c4
          clear HOk HBd HTr HK2 HTs
          go_wp2
          exact bodyPost_ret (v := .agg #[.int .i64 4, .string T, .slice none 0 0, .slice none 0 0]) (res4 HE.out.1 Tryd.results34 rfl) rfl HE.out.2
end Go.Proofs.YtfobiknbjijphaaDoor
