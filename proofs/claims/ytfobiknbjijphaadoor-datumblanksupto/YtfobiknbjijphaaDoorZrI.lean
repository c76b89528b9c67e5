/-
  The document's reader: a datum.
-/
import Derived.Test.YtfobiknbjijphaaDoorZrH
namespace Go.Proofs.YtfobiknbjijphaaDoor
open Go.RowKit
set_option linter.unusedVariables false
set_option linter.unusedSimpArgs false

/-- A result, failed or not, is put into the block that is handed back. -/
theorem zd_put {b : Nat} {s : ByteArray} {G q c c2 : Nat} {w V1 V2 : World} {d : Dt} {a a2 : Option Addr} {R : Rs Dt} (z : w.heap.size ≤ G ∧ b < G) (g : D4 V2 G (.int .i64 0) (.string ⟨#[]⟩) (.slice none 0 0) (.slice none 0 0)) (pt : Pt b w V1) (h1 : G < V1.heap.size) (hr : R = .ok d (rst s q)) (r : Zr b s q V2) (p : Pt b V1 V2)
    (ds : DS V1.heap.size none V2 d (.agg #[.int .i64 d.kd, .string d.tx, .slice a d.its.length c, .slice a2 d.tl.length c2])) :
    D4 (set4 V2 G (.int .i64 d.kd) (.string d.tx) (.slice a d.its.length c) (.slice a2 d.tl.length c2)) G (.int .i64 d.kd) (.string d.tx) (.slice a d.its.length c) (.slice a2 d.tl.length c2) ∧
    ZdO b s w R (.returned (.agg #[.int .i64 d.kd, .string d.tx, .slice a d.its.length c, .slice a2 d.tl.length c2])) (set4 V2 G (.int .i64 d.kd) (.string d.tx) (.slice a d.its.length c) (.slice a2 d.tl.length c2)) := by
  refine ⟨g.set _ _ _ _, .inl ⟨d, a, c, a2, c2, q, rfl, hid ⟨hr, r.part (set4_part V2 G _ _ _ _) (fun e => by omega), Pt.set4_ (pt.trans_ p) z.1 _ _ _ _, ?_⟩⟩⟩
  exact ds_keep ds (fun k k1 k2 => set4_other V2 (show k ≠ G by omega) _ _ _ _) (by omega)
theorem zd_putF {b : Nat} {s : ByteArray} {G k j : Nat} {w V2 : World} {k0 : Int} {t0 : ByteArray} {a a2 : Option Addr} {m c m2 c2 : Nat} {R : Rs Dt} (z : w.heap.size ≤ G ∧ b < G) (g : D4 V2 G (.int .i64 0) (.string ⟨#[]⟩) (.slice none 0 0) (.slice none 0 0)) (hr : R = .bad k j) (r : Zf b s k j V2) (pt : Pt b w V2) :
    D4 (set4 V2 G (.int .i64 k0) (.string t0) (.slice a m c) (.slice a2 m2 c2)) G (.int .i64 k0) (.string t0) (.slice a m c) (.slice a2 m2 c2) ∧
    ZdO b s w R (.returned (.agg #[.int .i64 k0, .string t0, .slice a m c, .slice a2 m2 c2])) (set4 V2 G (.int .i64 k0) (.string t0) (.slice a m c) (.slice a2 m2 c2)) :=
  ⟨g.set _ _ _ _, .inr ⟨k0, t0, a, m, c, a2, m2, c2, rfl, hid ⟨k, j, hr, r.part (set4_part V2 G _ _ _ _) (fun e => by omega), Pt.set4_ pt z.1 _ _ _ _⟩⟩⟩
/-- A list of any two data: quote and what follows, be it a datum or not. -/
theorem z_listA {w : World} {a a2 : Option Addr} {n c c2 : Nat} : Calls Tryd.prog 35 #[.slice a n c, .slice a2 0 c2] w fun e w' => e = .returned (.agg #[.int .i64 5, .string ⟨#[]⟩, .slice a n c, .slice a2 0 c2]) ∧ Hid (Below w.heap.size w w') := by
  obtain ⟨G, hG⟩ : ∃ G, w.heap.size = G := ⟨_, rfl⟩
  have HE : Hid (∀ V, V = w.alloc (.cells #[.int .i64 5, .string ⟨#[]⟩, .slice a n c, .slice a2 0 c2] 34) → D4 V G (.int .i64 5) (.string ⟨#[]⟩) (.slice a n c) (.slice a2 0 c2) ∧ Hid (Below G w V)) := hid fun V hV => by
    subst hV
    exact ⟨heap_alloc_at _ _ _ hG.symm, hid (by rw [← hG]; exact (Below.refl _ w).alloc (Nat.le_refl _) _)⟩
  go_enter Tryd.func35, Tryd.ntmps35
  go_wp2
  try rw [hG]
  obtain ⟨k1, k2⟩ := HE.out _ rfl
  exact bodyPost_ret (v := .agg #[.int .i64 5, .string ⟨#[]⟩, .slice a n c, .slice a2 0 c2]) (res4 k1 Tryd.results35 rfl) rfl ⟨rfl, k2⟩
/-- What is handed back by what was called. -/
def ZP (b : Nat) (s : ByteArray) (w : World) (G : Nat) (R : Rs Dt) (e : Ending) (w' : World) : Prop := ∃ k0 t0 a m c a2 m2 c2, e = .returned (.agg #[.int .i64 k0, .string t0, .slice a m c, .slice a2 m2 c2]) ∧ C4 w' G (.int .i64 0) (.string ⟨#[]⟩) (.slice none 0 0) (.slice none 0 0) ∧ Hid (D4 (set4 w' G (.int .i64 k0) (.string t0) (.slice a m c) (.slice a2 m2 c2)) G (.int .i64 k0) (.string t0) (.slice a m c) (.slice a2 m2 c2) ∧ ZdO b s w R (.returned (.agg #[.int .i64 k0, .string t0, .slice a m c, .slice a2 m2 c2])) (set4 w' G (.int .i64 k0) (.string t0) (.slice a m c) (.slice a2 m2 c2)))
theorem ZP.of {b : Nat} {s : ByteArray} {w V w' : World} {G q : Nat} {R : Rs Dt} {e : Ending} (h : Zb b s w G q V) (he : ZdO b s V R e w') : ZP b s w G R e w' := by
  rcases he with ⟨d, a, c, a2, c2, q3, rfl, HX⟩ | ⟨k0, t0, a, m, c, a2, m2, c2, rfl, HX⟩
  · have hg : D4 w' G (.int .i64 0) (.string ⟨#[]⟩) (.slice none 0 0) (.slice none 0 0) := h.g.part HX.out.2.2.1 (fun e => by have := h.z; omega)
    exact ⟨_, _, _, _, _, _, _, _, rfl, hg.c4, hid (zd_put h.z hg h.pt h.lt HX.out.1 HX.out.2.1 HX.out.2.2.1 HX.out.2.2.2)⟩
  · obtain ⟨k, j, g1, g2, g3⟩ := HX.out
    have hg : D4 w' G (.int .i64 0) (.string ⟨#[]⟩) (.slice none 0 0) (.slice none 0 0) := h.g.part g3 (fun e => by have := h.z; omega)
    exact ⟨_, _, _, _, _, _, _, _, rfl, hg.c4, hid (zd_putF h.z hg g1 g2 (h.pt.trans_ g3))⟩
/-- A quoted datum. -/
theorem zq_end {b : Nat} {s : ByteArray} {w V w3 w5 w7 : World} {G q q3 c c2 : Nat} {d : Dt} {a a2 : Option Addr} {R : Rs Dt} (h : Zb b s w G q V) (hr : R = .ok (.node 5 ⟨#[]⟩ [quoD, d] []) (rst s q3)) (r : Zr b s q3 w3) (p : Pt b V w3) (ds : DS V.heap.size none w3 d (.agg #[.int .i64 d.kd, .string d.tx, .slice a d.its.length c, .slice a2 d.tl.length c2]))
    (h5 : Below w3.heap.size w3 w5) (h7 : Below (w5.heap.size + 1) (w5.alloc (.cells #[.int .i64 4, .string ⟨#[113, 117, 111, 116, 101]⟩, .slice none 0 0, .slice none 0 0, .int .i64 d.kd, .string d.tx, .slice a d.its.length c, .slice a2 d.tl.length c2] 34)) w7) :
    D4 (set4 w7 G (.int .i64 5) (.string ⟨#[]⟩) (.slice (some ⟨w5.heap.size, 0, none⟩) 2 2) (.slice none 0 0)) G (.int .i64 5) (.string ⟨#[]⟩) (.slice (some ⟨w5.heap.size, 0, none⟩) 2 2) (.slice none 0 0) ∧
    ZdO b s w R (.returned (.agg #[.int .i64 5, .string ⟨#[]⟩, .slice (some ⟨w5.heap.size, 0, none⟩) 2 2, .slice none 0 0])) (set4 w7 G (.int .i64 5) (.string ⟨#[]⟩) (.slice (some ⟨w5.heap.size, 0, none⟩) 2 2) (.slice none 0 0)) := by
  obtain ⟨W, hW⟩ : ∃ W, w5.alloc (.cells #[.int .i64 4, .string ⟨#[113, 117, 111, 116, 101]⟩, .slice none 0 0, .slice none 0 0, .int .i64 d.kd, .string d.tx, .slice a d.its.length c, .slice a2 d.tl.length c2] 34) = W := ⟨_, rfl⟩
  have hWs : W.heap.size = w5.heap.size + 1 := by rw [← hW, World.size_alloc]
  have hB : Below w5.heap.size w5 W := by rw [← hW]; exact (Below.refl _ w5).alloc (Nat.le_refl _) _
  have hT : W.heap[w5.heap.size]? = some (.cells #[.int .i64 4, .string ⟨#[113, 117, 111, 116, 101]⟩, .slice none 0 0, .slice none 0 0, .int .i64 d.kd, .string d.tx, .slice a d.its.length c, .slice a2 d.tl.length c2] 34 (0, 0)) := by rw [← hW]; exact heap_alloc_at _ _ _ rfl
  rw [hW] at h7
  have z := h.z
  have hl := h.lt
  have hp := p.size
  have h5s := h5.size
  have hb7 : Below w3.heap.size w3 w7 := h5.trans ((hB.trans (h7.mono (by omega))).mono h5s)
  have hg : D4 w7 G (.int .i64 0) (.string ⟨#[]⟩) (.slice none 0 0) (.slice none 0 0) := (h.g.part p (fun e => by omega)).under hb7
  have hT7 : w7.heap[w5.heap.size]? = some (.cells #[.int .i64 4, .string ⟨#[113, 117, 111, 116, 101]⟩, .slice none 0 0, .slice none 0 0, .int .i64 d.kd, .string d.tx, .slice a d.its.length c, .slice a2 d.tl.length c2] 34 (0, 0)) := (h7.block _ (by omega)).trans hT
  obtain ⟨U, hU⟩ : ∃ U, set4 w7 G (.int .i64 5) (.string ⟨#[]⟩) (.slice (some ⟨w5.heap.size, 0, none⟩) 2 2) (.slice none 0 0) = U := ⟨_, rfl⟩
  have hUk : ∀ k, k ≠ G → U.heap[k]? = w7.heap[k]? := fun k hk => by rw [← hU]; exact set4_other _ hk _ _ _ _
  have u1 : D4 U G (.int .i64 5) (.string ⟨#[]⟩) (.slice (some ⟨w5.heap.size, 0, none⟩) 2 2) (.slice none 0 0) := by rw [← hU]; exact hg.set _ _ _ _
  have u2 : Zr b s q3 U := by rw [← hU]; exact (r.under hb7).part (set4_part w7 G _ _ _ _) (fun e => by omega)
  have u3 : Pt b w U := by rw [← hU]; exact Pt.set4_ ((h.pt.trans_ p).trans_ (Pt.ofB hb7)) z.1 _ _ _ _
  rw [hU]
  refine ⟨u1, .inl ⟨.node 5 ⟨#[]⟩ [quoD, d] [], some ⟨w5.heap.size, 0, none⟩, 2, none, 0, q3, rfl, hid ⟨hr, u2, u3, ?_⟩⟩⟩
  have hk : ∀ k, G + 1 ≤ k → k < w3.heap.size → U.heap[k]? = w3.heap[k]? := fun k k1 k2 => (hUk k (by omega)).trans (hb7.block k k2)
  have s2 : SS (G + 1) none U [quoD, d] (.slice (some ⟨w5.heap.size, 0, none⟩) 2 2) := SS.two (DS.leaf _ _ w3 4 _ (by decide)) (ds_keep ds (fun _ _ _ => rfl) (by omega)) ((hUk _ (by omega)).trans hT7) (by omega) (by simp) hk
  exact ds_keep (DS.node s2 (SS.nil _ _ _ _ _ (by decide)) 5 ⟨#[]⟩ (by decide)) (fun _ _ _ => rfl) (by omega)
set_option maxRecDepth 100000 in
set_option maxHeartbeats 16000000 in
theorem z_datum {n : Nat} (hZD : ∀ m, n = m + 1 → ZD m) : ZD n := by
  intro b s p dp w h hn
  obtain ⟨G, hG⟩ : ∃ G, w.heap.size = G := ⟨_, rfl⟩
  obtain ⟨W1, hW⟩ : ∃ W1, w.alloc (.cells #[.int .i64 0, .string ⟨#[]⟩, .slice none 0 0, .slice none 0 0] 34) = W1 := ⟨_, rfl⟩
  have hbG0 : b < G := by rw [← hG]; exact h.lt
  have hB1 : Below w.heap.size w W1 := by rw [← hW]; exact (Below.refl _ w).alloc (Nat.le_refl _) _
  have d1 : D4 W1 G (.int .i64 0) (.string ⟨#[]⟩) (.slice none 0 0) (.slice none 0 0) := by rw [← hW]; exact heap_alloc_at _ _ _ hG.symm
  obtain ⟨R, hR⟩ : ∃ R, rdD n (rst s p) = R := ⟨_, rfl⟩
  have HR := hid hR
  have H0 : Hid (Zb b s w G p W1) := hid ⟨h.under hB1, Pt.ofB hB1, d1, by omega, hbG0⟩
  have HZD := hid hZD
  have hdp := hid hn
  have lM : (s.size : Int) ≤ 1099511627776 := by have := h.1.2; omega
  have ldp : (dp : Int) ≤ 65 := by omega
  have ldp0 : (0 : Int) ≤ (dp : Int) := by omega
  have HBk := hid (z_blanks H0.out.rr)
  rw [hR]
  clear h hB1 d1 hbG0 hR hZD hn
  go_enter Tryd.func20, Tryd.ntmps20
  go_wp2_with fail
  try rw [hW]
  try rw [hG]
  try go_wp2_with fail
  refine HBk.out.mono ?_
  clear HBk hW
  rintro e w1 ⟨rfl, HQ⟩
  obtain ⟨q1, hq1, hq2, hq3⟩ := HQ.out
  have HB1 := hid (H0.out.on hq1 hq3)
  have hbG := H0.out.z
  have Hsk := hid hq2
  obtain ⟨c0, c1, c2b, -, f1, -, -⟩ := hq1.cells
  have l0 : (0 : Int) ≤ (q1 : Int) := by omega
  have HSz := hid hq1.1
  have HFl : Hid (∀ V a (j : Nat), Below w1.heap.size w1 V → a ≤ s.size → R = .bad (s.size - a) j → Calls Tryd.prog 32 #[.pointer (some ⟨b, 0, none⟩), .int .i64 (a : Int), .int .i64 (j : Int)] V fun e w' => e = .returned (.tuple #[]) ∧ C4 w' G (.int .i64 0) (.string ⟨#[]⟩) (.slice none 0 0) (.slice none 0 0) ∧ Hid (D4 (set4 w' G (.int .i64 0) (.string ⟨#[]⟩) (.slice none 0 0) (.slice none 0 0)) G (.int .i64 0) (.string ⟨#[]⟩) (.slice none 0 0) (.slice none 0 0) ∧ ZdO b s w R (.returned (.agg #[.int .i64 0, .string ⟨#[]⟩, .slice none 0 0, .slice none 0 0])) (set4 w' G (.int .i64 0) (.string ⟨#[]⟩) (.slice none 0 0) (.slice none 0 0)))) := hid fun V a j hV ha hr => by
    have hB := HB1.out.under hV
    refine (z_fail hB.rr a j ha).mono ?_
    rintro e w' ⟨he, h2⟩
    have hg := hB.g.part h2.out.2 (fun e => by omega)
    exact ⟨he, hg.c4, hid (zd_bad hbG hg hr (h2.out.1 j rfl) (hB.pt.trans_ h2.out.2))⟩
  clear HQ hq3 hq1 H0
  by_cases hlt : q1 < s.size
  · have m1 : (q1 : Int) < (s.size : Int) := by omega
    have m2 : ¬ (s.size : Int) ≤ (q1 : Int) := by omega
    obtain ⟨y, hy⟩ : ∃ y, s[q1]'hlt = y := ⟨_, rfl⟩
    have hcons : rst s q1 = y :: rst s (q1 + 1) := by rw [rst_cons hlt, hy]
    have hsk : skB false (rst s p) = y :: rst s (q1 + 1) := by rw [← hq2, hcons]
    have hlen : (rst s (q1 + 1)).length + 1 = s.size - q1 := by rw [rst_len]; omega
    have Hcs := hid (⟨hcons, hsk, hlen⟩ : rst s q1 = y :: rst s (q1 + 1) ∧ skB false (rst s p) = y :: rst s (q1 + 1) ∧ (rst s (q1 + 1)).length + 1 = s.size - q1)
    have q34 : ((y.toNat : Int) == 34) = decide (y = 34) := @u8b y 34 (by decide)
    have q40 : ((y.toNat : Int) != 40) = !decide (y = 40) := by
      have h : ((y.toNat : Int) == 40) = decide (y = 40) := @u8b y 40 (by decide)
      rw [bne, h]
    have q39 : ((y.toNat : Int) != 39) = !decide (y = 39) := by
      have h : ((y.toNat : Int) == 39) = decide (y = 39) := @u8b y 39 (by decide)
      rw [bne, h]
    have q39e : ((y.toNat : Int) == 39) = decide (y = 39) := @u8b y 39 (by decide)
    have q35 : ((y.toNat : Int) == 35) = decide (y = 35) := @u8b y 35 (by decide)
    clear hcons hsk hlen hq2
    by_cases h34 : y = 34
    · rw [decide_eq_true h34] at q34
      have hrr : R = strR (s.size - q1) (rst s (q1 + 1)) := by rw [← HR.out, rdD_strR (by rw [Hcs.out.2.1, h34]), Hcs.out.2.2]
      have HC : Hid (∀ V, Below w1.heap.size w1 V → Calls Tryd.prog 33 #[.pointer (some ⟨b, 0, none⟩)] V fun e w' => ZP b s w G R e w') := hid fun V hV => by
        have hB := HB1.out.under hV
        rw [hrr]
        exact (z_text hB.rr hlt).mono fun e w' he => ZP.of hB he
      by_cases h35 : y = 35
      · exact absurd (h34.symm.trans h35) (by decide)
      · rw [decide_eq_false h35] at q35
        clear hrr h34 h35 q40 q39 q39e HFl
        go_wp2
        go_quiet (fail)
        go_wp2
        go_quiet (fail)
        go_wp2
        go_quiet (fail)
        go_wp2_with fail
        refine (HC.out _ (by first | exact Below.refl _ _ | exact blw_drewN _ (Below.refl _ _) | exact blw_drewN _ (blw_drewN _ (Below.refl _ _)) | exact blw_drewN _ (blw_drewN _ (blw_drewN _ (Below.refl _ _))))).mono ?_
        clear HC
        rintro e w3 ⟨k0, t0, a, m0, c0, a2, m2, c2, rfl, ⟨i0, i1, i2, i3, j0, j1, j2, j3⟩, HX⟩
        go_wp2
        exact bodyPost_ret (v := .agg #[.int .i64 k0, .string t0, .slice a m0 c0, .slice a2 m2 c2]) (res4 HX.out.1 Tryd.results20 rfl) rfl HX.out.2
    · rw [decide_eq_false h34] at q34
      by_cases hop : opn (y :: rst s (q1 + 1)) = 0
      · have hrr : R = pcR (s.size - q1) (rst s q1) := by rw [← HR.out, rdD_pcR Hcs.out.2.1 h34 hop, Hcs.out.2.2, ← Hcs.out.1]
        have HC : Hid (∀ V, Below w1.heap.size w1 V → Calls Tryd.prog 34 #[.pointer (some ⟨b, 0, none⟩)] V fun e w' => ZP b s w G R e w') := hid fun V hV => by
          have hB := HB1.out.under hV
          rw [hrr]
          exact (z_atom hB.rr).mono fun e w' he => ZP.of hB he
        have h40 : y ≠ 40 := by rintro rfl; simp [opn] at hop
        have h39 : y ≠ 39 := by rintro rfl; simp [opn] at hop
        rw [decide_eq_false h40] at q40
        rw [decide_eq_false h39] at q39 q39e
        by_cases h35 : y = 35
        · rw [decide_eq_true h35] at q35
          by_cases hn1 : q1 + 1 < s.size
          · have n1 : (q1 : Int) + 1 < (s.size : Int) := by omega
            obtain ⟨x, hx⟩ : ∃ x, s[q1 + 1]'hn1 = x := ⟨_, rfl⟩
            have hx40 : x ≠ 40 := by
              rintro rfl
              rw [h35, rst_cons hn1, hx] at hop
              simp [opn] at hop
            have x40 : ((x.toNat : Int) == 40) = false := by
              have : ((x.toNat : Int) == 40) = decide (x = 40) := @u8b x 40 (by decide)
              rw [this, decide_eq_false hx40]
            clear hrr h34 h35 h40 h39 hop HFl hx40
            go_wp2
            go_quiet (fail)
            go_wp2
            go_quiet (fail)
            go_wp2
            go_quiet (fail)
            go_wp2_with fail
            refine (HC.out _ (by first | exact Below.refl _ _ | exact blw_drewN _ (Below.refl _ _) | exact blw_drewN _ (blw_drewN _ (Below.refl _ _)) | exact blw_drewN _ (blw_drewN _ (blw_drewN _ (Below.refl _ _))))).mono ?_
            clear HC
            rintro e w3 ⟨k0, t0, a, m0, c0, a2, m2, c2, rfl, ⟨i0, i1, i2, i3, j0, j1, j2, j3⟩, HX⟩
            go_wp2
            exact bodyPost_ret (v := .agg #[.int .i64 k0, .string t0, .slice a m0 c0, .slice a2 m2 c2]) (res4 HX.out.1 Tryd.results20 rfl) rfl HX.out.2
          · have n1 : ¬ (q1 : Int) + 1 < (s.size : Int) := by omega
            have n2 : decide (q1 + 1 < s.size) = false := decide_eq_false hn1
            have n3 : decide ((q1 : Int) + 1 < (s.size : Int)) = false := decide_eq_false n1
            clear hrr h34 h35 h40 h39 hop HFl hn1
            go_wp2
            go_quiet (fail)
            go_wp2
            go_quiet (fail)
            go_wp2
            go_quiet (fail)
            go_wp2_with fail
            refine (HC.out _ (by first | exact Below.refl _ _ | exact blw_drewN _ (Below.refl _ _) | exact blw_drewN _ (blw_drewN _ (Below.refl _ _)) | exact blw_drewN _ (blw_drewN _ (blw_drewN _ (Below.refl _ _))))).mono ?_
            clear HC
            rintro e w3 ⟨k0, t0, a, m0, c0, a2, m2, c2, rfl, ⟨i0, i1, i2, i3, j0, j1, j2, j3⟩, HX⟩
            go_wp2
            exact bodyPost_ret (v := .agg #[.int .i64 k0, .string t0, .slice a m0 c0, .slice a2 m2 c2]) (res4 HX.out.1 Tryd.results20 rfl) rfl HX.out.2
        · rw [decide_eq_false h35] at q35
          clear hrr h34 h35 h40 h39 hop HFl
          go_wp2
          go_quiet (fail)
          go_wp2
          go_quiet (fail)
          go_wp2
          go_quiet (fail)
          go_wp2_with fail
          refine (HC.out _ (by first | exact Below.refl _ _ | exact blw_drewN _ (Below.refl _ _) | exact blw_drewN _ (blw_drewN _ (Below.refl _ _)) | exact blw_drewN _ (blw_drewN _ (blw_drewN _ (Below.refl _ _))))).mono ?_
          clear HC
          rintro e w3 ⟨k0, t0, a, m0, c0, a2, m2, c2, rfl, ⟨i0, i1, i2, i3, j0, j1, j2, j3⟩, HX⟩
          go_wp2
          exact bodyPost_ret (v := .agg #[.int .i64 k0, .string t0, .slice a m0 c0, .slice a2 m2 c2]) (res4 HX.out.1 Tryd.results20 rfl) rfl HX.out.2
      · have hways : (y = 40) ∨ (y = 39) ∨ (y = 35 ∧ ∃ h : q1 + 1 < s.size, s[q1 + 1] = 40) := by
          unfold opn at hop
          split at hop
          · rename_i e; injection e with e1 e2; exact .inl e1
          · rename_i e; injection e with e1 e2; exact .inr (.inl e1)
          · rename_i r2 e
            injection e with e1 e2
            refine .inr (.inr ⟨e1, ?_⟩)
            have hl := congrArg List.length e2
            rw [rst_len] at hl
            simp at hl
            have h1 : q1 + 1 < s.size := by omega
            refine ⟨h1, ?_⟩
            rw [rst_cons h1] at e2
            injection e2
          · exact absurd rfl hop
        by_cases h0 : n = 0
        · have ld : (64 : Int) < (dp : Int) := by have := hdp.out; omega
          have hr7 : R = .bad (s.size - q1) 7 := by
            subst h0
            rw [← HR.out, rdD_deep Hcs.out.2.1 hop, Hcs.out.2.2]
          have HF0 := hid (fun V hV => HFl.out V q1 7 hV (by omega) hr7)
          clear hr7 HFl hop h34
          rcases hways with rfl | rfl | ⟨rfl, hn1, hx⟩
          · rw [decide_eq_false (by decide)] at q35
            go_wp2
            go_quiet (fail)
            go_wp2
            go_quiet (fail)
            go_wp2
            go_quiet (fail)
            go_wp2_with fail
            refine (HF0.out _ (by first | exact Below.refl _ _ | exact blw_drewN _ (Below.refl _ _) | exact blw_drewN _ (blw_drewN _ (Below.refl _ _)) | exact blw_drewN _ (blw_drewN _ (blw_drewN _ (Below.refl _ _))))).mono ?_
            rintro e w3 ⟨rfl, ⟨i0, i1, i2, i3, j0, j1, j2, j3⟩, HX⟩
            go_wp2
            exact bodyPost_ret (v := .agg #[.int .i64 0, .string ⟨#[]⟩, .slice none 0 0, .slice none 0 0]) (res4 HX.out.1 Tryd.results20 rfl) rfl HX.out.2
          · rw [decide_eq_false (by decide)] at q35
            go_wp2
            go_quiet (fail)
            go_wp2
            go_quiet (fail)
            go_wp2
            go_quiet (fail)
            go_wp2_with fail
            refine (HF0.out _ (by first | exact Below.refl _ _ | exact blw_drewN _ (Below.refl _ _) | exact blw_drewN _ (blw_drewN _ (Below.refl _ _)) | exact blw_drewN _ (blw_drewN _ (blw_drewN _ (Below.refl _ _))))).mono ?_
            rintro e w3 ⟨rfl, ⟨i0, i1, i2, i3, j0, j1, j2, j3⟩, HX⟩
            go_wp2
            exact bodyPost_ret (v := .agg #[.int .i64 0, .string ⟨#[]⟩, .slice none 0 0, .slice none 0 0]) (res4 HX.out.1 Tryd.results20 rfl) rfl HX.out.2
          · rw [decide_eq_true rfl] at q35
            have n1 : (q1 : Int) + 1 < (s.size : Int) := by omega
            go_wp2
            go_quiet (fail)
            go_wp2
            go_quiet (fail)
            go_wp2
            go_quiet (fail)
            go_wp2_with fail
            refine (HF0.out _ (by first | exact Below.refl _ _ | exact blw_drewN _ (Below.refl _ _) | exact blw_drewN _ (blw_drewN _ (Below.refl _ _)) | exact blw_drewN _ (blw_drewN _ (blw_drewN _ (Below.refl _ _))))).mono ?_
            rintro e w3 ⟨rfl, ⟨i0, i1, i2, i3, j0, j1, j2, j3⟩, HX⟩
            go_wp2
            exact bodyPost_ret (v := .agg #[.int .i64 0, .string ⟨#[]⟩, .slice none 0 0, .slice none 0 0]) (res4 HX.out.1 Tryd.results20 rfl) rfl HX.out.2
        · have ld : ¬ (64 : Int) < (dp : Int) := by have := hdp.out; omega
          obtain ⟨m, rfl⟩ : ∃ m, n = m + 1 := ⟨n - 1, by omega⟩
          have HZm := hid (HZD.out m rfl)
          have hdm : Hid (dp + 1 + m = 65) := hid (by have := hdp.out; omega)
          clear h0 HFl hop HZD
          rcases hways with rfl | rfl | ⟨rfl, hn1, hx⟩
          · -- a list
            have hrr : R = itL (rdD m) false ((rst s (q1 + 1)).length + 1) [] (rst s (q1 + 1)) := by rw [← HR.out, rdD_list Hcs.out.2.1]
            have HC : Hid (∀ V, Below w1.heap.size w1 V → Calls Tryd.prog 37 #[.pointer (some ⟨b, 0, none⟩), .int .i64 (dp : Int), .bool false] (V.setCell ⟨b, 1, none⟩ (.int .i64 ((q1 : Int) + 1))) fun e w' => ZP b s w G R e w') := hid fun V hV => by
              have hB := HB1.out.under hV
              have hB2 : Zb b s w G (q1 + 1) (V.setCell ⟨b, 1, none⟩ (.int .i64 ((q1 : Int) + 1))) := hB.on (hB.rr.at_ (q1 + 1) hlt) (Pt.set (Part.refl _ _) 1 _)
              rw [hrr]
              exact (z_listm HZm.out hB2.rr hdm.out false _ (Nat.lt_succ_self _)).mono fun e w' he => ZP.of hB2 he
            rw [decide_eq_false (by decide)] at q35
            clear hrr h34
            go_wp2
            go_quiet (fail)
            go_wp2
            go_quiet (fail)
            go_wp2
            go_quiet (fail)
            go_wp2_with fail
            refine (HC.out _ (by first | exact Below.refl _ _ | exact blw_drewN _ (Below.refl _ _) | exact blw_drewN _ (blw_drewN _ (Below.refl _ _)) | exact blw_drewN _ (blw_drewN _ (blw_drewN _ (Below.refl _ _))))).mono ?_
            clear HC
            rintro e w3 ⟨k0, t0, a, m0, c0, a2, m2, c2, rfl, ⟨i0, i1, i2, i3, j0, j1, j2, j3⟩, HX⟩
            go_wp2
            exact bodyPost_ret (v := .agg #[.int .i64 k0, .string t0, .slice a m0 c0, .slice a2 m2 c2]) (res4 HX.out.1 Tryd.results20 rfl) rfl HX.out.2
          · -- a quote
            have hrr : R = quR (rdD m (rst s (q1 + 1))) := by
              rw [← HR.out, rdD_quote Hcs.out.2.1]; rfl
            have Hrr := hid hrr
            have HB2 : Hid (∀ V, Below w1.heap.size w1 V → Zb b s w G (q1 + 1) (V.setCell ⟨b, 1, none⟩ (.int .i64 ((q1 : Int) + 1)))) := hid fun V hV => by
              have hB := HB1.out.under hV
              exact hB.on (hB.rr.at_ (q1 + 1) hlt) (Pt.set (Part.refl _ _) 1 _)
            have HC : Hid (∀ V, Below w1.heap.size w1 V → Calls Tryd.prog 20 #[.pointer (some ⟨b, 0, none⟩), .int .i64 ((dp : Int) + 1)] (V.setCell ⟨b, 1, none⟩ (.int .i64 ((q1 : Int) + 1))) fun e w' => ∃ V2, Zb b s w G (q1 + 1) V2 ∧ ZdO b s V2 (rdD m (rst s (q1 + 1))) e w') := hid fun V hV => (HZm.out b s (q1 + 1) (dp + 1) _ (HB2.out V hV).rr hdm.out).mono fun e w' he => ⟨_, HB2.out V hV, he⟩
            have HSy := hid (fun V => z_symbol ⟨#[113, 117, 111, 116, 101]⟩ V)
            rw [decide_eq_false (by decide)] at q35
            clear hrr h34 HZm
            go_wp2
            go_quiet (fail)
            go_wp2
            go_quiet (fail)
            go_wp2
            go_quiet (fail)
            go_wp2_with fail
            refine (HC.out _ (by first | exact Below.refl _ _ | exact blw_drewN _ (Below.refl _ _) | exact blw_drewN _ (blw_drewN _ (Below.refl _ _)) | exact blw_drewN _ (blw_drewN _ (blw_drewN _ (Below.refl _ _))))).mono ?_
            clear HC
            rintro e w3 ⟨V2, hV2, ⟨d, a3, c3, a4, c4, q3, rfl, HX⟩ | ⟨k0, t0, a3, m3, c3, a4, m4, c4, rfl, HX⟩⟩
            · obtain ⟨T, hT⟩ : ∃ T, w3.heap.size = T := ⟨_, rfl⟩
              obtain ⟨w4, hw4⟩ : ∃ w4, w3.alloc (.cells #[.int .i64 d.kd, .string d.tx, .slice a3 d.its.length c3, .slice a4 d.tl.length c4] 34) = w4 := ⟨_, rfl⟩
              have hb4 : Below w3.heap.size w3 w4 := by rw [← hw4]; exact (Below.refl _ w3).alloc (Nat.le_refl _) _
              have p3 : Pt b V2 w3 := HX.out.2.2.1
              have dT : D4 w4 T (.int .i64 d.kd) (.string d.tx) (.slice a3 d.its.length c3) (.slice a4 d.tl.length c4) := by rw [← hw4]; exact heap_alloc_at _ _ _ hT.symm
              have dG3 : D4 w3 G (.int .i64 0) (.string ⟨#[]⟩) (.slice none 0 0) (.slice none 0 0) := hV2.g.part p3 (fun e => by omega)
              have dG : D4 w4 G (.int .i64 0) (.string ⟨#[]⟩) (.slice none 0 0) (.slice none 0 0) := dG3.under hb4
              have hTs : T < w4.heap.size := (Array.getElem?_eq_some_iff.1 dT).1
              have hGs : G < w4.heap.size := (Array.getElem?_eq_some_iff.1 dG).1
              have HK : Hid (∀ V, Below w4.heap.size w4 V → C4 V T (.int .i64 d.kd) (.string d.tx) (.slice a3 d.its.length c3) (.slice a4 d.tl.length c4) ∧ C4 V G (.int .i64 0) (.string ⟨#[]⟩) (.slice none 0 0) (.slice none 0 0) ∧ T < V.heap.size ∧ G < V.heap.size) := hid fun V hV => ⟨(dT.under hV).c4, (dG.under hV).c4, by have := hV.size; omega, by have := hV.size; omega⟩
              have Hb4 := hid hb4
              have Hw4 := hid hw4
              have HV2 := hid hV2
              clear hb4 p3 dT dG3 dG hTs hGs hw4 hV2
              go_wp2_with fail
              rw [Hw4.out]
              obtain ⟨⟨t0', t1', t2', t3', -, -, -, -⟩, ⟨i0, i1, i2, i3, f0, f1', f2, f3⟩, -, -⟩ := HK.out w4 (Below.refl _ _)
              go_region_with (first | (go_at_call 36; refine (HSy.out _).mono ?_; rintro e w5 ⟨rfl, hb5⟩; obtain ⟨⟨t0', t1', t2', t3', -, -, -, -⟩, ⟨i0, i1, i2, i3, f0, f1', f2, f3⟩, hT5, hG5⟩ := HK.out w5 (by first | exact hb5.out | exact (blw_drewN 1 (Below.refl _ _)).trans hb5.out); obtain ⟨T5, hT5e⟩ : ∃ T5, w5.heap.size = T5 := ⟨_, rfl⟩; have hT55 : T < T5 := (by omega); have hG55 : G < T5 := (by omega)) | (go_at_call 35; refine z_listA.mono ?_; rintro e w7 ⟨rfl, hb7⟩; obtain ⟨-, ⟨i0, i1, i2, i3, f0, f1', f2, f3⟩, -, -⟩ := HK.out w7 (by first | exact hb5.out.trans ((((Below.refl w5.heap.size w5).alloc (Nat.le_refl _) _).trans (hb7.out.mono (by rw [World.size_alloc]; omega))).mono hb5.out.size) | exact (blw_drewN 1 (Below.refl _ _)).trans (hb5.out.trans ((((Below.refl w5.heap.size w5).alloc (Nat.le_refl _) _).trans (hb7.out.mono (by rw [World.size_alloc]; omega))).mono hb5.out.size)))))
              all_goals
                have h5 : Below w3.heap.size w3 w5 := by first | exact Hb4.out.trans (hb5.out.mono Hb4.out.size) | exact Hb4.out.trans (((blw_drewN 1 (Below.refl _ _)).trans hb5.out).mono Hb4.out.size)
                subst hT5e
                have HE := hid (zq_end HV2.out (Hrr.out.trans (by rw [HX.out.1]; rfl)) HX.out.2.1 HX.out.2.2.1 HX.out.2.2.2 h5 (by have := hb7.out; rwa [World.size_alloc] at this))
                clear h5 hb5 hb7 HX HK Hb4 Hw4 HV2 HSy HB1 HB2
                go_wp2
                exact bodyPost_ret (v := .agg #[.int .i64 5, .string ⟨#[]⟩, .slice (some ⟨w5.heap.size, 0, none⟩) 2 2, .slice none 0 0]) (res4 HE.out.1 Tryd.results20 rfl) rfl HE.out.2
            · obtain ⟨T, hT⟩ : ∃ T, w3.heap.size = T := ⟨_, rfl⟩
              obtain ⟨w4, hw4⟩ : ∃ w4, w3.alloc (.cells #[.int .i64 k0, .string t0, .slice a3 m3 c3, .slice a4 m4 c4] 34) = w4 := ⟨_, rfl⟩
              have hb4 : Below w3.heap.size w3 w4 := by rw [← hw4]; exact (Below.refl _ w3).alloc (Nat.le_refl _) _
              have p3 : Pt b V2 w3 := by obtain ⟨_, _, _, _, h⟩ := HX.out; exact h
              have dT : D4 w4 T (.int .i64 k0) (.string t0) (.slice a3 m3 c3) (.slice a4 m4 c4) := by rw [← hw4]; exact heap_alloc_at _ _ _ hT.symm
              have dG3 : D4 w3 G (.int .i64 0) (.string ⟨#[]⟩) (.slice none 0 0) (.slice none 0 0) := hV2.g.part p3 (fun e => by omega)
              have dG : D4 w4 G (.int .i64 0) (.string ⟨#[]⟩) (.slice none 0 0) (.slice none 0 0) := dG3.under hb4
              have hTs : T < w4.heap.size := (Array.getElem?_eq_some_iff.1 dT).1
              have hGs : G < w4.heap.size := (Array.getElem?_eq_some_iff.1 dG).1
              have HK : Hid (∀ V, Below w4.heap.size w4 V → C4 V T (.int .i64 k0) (.string t0) (.slice a3 m3 c3) (.slice a4 m4 c4) ∧ C4 V G (.int .i64 0) (.string ⟨#[]⟩) (.slice none 0 0) (.slice none 0 0) ∧ T < V.heap.size ∧ G < V.heap.size) := hid fun V hV => ⟨(dT.under hV).c4, (dG.under hV).c4, by have := hV.size; omega, by have := hV.size; omega⟩
              have Hb4 := hid hb4
              have Hw4 := hid hw4
              have HV2 := hid hV2
              clear hb4 p3 dT dG3 dG hTs hGs hw4 hV2
              go_wp2_with fail
              rw [Hw4.out]
              obtain ⟨⟨t0', t1', t2', t3', -, -, -, -⟩, ⟨i0, i1, i2, i3, f0, f1', f2, f3⟩, -, -⟩ := HK.out w4 (Below.refl _ _)
              go_region_with (first | (go_at_call 36; refine (HSy.out _).mono ?_; rintro e w5 ⟨rfl, hb5⟩; obtain ⟨⟨t0', t1', t2', t3', -, -, -, -⟩, ⟨i0, i1, i2, i3, f0, f1', f2, f3⟩, hT5, hG5⟩ := HK.out w5 (by first | exact hb5.out | exact (blw_drewN 1 (Below.refl _ _)).trans hb5.out); obtain ⟨T5, hT5e⟩ : ∃ T5, w5.heap.size = T5 := ⟨_, rfl⟩; have hT55 : T < T5 := (by omega); have hG55 : G < T5 := (by omega)) | (go_at_call 35; refine z_listA.mono ?_; rintro e w7 ⟨rfl, hb7⟩; obtain ⟨-, ⟨i0, i1, i2, i3, f0, f1', f2, f3⟩, -, -⟩ := HK.out w7 (by first | exact hb5.out.trans ((((Below.refl w5.heap.size w5).alloc (Nat.le_refl _) _).trans (hb7.out.mono (by rw [World.size_alloc]; omega))).mono hb5.out.size) | exact (blw_drewN 1 (Below.refl _ _)).trans (hb5.out.trans ((((Below.refl w5.heap.size w5).alloc (Nat.le_refl _) _).trans (hb7.out.mono (by rw [World.size_alloc]; omega))).mono hb5.out.size)))))
              all_goals
                have h5 : Below w3.heap.size w3 w5 := by first | exact Hb4.out.trans (hb5.out.mono Hb4.out.size) | exact Hb4.out.trans (((blw_drewN 1 (Below.refl _ _)).trans hb5.out).mono Hb4.out.size)
                have hb57 : Below w5.heap.size w5 w7 := ((Below.refl w5.heap.size w5).alloc (Nat.le_refl _) _).trans (hb7.out.mono (by rw [World.size_alloc]; omega))
                have hb37 : Below w3.heap.size w3 w7 := h5.trans (hb57.mono h5.size)
                have HE := hid (by
                  obtain ⟨k, j, g1, g2, g3⟩ := HX.out
                  have hg : D4 w7 G (.int .i64 0) (.string ⟨#[]⟩) (.slice none 0 0) (.slice none 0 0) := (HV2.out.g.part g3 (fun e => by omega)).under hb37
                  exact zd_putF (k0 := 5) (t0 := ⟨#[]⟩) (a := some ⟨T5, 0, none⟩) (m := 2) (c := 2) (a2 := none) (m2 := 0) (c2 := 0) hbG hg (Hrr.out.trans (show quR (rdD m (rst s (q1 + 1))) = .bad k j by rw [g1]; rfl)) (g2.under hb37) ((HV2.out.pt.trans_ g3).trans_ (Pt.ofB hb37)))
                clear h5 hb5 hb7 hb57 hb37 HX HK Hb4 Hw4 HV2 HSy HB1 HB2
                go_wp2
                exact bodyPost_ret (v := .agg #[.int .i64 5, .string ⟨#[]⟩, .slice (some ⟨T5, 0, none⟩) 2 2, .slice none 0 0]) (res4 HE.out.1 Tryd.results20 rfl) rfl HE.out.2
          · -- a vector
            have n1 : (q1 : Int) + 1 < (s.size : Int) := by omega
            have hr2 : rst s (q1 + 1) = 40 :: rst s (q1 + 2) := by rw [rst_cons hn1, hx]
            have hrr : R = itL (rdD m) true ((rst s (q1 + 2)).length + 2) [] (rst s (q1 + 2)) := by rw [← HR.out, rdD_vec (by rw [Hcs.out.2.1, hr2])]
            have HC : Hid (∀ V, Below w1.heap.size w1 V → Calls Tryd.prog 37 #[.pointer (some ⟨b, 0, none⟩), .int .i64 (dp : Int), .bool true] (V.setCell ⟨b, 1, none⟩ (.int .i64 ((q1 : Int) + 2))) fun e w' => ZP b s w G R e w') := hid fun V hV => by
              have hB := HB1.out.under hV
              have hB2 : Zb b s w G (q1 + 2) (V.setCell ⟨b, 1, none⟩ (.int .i64 ((q1 : Int) + 2))) := hB.on (hB.rr.at_ (q1 + 2) (by omega)) (Pt.set (Part.refl _ _) 1 _)
              rw [hrr]
              exact (z_listm HZm.out hB2.rr hdm.out true _ (by omega)).mono fun e w' he => ZP.of hB2 he
            rw [decide_eq_true rfl] at q35
            clear hrr h34 hr2
            go_wp2
            go_quiet (fail)
            go_wp2
            go_quiet (fail)
            go_wp2
            go_quiet (fail)
            go_wp2_with fail
            refine (HC.out _ (by first | exact Below.refl _ _ | exact blw_drewN _ (Below.refl _ _) | exact blw_drewN _ (blw_drewN _ (Below.refl _ _)) | exact blw_drewN _ (blw_drewN _ (blw_drewN _ (Below.refl _ _))))).mono ?_
            clear HC
            rintro e w3 ⟨k0, t0, a, m0, c0, a2, m2, c2, rfl, ⟨i0, i1, i2, i3, j0, j1, j2, j3⟩, HX⟩
            go_wp2
            exact bodyPost_ret (v := .agg #[.int .i64 k0, .string t0, .slice a m0 c0, .slice a2 m2 c2]) (res4 HX.out.1 Tryd.results20 rfl) rfl HX.out.2
  · have m1 : ¬ (q1 : Int) < (s.size : Int) := by omega
    have m2 : (s.size : Int) ≤ (q1 : Int) := by omega
    have hr0 : R = .bad (s.size - s.size) 100 := by rw [← HR.out, rdD_nil (by rw [← hq2]; exact rst_nil (by omega)), Nat.sub_self]
    have HF0 := hid (fun V hV => HFl.out V s.size 100 hV (Nat.le_refl _) hr0)
    clear hr0 HFl hlt
    go_wp2
    go_quiet (fail)
    go_wp2_with fail
    refine (HF0.out _ (by first | exact Below.refl _ _ | exact blw_drewN _ (Below.refl _ _) | exact blw_drewN _ (blw_drewN _ (Below.refl _ _)) | exact blw_drewN _ (blw_drewN _ (blw_drewN _ (Below.refl _ _))))).mono ?_
    rintro e w3 ⟨rfl, ⟨i0, i1, i2, i3, j0, j1, j2, j3⟩, HX⟩
    go_wp2
    exact bodyPost_ret (v := .agg #[.int .i64 0, .string ⟨#[]⟩, .slice none 0 0, .slice none 0 0]) (res4 HX.out.1 Tryd.results20 rfl) rfl HX.out.2
theorem z_all : ∀ n, ZD n
  | 0 => z_datum fun m h => by omega
  | n + 1 => z_datum fun m h => by
    have : m = n := by omega
    subst this
    exact z_all m
end Go.Proofs.YtfobiknbjijphaaDoor
