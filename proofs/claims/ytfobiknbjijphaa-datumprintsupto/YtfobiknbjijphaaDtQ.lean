/-
  Contract of datum's write.
-/
import Derived.Test.YtfobiknbjijphaaDtP
namespace Go.Proofs.Ytfobiknbjijphaa
open Go.RowKit
set_option linter.unusedVariables false
set_option linter.unusedSimpArgs false

set_option maxRecDepth 100000 in
set_option maxHeartbeats 4000000 in
theorem dt_write {w0 : World} {B b : Nat} (hwB : w0.heap.size ≤ B) (N : Nat) : WOk w0 B b N := by
  induction N with
  | zero => exact fun d v L w h _ _ _ _ => absurd h (Nat.not_lt_zero _)
  | succ N ih =>
    intro d v L w hN hd hbw hB hL
    have IH : Hid (WOk w0 B b N) := ih
    clear ih
    cases hd with
    | mk k t l m a a2 c c2 X Y hl hm ra rb sz =>
      obtain ⟨n1, hn1⟩ : ∃ n1, l.length = n1 := ⟨_, rfl⟩
      obtain ⟨n2, hn2⟩ : ∃ n2, m.length = n2 := ⟨_, rfl⟩
      rw [hn1, hn2]
      obtain ⟨W1, hW1⟩ : ∃ W1, w.alloc (.cells #[.int .i64 k, .string t, .slice a n1 c, .slice a2 n2 c2] 24) = W1 := ⟨_, rfl⟩
      obtain ⟨G, hG⟩ : ∃ G, w.heap.size = G := ⟨_, rfl⟩
      have h0 : W1.heap[G]? = some (.cells #[.int .i64 k, .string t, .slice a n1 c, .slice a2 n2 c2] 24 (0, 0)) := by rw [← hW1]; exact heap_alloc_at _ _ _ hG.symm
      have hGb : G ≠ b := by have := hB.lt; omega
      have hB1 : Bd B b L W1 := by rw [← hW1]; exact hB.alloc _
      have hK1 : Kp B b w W1 := by rw [← hW1]; exact (Kp.refl _ _ _).alloc hB.2 _
      have HV : Hid (∀ V, Kp B b W1 V → Below w0.heap.size w0 V ∧ (V.cell? ⟨G, 0, none⟩ = some (.int .i64 k) ∧ V.cell? ⟨G, 1, none⟩ = some (.string t) ∧ V.cell? ⟨G, 2, none⟩ = some (.slice a n1 c) ∧ V.cell? ⟨G, 3, none⟩ = some (.slice a2 n2 c2)) ∧ Kp B b w V) := fun V h => by
        have e := h.box h0 hGb (by decide)
        exact ⟨hbw.trans ((hK1.trans h).1.mono hwB), ⟨by rw [cells_at e 0]; rfl, by rw [cells_at e 1]; rfl, by rw [cells_at e 2]; rfl, by rw [cells_at e 3]; rfl⟩, hK1.trans h⟩
      have HLn : Hid (L.length + 8 * (1 + t.size + (wtL l + wtL m)) ≤ 140737488355328) := hL
      have HPs : Hid (∀ V L', Kp B b W1 V → Bd B b L' V → L'.length ≤ L.length + 1 → Calls Try.prog 21 #[.pointer (some ⟨b, 0, none⟩), .agg #[.int .i64 k, .string t, .slice a n1 c, .slice a2 n2 c2]] V fun e w' => e = .returned (.tuple #[]) ∧ Hid (Bd B b (L' ++ 40 :: (outL false l ++ outT m ++ [41])) w' ∧ Kp B b V w')) := fun V L' hk hb' hl' => dt_parts hwB IH hn1 hn2 hl hm ra rb (by omega) (by omega) L' V hN (HV.out V hk).1 hb' (by have := HLn.out; omega)
      have HO : Hid ((Dt.node k t l m).out = if k = 3 then strL t else if sqB k then (if k = 6 then [35] else []) ++ (40 :: (outL false l ++ outT m ++ [41])) else t.data.toList) := rfl
      obtain ⟨-, ⟨y0, y1, y2, y3⟩, -⟩ := HV.out W1 (Kp.refl _ _ _)
      have HB1 := hid hB1
      clear h0 hB1 hK1 hB hbw hL hN hwB hGb hl hm ra rb sz
      by_cases h3 : k = 3
      · have d3 : (k == 3) = true := by simpa using h3
        have H1 := hid (dt_wstring HB1.out t (by have := HLn.out; omega))
        have hT : Hid ((Dt.node k t l m).out = strL t) := hid (by rw [HO.out, if_pos h3])
        clear h3
        go_enter Try.func12, Try.ntmps12
        go_wp2_with fail
        try rw [hW1]
        try rw [hG]
        try go_wp2_with fail
        refine H1.out.mono ?_
        rintro e w2 ⟨rfl, hb2⟩
        have HS : Hid (Bd B b (L ++ (Dt.node k t l m).out) w2 ∧ Kp B b w w2) := hid ⟨by rw [hT.out]; exact hb2.out.1, (HV.out w2 hb2.out.2).2.2⟩
        go_wp2
        refine bodyPost_end (results_none rfl _ _ _) rfl ?_
        exact ⟨rfl, HS⟩
      · have d3 : (k == 3) = false := by simpa using h3
        by_cases h6 : k = 6
        · have d6 : (k == 6) = true := by simpa using h6
          have H1 := hid (b_str HB1.out ⟨#[35]⟩ (by have := HLn.out; show _ + 1 ≤ _; omega))
          have hT : Hid ((Dt.node k t l m).out = [35] ++ (40 :: (outL false l ++ outT m ++ [41]))) := hid (by rw [HO.out, h6]; rfl)
          clear h3 h6
          go_enter Try.func12, Try.ntmps12
          go_wp2_with fail
          try rw [hW1]
          try rw [hG]
          try go_wp2_with fail
          refine H1.out.mono ?_
          rintro e w2 ⟨rfl, hb2⟩
          obtain ⟨-, ⟨x0, x1, x2, x3⟩, -⟩ := HV.out w2 hb2.out.2
          have H2 := hid (HPs.out w2 _ hb2.out.2 hb2.out.1 (by simp))
          go_wp2_with fail
          refine H2.out.mono ?_
          rintro e w3 ⟨rfl, hb3⟩
          have HS : Hid (Bd B b (L ++ (Dt.node k t l m).out) w3 ∧ Kp B b w w3) := hid ⟨by rw [hT.out, ← List.append_assoc]; exact hb3.out.1, (HV.out w3 (hb2.out.2.trans hb3.out.2)).2.2⟩
          go_wp2
          refine bodyPost_end (results_none rfl _ _ _) rfl ?_
          exact ⟨rfl, HS⟩
        · have d6 : (k == 6) = false := by simpa using h6
          by_cases h5 : k = 5
          · have d5 : (k == 5) = true := by simpa using h5
            have H2 := hid (HPs.out W1 _ (Kp.refl _ _ _) HB1.out (by omega))
            have hT : Hid ((Dt.node k t l m).out = (40 :: (outL false l ++ outT m ++ [41]))) := hid (by rw [HO.out, h5]; rfl)
            clear h3 h6 h5
            go_enter Try.func12, Try.ntmps12
            go_wp2_with fail
            try rw [hW1]
            try rw [hG]
            try go_wp2_with fail
            refine H2.out.mono ?_
            rintro e w3 ⟨rfl, hb3⟩
            have HS : Hid (Bd B b (L ++ (Dt.node k t l m).out) w3 ∧ Kp B b w w3) := hid ⟨by rw [hT.out]; exact hb3.out.1, (HV.out w3 hb3.out.2).2.2⟩
            go_wp2
            refine bodyPost_end (results_none rfl _ _ _) rfl ?_
            exact ⟨rfl, HS⟩
          · have d5 : (k == 5) = false := by simpa using h5
            have H1 := hid (b_str HB1.out t (by have := HLn.out; omega))
            have hT : Hid ((Dt.node k t l m).out = t.data.toList) := hid (by rw [HO.out, if_neg h3, if_neg (by unfold sqB; rw [d5, d6]; decide)])
            clear h3 h6 h5
            go_enter Try.func12, Try.ntmps12
            go_wp2_with fail
            try rw [hW1]
            try rw [hG]
            try go_wp2_with fail
            refine H1.out.mono ?_
            rintro e w2 ⟨rfl, hb2⟩
            have HS : Hid (Bd B b (L ++ (Dt.node k t l m).out) w2 ∧ Kp B b w w2) := hid ⟨by rw [hT.out]; exact hb2.out.1, (HV.out w2 hb2.out.2).2.2⟩
            go_wp2
            refine bodyPost_end (results_none rfl _ _ _) rfl ?_
            exact ⟨rfl, HS⟩
end Go.Proofs.Ytfobiknbjijphaa
