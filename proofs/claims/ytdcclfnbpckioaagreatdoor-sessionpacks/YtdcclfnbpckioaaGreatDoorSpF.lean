/-
  The document's Pack: the changes that keep a session's bytes. Conditions: a session's number, at most 56000 bytes.
-/
import Derived.Test.YtdcclfnbpckioaaGreatDoorSpE
import Derived.Deep.Slices
import Derived.Test.YtdcclfnbpckioaaGreatDoorNqF
namespace Go.Proofs.YtdcclfnbpckioaaGreatDoor
open Go.RowKit Go.Shelf
set_option linter.unusedVariables false
set_option maxRecDepth 100000
set_option maxHeartbeats 4000000

theorem From.mid {w : World} {x : Addr} {n p m : Nat} {f : Nat → Int} (h : From w (some x) n f) (hp : p + m ≤ n) : From w (some (x.add p)) m (sh f p) := by
  rcases h with ⟨h1, _⟩ | ⟨y, h1, h2⟩
  · cases h1
  · cases h1
    refine .inr ⟨_, rfl, fun i hi => ?_⟩
    have := h2 (p + i) (by omega)
    rw [Go.Deep.add_add]
    exact this
theorem From.none0 (w : World) (f : Nat → Int) : From w none 0 f := .inl ⟨rfl, rfl⟩
theorem From.some0 (w : World) (x : Addr) (f : Nat → Int) : From w (some x) 0 f := .inr ⟨x, rfl, fun i hi => by omega⟩
theorem z_pack (id : Nat) (h1 : 1 ≤ id) (h2 : id ≤ 9999) (ao : Option Addr) (n c : Nat) (f : Nat → Int) (w : World) (hn : n ≤ 56000) (hf : From w ao n f) (h0 : ao = none → c = 0) (hc : n ≤ c) :
    Calls Tryz.prog 6 #[.int .i64 (id : Int), .slice ao n c] w fun e w' => ∃ v zs, e = .returned (.tuple #[v, .int .i64 0]) ∧ Rlc w' w.heap.size v zs ∧ zs.map (fun z => (z.ky, z.xs)) = pk id f n (pkN n) ∧ Below w.heap.size w w' := by
  obtain ⟨i0, hi0, hz0, hz1, hz2⟩ := info_parts infoC
  obtain ⟨M, hM⟩ : ∃ M, M = pkN n := ⟨_, rfl⟩
  have hM1 : 1 ≤ M := by rw [hM]; unfold pkN; omega
  have hM2 : M ≤ 40 := by rw [hM]; unfold pkN; omega
  have hMp : Hid (M = pkN n) := hM
  have hq : max 1 (((n : Int) + 1399) / 1400) = (M : Int) := by rw [hM]; unfold pkN; omega
  have hM3 : decide ((40 : Int) < (M : Int)) = false := by simp; omega
  have HI : Calls Tryz.prog 22 #[.int .i64 (id : Int)] w fun e w' => e = .returned (.bool true) ∧ w' = w := by
    refine (z_is (id : Int) w).mono ?_
    rintro e w' ⟨rfl, rfl⟩
    refine ⟨?_, rfl⟩
    congr 2
    simp
    omega
  have HFr : Hid (From w ao n f) := hf
  have HA : ao = none → n = 0 := fun e => by
    rcases hf with ⟨_, h⟩ | ⟨x, h, _⟩
    · exact h
    · rw [e] at h; cases h
  clear hM hf
  go_enter Tryz.func6, Tryz.ntmps6
  go_wp2_with (go_at_call 22; refine HI.mono ?_; rintro e w1 ⟨rfl, hz⟩; rw [hz]; clear hz)
  clear hq hM3 HI
  go_loopw [7, 21] (fun s7 i wr => ∃ (k : Nat) (zs : List Zc) (l : Value), Hid (l = s7) ∧ k ≤ M ∧ i = .int .i64 (k : Int) ∧ Rlc wr w.heap.size l zs ∧ Hid (zs.map (fun z => (z.ky, z.xs)) = pk id f n k) ∧ Below w.heap.size w wr) (fun _ i _ => M - (intOf i).toNat)
  case atStart => exact ⟨0, [], _, rfl, Nat.zero_le _, rfl, Rlc.nil _ _, rfl, Below.refl _ _⟩
  case round =>
    obtain ⟨k, zs, l, e7, hk, rfl, hR, hzs, hb⟩ := hrel
    obtain rfl := e7.out
    clear e7
    have hsz := hb.size
    have hzl : Hid (zs.length = k) := by
      have := congrArg List.length hzs.out
      show zs.length = k
      simpa [pk] using this
    have hzb : zs.length ≤ 40 := by have := hzl.out; omega
    by_cases hlt : k < M
    · have hlt' : (k : Int) < (M : Int) := by omega
      obtain ⟨p, hp⟩ : ∃ p : Nat, p = k * 1400 := ⟨_, rfl⟩
      obtain ⟨m, hm⟩ : ∃ m : Nat, m = ckL n k := ⟨_, rfl⟩
      have hpn : p + m ≤ n := by
        have h3 := hMp.out
        unfold pkN at h3
        unfold ckL at hm
        omega
      have hm14 : m ≤ 1400 := by unfold ckL at hm; omega
      have hm0 : m = 0 → k = 0 ∧ p = 0 := fun e => by
        have h3 := hMp.out
        unfold pkN at h3
        unfold ckL at hm
        omega
      have e1 : (k : Int) * 1400 = (p : Int) := by omega
      have e2 : min (n : Int) (p : Int) = (p : Int) := by omega
      have e3 : min (n : Int) ((p : Int) + 1400) = (p : Int) + (m : Int) := by
        have h3 := hMp.out
        unfold pkN at h3
        unfold ckL at hm
        omega
      have HX : Hid (pkX f n k = (if k = 0 then [(M : Int)] else []) ++ lst (sh f p) m) := by
        show pkX f n k = _
        unfold pkX
        rw [← hMp.out, hp, hm]
      have HK : Hid (∀ w2, Below wr.heap.size wr w2 → Calls Tryz.prog 23 #[.int .i64 (id : Int), .int .i64 (k : Int)] w2 fun e w' => e = .returned (.string ⟨(keyL id k).toArray⟩) ∧ Below wr.heap.size wr w' ∧ Below w2.heap.size w2 w') := fun w2 h2b => by
        refine (z_key id k h2 (by omega) w2).mono ?_
        rintro e w' ⟨rfl, hb'⟩
        exact ⟨rfl, h2b.trans (hb'.mono h2b.size), hb'⟩
      have HR : Hid (∀ w4, Below wr.heap.size wr w4 → ∀ o, (w4.alloc o).ownsRow w.heap.size 31 3 l zs.length (zs.flatMap Zc.cs)) := fun w4 h4 o => (hR.below (h4.alloc h4.size o)).row
      have HPs : Hid (∀ (w4 w5 : World) (v4 v5 : Value) (o : Obj), Below wr.heap.size wr w4 → Own w4 w.heap.size v4 (pkX f n k) → w5.ownsRow w.heap.size 31 3 v5 (zs.length + 1) (zs.flatMap Zc.cs ++ [.string ⟨(keyL id k).toArray⟩, v4, .bool false]) → (w4.alloc o).grownBy w5 l.ownBlock → ∃ zs', Rlc w5 w.heap.size v5 zs' ∧ Hid (zs'.map (fun z => (z.ky, z.xs)) = pk id f n (k + 1)) ∧ Below w.heap.size w w5) := fun w4 w5 v4 v5 o q1 q2 q3 q4 => by
        obtain ⟨r1, r2⟩ := Rlc.push ⟨keyL id k, v4, pkX f n k⟩ o hsz hR q1 q2 q3 q4
        refine ⟨_, r1, ?_, hb.trans r2⟩
        show List.map _ (zs ++ _) = _
        rw [List.map_append, hzs.out, pk_succ]
        rfl
      obtain ⟨al, cl, rfl⟩ := own_slice hR.row
      have hmo : Own (wr.alloc (.cells #[] 5)) wr.heap.size (.slice (some ⟨wr.heap.size, 0, none⟩) 0 0) [] := World.ownsRow_made wr #[] 0 (Nat.le_refl _) (Nat.zero_le _) rfl
      have hba : Below wr.heap.size wr (wr.alloc (.cells #[] 5)) := (Below.refl _ wr).alloc (Nat.le_refl _) _
      have HB : Hid (Below wr.heap.size wr (wr.alloc (.cells #[] 5))) := hba
      have HF : Hid (From (wr.alloc (.cells #[] 5)) ao n f) := HFr.out.below (hb.trans (hba.mono hsz)) (Nat.le_refl _)
      clear hp hR hzs hba hm
      cases ao with
      | none =>
        have hn0 : n = 0 := HA rfl
        obtain rfl : c = 0 := h0 rfl
        obtain rfl : p = 0 := by omega
        obtain rfl : m = 0 := by omega
        have e5 : min (n : Int) 0 = 0 := by omega
        have e6 : min (n : Int) 1400 = 0 := by omega
        clear hn0
        have hk0 : Hid (k = 0) := (hm0 rfl).1
        have hk9 : ((k : Int) == 0) = true := by simpa using hk0.out
        have e4 : (k : Int) * 1400 = 0 := by have := hk0.out; omega
        have HF2 : Hid (From (wr.alloc (.cells #[] 5)) none 0 (sh f 0)) := From.none0 _ _
        clear HF HA h0 HFr hm0 e1 e2 e3
        go_wp2_with (at_builtin; refine wpList_app rfl _ _ rfl wr.heap.size _ [] rfl hmo none 0 0 (sh f 0) rfl HF2.out ?q1b1 ?q2b1 ?q3b1 ?_)
        try (case q1b1 => first | (intro h; cases h) | trivial | (intro h; rfl))
        try (case q2b1 => simp; try omega)
        try (case q3b1 => simp)
        intro v1 w1 ho1 hb1
        try rw [List.nil_append] at ho1
        have hbw1 := HB.out.trans (hb1.mono (Nat.le_refl _))
        have hB1 := hbw1.size
        obtain ⟨a1, c1, rfl, hF1, hn1, _, _, _⟩ := ho1.open
        have hl1 : (lst (sh f 0) 0).length = 0 := lst_length _ _
        have hF1a := hF1.alloc (.cells #[.int .u8 (M : Int)] 5)
        have ho2 := own_one w1 wr.heap.size hB1 (M : Int)
        have hb1a : Below wr.heap.size wr (w1.alloc (.cells #[.int .u8 (M : Int)] 5)) := hbw1.alloc hbw1.size _
        have HL : Hid ((lst (sh f 0) 0).length = 0) := hl1
        have hM8 : (M : Int) % 256 = (M : Int) := by omega
        clear hl1 hF1 ho1 hb1 hbw1
        go_wp2_with (at_builtin; refine wpList_app rfl _ _ rfl wr.heap.size _ [(M : Int)] rfl ho2 a1 _ c1 (fn (lst (sh f 0) 0)) rfl hF1a ?q1b2 ?q2b2 ?q3b2 ?_)
        try (case q1b2 => first | exact hn1 | trivial)
        try (case q2b2 => rw [HL.out]; simp; try omega)
        try (case q3b2 => first | (rw [World.size_alloc]; omega) | (simp; omega))
        intro v3 w3 ho3 hb3
        rw [lst_fn] at ho3
        have ho3x : Own w3 wr.heap.size v3 (pkX f n k) := by rw [HX.out, if_pos hk0.out]; exact ho3
        have hbw3 := hb1a.trans (hb3.mono (Nat.le_refl _))
        obtain ⟨a3, m3, c3, rfl⟩ := own_sl ho3x
        clear hF1a ho2 ho3 hb3 hb1a
        go_wp2_with (first | (go_at_call 23; obtain HK1 := HK.out w3 hbw3; refine HK1.mono ?_; clear HK1; rintro e w4 ⟨rfl, hb4, hb4b⟩; have ho4 := (ho3x.below hb4b (Nat.le_refl _)).mono hsz) | (at_builtin; refine wpList_append_own _ rfl _ _ 26 rfl w.heap.size 31 i0 (.agg #[.string ⟨#[]⟩, .slice none 0 0, .bool false]) 3 48 Tryz.underlying26 hi0 hz0 hz1 hz2 rfl (by decide) _ zs.length (zs.flatMap Zc.cs) rfl (HR.out w4 hb4 _) ⟨w4.heap.size, 0, none⟩ 1 1 [.string ⟨(keyL id k).toArray⟩, .slice a3 m3 c3, .bool false] rfl rfl (cells_new _ _ _) ?q2b3 ?q3b3 ?q4b3 ?q5b3 ?_))
        try (case q2b3 => intro u hu; simp at hu; rcases hu with rfl | rfl | rfl <;> rfl)
        try (case q3b3 => unfold maxLen; omega)
        try (case q4b3 => omega)
        try (case q5b3 => have := hb4.size; rw [World.size_alloc]; omega)
        intro v5 w5 ho5 hg5 hnil5
        obtain ⟨a5, c5, rfl⟩ := own_slice ho5
        obtain ⟨zs2, r1, r2, r3⟩ := HPs.out w4 w5 _ _ _ hb4 ho4 ho5 hg5
        clear ho5 hg5 hnil5 ho4
        go_wp2
        go_roundw
        case rel => exact ⟨k + 1, zs2, _, rfl, by omega, by go_num, r1, r2, r3⟩
        case measure => simp [intOf]; omega
      | some x =>
        by_cases hcp : c = p
        · subst hcp
          obtain rfl : m = 0 := by omega
          have hk0 : Hid (k = 0) := (hm0 rfl).1
          have hk9 : ((k : Int) == 0) = true := by simpa using hk0.out
          have e4 : (k : Int) * 1400 = 0 := by have := hk0.out; omega
          obtain rfl : c = 0 := (hm0 rfl).2
          have HF2 : Hid (From (wr.alloc (.cells #[] 5)) (some x) 0 (sh f 0)) := From.some0 _ _ _
          have e5 : min (n : Int) 0 = 0 := by omega
          have e6 : min (n : Int) 1400 = 0 := by omega
          clear HF HA h0 HFr hm0 e1 e2 e3
          go_wp2_with (at_builtin; refine wpList_app rfl _ _ rfl wr.heap.size _ [] rfl hmo (some x) 0 0 (sh f 0) rfl HF2.out ?q1c1 ?q2c1 ?q3c1 ?_)
          try (case q1c1 => first | (intro h; cases h) | trivial | (intro h; rfl))
          try (case q2c1 => simp; try omega)
          try (case q3c1 => simp)
          intro v1 w1 ho1 hb1
          try rw [List.nil_append] at ho1
          have hbw1 := HB.out.trans (hb1.mono (Nat.le_refl _))
          have hB1 := hbw1.size
          obtain ⟨a1, c1, rfl, hF1, hn1, _, _, _⟩ := ho1.open
          have hl1 : (lst (sh f 0) 0).length = 0 := lst_length _ _
          have hF1a := hF1.alloc (.cells #[.int .u8 (M : Int)] 5)
          have ho2 := own_one w1 wr.heap.size hB1 (M : Int)
          have hb1a : Below wr.heap.size wr (w1.alloc (.cells #[.int .u8 (M : Int)] 5)) := hbw1.alloc hbw1.size _
          have HL : Hid ((lst (sh f 0) 0).length = 0) := hl1
          have hM8 : (M : Int) % 256 = (M : Int) := by omega
          clear hl1 hF1 ho1 hb1 hbw1
          go_wp2_with (at_builtin; refine wpList_app rfl _ _ rfl wr.heap.size _ [(M : Int)] rfl ho2 a1 _ c1 (fn (lst (sh f 0) 0)) rfl hF1a ?q1c2 ?q2c2 ?q3c2 ?_)
          try (case q1c2 => first | exact hn1 | trivial)
          try (case q2c2 => rw [HL.out]; simp; try omega)
          try (case q3c2 => first | (rw [World.size_alloc]; omega) | (simp; omega))
          intro v3 w3 ho3 hb3
          rw [lst_fn] at ho3
          have ho3x : Own w3 wr.heap.size v3 (pkX f n k) := by rw [HX.out, if_pos hk0.out]; exact ho3
          have hbw3 := hb1a.trans (hb3.mono (Nat.le_refl _))
          obtain ⟨a3, m3, c3, rfl⟩ := own_sl ho3x
          clear hF1a ho2 ho3 hb3 hb1a
          go_wp2_with (first | (go_at_call 23; obtain HK1 := HK.out w3 hbw3; refine HK1.mono ?_; clear HK1; rintro e w4 ⟨rfl, hb4, hb4b⟩; have ho4 := (ho3x.below hb4b (Nat.le_refl _)).mono hsz) | (at_builtin; refine wpList_append_own _ rfl _ _ 26 rfl w.heap.size 31 i0 (.agg #[.string ⟨#[]⟩, .slice none 0 0, .bool false]) 3 48 Tryz.underlying26 hi0 hz0 hz1 hz2 rfl (by decide) _ zs.length (zs.flatMap Zc.cs) rfl (HR.out w4 hb4 _) ⟨w4.heap.size, 0, none⟩ 1 1 [.string ⟨(keyL id k).toArray⟩, .slice a3 m3 c3, .bool false] rfl rfl (cells_new _ _ _) ?q2c3 ?q3c3 ?q4c3 ?q5c3 ?_))
          try (case q2c3 => intro u hu; simp at hu; rcases hu with rfl | rfl | rfl <;> rfl)
          try (case q3c3 => unfold maxLen; omega)
          try (case q4c3 => omega)
          try (case q5c3 => have := hb4.size; rw [World.size_alloc]; omega)
          intro v5 w5 ho5 hg5 hnil5
          obtain ⟨a5, c5, rfl⟩ := own_slice ho5
          obtain ⟨zs2, r1, r2, r3⟩ := HPs.out w4 w5 _ _ _ hb4 ho4 ho5 hg5
          clear ho5 hg5 hnil5 ho4
          go_wp2
          go_roundw
          case rel => exact ⟨k + 1, zs2, _, rfl, by omega, by go_num, r1, r2, r3⟩
          case measure => simp [intOf]; omega
        · have hpm : Hid (p + m - p = m) := Nat.add_sub_cancel_left ..
          have HF2 : Hid (From (wr.alloc (.cells #[] 5)) (some (x.add p)) (p + m - p) (sh f p)) := by rw [hpm.out]; exact HF.out.mid hpn
          clear HF HA h0 HFr hm0
          by_cases hk1 : k = 0
          · have hk0 : Hid (k = 0) := hk1
            have hk9 : ((k : Int) == 0) = true := by simpa using hk1
            clear hk1
            go_wp2_with (at_builtin; refine wpList_app rfl _ _ rfl wr.heap.size _ [] rfl hmo (some (x.add p)) (p + m - p) (c - p) (sh f p) rfl HF2.out ?q1d1 ?q2d1 ?q3d1 ?_)
            try (case q1d1 => first | (intro h; cases h) | trivial | (intro h; rfl))
            try (case q2d1 => simp; try omega)
            try (case q3d1 => simp)
            intro v1 w1 ho1 hb1
            try rw [List.nil_append] at ho1
            try rw [hpm.out] at ho1
            have hbw1 := HB.out.trans (hb1.mono (Nat.le_refl _))
            have hB1 := hbw1.size
            obtain ⟨a1, c1, rfl, hF1, hn1, _, _, _⟩ := ho1.open
            have hl1 : (lst (sh f p) m).length = m := lst_length _ _
            have hF1a := hF1.alloc (.cells #[.int .u8 (M : Int)] 5)
            have ho2 := own_one w1 wr.heap.size hB1 (M : Int)
            have hb1a : Below wr.heap.size wr (w1.alloc (.cells #[.int .u8 (M : Int)] 5)) := hbw1.alloc hbw1.size _
            have HL : Hid ((lst (sh f p) m).length = m) := hl1
            have hM8 : (M : Int) % 256 = (M : Int) := by omega
            clear hl1 hF1 ho1 hb1 hbw1
            go_wp2_with (at_builtin; refine wpList_app rfl _ _ rfl wr.heap.size _ [(M : Int)] rfl ho2 a1 _ c1 (fn (lst (sh f p) m)) rfl hF1a ?q1d2 ?q2d2 ?q3d2 ?_)
            try (case q1d2 => first | exact hn1 | trivial)
            try (case q2d2 => rw [HL.out]; simp; try omega)
            try (case q3d2 => first | (rw [World.size_alloc]; omega) | (simp; omega))
            intro v3 w3 ho3 hb3
            rw [lst_fn] at ho3
            have ho3x : Own w3 wr.heap.size v3 (pkX f n k) := by rw [HX.out, if_pos hk0.out]; exact ho3
            have hbw3 := hb1a.trans (hb3.mono (Nat.le_refl _))
            obtain ⟨a3, m3, c3, rfl⟩ := own_sl ho3x
            clear hF1a ho2 ho3 hb3 hb1a
            go_wp2_with (first | (go_at_call 23; obtain HK1 := HK.out w3 hbw3; refine HK1.mono ?_; clear HK1; rintro e w4 ⟨rfl, hb4, hb4b⟩; have ho4 := (ho3x.below hb4b (Nat.le_refl _)).mono hsz) | (at_builtin; refine wpList_append_own _ rfl _ _ 26 rfl w.heap.size 31 i0 (.agg #[.string ⟨#[]⟩, .slice none 0 0, .bool false]) 3 48 Tryz.underlying26 hi0 hz0 hz1 hz2 rfl (by decide) _ zs.length (zs.flatMap Zc.cs) rfl (HR.out w4 hb4 _) ⟨w4.heap.size, 0, none⟩ 1 1 [.string ⟨(keyL id k).toArray⟩, .slice a3 m3 c3, .bool false] rfl rfl (cells_new _ _ _) ?q2d3 ?q3d3 ?q4d3 ?q5d3 ?_))
            try (case q2d3 => intro u hu; simp at hu; rcases hu with rfl | rfl | rfl <;> rfl)
            try (case q3d3 => unfold maxLen; omega)
            try (case q4d3 => omega)
            try (case q5d3 => have := hb4.size; rw [World.size_alloc]; omega)
            intro v5 w5 ho5 hg5 hnil5
            obtain ⟨a5, c5, rfl⟩ := own_slice ho5
            obtain ⟨zs2, r1, r2, r3⟩ := HPs.out w4 w5 _ _ _ hb4 ho4 ho5 hg5
            clear ho5 hg5 hnil5 ho4
            go_wp2
            go_roundw
            case rel => exact ⟨k + 1, zs2, _, rfl, by omega, by go_num, r1, r2, r3⟩
            case measure => simp [intOf]; omega
          · have hk9 : ((k : Int) == 0) = false := by simpa using hk1
            go_wp2_with (at_builtin; refine wpList_app rfl _ _ rfl wr.heap.size _ [] rfl hmo (some (x.add p)) (p + m - p) (c - p) (sh f p) rfl HF2.out ?q1e1 ?q2e1 ?q3e1 ?_)
            try (case q1e1 => first | (intro h; cases h) | trivial | (intro h; rfl))
            try (case q2e1 => simp; try omega)
            try (case q3e1 => simp)
            intro v1 w1 ho1 hb1
            try rw [List.nil_append] at ho1
            try rw [hpm.out] at ho1
            have hbw1 := HB.out.trans (hb1.mono (Nat.le_refl _))
            have hB1 := hbw1.size
            have ho3x : Own w1 wr.heap.size v1 (pkX f n k) := by rw [HX.out, if_neg hk1, List.nil_append]; exact ho1
            obtain ⟨a3, m3, c3, rfl⟩ := own_sl ho3x
            clear ho1 hb1
            go_wp2_with (first | (go_at_call 23; obtain HK1 := HK.out w1 hbw1; refine HK1.mono ?_; clear HK1; rintro e w4 ⟨rfl, hb4, hb4b⟩; have ho4 := (ho3x.below hb4b (Nat.le_refl _)).mono hsz) | (at_builtin; refine wpList_append_own _ rfl _ _ 26 rfl w.heap.size 31 i0 (.agg #[.string ⟨#[]⟩, .slice none 0 0, .bool false]) 3 48 Tryz.underlying26 hi0 hz0 hz1 hz2 rfl (by decide) _ zs.length (zs.flatMap Zc.cs) rfl (HR.out w4 hb4 _) ⟨w4.heap.size, 0, none⟩ 1 1 [.string ⟨(keyL id k).toArray⟩, .slice a3 m3 c3, .bool false] rfl rfl (cells_new _ _ _) ?q2e2 ?q3e2 ?q4e2 ?q5e2 ?_))
            try (case q2e2 => intro u hu; simp at hu; rcases hu with rfl | rfl | rfl <;> rfl)
            try (case q3e2 => unfold maxLen; omega)
            try (case q4e2 => omega)
            try (case q5e2 => have := hb4.size; rw [World.size_alloc]; omega)
            intro v5 w5 ho5 hg5 hnil5
            obtain ⟨a5, c5, rfl⟩ := own_slice ho5
            obtain ⟨zs2, r1, r2, r3⟩ := HPs.out w4 w5 _ _ _ hb4 ho4 ho5 hg5
            clear ho5 hg5 hnil5 ho4
            go_wp2
            go_roundw
            case rel => exact ⟨k + 1, zs2, _, rfl, by omega, by go_num, r1, r2, r3⟩
            case measure => simp [intOf]; omega
    · obtain rfl : k = M := by omega
      have HE : Hid (Rlc wr w.heap.size l zs ∧ zs.map (fun z => (z.ky, z.xs)) = pk id f n (pkN n) ∧ Below w.heap.size w wr) := ⟨hR, by rw [hzs.out, ← hMp.out], hb⟩
      clear hR hzs hb
      go_wp2
      go_ret2
      exact ⟨_, zs, rfl, HE.out.1, HE.out.2.1, HE.out.2.2⟩
end Go.Proofs.YtdcclfnbpckioaaGreatDoor
