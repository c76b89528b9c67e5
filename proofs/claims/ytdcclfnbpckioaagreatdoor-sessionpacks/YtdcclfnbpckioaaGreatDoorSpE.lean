/-
  session.Pack: the changes that keep a session's bytes. Conditions: a session's number, at most 56000 bytes.
-/
import Derived.Test.YtdcclfnbpckioaaGreatDoorSpD
namespace Go.Proofs.YtdcclfnbpckioaaGreatDoor
open Go.RowKit Go.Shelf
set_option linter.unusedVariables false
set_option maxRecDepth 100000
set_option maxHeartbeats 2000000

/-- Ahead of Pack's loop: the row of pieces, and the head. -/
structure Pc (w W0 : World) (P M H n : Nat) (f : Nat → Int) : Prop where
  cell : ∀ i, i < M → ∃ a c, W0.cell? ⟨P, i, none⟩ = some (.slice a (ckL n i) c) ∧ From W0 a (ckL n i) (sh f (i * 1400)) ∧ (a = none → c = 0)
  head : From W0 (some ⟨H, 0, none⟩) 1 (fun _ => (M : Int))
  bel : Below w.heap.size w W0
theorem From.part {w : World} {ao : Option Addr} {g n p m : Nat} {f : Nat → Int} (h : From w ao n f) (he : ao = some ⟨g, 0, none⟩) (hp : p + m ≤ n) : From w (some ⟨g, p, none⟩) m (sh f p) := by
  subst he
  rcases h with ⟨h1, _⟩ | ⟨x, h1, h2⟩
  · cases h1
  · cases h1
    refine .inr ⟨_, rfl, fun i hi => ?_⟩
    have := h2 (p + i) (by omega)
    rw [Addr.add_lit] at this ⊢
    rw [Nat.zero_add] at this
    exact this
theorem own_sl {w : World} {B : Nat} {v : Value} {xs : List Int} (h : Own w B v xs) : ∃ a m c, v = .slice a m c := by
  obtain ⟨a, c, h, _⟩ := h.open
  exact ⟨a, _, c, h⟩
theorem cells_new (w : World) (cs : Array Value) (t : TypeId) : ∀ j u, cs.toList[j]? = some u → (w.alloc (.cells cs t)).cell? ((⟨w.heap.size, 0, none⟩ : Addr).add j) = some u := fun j u hu => by
  rw [Addr.add_lit, Nat.zero_add, cells_at (World.alloc_heap_new w _) j]
  simpa using hu
theorem j_pack (id : Nat) (h1 : 1 ≤ id) (h2 : id ≤ 9999) (ao : Option Addr) (n c : Nat) (f : Nat → Int) (w : World) (hn : n ≤ 56000) (hf : From w ao n f) (hc : n ≤ c) (hg : ∀ x, ao = some x → ∃ k, x = ⟨k, 0, none⟩) (ht : Lib.TabIs Tryz.prog w "internal/strconv.uint64pow10" .u64 Lib.pow10Tab) :
    Calls Tryz.prog 5 #[.int .i64 (id : Int), .slice ao n c] w fun e w' => ∃ v zs, e = .returned (.tuple #[v, .int .i64 0]) ∧ Rlc w' w.heap.size v zs ∧ zs.map (fun z => (z.ky, z.xs)) = pk id f n (pkN n) ∧ Below w.heap.size w w' := by
  obtain ⟨i0, hi0, hz0, hz1, hz2⟩ := info_parts infoC
  obtain ⟨g, hag⟩ : ∃ g, 0 < n → ao = some ⟨g, 0, none⟩ := by
    rcases hf with ⟨h3, h4⟩ | ⟨x, h3, _⟩
    · exact ⟨0, fun h => by omega⟩
    · obtain ⟨k, rfl⟩ := hg x h3
      exact ⟨k, fun _ => h3⟩
  obtain ⟨N, hN, hN2⟩ : ∃ N, n ≤ N * 1400 ∧ N * 1400 < n + 1400 := ⟨(n + 1399) / 1400, by omega, by omega⟩
  have hNd : Hid (N = (n + 1399) / 1400) := (by omega : N = (n + 1399) / 1400)
  have hN40 : N ≤ 40 := by omega
  obtain ⟨W1, hW1⟩ : ∃ W1, W1 = (w.alloc (.cells #[.slice ao n c] 22)).alloc (.cells #[.int .i64 1400] 3) := ⟨_, rfl⟩
  have hb1 : Below w.heap.size w W1 := by rw [hW1]; exact ((Below.refl _ w).alloc (Nat.le_refl _) _).alloc (by simp) _
  have hs1 : W1.heap.size = w.heap.size + 2 := by rw [hW1]; simp
  have k1 : W1.heap[w.heap.size]? = some (.cells #[.slice ao n c] 22 (0, 0)) := by
    rw [hW1, Below.heap_alloc _ _ _ (by rw [World.size_alloc]; omega)]
    exact World.alloc_heap_new w _
  have k2 : W1.heap[w.heap.size + 1]? = some (.cells #[.int .i64 1400] 3 (0, 0)) := by
    have := World.alloc_heap_new (w.alloc (.cells #[.slice ao n c] 22)) (.cells #[.int .i64 1400] 3)
    rw [World.size_alloc] at this
    rw [hW1]
    exact this
  have HC1 : Calls Tryz.prog 19 #[.slice ao n c, .int .i64 1400] w fun e w' => e = .returned (.func (.func 36) #[] #[.pointer (some ⟨w.heap.size, 0, none⟩), .pointer (some ⟨w.heap.size + 1, 0, none⟩)]) ∧ w' = W1 := by rw [hW1]; exact chunkC ao n c w
  have HC2 := collectC W1 w.heap.size (w.heap.size + 1) g n c N hN hN2 (by omega) hc ao hag (by omega) (by omega) (by rw [cells_at k1 0]; rfl) (by rw [cells_at k2 0]; rfl)
  have HI : Calls Tryz.prog 17 #[.int .i64 (id : Int)] w fun e w' => e = .returned (.bool true) ∧ w' = w := by
    refine (j_is (id : Int) w).mono ?_
    rintro e w' ⟨rfl, rfl⟩
    refine ⟨?_, rfl⟩
    congr 2
    simp
    omega
  have hn' : decide ((56000 : Int) < (n : Int)) = false := by simp; omega
  clear hW1 k1 k2
  by_cases hn0 : n = 0
  · subst hn0
    obtain rfl : N = 0 := by omega
    go_enter Tryz.func5, Tryz.ntmps5
    go_wp2_with (first | (go_at_call 18; refine HC2.mono ?_; rintro e w2 ⟨v, rfl, hrow, hb2⟩; obtain ⟨a3, c3, rfl⟩ := own_slice hrow) | (go_at_call 19; refine HC1.mono ?_; rintro e w1 ⟨rfl, hz⟩; rw [hz]; clear hz) | (go_at_call 17; refine HI.mono ?_; rintro e w1 ⟨rfl, hz⟩; rw [hz]; clear hz))
    obtain ⟨P, hP⟩ : ∃ P, P = w2.heap.size := ⟨_, rfl⟩
    obtain ⟨H, hH⟩ : ∃ H, H = w2.heap.size + 1 := ⟨_, rfl⟩
    have hMp : Hid (1 = pkN 0) := rfl
    have hck : ∀ k, 0 < k → k < 1 → 1 ≤ ckL 0 k := fun k _ hk => by omega
    have HPc : Hid (Pc w ((w2.alloc (.cells #[.slice none 0 0] 22)).alloc (.cells #[.int .u8 1] 5)) P 1 H 0 f) := by
      have hb3 : Below w.heap.size w w2 := hb1.trans (hb2.mono hb1.size)
      have hb4 := (hb3.alloc hb3.size (.cells #[.slice none 0 0] 22))
      refine ⟨fun i hi => ⟨none, 0, ?_, .inl ⟨rfl, by unfold ckL; omega⟩, fun _ => rfl⟩, ?_, hb4.alloc hb4.size _⟩
      · obtain rfl : i = 0 := by omega
        rw [hP, World.cell?_alloc_past (w := w2.alloc (.cells #[.slice none 0 0] 22)) _ _ _ (by rw [World.size_alloc]; omega)]
        exact cell_one_new w2 _ _ 0 _ rfl
      · refine .inr ⟨_, rfl, fun i hi => ?_⟩
        obtain rfl : i = 0 := by omega
        rw [hH]
        have := cell_one_new (w2.alloc (.cells #[.slice none 0 0] 22)) (.int .u8 1) 5 0 _ rfl
        rw [World.size_alloc] at this
        exact this
    have HH : H < ((w2.alloc (.cells #[.slice none 0 0] 22)).alloc (.cells #[.int .u8 1] 5)).heap.size := by rw [World.size_alloc, World.size_alloc, hH]; omega
    rw [← hH, ← hP]
    generalize (w2.alloc (.cells #[.slice none 0 0] 22)).alloc (.cells #[.int .u8 1] 5) = W0 at *
    clear hrow hb2 hH hP
    have hHs : H < W0.heap.size := HH
    go_loopw [7, 8, 30] (fun s7 s8 i wr => ∃ (k : Nat) (zs : List Zc) (hd l : Value), Hid (hd = s7) ∧ Hid (l = s8) ∧ k ≤ 1 ∧ i = .int .i64 (k : Int) ∧ ((k = 0 ∧ hd = .slice (some ⟨H, 0, none⟩) 1 1) ∨ (0 < k ∧ hd = .slice none 0 0)) ∧ Rlc wr W0.heap.size l zs ∧ Hid (zs.map (fun z => (z.ky, z.xs)) = pk id f 0 k) ∧ Below W0.heap.size W0 wr) (fun _ _ i _ => 1 - (intOf i).toNat)
    case atStart => exact ⟨0, [], _, _, rfl, rfl, Nat.zero_le _, rfl, .inl ⟨rfl, rfl⟩, Rlc.nil _ _, rfl, Below.refl _ _⟩
    case round =>
      obtain ⟨k, zs, hd, l, e7, e8, hk, rfl, hhd, hR, hzs, hb⟩ := hrel
      obtain rfl := e7.out
      obtain rfl := e8.out
      clear e7 e8
      have hsz := hb.size
      have hzl : Hid (zs.length = k) := by
        have := congrArg List.length hzs.out
        show zs.length = k
        simpa [pk] using this
      have hzb : zs.length ≤ 40 := by have := hzl.out; omega
      by_cases hlt : k < 1
      · have hlt' : (k : Int) < 1 := by omega
        obtain ⟨ap, cp, pc, pf, p0⟩ := HPc.out.cell k hlt
        have pc' : wr.cell? ⟨P, k, none⟩ = some (.slice ap (ckL 0 k) cp) := (hb.cell (p := ⟨P, k, none⟩) (World.block_lt_of_cell? W0 _ pc)).trans pc
        have HK := j_key id k h2 (by omega) wr (tab_below ht (HPc.out.bel.trans (hb.mono HPc.out.bel.size)))
        obtain ⟨ah, nh, ch, fh, rfl, hhF, hh0, hhl, hh1, hh2⟩ : ∃ ah nh ch fh, hd = .slice ah nh ch ∧ From W0 ah nh fh ∧ (ah = none → ch = 0) ∧ lst fh nh = (if k = 0 then [(pkN 0 : Int)] else []) ∧ nh ≤ 1 ∧ (k = 0 → nh = 1) := by
          rcases hhd with ⟨e1, e2⟩ | ⟨e1, e2⟩
          · exact ⟨_, _, _, _, e2, HPc.out.head, (fun e => by cases e), (by rw [if_pos e1, ← hMp.out]; rfl), Nat.le_refl _, fun _ => rfl⟩
          · exact ⟨none, 0, 0, fun _ => 0, e2, .inl ⟨rfl, rfl⟩, fun _ => rfl, (by rw [if_neg (by omega)]; rfl), (by omega), (fun e => by omega)⟩
        have HCc : Hid (∀ w3, Below wr.heap.size wr w3 → Calls Tryz.prog 21 #[.slice (some ⟨w3.heap.size, 0, none⟩) 2 2] (w3.alloc (.cells #[.slice ah nh ch, .slice ap (ckL 0 k) cp] 22)) fun e w' => ∃ v, e = .returned v ∧ Own w' W0.heap.size v (pkX f 0 k) ∧ Below wr.heap.size wr w') := fun w3 hb3 => by
          have hx : Below W0.heap.size W0 (w3.alloc (.cells #[.slice ah nh ch, .slice ap (ckL 0 k) cp] 22)) := hb.trans ((hb3.alloc hb3.size _).mono hsz)
          have hnew := World.alloc_heap_new w3 (.cells #[.slice ah nh ch, .slice ap (ckL 0 k) cp] 22)
          refine (concatB w3.heap.size ah ap nh ch (ckL 0 k) cp fh (sh f (k * 1400)) _ (by rw [cells_at hnew 0]; rfl) (by rw [cells_at hnew 1]; rfl) (hhF.below hx (Nat.le_refl _)) (pf.below hx (Nat.le_refl _)) hh0 p0 ?_ ?_).mono ?_
          · by_cases e : k = 0
            · have := hh2 e; omega
            · have := hck k (by omega) hlt; omega
          · have : ckL 0 k ≤ 1400 := by unfold ckL; omega
            omega
          · rintro e w' ⟨v, rfl, ho, hb'⟩
            have hs3 := hb3.size
            rw [hhl] at ho
            refine ⟨v, rfl, ho.mono (by rw [World.size_alloc]; omega), (hb3.alloc hb3.size _).trans (hb'.mono (by rw [World.size_alloc]; omega))⟩
        have HR : Hid (∀ w4, Below wr.heap.size wr w4 → ∀ o, (w4.alloc o).ownsRow W0.heap.size 31 3 l zs.length (zs.flatMap Zc.cs)) := fun w4 h4 o => (hR.below (h4.alloc h4.size o)).row
        have HPs : Hid (∀ (w4 w5 : World) (v4 v5 : Value) (o : Obj), Below wr.heap.size wr w4 → Own w4 W0.heap.size v4 (pkX f 0 k) → w5.ownsRow W0.heap.size 31 3 v5 (zs.length + 1) (zs.flatMap Zc.cs ++ [.string ⟨(keyL id k).toArray⟩, v4, .bool false]) → (w4.alloc o).grownBy w5 l.ownBlock → ∃ zs', Rlc w5 W0.heap.size v5 zs' ∧ Hid (zs'.map (fun z => (z.ky, z.xs)) = pk id f 0 (k + 1)) ∧ Below W0.heap.size W0 w5) := fun w4 w5 v4 v5 o q1 q2 q3 q4 => by
          obtain ⟨r1, r2⟩ := Rlc.push ⟨keyL id k, v4, pkX f 0 k⟩ o hsz hR q1 q2 q3 q4
          refine ⟨_, r1, ?_, hb.trans r2⟩
          show List.map _ (zs ++ _) = _
          rw [List.map_append, hzs.out, pk_succ]
          rfl
        obtain ⟨al, cl, rfl⟩ := own_slice hR.row
        clear hhF pf hhd hR hzs
        go_wp2_with (first | (go_at_call 21; refine (HCc.out w3 hb3).mono ?_; rintro e w4 ⟨v4, rfl, ho4, hb4⟩; obtain ⟨a4, m4, c4, rfl⟩ := own_sl ho4) | (go_at_call 20; refine HK.mono ?_; rintro e w3 ⟨rfl, hb3⟩) | (at_builtin; refine wpList_append_own _ rfl _ _ 26 rfl W0.heap.size 31 i0 (.agg #[.string ⟨#[]⟩, .slice none 0 0, .bool false]) 3 48 Tryz.underlying26 hi0 hz0 hz1 hz2 rfl (by decide) _ zs.length (zs.flatMap Zc.cs) rfl (HR.out w4 hb4 _) ⟨w4.heap.size, 0, none⟩ 1 1 [.string ⟨(keyL id k).toArray⟩, .slice a4 m4 c4, .bool false] rfl rfl (cells_new _ _ _) ?q2 ?q3 ?q4 ?q5 ?_))
        case q2 => intro u hu; simp at hu; rcases hu with rfl | rfl | rfl <;> rfl
        case q3 => unfold maxLen; omega
        case q4 => omega
        case q5 => have := hb4.size; rw [World.size_alloc]; omega
        intro v5 w5 ho5 hg5 hnil5
        obtain ⟨a5, c5, rfl⟩ := own_slice ho5
        obtain ⟨zs', r1, r2, r3⟩ := HPs.out w4 w5 _ _ _ hb4 ho4 ho5 hg5
        clear ho5 hg5 hnil5 ho4
        go_wp2
        go_roundw
        case rel => exact ⟨k + 1, zs', _, _, rfl, rfl, by omega, by go_num, .inr ⟨by omega, rfl⟩, r1, r2, r3⟩
        case measure => simp [intOf]; omega
      · obtain rfl : k = 1 := by omega
        have HE : Hid (Rlc wr w.heap.size l zs ∧ zs.map (fun z => (z.ky, z.xs)) = pk id f 0 (pkN 0) ∧ Below w.heap.size w wr) := ⟨hR.mono HPc.out.bel.size, by rw [hzs.out, ← hMp.out], HPc.out.bel.trans (hb.mono HPc.out.bel.size)⟩
        clear hR hzs hb hhd
        go_wp2
        go_ret2
        exact ⟨_, zs, rfl, HE.out.1, HE.out.2.1, HE.out.2.2⟩
  · have hN1 : ¬ (N = 0) := by omega
    have hN3 : ((N : Int) == 0) = false := by simpa using hN1
    go_enter Tryz.func5, Tryz.ntmps5
    go_wp2_with (first | (go_at_call 18; refine HC2.mono ?_; rintro e w2 ⟨v, rfl, hrow, hb2⟩; obtain ⟨a3, c3, rfl⟩ := own_slice hrow) | (go_at_call 19; refine HC1.mono ?_; rintro e w1 ⟨rfl, hz⟩; rw [hz]; clear hz) | (go_at_call 17; refine HI.mono ?_; rintro e w1 ⟨rfl, hz⟩; rw [hz]; clear hz))
    obtain ⟨P, hP⟩ : ∃ P, a3 = some ⟨P, 0, none⟩ := by
      rcases hrow.2 with ⟨e1, e2⟩ | ⟨P, _, _, e1, _⟩
      · omega
      · injection e1 with e1
        exact ⟨P, e1⟩
    subst hP
    obtain ⟨H, hH⟩ : ∃ H, H = w2.heap.size := ⟨_, rfl⟩
    have hMp : Hid (N = pkN n) := (by unfold pkN; have := hNd.out; omega : N = pkN n)
    have hck : ∀ k, 0 < k → k < N → 1 ≤ ckL n k := fun k _ hk => by unfold ckL; omega
    have HPc : Hid (Pc w (w2.alloc (.cells #[.int .u8 (N : Int)] 5)) P N H n f) := by
      have hb3 : Below w.heap.size w w2 := hb1.trans (hb2.mono hb1.size)
      refine ⟨fun i hi => ⟨some ⟨g, i * 1400, none⟩, ckL n i, ?_, ?_, fun e => by cases e⟩, ?_, hb3.alloc hb3.size _⟩
      · have hcell := hrow.cellAt i (by omega)
        rw [List.getElem?_map, cks_get N N (Nat.le_refl _) i hi] at hcell
        rw [World.cell?_alloc_past (w := w2) _ P i (World.block_lt_of_cell? w2 _ hcell)]
        exact hcell
      · have := (hf.below (hb3.alloc hb3.size (.cells #[.int .u8 (N : Int)] 5)) (Nat.le_refl _)).part (p := i * 1400) (m := ckL n i) (hag (by omega)) (by unfold ckL; omega)
        exact this
      · refine .inr ⟨_, rfl, fun i hi => ?_⟩
        obtain rfl : i = 0 := by omega
        rw [hH]
        exact cell_one_new _ _ _ 0 _ rfl
    have HH : H < (w2.alloc (.cells #[.int .u8 (N : Int)] 5)).heap.size := by rw [World.size_alloc, hH]; omega
    rw [← hH]
    generalize w2.alloc (.cells #[.int .u8 (N : Int)] 5) = W0 at *
    clear hrow hb2 hH
    have hHs : H < W0.heap.size := HH
    go_loopw [7, 8, 30] (fun s7 s8 i wr => ∃ (k : Nat) (zs : List Zc) (hd l : Value), Hid (hd = s7) ∧ Hid (l = s8) ∧ k ≤ N ∧ i = .int .i64 (k : Int) ∧ ((k = 0 ∧ hd = .slice (some ⟨H, 0, none⟩) 1 1) ∨ (0 < k ∧ hd = .slice none 0 0)) ∧ Rlc wr W0.heap.size l zs ∧ Hid (zs.map (fun z => (z.ky, z.xs)) = pk id f n k) ∧ Below W0.heap.size W0 wr) (fun _ _ i _ => N - (intOf i).toNat)
    case atStart => exact ⟨0, [], _, _, rfl, rfl, Nat.zero_le _, rfl, .inl ⟨rfl, rfl⟩, Rlc.nil _ _, rfl, Below.refl _ _⟩
    case round =>
      obtain ⟨k, zs, hd, l, e7, e8, hk, rfl, hhd, hR, hzs, hb⟩ := hrel
      obtain rfl := e7.out
      obtain rfl := e8.out
      clear e7 e8
      have hsz := hb.size
      have hzl : Hid (zs.length = k) := by
        have := congrArg List.length hzs.out
        show zs.length = k
        simpa [pk] using this
      have hzb : zs.length ≤ 40 := by have := hzl.out; omega
      by_cases hlt : k < N
      · have hlt' : (k : Int) < (N : Int) := by omega
        obtain ⟨ap, cp, pc, pf, p0⟩ := HPc.out.cell k hlt
        have pc' : wr.cell? ⟨P, k, none⟩ = some (.slice ap (ckL n k) cp) := (hb.cell (p := ⟨P, k, none⟩) (World.block_lt_of_cell? W0 _ pc)).trans pc
        have HK := j_key id k h2 (by omega) wr (tab_below ht (HPc.out.bel.trans (hb.mono HPc.out.bel.size)))
        obtain ⟨ah, nh, ch, fh, rfl, hhF, hh0, hhl, hh1, hh2⟩ : ∃ ah nh ch fh, hd = .slice ah nh ch ∧ From W0 ah nh fh ∧ (ah = none → ch = 0) ∧ lst fh nh = (if k = 0 then [(pkN n : Int)] else []) ∧ nh ≤ 1 ∧ (k = 0 → nh = 1) := by
          rcases hhd with ⟨e1, e2⟩ | ⟨e1, e2⟩
          · exact ⟨_, _, _, _, e2, HPc.out.head, (fun e => by cases e), (by rw [if_pos e1, ← hMp.out]; rfl), Nat.le_refl _, fun _ => rfl⟩
          · exact ⟨none, 0, 0, fun _ => 0, e2, .inl ⟨rfl, rfl⟩, fun _ => rfl, (by rw [if_neg (by omega)]; rfl), (by omega), (fun e => by omega)⟩
        have HCc : Hid (∀ w3, Below wr.heap.size wr w3 → Calls Tryz.prog 21 #[.slice (some ⟨w3.heap.size, 0, none⟩) 2 2] (w3.alloc (.cells #[.slice ah nh ch, .slice ap (ckL n k) cp] 22)) fun e w' => ∃ v, e = .returned v ∧ Own w' W0.heap.size v (pkX f n k) ∧ Below wr.heap.size wr w') := fun w3 hb3 => by
          have hx : Below W0.heap.size W0 (w3.alloc (.cells #[.slice ah nh ch, .slice ap (ckL n k) cp] 22)) := hb.trans ((hb3.alloc hb3.size _).mono hsz)
          have hnew := World.alloc_heap_new w3 (.cells #[.slice ah nh ch, .slice ap (ckL n k) cp] 22)
          refine (concatB w3.heap.size ah ap nh ch (ckL n k) cp fh (sh f (k * 1400)) _ (by rw [cells_at hnew 0]; rfl) (by rw [cells_at hnew 1]; rfl) (hhF.below hx (Nat.le_refl _)) (pf.below hx (Nat.le_refl _)) hh0 p0 ?_ ?_).mono ?_
          · by_cases e : k = 0
            · have := hh2 e; omega
            · have := hck k (by omega) hlt; omega
          · have : ckL n k ≤ 1400 := by unfold ckL; omega
            omega
          · rintro e w' ⟨v, rfl, ho, hb'⟩
            have hs3 := hb3.size
            rw [hhl] at ho
            refine ⟨v, rfl, ho.mono (by rw [World.size_alloc]; omega), (hb3.alloc hb3.size _).trans (hb'.mono (by rw [World.size_alloc]; omega))⟩
        have HR : Hid (∀ w4, Below wr.heap.size wr w4 → ∀ o, (w4.alloc o).ownsRow W0.heap.size 31 3 l zs.length (zs.flatMap Zc.cs)) := fun w4 h4 o => (hR.below (h4.alloc h4.size o)).row
        have HPs : Hid (∀ (w4 w5 : World) (v4 v5 : Value) (o : Obj), Below wr.heap.size wr w4 → Own w4 W0.heap.size v4 (pkX f n k) → w5.ownsRow W0.heap.size 31 3 v5 (zs.length + 1) (zs.flatMap Zc.cs ++ [.string ⟨(keyL id k).toArray⟩, v4, .bool false]) → (w4.alloc o).grownBy w5 l.ownBlock → ∃ zs', Rlc w5 W0.heap.size v5 zs' ∧ Hid (zs'.map (fun z => (z.ky, z.xs)) = pk id f n (k + 1)) ∧ Below W0.heap.size W0 w5) := fun w4 w5 v4 v5 o q1 q2 q3 q4 => by
          obtain ⟨r1, r2⟩ := Rlc.push ⟨keyL id k, v4, pkX f n k⟩ o hsz hR q1 q2 q3 q4
          refine ⟨_, r1, ?_, hb.trans r2⟩
          show List.map _ (zs ++ _) = _
          rw [List.map_append, hzs.out, pk_succ]
          rfl
        obtain ⟨al, cl, rfl⟩ := own_slice hR.row
        clear hhF pf hhd hR hzs
        go_wp2_with (first | (go_at_call 21; refine (HCc.out w3 hb3).mono ?_; rintro e w4 ⟨v4, rfl, ho4, hb4⟩; obtain ⟨a4, m4, c4, rfl⟩ := own_sl ho4) | (go_at_call 20; refine HK.mono ?_; rintro e w3 ⟨rfl, hb3⟩) | (at_builtin; refine wpList_append_own _ rfl _ _ 26 rfl W0.heap.size 31 i0 (.agg #[.string ⟨#[]⟩, .slice none 0 0, .bool false]) 3 48 Tryz.underlying26 hi0 hz0 hz1 hz2 rfl (by decide) _ zs.length (zs.flatMap Zc.cs) rfl (HR.out w4 hb4 _) ⟨w4.heap.size, 0, none⟩ 1 1 [.string ⟨(keyL id k).toArray⟩, .slice a4 m4 c4, .bool false] rfl rfl (cells_new _ _ _) ?q2 ?q3 ?q4 ?q5 ?_))
        case q2 => intro u hu; simp at hu; rcases hu with rfl | rfl | rfl <;> rfl
        case q3 => unfold maxLen; omega
        case q4 => omega
        case q5 => have := hb4.size; rw [World.size_alloc]; omega
        intro v5 w5 ho5 hg5 hnil5
        obtain ⟨a5, c5, rfl⟩ := own_slice ho5
        obtain ⟨zs', r1, r2, r3⟩ := HPs.out w4 w5 _ _ _ hb4 ho4 ho5 hg5
        clear ho5 hg5 hnil5 ho4
        go_wp2
        go_roundw
        case rel => exact ⟨k + 1, zs', _, _, rfl, rfl, by omega, by go_num, .inr ⟨by omega, rfl⟩, r1, r2, r3⟩
        case measure => simp [intOf]; omega
      · obtain rfl : k = N := by omega
        have HE : Hid (Rlc wr w.heap.size l zs ∧ zs.map (fun z => (z.ky, z.xs)) = pk id f n (pkN n) ∧ Below w.heap.size w wr) := ⟨hR.mono HPc.out.bel.size, by rw [hzs.out, ← hMp.out], HPc.out.bel.trans (hb.mono HPc.out.bel.size)⟩
        clear hR hzs hb hhd
        go_wp2
        go_ret2
        exact ⟨_, zs, rfl, HE.out.1, HE.out.2.1, HE.out.2.2⟩
end Go.Proofs.YtdcclfnbpckioaaGreatDoor
