/-
  Contract of the law's own Mixed: an image each of whose sectors is that of either image. Condition: both have the same number of sectors, at most 4096, of 128 bytes.
-/
import Derived.Test.YtmjoklppibfdmaaDoorLogEq
namespace Go.Proofs.YtmjoklppibfdmaaDoor
open Go.RowKit
set_option linter.unusedVariables false

theorem row_setAt {w : World} {B g n cap : Nat} {e : TypeId} {xs : List Value} (h : w.ownsRow B e 1 (.slice (some ⟨g, 0, none⟩) n cap) n xs) (j : Nat) (hj : j < n) (u : Value) :
    (w.setCell ⟨g, j, none⟩ u).ownsRow B e 1 (.slice (some ⟨g, 0, none⟩) n cap) n (xs.set j u) := by
  refine ⟨by simpa using h.1, .inr ?_⟩
  rcases h.2 with ⟨h1, _⟩ | ⟨g', cap', cur, h1, h2, h3, h4, h5, h6, h7⟩
  · cases h1
  · cases h1
    refine ⟨g, cap, _, rfl, h2, heap_setCell_same w g j cur e _ h3, h4, h5, by simpa using h6, ?_⟩
    apply List.ext_getElem?
    intro i
    have h8 := congrArg (fun l : List Value => l[i]?) h7
    simp only [Nat.mul_one, List.getElem?_take, Array.toList_setIfInBounds, List.getElem?_set] at h8 ⊢
    by_cases hi : i < n
    · rw [if_pos hi] at h8 ⊢
      have hc : i < cur.size := by rw [h6]; omega
      have hx : i < xs.length := by have := h.1; omega
      by_cases e : j = i
      · subst e
        simp [hc, hx]
      · simp [e]
        simpa using h8
    · have hx : ¬ i < xs.length := by have := h.1; omega
      rw [if_neg hi]
      by_cases e : j = i
      · subst e
        simp [hx]
      · simp [e]
        omega
theorem gL_set (n : Nat) (A : Nat → Option Addr) (L C : Nat → Nat) (i : Nat) (a : Option Addr) (c : Nat) : (gL n A L C).set i (.slice a (L i) c) = gL n (fun j => if j = i then a else A j) L (fun j => if j = i then c else C j) := by
  apply List.ext_getElem?
  intro j
  rw [List.getElem?_set]
  by_cases hj : j < n
  · rw [gL_get _ _ _ _ j hj, gL_get _ _ _ _ j hj]
    by_cases e : i = j
    · subst e
      rw [if_pos rfl, if_pos (by simp [gL]; exact hj), if_pos rfl, if_pos rfl]
    · rw [if_neg e, if_neg (fun h => e h.symm), if_neg (fun h => e h.symm)]
  · have l1 : ∀ A C, (gL n A L C).length = n := fun A C => by simp [gL]
    by_cases e : i = j
    · subst e
      rw [if_pos rfl, if_neg (by rw [l1]; exact hj), List.getElem?_eq_none (by rw [l1]; omega)]
    · rw [if_neg e, List.getElem?_eq_none (by rw [l1]; omega), List.getElem?_eq_none (by rw [l1]; omega)]
theorem MineG.set {w w2 : World} {B g n c : Nat} {A : Nat → Option Addr} {L C : Nat → Nat} {f : Nat → Nat → Int} (h : MineG w B (.slice (some ⟨g, 0, none⟩) n c) n A L C f) (hB : B ≤ w.heap.size) (i : Nat) (hi : i < n) (hb : Below w.heap.size w w2) {a1 : Option Addr} {c1 : Nat} {f1 : Nat → Int} (ho : Own w2 w.heap.size (.slice a1 (L i) c1) (lst f1 (L i))) :
    MineG (w2.setCell ⟨g, i, none⟩ (.slice a1 (L i) c1)) B (.slice (some ⟨g, 0, none⟩) n c) n (fun j => if j = i then a1 else A j) L (fun j => if j = i then c1 else C j) (fun j => if j = i then f1 else f j) := by
  have hp : Part (fun _ => False) w w2 := Part.ofBelow hb
  have h2 : w2.ownsRow B 34 1 (.slice (some ⟨g, 0, none⟩) n c) n (gL n A L C) := hp.row h.own (fun _ _ h => h)
  have hgl : g < w.heap.size := (World.ownsRow.lt h.own g rfl).2
  refine ⟨by rw [← gL_set]; exact row_setAt h2 i hi _, fun j hj => ?_⟩
  by_cases e : j = i
  · subst e
    simp only [if_true]
    have : Own (w2.setCell ⟨g, j, none⟩ (.slice a1 (L j) c1)) w.heap.size (.slice a1 (L j) c1) (lst f1 (L j)) := row_set ho (fun hk => by have := (World.ownsRow.lt ho g hk).1; omega) j _
    exact this.mono hB
  · simp only [if_neg e]
    have ho2 : Own w2 B (.slice (A j) (L j) (C j)) (lst (f j) (L j)) := hp.row (h.each j hj) (fun _ _ h => h)
    exact row_set ho2 (fun hk => by
      obtain ⟨c3, k3⟩ := row_block h2 (k := g) rfl
      obtain ⟨c4, k4⟩ := row_block ho2 hk
      exact two_types k4 k3 (by decide) rfl) i _
theorem MineG.below {w w' : World} {B : Nat} {v : Value} {k : Nat} {A : Nat → Option Addr} {L C : Nat → Nat} {f : Nat → Nat → Int} (h : MineG w B v k A L C f) (hb : Below w.heap.size w w') : MineG w' B v k A L C f :=
  ⟨Part.row (F := fun _ => False) (Part.ofBelow hb) h.own (fun _ _ h => h), fun j hj => (h.each j hj).below hb (Nat.le_refl _)⟩

set_option maxRecDepth 100000 in
set_option maxHeartbeats 2000000 in
theorem plImageM (a0 : Option Addr) (N c0 : Nat) (A : Nat → Option Addr) (L C : Nat → Nat) (f : Nat → Nat → Int) (w : World) (h : Img w a0 N A L C f) (hN : N ≤ 1048576) (hL : ∀ i, i < N → L i ≤ 1048576) :
    Calls Tryd.prog 29 #[.slice a0 N c0] w fun e w' => ∃ ag cg A' C', e = .returned (.slice ag N cg) ∧ Hid (MineG w' w.heap.size (.slice ag N cg) N A' L C' f) ∧ (N ≤ cg ∧ cg ≤ 9223372036854775807) ∧ Below w.heap.size w w' := by
  obtain ⟨i0, hi0, hz0, hz1, hz2⟩ := info_parts infoB
  have H : Hid (∀ wq, Below w.heap.size w wq → Img wq a0 N A L C f) := fun wq hq => h.below hq
  have H0 : Hid (MineG w w.heap.size (.slice none 0 0) 0 A L C f) := ⟨World.ownsRow_nil _ _ _ _, fun j hj => by omega⟩
  have HLn : Hid (∀ i, i < N → L i ≤ 1048576) := hL
  clear h hL
  go_enter Tryd.func29, Tryd.ntmps29
  go_wp2
  go_loopw [3, 8] (fun out i wr => ∃ (k : Nat) (A' : Nat → Option Addr) (C' : Nat → Nat), k ≤ N ∧ i = .int .i64 (k : Int) ∧ MineG wr w.heap.size out k A' L C' f ∧ Below w.heap.size w wr) (fun _ i _ => N - (intOf i).toNat)
  case atStart => exact ⟨0, _, _, Nat.zero_le _, rfl, H0.out, Below.refl _ _⟩
  case round =>
    obtain ⟨k, A', C', hk, rfl, hmi, hb⟩ := hrel
    have hs := hb.size
    have HMi : Hid (MineG wr w.heap.size u3 k A' L C' f) := hmi
    clear hmi
    by_cases hlt : k < N
    · have hlt' : (k : Int) < (N : Int) := by omega
      have hk0 : (0 : Int) ≤ (k : Int) := by omega
      obtain ⟨b, off, rfl, p1, p2, p3⟩ := H.out wr hb k hlt
      have HF : Hid (From wr (A k) (L k) (f k)) := p2
      have hLk := HLn.out k hlt
      clear p2 p3
      go_wp2_with fail
      refine (clone (A k) (L k) (C k) (f k) wr (by omega) HF.out).mono ?_
      rintro e w1 ⟨v1, rfl, ho1, hb1⟩
      obtain ⟨a1, c1, rfl, _, _⟩ := own_any ho1
      have HO1 : Hid (Own w1 wr.heap.size (.slice a1 (L k) c1) (lst (f k) (L k))) := ho1
      have hs1 := hb1.size
      have HRw : Hid ((w1.alloc (.cells #[.slice a1 (L k) c1] 34)).ownsRow w.heap.size 34 1 u3 k (gL k A' L C')) := World.ownsRow.alloc (Part.row (F := fun _ => False) (Part.ofBelow hb1) HMi.out.own (fun _ _ h => h)) _
      have HCe : Hid ((w1.alloc (.cells #[.slice a1 (L k) c1] 34)).cell? ⟨w1.heap.size, 0, none⟩ = some (.slice a1 (L k) c1)) := (by rw [World.cell?_alloc_at _ _ _ _ rfl]; rfl : (w1.alloc (.cells #[.slice a1 (L k) c1] 34)).cell? ⟨w1.heap.size, 0, none⟩ = some (.slice a1 (L k) c1))
      have HSz : Hid (w.heap.size ≤ (w1.alloc (.cells #[.slice a1 (L k) c1] 34)).heap.size) := (by simp; omega : w.heap.size ≤ (w1.alloc (.cells #[.slice a1 (L k) c1] 34)).heap.size)
      have HNx : Hid (∀ v2 w2, w2.ownsRow w.heap.size 34 1 v2 (k + 1) (gL k A' L C' ++ [.slice a1 (L k) c1]) → (w1.alloc (.cells #[.slice a1 (L k) c1] 34)).grownBy w2 u3.ownBlock → MineG w2 w.heap.size v2 (k + 1) (fun j => if j = k then a1 else A' j) L (fun j => if j = k then c1 else C' j) f ∧ Below w.heap.size w w2) := fun v2 w2 h2 hg2 =>
        ⟨HMi.out.snoc hb1 hs HO1.out _ h2 hg2, ((hb.trans (hb1.mono hs)).alloc (by omega) _).grown hg2 HSz.out (fun q hq => (World.ownsRow.lt HMi.out.own q hq).1)⟩
      clear ho1 hb1
      go_wp2_with (at_builtin; refine wpList_append_own _ rfl _ _ 22 rfl w.heap.size 34 i0 (.slice none 0 0) 1 24 Tryd.underlying22 hi0 hz0 hz1 hz2 rfl (by decide) u3 k (gL k A' L C') rfl HRw.out ⟨w1.heap.size, 0, none⟩ 1 1 [.slice a1 (L k) c1] rfl rfl ?q1 ?q2 ?q3 ?q4 HSz.out ?_)
      case q1 =>
        intro j u hj
        have hj0 : j = 0 := by
          have := (List.getElem?_eq_some_iff.1 hj).1
          simp at this
          omega
        subst hj0
        rw [Addr.add_lit, Nat.zero_add, HCe.out]
        simpa using hj
      case q2 =>
        intro u hu
        simp at hu
        rw [hu]
        rfl
      case q3 => unfold maxLen; omega
      case q4 => omega
      intro v2 w2 ho2 hg2 _
      obtain ⟨z1, z2⟩ := HNx.out v2 w2 ho2 hg2
      have HZ : Hid (MineG w2 w.heap.size v2 (k + 1) (fun j => if j = k then a1 else A' j) L (fun j => if j = k then c1 else C' j) f) := z1
      clear z1 ho2 hg2
      go_wp2
      go_roundw
      case rel => exact ⟨k + 1, _, _, by omega, by go_num, HZ.out, z2⟩
      case measure => simp [intOf]; omega
    · obtain rfl : k = N := by omega
      obtain ⟨ag, cg, rfl⟩ : ∃ ag cg, u3 = .slice ag k cg := by
        rcases HMi.out.own.2 with ⟨rfl, h0⟩ | ⟨g, cap, cur, rfl, _⟩
        · rw [h0]; exact ⟨none, 0, rfl⟩
        · exact ⟨_, cap, rfl⟩
      have hcap : k ≤ cg ∧ cg ≤ 9223372036854775807 := by
        rcases HMi.out.own.2 with ⟨e, h0⟩ | ⟨g, cap, cur, e, _, _, e1, e2, _⟩
        · injection e with _ _ e3
          omega
        · injection e with _ _ e3
          have : maxLen = 9223372036854775807 := rfl
          omega
      go_wp2
      go_ret
      exact ⟨ag, cg, A', C', rfl, HMi, hcap, hb⟩

set_option maxRecDepth 100000 in
set_option maxHeartbeats 2000000 in
theorem mixedC (a b : Option Addr) (n ca cb : Nat) (A1 A2 : Nat → Option Addr) (C1 C2 : Nat → Nat) (fa fb : Nat → Nat → Int) (mask : Int) (w : World) (n1 : 1 ≤ n) (n2 : n ≤ 4096) (h1 : Img w a n A1 (fun _ => 128) C1 fa) (h2 : Img w b n A2 (fun _ => 128) C2 fb) (ha : ∀ i j, 0 ≤ fa i j ∧ fa i j ≤ 255) (hb : ∀ i j, 0 ≤ fb i j ∧ fb i j ≤ 255) (hm : 0 ≤ mask ∧ mask ≤ 18446744073709551615) :
    Calls Tryd.prog 24 #[.slice a n ca, .slice b n cb, .int .u64 mask] w fun r w' => ∃ ag cg A' C' h, r = .returned (.slice ag n cg) ∧ Hid (Img w' ag n A' (fun _ => 128) C' h) ∧ n ≤ cg ∧ Hid (∀ i, h i = fa i ∨ h i = fb i) ∧ Below w.heap.size w w' := by
  have CI := plImageM a n ca A1 (fun _ => 128) C1 fa w h1 (by omega) (fun i hi => by omega)
  have H1 : Hid (∀ wq, Below w.heap.size w wq → Img wq a n A1 (fun _ => 128) C1 fa) := fun wq hq => h1.below hq
  have H2 : Hid (∀ wq, Below w.heap.size w wq → Img wq b n A2 (fun _ => 128) C2 fb) := fun wq hq => h2.below hq
  have HBy : Hid ((∀ i j, 0 ≤ fa i j ∧ fa i j ≤ 255) ∧ ∀ i j, 0 ≤ fb i j ∧ fb i j ≤ 255) := ⟨ha, hb⟩
  obtain ⟨m0, m1⟩ := hm
  clear h1 h2 ha hb
  go_enter Tryd.func24, Tryd.ntmps24
  go_wp2_with fail
  refine CI.mono ?_
  rintro r w1 ⟨ag, cg, A', C', rfl, HM, hcg, b1⟩
  obtain ⟨g, cg', ev, _⟩ := row_some HM.out.own (by omega)
  cases ev
  clear CI
  go_wp2
  go_loopw [8, 14] (fun s8 s14 wr => ∃ (i k : Nat) (A9 : Nat → Option Addr) (C9 : Nat → Nat) (h : Nat → Nat → Int), i ≤ n ∧ k ≤ i ∧ s14 = .int .i64 (i : Int) ∧ s8 = .int .i64 (k : Int) ∧ Hid (MineG wr w.heap.size (.slice (some ⟨g, 0, none⟩) n cg) n A9 (fun _ => 128) C9 h) ∧ Hid (∀ i, h i = fa i ∨ h i = fb i) ∧ Below w.heap.size w wr) (fun _ i _ => n - (intOf i).toNat)
  case atStart => exact ⟨0, 0, A', C', fa, Nat.zero_le _, Nat.le_refl _, rfl, rfl, HM, fun i => .inl rfl, b1⟩
  case round =>
    obtain ⟨i, k, A9, C9, h, hi, hki, rfl, rfl, HMr, HHr, hbr⟩ := hrel
    have sb := hbr.size
    by_cases hlt : i < n
    · have hlt' : (i : Int) < (n : Int) := by omega
      have hi0 : (0 : Int) ≤ (i : Int) := by omega
      have hk0 : (0 : Int) ≤ (k : Int) := by omega
      have hk1 : (k : Int) ≤ 4096 := by omega
      obtain ⟨b3, o3, rfl, p1, p2, _⟩ := H1.out wr hbr i hlt
      obtain ⟨b4, o4, rfl, q1, q2, _⟩ := H2.out wr hbr i hlt
      have HD : Hid (∀ q, MineG (wr.drewN q) w.heap.size (.slice (some ⟨g, 0, none⟩) n cg) n A9 (fun _ => 128) C9 h ∧ Below w.heap.size w (wr.drewN q)) := fun q => ⟨HMr.out.below (blw_drewN q (Below.refl _ _)), blw_drewN q hbr⟩
      by_cases he : lst (fa i) 128 = lst (fb i) 128
      · have CE : Hid (∀ q, Calls Tryd.prog 21 #[.slice (A1 i) 128 (C1 i), .slice (A2 i) 128 (C2 i)] (wr.drewN q) fun e w' => e = .returned (.bool true) ∧ w' = wr.drewN q) := fun q => equal_yes (A1 i) (A2 i) 128 (C1 i) 128 (C2 i) (fa i) (fb i) _ (p2.below (blw_drewN q (Below.refl wr.heap.size wr)) (Nat.le_refl _)) (q2.below (blw_drewN q (Below.refl wr.heap.size wr)) (Nat.le_refl _)) he
        clear p2 q2 he
        go_wp2_with fail
        go_quiet ((go_at_call 21; exact Calls.quiet_of_same (CE.out _)))
        go_wp2
        go_roundw
        case rel => exact ⟨i + 1, k, A9, C9, h, by omega, by omega, by go_num, rfl, (HD.out _).1, HHr, (HD.out _).2⟩
        case measure => simp [intOf]; omega
      · have CE : Hid (∀ q, Calls Tryd.prog 21 #[.slice (A1 i) 128 (C1 i), .slice (A2 i) 128 (C2 i)] (wr.drewN q) fun e w' => e = .returned (.bool false) ∧ w' = wr.drewN q) := fun q => equal_no (A1 i) (A2 i) 128 (C1 i) 128 (C2 i) (fa i) (fb i) _ (p2.below (blw_drewN q (Below.refl wr.heap.size wr)) (Nat.le_refl _)) (q2.below (blw_drewN q (Below.refl wr.heap.size wr)) (Nat.le_refl _)) (HBy.out.1 i) (HBy.out.2 i) he
        have hgB : w.heap.size ≤ g := (World.ownsRow.lt HMr.out.own g rfl).1
        have HCl : Hid (∀ q, Calls Tryd.prog 34 #[.slice (A2 i) 128 (C2 i)] (wr.drewN q) fun e w5 => ∃ a1 c1 u, e = .returned (.slice a1 128 c1) ∧ w5.cell? ⟨g, i, none⟩ = some u ∧ w5.frozen? ⟨g, i, none⟩ = false ∧ Hid (MineG (w5.setCell ⟨g, i, none⟩ (.slice a1 128 c1)) w.heap.size (.slice (some ⟨g, 0, none⟩) n cg) n (fun j => if j = i then a1 else A9 j) (fun _ => 128) (fun j => if j = i then c1 else C9 j) (fun j => if j = i then fb i else h j)) ∧ Hid (Below w.heap.size w (w5.setCell ⟨g, i, none⟩ (.slice a1 128 c1)))) := fun q => by
          have hq : Below wr.heap.size wr (wr.drewN q) := blw_drewN q (Below.refl _ _)
          refine (clone (A2 i) 128 (C2 i) (fb i) (wr.drewN q) (by omega) (q2.below hq (Nat.le_refl _))).mono ?_
          rintro e w5 ⟨v1, rfl, ho1, b5⟩
          obtain ⟨a1, c1, rfl, _, _⟩ := own_any ho1
          have hM5 := (HD.out q).1.below b5
          have hb5 : Below w.heap.size w w5 := (HD.out q).2.trans (b5.mono (HD.out q).2.size)
          refine ⟨a1, c1, _, rfl, by rw [World.ownsRow.cellAt hM5.own i (by omega)]; exact gL_get n A9 _ C9 i hlt, World.ownsRow.frozenAt hM5.own i, (HD.out q).1.set (HD.out q).2.size i hlt b5 ho1, ?_⟩
          exact ((Part.ofBelow (F := fun k => w.heap.size ≤ k) hb5).setCell (p := ⟨g, i, none⟩) (fun _ => hgB) _).below (fun k hk => hk) (Nat.le_refl _)
        clear p2 q2 he
        by_cases hk64 : k < 64
        · have hk6 : (k : Int) < 64 := by omega
          go_wp2_with fail
          go_quiet ((go_at_call 21; exact Calls.quiet_of_same (CE.out _)))
          go_wp2_with fail
          · refine (HCl.out nq).mono ?_
            rintro r w5 ⟨a1, c1, u, rfl, x1, x2, HM5, HB5⟩
            clear HCl CE HD
            have HH5 : Hid (∀ j, (fun j => if j = i then fb i else h j) j = fa j ∨ (fun j => if j = i then fb i else h j) j = fb j) := fun j => by
              by_cases e : j = i
              · subst e
                right
                simp
              · simp only [if_neg e]
                exact HHr.out j
            go_wp2
            go_roundw
            case rel => exact ⟨i + 1, k + 1, _, _, _, by omega, by omega, by go_num, by go_num, HM5, HH5, HB5.out⟩
            case measure => simp [intOf]; omega
          · refine ⟨⟨i + 1, k + 1, A9, C9, h, by omega, by omega, by go_num, by go_num, (HD.out _).1, HHr, (HD.out _).2⟩, ?_⟩
            simp [intOf]
            omega
        · have hk6 : ¬ (k : Int) < 64 := by omega
          go_wp2_with fail
          go_quiet ((go_at_call 21; exact Calls.quiet_of_same (CE.out _)))
          go_wp2
          go_roundw
          case rel => exact ⟨i + 1, k + 1, A9, C9, h, by omega, by omega, by go_num, by go_num, (HD.out _).1, HHr, (HD.out _).2⟩
          case measure => simp [intOf]; omega
    · obtain rfl : i = n := by omega
      go_wp2
      go_ret
      exact ⟨_, cg, A9, C9, h, rfl, HMr.out.img, hcg.1, HHr, hbr⟩
end Go.Proofs.YtmjoklppibfdmaaDoor
