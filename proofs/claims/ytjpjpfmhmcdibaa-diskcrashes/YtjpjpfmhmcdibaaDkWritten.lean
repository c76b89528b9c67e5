/-
  The law's own written: a disk of four sectors with writes pending.
-/
import Derived.Test.YtjpjpfmhmcdibaaDkWrite2
import Derived.Test.YtjpjpfmhmcdibaaZeros
namespace Go.Proofs.Ytjpjpfmhmcdibaa
open Go.RowKit
set_option linter.unusedVariables false

/-- A list of calls that was handed in, as far as it is looked at. -/
structure DoAt (w : World) (b off : Nat) (I : Int) (a : Option Addr) (l c : Nat) (f : Nat → Int) : Prop where
  op : ∃ z, w.cell? ⟨b, off, none⟩ = some (.int .i64 z)
  i : w.cell? ⟨b, off + 1, none⟩ = some (.int .i64 I)
  bytes : w.cell? ⟨b, off + 2, none⟩ = some (.slice a l c)
  keep : ∃ a' l' c', w.cell? ⟨b, off + 3, none⟩ = some (.slice a' l' c')
  from_ : From w a l f
  by_ : ∀ j, 0 ≤ f j ∧ f j ≤ 255
  lc : l ≤ c
  cm : c ≤ 9223372036854775807
  none_ : a = none → c = 0
def Dos (w : World) (a0 : Option Addr) (N : Nat) : Prop := ∀ r, r < N → ∃ b off, a0 = some ⟨b, off, none⟩ ∧ ∃ I a l c f, DoAt w b (off + r * 4) I a l c f
theorem DoAt.below {w w' : World} {B b off : Nat} {I : Int} {a : Option Addr} {l c : Nat} {f : Nat → Int} (h : DoAt w b off I a l c f) (hb : Below B w w') (hB : w.heap.size ≤ B) : DoAt w' b off I a l c f := by
  have key : ∀ p v, w.cell? p = some v → w'.cell? p = some v := fun p v hp => by
    rw [hb.cell (p := p) (Nat.lt_of_lt_of_le (World.block_lt_of_cell? w _ hp) hB)]; exact hp
  exact ⟨h.op.imp fun z hz => key _ _ hz, key _ _ h.i, key _ _ h.bytes, h.keep.imp fun a' h => h.imp fun l' h => h.imp fun c' h => key _ _ h, h.from_.below hb hB, h.by_, h.lc, h.cm, h.none_⟩
theorem Dk.grow {w : World} {D : Nat} {F G : Nat → Prop} {n : Nat} {dur : Nat → Int} {m : Nat} {tf : Nat → Nat} {ld : Nat → Int} (h : Dk w D F n dur m tf ld) (h1 : ∀ k, F k → G k) (h2 : ∀ k, G k → k < w.heap.size) : Dk w D G n dur m tf ld := by
  obtain ⟨S, Bd, Bl, cD, cL, vT, vL, h⟩ := h
  exact ⟨S, Bd, Bl, cD, cL, vT, vL, { h with FD := h1 _ h.FD, FS := h1 _ h.FS, FBd := h1 _ h.FBd, FBl := h1 _ h.FBl, FT := fun k hk => h1 _ (h.FT k hk), FL := fun k hk => h1 _ (h.FL k hk), lt := h2 }⟩

theorem mod4_ex (z : Int) : ∃ t : Nat, t < 4 ∧ IntKind.i64.wrap ((IntKind.u64.wrap z).tmod 4) = (t : Int) := by
  rw [IntKind.wrap_u64, Int.tmod_eq_emod_of_nonneg (Int.emod_nonneg _ (by decide))]
  have a := Int.emod_nonneg (z % 18446744073709551616) (show (4 : Int) ≠ 0 by omega)
  have b := Int.emod_lt_of_pos (z % 18446744073709551616) (show (0 : Int) < 4 by omega)
  obtain ⟨t, ht⟩ := Int.eq_ofNat_of_zero_le a
  rw [ht] at b ⊢
  exact ⟨t, by omega, by rw [IntKind.wrap_i64]; omega⟩
theorem From.short {w : World} {ao : Option Addr} {n m : Nat} {f : Nat → Int} (h : From w ao n f) (hm : m ≤ n) : From w ao m f := by
  rcases h with ⟨h1, h2⟩ | ⟨x, h1, h2⟩
  · exact .inl ⟨h1, by omega⟩
  · exact .inr ⟨x, h1, fun i hi => h2 i (by omega)⟩

/-- What a round of written has made of the disk. -/
theorem round_written {w wr w2 w3 : World} {D m q : Nat} {tf : Nat → Nat} {ld fb : Nat → Int} (hbr : Below w.heap.size w wr) (hb2 : Below wr.heap.size wr w2)
    (hd : Dk w3 D (fun k => (w.heap.size ≤ k ∧ k < wr.heap.size) ∨ (w2.heap.size ≤ k ∧ k < w3.heap.size)) 4 (fun _ => 0) (m + 1) (fun j => if j = m then q else tf j) (fun k => if k < m * 128 then ld k else fb (k - m * 128))) (hp : Part (fun k => w.heap.size ≤ k ∧ k < wr.heap.size) w2 w3) :
    (∃ tf' ld', Dk w3 D (fun k => w.heap.size ≤ k ∧ k < w3.heap.size) 4 (fun _ => 0) (m + 1) tf' ld') ∧ Below w.heap.size w w3 := by
  have s1 := hbr.size
  have s2 := hb2.size
  have s3 := hp.size
  refine ⟨⟨_, _, hd.grow (fun k hk => ?_) (fun k hk => hk.2)⟩, (hbr.trans (hb2.mono s1)).trans (hp.below (fun k hk => hk.1) (by omega))⟩
  rcases hk with hk | hk
  · exact ⟨hk.1, by omega⟩
  · exact ⟨by omega, hk.2⟩

set_option maxRecDepth 100000 in
set_option maxHeartbeats 2000000 in
theorem writtenD (a0 : Option Addr) (N c0 : Nat) (w : World) (hN : N ≤ 9223372036854775807) (h : Dos w a0 N) :
    Calls Try.prog 5 #[.slice a0 N c0] w fun e w' => ∃ D m tf ld, e = .returned (.pointer (some ⟨D, 0, none⟩)) ∧ Dk w' D (fun k => w.heap.size ≤ k ∧ k < w'.heap.size) 4 (fun _ => 0) m tf ld ∧ m = min N 40 ∧ Below w.heap.size w w' := by
  have H : Hid (Dos w a0 N) := h
  clear h
  go_enter Try.func5, Try.ntmps5
  go_wp2_with fail
  refine (dkNew 4 (by omega) (by omega) w).mono ?_
  rintro e w1 ⟨D, rfl, hd, hb⟩
  have HD : Hid (Dk w1 D (fun k => w.heap.size ≤ k ∧ k < w1.heap.size) 4 (fun _ => 0) 0 (fun _ => 0) (fun _ => 0)) := hd
  clear hd
  go_wp2
  go_loopw [16] (fun i wr => ∃ (k m : Nat) (tf : Nat → Nat) (ld : Nat → Int), k ≤ N ∧ i = .int .i64 (k : Int) ∧ m = min k 40 ∧ Dk wr D (fun k => w.heap.size ≤ k ∧ k < wr.heap.size) 4 (fun _ => 0) m tf ld ∧ Below w.heap.size w wr) (fun i _ => N - (intOf i).toNat)
  case atStart => exact ⟨0, 0, _, _, Nat.zero_le _, rfl, by omega, HD.out, hb⟩
  case round =>
    obtain ⟨k, m, tf, ld, hk, rfl, hmk, hd, hbr⟩ := hrel
    have HDr : Hid (Dk wr D (fun k => w.heap.size ≤ k ∧ k < wr.heap.size) 4 (fun _ => 0) m tf ld) := hd
    clear hd
    by_cases hlt : k < N
    · have hlt' : (k : Int) < (N : Int) := by omega
      have hk0 : (0 : Int) ≤ (k : Int) := by omega
      obtain ⟨b, off, rfl, I, a, l, c, f, hdo⟩ := H.out k hlt
      obtain ⟨⟨z, q0⟩, q1, q2, ⟨a', l', c', q3⟩, q4, q5, q6, q7, q8⟩ := hdo.below hbr (Nat.le_refl _)
      obtain ⟨o, hO⟩ : ∃ o, Obj.cells #[.int .i64 z, .int .i64 I, .slice a l c, .slice a' l' c'] 49 = o := ⟨_, rfl⟩
      have hs := hbr.size
      have hsz : (wr.alloc o).heap.size = wr.heap.size + 1 := by simp
      have hbo : Below wr.heap.size wr (wr.alloc o) := (Below.refl _ wr).alloc (Nat.le_refl _) o
      have HRo : Hid (Dk (wr.alloc o) D (fun k => w.heap.size ≤ k ∧ k < (wr.alloc o).heap.size) 4 (fun _ => 0) m tf ld ∧ Below w.heap.size w (wr.alloc o)) :=
        ⟨(HDr.out.below hbo).grow (fun k hk => ⟨hk.1, by omega⟩) (fun k hk => hk.2), hbr.trans (hbo.mono hs)⟩
      have kI : (wr.alloc o).cell? ⟨wr.heap.size, 1, none⟩ = some (.int .i64 I) := by rw [← hO, World.cell?_alloc_at _ _ _ _ rfl]; rfl
      have kB : (wr.alloc o).cell? ⟨wr.heap.size, 2, none⟩ = some (.slice a l c) := by rw [← hO, World.cell?_alloc_at _ _ _ _ rfl]; rfl
      by_cases h40 : k < 40
      · have h40' : (k : Int) < 40 := by omega
        have HI : Hid (∀ wq, Below (wr.heap.size + 1) (wr.alloc o).drew wq → wq.cell? ⟨wr.heap.size, 1, none⟩ = some (.int .i64 I)) := fun wq hq => by
          rw [hq.cell (p := ⟨wr.heap.size, 1, none⟩) (by show wr.heap.size < wr.heap.size + 1; omega)]; exact kI
        obtain ⟨q, hq4, hq⟩ := mod4_ex I
        have hq' : IntKind.i64.wrap ((IntKind.u64.wrap I).tmod 4) = (q : Int) := hq
        clear hq
        have HF : Hid (∀ t, t ≤ l → From (wr.alloc o).drew a t f) := fun t ht => (q4.alloc o).short ht
        have HW : Hid (∀ (t : Nat) (wq : World) (v2 : Value), t ≤ 128 → Own wq (wr.heap.size + 1) v2 (lst f t ++ lst (fun _ => 0) (128 - t)) → Below (wr.heap.size + 1) (wr.alloc o).drew wq → ∃ g2 c2, v2 = .slice (some ⟨g2, 0, none⟩) 128 c2 ∧
            Hid (Calls Try.prog 15 #[.pointer (some ⟨D, 0, none⟩), .int .i64 (q : Int), .slice (some ⟨g2, 0, none⟩) 128 c2] wq fun e w' => e = .returned (.int .i64 0) ∧ (∃ tf' ld', Dk w' D (fun k => w.heap.size ≤ k ∧ k < w'.heap.size) 4 (fun _ => 0) (m + 1) tf' ld') ∧ Below w.heap.size w w')) := fun t wq v2 ht ho hb2 => by
          rw [lst_app, show t + (128 - t) = 128 by omega] at ho
          obtain ⟨g2, c2, rfl, ho2, hg1, hg2, _, _⟩ := own_some ho (by omega)
          have hbq : Below wr.heap.size wr wq := hbo.trans ⟨hb2.os, hb2.tape, hb2.output, hb2.size, fun k hk => hb2.block k (by omega)⟩
          refine ⟨g2, c2, rfl, (dkWrite D q 4 m _ _ tf ld g2 0 c2 (fun k => if k < t then f k else 0) wq (HDr.out.below hbq) hq4 (by omega) (.inr ⟨_, rfl, fun i hi => ?_⟩) (fun j => ?_) (fun hk => by omega)).mono ?_⟩
          · rw [Addr.add_lit, Nat.zero_add]; exact Own.cellF ho2 i hi
          · show 0 ≤ (if j < t then f j else 0) ∧ (if j < t then f j else 0) ≤ 255
            split
            · exact q5 j
            · decide
          · rintro e w3 ⟨rfl, hd3, hp3⟩
            exact ⟨rfl, round_written (q := q) (tf := tf) (ld := ld) (fb := fun k => if k < t then f k else 0) hbr hbq hd3 hp3⟩
        clear HRo
        by_cases hl128 : l ≤ 128
        · have hl' : (l : Int) ≤ 128 := by omega
          have e128 : (128 : Int) - (l : Int) = ((128 - l : Nat) : Int) := by omega
          have ew : IntKind.i64.wrap ((128 - l : Nat) : Int) = ((128 - l : Nat) : Int) := by rw [IntKind.wrap_i64]; omega
          have HX : Hid ((lst f l).length + (128 - l) ≤ 140737488355328) := (by rw [lst_length]; omega : (lst f l).length + (128 - l) ≤ 140737488355328)
          go_wp2
          go_region_law (first
            | (refine step_zeros rfl _ _ rfl (wr.heap.size + 1) v1 (lst f l) (by go_simp) (by exact ho1) (128 - l) (by go_simp) HX.out (by omega) ?_; intro v2 w3 ho2 hb2; have hb3 := hb1.trans hb2; have kI3 := HI.out w3 hb3; obtain ⟨g2, c2, hv2, HC3⟩ := HW.out l w3 v2 (by omega) ho2 hb3; subst hv2; clear ho2 ho1)
            | (go_simp; go_at_call 16; refine (clone a l c f _ (by omega) (by exact HF.out l (by omega))).mono ?_; rintro e' w2 ⟨v1, rfl, ho1, hb1⟩; have ho1 := ho1.mono (B' := wr.heap.size + 1) (by simp); have hb1 := hb1.mono (B' := wr.heap.size + 1) (by simp); have kI2 := HI.out w2 hb1; have hs2 : wr.heap.size + 1 ≤ w2.heap.size := by have := hb1.size; simp at this; omega)
            | (go_simp; go_at_call 15; refine HC3.out.mono ?_; rintro e' w4 ⟨rfl, ⟨tf', ld', hd4⟩, hb4⟩; have HD4 : Hid _ := hd4; clear hd4))
          all_goals
            go_wp2
            go_roundw
            case rel => exact ⟨k + 1, m + 1, tf', ld', by omega, by go_num, by omega, HD4.out, hb4⟩
            case measure => simp [intOf]; omega
        · have hl' : ¬ (l : Int) ≤ 128 := by omega
          have hl2 : (128 : Int) < (l : Int) := by omega
          have hc2 : (128 : Int) ≤ (c : Int) := by omega
          have ew : IntKind.i64.wrap 0 = 0 := rfl
          have HX : Hid ((lst f 128).length + (128 - 128) ≤ 140737488355328) := (by rw [lst_length]; omega : (lst f 128).length + (128 - 128) ≤ 140737488355328)
          go_wp2
          go_region_law (first
            | (refine step_zeros rfl _ _ rfl (wr.heap.size + 1) v1 (lst f 128) (by go_simp) (by exact ho1) (128 - 128) (by go_simp) HX.out (by omega) ?_; intro v2 w3 ho2 hb2; have hb3 := hb1.trans hb2; have kI3 := HI.out w3 hb3; obtain ⟨g2, c2, hv2, HC3⟩ := HW.out 128 w3 v2 (by omega) ho2 hb3; subst hv2; clear ho2 ho1)
            | (go_simp; go_at_call 16; refine (clone a 128 c f _ (by omega) (by exact HF.out 128 (by omega))).mono ?_; rintro e' w2 ⟨v1, rfl, ho1, hb1⟩; have ho1 := ho1.mono (B' := wr.heap.size + 1) (by simp); have hb1 := hb1.mono (B' := wr.heap.size + 1) (by simp); have kI2 := HI.out w2 hb1; have hs2 : wr.heap.size + 1 ≤ w2.heap.size := by have := hb1.size; simp at this; omega)
            | (go_simp; go_at_call 15; refine HC3.out.mono ?_; rintro e' w4 ⟨rfl, ⟨tf', ld', hd4⟩, hb4⟩; have HD4 : Hid _ := hd4; clear hd4))
          all_goals
            go_wp2
            go_roundw
            case rel => exact ⟨k + 1, m + 1, tf', ld', by omega, by go_num, by omega, HD4.out, hb4⟩
            case measure => simp [intOf]; omega
      · have h40' : ¬ (k : Int) < 40 := by omega
        go_wp2
        go_roundw
        case rel => exact ⟨k + 1, m, tf, ld, by omega, by go_num, by omega, HRo.out.1, HRo.out.2⟩
        case measure => simp [intOf]; omega
    · obtain rfl : k = N := by omega
      go_wp2
      go_ret
      exact ⟨D, m, tf, ld, rfl, HDr.out, hmk, hbr⟩
end Go.Proofs.Ytjpjpfmhmcdibaa
