/-
  The law DiskCrashes: the walk. No condition but that what is handed in can be read.
-/
import Derived.Test.YtjpjpfmhmcdibaaCrashMap
namespace Go.Proofs.Ytjpjpfmhmcdibaa
open Go.RowKit
set_option linter.unusedVariables false

/-- append of numbers of the call's own onto numbers of its own: what stays is told by blocks. -/
theorem wpList_appP {w : World} {ops : Array Oper} {rest : List Oper} {o : Oper} {a : Act} {Q : Exit → Act → World → Prop} (hgd : o.guard = none) (s x : Operand) (ho : o.op = .call { callee := .builtin .append, args := #[s, x], argTypes := #[27, 27] })
    (B : Nat) (v : Value) (xs : List Int) (hs : a.eval s = v) (hown : OwnI w B v xs) (g c : Nat) (y : Int) (hx : a.eval x = .slice (some ⟨g, 0, none⟩) 1 c) (hf : w.cell? ⟨g, 0, none⟩ = some (.int .i64 y))
    (hbig : xs.length + 1 ≤ 1000000) (hB : B ≤ w.heap.size)
    (h : ∀ v' w', OwnI w' B v' (xs ++ [y]) → Part (fun q => v.ownBlock = some q) w w' → wpList Try.prog ops Q rest (a.put o.dst v') w') : wpList Try.prog ops Q (o :: rest) a w := by
  obtain ⟨i0, hi, hz0, hz1, hz2⟩ := info_parts info3
  have hown' : w.ownsRow B 3 1 v xs.length (xs.map (Value.int .i64)) := hown
  refine wpList_append_own w hgd s x 27 ho B 3 i0 (.int .i64 0) 1 8 Try.underlying27 hi hz0 hz1 hz2 rfl (by decide) v xs.length (xs.map (Value.int .i64)) hs hown' ⟨g, 0, none⟩ 1 c [.int .i64 y] hx rfl ?_ ?_ (by unfold maxLen; omega) (by omega) hB ?_
  · intro j u hj
    have hj0 : j = 0 := by
      have := (List.getElem?_eq_some_iff.1 hj).1
      simp at this
      omega
    subst hj0
    rw [Addr.add_lit, Nat.zero_add, hf]
    simpa using hj
  · intro u hu
    simp at hu
    rw [hu]
    rfl
  · intro v' w' h3 h4 _
    refine h v' w' ?_ ((Part.refl _ w).grown h4 (fun k hk _ => hk))
    unfold OwnI
    rw [List.length_append, List.map_append]
    exact h3

set_option maxRecDepth 100000 in
set_option maxHeartbeats 4000000 in
theorem crashes_walk (a0 : Option Addr) (N c0 : Nat) (w : World) (hN : N ≤ 9223372036854775807) (h : Dos w a0 N) :
    Calls Try.prog 3 #[.slice a0 N c0] w fun e w' => e = .returned (.bool true) ∧ Below w.heap.size w w' := by
  have hmm := @run_makeMap Try.prog
  go_enter Try.func3, Try.ntmps3
  go_wp2_with fail
  refine (writtenD a0 N c0 w hN h).mono ?_
  rintro e w1 ⟨D, m, tf, ld, rfl, hd, hm, hb1⟩
  have HD : Hid (Dk w1 D (fun k => w.heap.size ≤ k ∧ k < w1.heap.size) 4 (fun _ => 0) m tf ld) := hd
  have hs1 := hb1.size
  have hm40 : m ≤ 40 := by omega
  have HM : Hid (m = min N 40) := hm
  clear h hd hm
  go_wp2_with fail
  refine (dkImage D 4 m _ _ tf ld w1 HD.out).mono ?_
  rintro e w2 ⟨g, b, rfl, hR, hg1, hg2, hbb1, hbb2, hb2⟩
  have HR : Hid (Rws w2 g 4 (fun _ => b) (fun i => i * 128) (fun _ => 128) (fun i => sh (fun _ => 0) (i * 128))) := hR
  have HD2 : Hid (Dk w2 D (fun k => w.heap.size ≤ k ∧ k < w1.heap.size) 4 (fun _ => 0) m tf ld) := HD.out.below hb2
  have hs2 := hb2.size
  have hb2a : Below w2.heap.size w2 (w2.alloc (.map #[] 0)) := (Below.refl _ w2).alloc (Nat.le_refl _) _
  have HM2 : Hid (∀ b3, (w2.alloc (.map #[] 0)).ownsMap Try.prog 3 (rdE b3) w2.heap.size 0 (mapD tf 0)) := fun b3 => World.ownsMap_made _ _ _ _
  have hsa : (w2.alloc (.map #[] 0)).heap.size = w2.heap.size + 1 := by simp
  clear hR HD
  go_wp2_with fail
  refine (dkPending D 4 m _ _ tf ld _ (HD2.out.below hb2a) (by omega)).mono ?_
  rintro e w3 ⟨g3, b3, rfl, hS, hg31, hg32, hb31, hb32, hb3⟩
  rw [hsa] at hg31 hb31 hb3
  have hb3' : Below w2.heap.size (w2.alloc (.map #[] 0)) w3 := hb3.mono (by omega)
  have hb23 : Below w2.heap.size w2 w3 := hb2a.trans hb3'
  have hs3 : w2.heap.size + 1 ≤ w3.heap.size := by have := hb3.size; omega
  have HS : Hid (Snts w3 g3 m b3 tf ld) := hS
  have HD3 : Hid (Dk w3 D (fun k => w.heap.size ≤ k ∧ k < w1.heap.size) 4 (fun _ => 0) m tf ld) := HD2.out.below hb23
  have HTn : Hid (∀ j, j < m → tf j < 4) := by
    obtain ⟨_, _, _, _, _, _, _, hh⟩ := HD3.out
    exact hh.tn
  have HM3 : Hid (w3.ownsMap Try.prog 3 (rdE b3) w2.heap.size 0 (mapD tf 0)) := map_part (HM2.out b3) (Part.ofBelow (F := fun _ => False) (hb3.mono (by omega))) (fun h => h)
  have HR3 : Hid (Rws w3 g 4 (fun _ => b) (fun i => i * 128) (fun _ => 128) (fun i => sh (fun _ => 0) (i * 128))) := HR.out.part (Part.ofBelow (F := fun _ => False) hb23) (fun h => h) hg2 (fun _ _ h => h)
  have HK0 : Hid (OwnI w3 w3.heap.size (.slice none 0 0) (lst (fun j => (j : Int)) 0)) := World.ownsRow_nil _ _ _ _
  have hbw3 : Below w.heap.size w w3 := hb1.trans ((hb2.mono hs1).trans (hb23.mono (by omega)))
  have hMl : w2.heap.size < w3.heap.size := by omega
  clear hS HD2 HM2 HR hb2a hb3 hb3' hb23 hmm hsa
  go_wp2
  go_loopw [5, 27] (fun al i wr => ∃ k : Nat, k ≤ m ∧ i = .int .i64 (k : Int) ∧ OwnI wr w3.heap.size al (lst (fun j => (j : Int)) k) ∧ wr.ownsMap Try.prog 3 (rdE b3) w2.heap.size k (mapD tf k) ∧ Part (fun q => q = w2.heap.size) w3 wr) (fun _ i _ => m - (intOf i).toNat)
  case atStart => exact ⟨0, Nat.zero_le _, rfl, HK0.out, HM3.out, Part.refl _ _⟩
  case round =>
    obtain ⟨k, hk, rfl, hal, hmp, hp⟩ := hrel
    have hps := hp.size
    by_cases hlt : k < m
    · have hlt' : (k : Int) < (m : Int) := by omega
      have hk0 : (0 : Int) ≤ (k : Int) := by omega
      have hSr := HS.out.part hp (by show ¬ g3 = w2.heap.size; omega) (by show ¬ b3 = w2.heap.size; omega)
      have p1 := hSr.sec k hlt
      have p2 := hSr.row k hlt
      have htn := HTn.out k hlt
      obtain ⟨ob, hO⟩ : ∃ ob, Obj.cells #[.int .i64 (tf k : Int), .slice (some ⟨b3, k * 128, none⟩) 128 128] 33 = ob := ⟨_, rfl⟩
      have hob0 : (wr.alloc ob).cell? ⟨wr.heap.size, 0, none⟩ = some (.int .i64 (tf k : Int)) := by rw [← hO, World.cell?_alloc_at _ _ _ _ rfl]; rfl
      have hob1 : (wr.alloc ob).cell? ⟨wr.heap.size, 1, none⟩ = some (.slice (some ⟨b3, k * 128, none⟩) 128 128) := by rw [← hO, World.cell?_alloc_at _ _ _ _ rfl]; rfl
      have HL2 : Hid (OwnI ((wr.alloc ob).alloc (.cells #[.int .i64 (k : Int)] 3)) w3.heap.size u5 (lst (fun j => (j : Int)) k)) := World.ownsRow.alloc (World.ownsRow.alloc hal _) _
      have HL1 : Hid (((wr.alloc ob).alloc (.cells #[.int .i64 (k : Int)] 3)).cell? ⟨wr.heap.size + 1, 0, none⟩ = some (.int .i64 (k : Int))) := (by rw [World.cell?_alloc_at _ _ _ _ (by simp)]; rfl : ((wr.alloc ob).alloc (.cells #[.int .i64 (k : Int)] 3)).cell? ⟨wr.heap.size + 1, 0, none⟩ = some (.int .i64 (k : Int)))
      have HSz : Hid (w3.heap.size ≤ ((wr.alloc ob).alloc (.cells #[.int .i64 (k : Int)] 3)).heap.size) := (by simp; omega : w3.heap.size ≤ ((wr.alloc ob).alloc (.cells #[.int .i64 (k : Int)] 3)).heap.size)
      have HKy : Hid (keyOf Try.prog 3 (.int .i64 (tf k : Int)) = some (.int .i64 (tf k : Int))) := Go.Maps.keyOf_int_mk Try.underlying3 (WalkArith.wf_i64 (by omega))
      have HVl : Hid (rdE b3 (.slice (some ⟨b3, k * 128, none⟩) 128 128) = some (.lit (.int .i64 ((k * 128 : Nat) : Int)), [])) := rdE_at b3 (k * 128)
      have HX : Hid (∀ v4 w4, OwnI w4 w3.heap.size v4 (lst (fun j => (j : Int)) k ++ [(k : Int)]) → Part (fun q => u5.ownBlock = some q) ((wr.alloc ob).alloc (.cells #[.int .i64 (k : Int)] 3)) w4 →
          w4.cell? ⟨wr.heap.size, 0, none⟩ = some (.int .i64 (tf k : Int)) ∧ w4.cell? ⟨wr.heap.size, 1, none⟩ = some (.slice (some ⟨b3, k * 128, none⟩) 128 128) ∧ w4.ownsMap Try.prog 3 (rdE b3) w2.heap.size k (mapD tf k) ∧
          Hid (∀ w5, w4.grownBy w5 (some w2.heap.size) → OwnI w5 w3.heap.size v4 (lst (fun j => (j : Int)) (k + 1)) ∧ Part (fun q => q = w2.heap.size) w3 w5)) := fun v4 w4 ho4 hp4 => by
        have hal1 := fun q hq => World.ownsRow.lt hal q hq
        have hpo : Part (fun q => q = w2.heap.size) w3 ((wr.alloc ob).alloc (.cells #[.int .i64 (k : Int)] 3)) := (hp.alloc ob).alloc _
        have hp34 : Part (fun q => q = w2.heap.size) w3 w4 := hpo.trans hp4 (fun i hi e => by have := (hal1 i e).1; omega)
        refine ⟨hp4.cell (p := ⟨wr.heap.size, 0, none⟩) (fun e => by have := (hal1 wr.heap.size e).2; omega) ((World.cell?_alloc_past (w := wr.alloc ob) _ wr.heap.size 0 (by simp)).trans hob0), hp4.cell (p := ⟨wr.heap.size, 1, none⟩) (fun e => by have := (hal1 wr.heap.size e).2; omega) ((World.cell?_alloc_past (w := wr.alloc ob) _ wr.heap.size 1 (by simp)).trans hob1), map_part ((hmp.alloc ob).alloc _) hp4 (fun e => by have := (hal1 w2.heap.size e).1; omega), fun w5 hg5 => ⟨?_, hp34.grown hg5 (fun q hq _ => by cases hq; rfl)⟩⟩
        have e5 : Part (fun q => q = w2.heap.size) w4 w5 := (Part.refl _ w4).grown hg5 (fun q hq _ => by cases hq; rfl)
        have h9 : OwnI w4 w3.heap.size v4 (lst (fun j => (j : Int)) (k + 1)) := by
          have e9 : lst (fun j => (j : Int)) k ++ [(k : Int)] = lst (fun j => (j : Int)) (k + 1) := by
            rw [lst_snoc]
            exact lst_ext (fun j hj => by split <;> simp_all)
          rw [← e9]; exact ho4
        exact e5.row h9 (fun q hq e => by have := (World.ownsRow.lt ho4 q hq).1; omega)
      clear hSr hal hmp hob0 hob1
      go_wp2_with (first
        | (at_mapUpdate; refine wpList_mapUpdate_own _ rfl _ _ _ 28 rfl 3 31 lawK Try.underlying28 (rdE b3) w2.heap.size k (mapD tf k) rfl HM4.out (by unfold maxLen; omega) _ _ _ rfl rfl HKy.out _ [] HVl.out ?_; intro w5 hm5 hg5; have HM5 : Hid (w5.ownsMap Try.prog 3 (rdE b3) w2.heap.size (k + 1) (mapD tf (k + 1))) := hm5; have HY5 : Hid (OwnI w5 w3.heap.size v4 (lst (fun j => (j : Int)) (k + 1)) ∧ Part (fun q => q = w2.heap.size) w3 w5) := x4.out w5 hg5; clear hm5 hg5 x4 HM4)
        | (at_builtin; refine wpList_appP rfl _ _ rfl w3.heap.size u5 (lst (fun j => (j : Int)) k) rfl HL2.out (wr.heap.size + 1) 1 (k : Int) rfl HL1.out (by rw [lst_length]; omega) HSz.out ?_; intro v4 w4 ho4 hp4; obtain ⟨x1, x2, x3, x4⟩ := HX.out v4 w4 ho4 hp4; have HM4 : Hid (w4.ownsMap Try.prog 3 (rdE b3) w2.heap.size k (mapD tf k)) := x3; clear x3 ho4 hp4))
      go_roundw
      case rel => exact ⟨k + 1, by omega, by go_num, HY5.out.1, HM5.out, HY5.out.2⟩
      case measure => simp [intOf]; omega
    · obtain rfl : k = m := by omega
      obtain ⟨w4, rfl⟩ : ∃ w4, w4 = wr := ⟨_, rfl⟩
      obtain ⟨ak, ck, rfl⟩ := ownI_any hal
      have HK4 : Hid (OwnI w4 0 (.slice ak k ck) (lst (fun j => (j : Int)) k)) := row_mono hal (Nat.zero_le _)
      have HM4 : Hid (w4.ownsMap Try.prog 3 (rdE b3) w2.heap.size k (mapD tf k)) := hmp
      have HS4 : Hid (Snts w4 g3 k b3 tf ld) := HS.out.part hp (by show ¬ g3 = w2.heap.size; omega) (by show ¬ b3 = w2.heap.size; omega)
      have HD4 : Hid (Dk w4 D (fun k => w.heap.size ≤ k ∧ k < w1.heap.size) 4 (fun _ => 0) k tf ld) := HD3.out.part hp (fun q hq e => by omega)
      have HR4 : Hid (Rws w4 g 4 (fun _ => b) (fun i => i * 128) (fun _ => 128) (fun i => sh (fun _ => 0) (i * 128))) := HR3.out.part hp (by omega) (by omega) (fun _ _ => by omega)
      have hb4 : Below w.heap.size w w4 := hbw3.trans (hp.below (fun q hq => by rw [hq]; omega) (by omega))
      clear hal hmp hp HS HD3 HR3 HM3 HK0 hbw3
      go_wp2
      go_loopw [42] (fun i wr => ∃ t : Nat, t ≤ 4 ∧ i = .int .i64 (t : Int) ∧ Below w4.heap.size w4 wr) (fun i _ => 4 - (intOf i).toNat)
      case atStart => exact ⟨0, by omega, rfl, Below.refl _ _⟩
      case round =>
        obtain ⟨t, ht, rfl, hbr⟩ := hrel
        have hsr := hbr.size
        have HDr : Hid (Dk wr D (fun k => w.heap.size ≤ k ∧ k < w1.heap.size) 4 (fun _ => 0) k tf ld) := HD4.out.below hbr
        by_cases hlt2 : t < 4
        · have hlt3 : (t : Int) < 4 := by omega
          have ht0 : (0 : Int) ≤ (t : Int) := by omega
          go_wp2_with fail
          refine (dkRead D t 4 k _ _ tf ld wr HDr.out hlt2 (by omega)).mono ?_
          rintro e w5 ⟨v5, rfl, ho5, hb5⟩
          obtain ⟨g5, c5, rfl, ho5, _, _, _, _⟩ := own_some ho5 (by omega)
          have hb45 : Below w4.heap.size w4 w5 := hbr.trans (hb5.mono hsr)
          have HF5 : Hid (From w5 (some ⟨g5, 0, none⟩) 128 (seen (fun _ => 0) k tf ld t)) := by
            obtain ⟨a, c, e, hf, _⟩ := own_any ho5
            injection e with e1 e2 e3
            rw [e1]; exact hf
          have hm5 := map_part HM4.out (Part.ofBelow (F := fun _ => False) hb45) (fun h => h)
          by_cases h0 : lastAt tf k t = 0
          · have hl := look_no hm5 hlt2 h0
            have hR5 := HR4.out.part (Part.ofBelow (F := fun _ => False) hb45) (fun h => h) (by omega) (fun _ _ h => h)
            have q1 := hR5.cell t hlt2
            have HG5 : Hid (From w5 (some ⟨b, t * 128, none⟩) 128 (sh (fun _ => 0) (t * 128))) := hR5.from_ t hlt2
            have HE : Hid (lst (seen (fun _ => 0) k tf ld t) 128 = lst (sh (fun _ => 0) (t * 128)) 128) := by
              show lst (if lastAt tf k t = 0 then sh (fun _ => 0) (t * 128) else sh ld ((lastAt tf k t - 1).toNat * 128)) 128 = _
              rw [if_pos h0]
            clear ho5 hm5 hR5 h0
            go_wp2_with fail
            refine (equal_yes (some ⟨g5, 0, none⟩) (some ⟨b, t * 128, none⟩) 128 c5 128 128 _ _ w5 HF5.out HG5.out HE).mono ?_
            rintro e w6 ⟨rfl, hw⟩
            obtain rfl : w5 = w6 := hw.symm
            clear hw
            go_wp2
            go_roundw
            case rel => exact ⟨t + 1, by omega, by go_num, hb45⟩
            case measure => simp [intOf]; omega
          · have hbd := lastAt_bd tf t k
            obtain ⟨p, hp1⟩ := Int.eq_ofNat_of_zero_le (show 0 ≤ lastAt tf k t - 1 by omega)
            have e1 : lastAt tf k t = (p : Int) + 1 := by omega
            have hl := look_yes hm5 hlt2 e1
            have hS5 := HS4.out.part (Part.ofBelow (F := fun _ => False) hb45) (fun h => h) (fun h => h)
            have HG5 : Hid (From w5 (some ⟨b3, p * 128, none⟩) 128 (sh ld (p * 128))) := hS5.from_ p (by omega)
            have HE : Hid (lst (seen (fun _ => 0) k tf ld t) 128 = lst (sh ld (p * 128)) 128) := by
              show lst (if lastAt tf k t = 0 then sh (fun _ => 0) (t * 128) else sh ld ((lastAt tf k t - 1).toNat * 128)) 128 = _
              rw [if_neg h0, hp1, Int.toNat_natCast]
            clear ho5 hm5 hS5 h0 hbd hp1 e1
            go_wp2_with fail
            refine (equal_yes (some ⟨g5, 0, none⟩) (some ⟨b3, p * 128, none⟩) 128 c5 128 128 _ _ w5 HF5.out HG5.out HE).mono ?_
            rintro e w6 ⟨rfl, hw⟩
            obtain rfl : w5 = w6 := hw.symm
            clear hw
            go_wp2
            go_roundw
            case rel => exact ⟨t + 1, by omega, by go_num, hb45⟩
            case measure => simp [intOf]; omega
        · obtain rfl : t = 4 := by omega
          obtain ⟨w5, rfl⟩ : ∃ w5, w5 = wr := ⟨_, rfl⟩
          have hb5 : Below w.heap.size w w5 := hb4.trans (hbr.mono hb4.size)
          have s05 := hb5.size
          have s35 : w3.heap.size ≤ w5.heap.size := by omega
          have HK5 : Hid (OwnI w5 0 (.slice ak k ck) (lst (fun j => (j : Int)) k)) := (Part.ofBelow (F := fun _ => False) hbr).row HK4.out (fun _ _ h => h)
          have HR5 : Hid (Rws w5 g 4 (fun _ => b) (fun i => i * 128) (fun _ => 128) (fun i => sh (fun _ => 0) (i * 128))) := HR4.out.part (Part.ofBelow (F := fun _ => False) hbr) (fun h => h) (by omega) (fun _ _ h => h)
          clear HK4 HR4 HS4 HM4 HD4 hb4
          go_wp2_with fail
          refine (dkCopy D 4 k _ _ tf ld w5 HDr.out (by omega)).mono ?_
          rintro e w6 ⟨A, rfl, hA6, hb6⟩
          have s6 := hb6.size
          have HA6 : Hid (Dk w6 A (fun k => w5.heap.size ≤ k ∧ k < w6.heap.size) 4 (fun _ => 0) k tf ld) := hA6
          have HD6 : Hid (Dk w6 D (fun k => w.heap.size ≤ k ∧ k < w1.heap.size) 4 (fun _ => 0) k tf ld) := HDr.out.below hb6
          clear hA6
          go_wp2_with fail
          refine (dkCopy D 4 k _ _ tf ld w6 HD6.out (by omega)).mono ?_
          rintro e w7 ⟨B, rfl, hB7, hb7⟩
          have s7 := hb7.size
          have HB7 : Hid (Dk w7 B (fun k => w6.heap.size ≤ k ∧ k < w7.heap.size) 4 (fun _ => 0) k tf ld) := hB7
          have HD7 : Hid (Dk w7 D (fun k => w.heap.size ≤ k ∧ k < w1.heap.size) 4 (fun _ => 0) k tf ld) := HD6.out.below hb7
          clear hB7
          go_wp2_with fail
          refine (dkCopy D 4 k _ _ tf ld w7 HD7.out (by omega)).mono ?_
          rintro e w8 ⟨C, rfl, hC8, hb8⟩
          have s8 := hb8.size
          have HC8 : Hid (Dk w8 C (fun k => w7.heap.size ≤ k ∧ k < w8.heap.size) 4 (fun _ => 0) k tf ld) := hC8
          have hb58 : Below w5.heap.size w5 w8 := hb6.trans ((hb7.mono s6).trans (hb8.mono (by omega)))
          have HA8 : Hid (Dk w8 A (fun k => w5.heap.size ≤ k ∧ k < w6.heap.size) 4 (fun _ => 0) k tf ld) := (HA6.out.below hb7).below hb8
          have HB8 : Hid (Dk w8 B (fun k => w6.heap.size ≤ k ∧ k < w7.heap.size) 4 (fun _ => 0) k tf ld) := HB7.out.below hb8
          have HF8 : Hid (FromI w8 ak k (fun j => (j : Int))) := OwnI.fromI ((Part.ofBelow (F := fun _ => False) hb58).row HK5.out (fun _ _ h => h))
          have HR8 : Hid (Rws w8 g 4 (fun _ => b) (fun i => i * 128) (fun _ => 128) (fun i => sh (fun _ => 0) (i * 128))) := HR5.out.part (Part.ofBelow (F := fun _ => False) hb58) (fun h => h) (by omega) (fun _ _ h => h)
          have HCr : Hid (Calls Try.prog 11 #[.pointer (some ⟨A, 0, none⟩), .slice ak k ck] w8 fun e w' => e = .returned (.int .i64 0) ∧ Dk w' A (fun k => w5.heap.size ≤ k ∧ k < w6.heap.size) 4 (setl (fun _ => 0) tf ld (fun _ => true) k) 0 tf ld ∧ Part (fun k => w5.heap.size ≤ k ∧ k < w6.heap.size) w8 w') := by
            have h9 := dkCrash_ok A 4 k _ _ tf ld ak k ck (fun j => (j : Int)) w8 HA8.out (by omega) (by omega) HF8.out (fun j hj => by constructor <;> (show _ ≤ _; omega)) (good_all k)
            rw [setl_congr (s2 := fun _ => true) (fun p hp => named_all k p hp)] at h9
            exact h9
          clear hC8 HA6 HB7 HD6 HD7 HDr HK5 HR5 hb6 hb7 hb8 HF8 HA8
          go_wp2_with fail
          refine HCr.out.mono ?_
          rintro e w9 ⟨rfl, hA9, hp9⟩
          have s9 := hp9.size
          have HA9 : Hid (Dk w9 A (fun k => w5.heap.size ≤ k ∧ k < w6.heap.size) 4 (setl (fun _ => 0) tf ld (fun _ => true) k) 0 tf ld) := hA9
          have HB9 : Hid (Dk w9 B (fun k => w6.heap.size ≤ k ∧ k < w7.heap.size) 4 (fun _ => 0) k tf ld) := HB8.out.part hp9 (fun q h1 h2 => by omega)
          have HC9 : Hid (Dk w9 C (fun k => w7.heap.size ≤ k ∧ k < w8.heap.size) 4 (fun _ => 0) k tf ld) := HC8.out.part hp9 (fun q h1 h2 => by omega)
          have HR9 : Hid (Rws w9 g 4 (fun _ => b) (fun i => i * 128) (fun _ => 128) (fun i => sh (fun _ => 0) (i * 128))) := HR8.out.part hp9 (by omega) (by omega) (fun _ _ => by omega)
          have hb59 : Below w5.heap.size w5 w9 := hb58.trans (hp9.below (fun q hq => hq.1) (by omega))
          clear hA9 hp9 HCr HB8 HC8 HR8 hb58
          go_wp2_with fail
          refine (dkFlush B 4 k _ _ tf ld w9 HB9.out (by omega)).mono ?_
          rintro e w10 ⟨rfl, hB10, hp10⟩
          have s10 := hp10.size
          have HB10 : Hid (Dk w10 B (fun k => w6.heap.size ≤ k ∧ k < w7.heap.size) 4 (setl (fun _ => 0) tf ld (fun _ => true) k) 0 tf ld) := hB10
          have HA10 : Hid (Dk w10 A (fun k => w5.heap.size ≤ k ∧ k < w6.heap.size) 4 (setl (fun _ => 0) tf ld (fun _ => true) k) 0 tf ld) := HA9.out.part hp10 (fun q h1 h2 => by omega)
          have HC10 : Hid (Dk w10 C (fun k => w7.heap.size ≤ k ∧ k < w8.heap.size) 4 (fun _ => 0) k tf ld) := HC9.out.part hp10 (fun q h1 h2 => by omega)
          have HR10 : Hid (Rws w10 g 4 (fun _ => b) (fun i => i * 128) (fun _ => 128) (fun i => sh (fun _ => 0) (i * 128))) := HR9.out.part hp10 (by omega) (by omega) (fun _ _ => by omega)
          have hb510 : Below w5.heap.size w5 w10 := hb59.trans (hp10.below (fun q hq => by omega) (by omega))
          have HCs : Hid (Calls Try.prog 11 #[.pointer (some ⟨C, 0, none⟩), .slice none 0 0] w10 fun e w' => e = .returned (.int .i64 0) ∧ Dk w' C (fun k => w7.heap.size ≤ k ∧ k < w8.heap.size) 4 (fun _ => 0) 0 tf ld ∧ Part (fun k => w7.heap.size ≤ k ∧ k < w8.heap.size) w10 w') := by
            have h9 := dkCrash_ok C 4 k _ _ tf ld none 0 0 (fun j => (j : Int)) w10 HC10.out (by omega) (by omega) (fun i hi => by omega) (fun j hj => by omega) (fun j hj => by omega)
            rw [show named (fun j => (j : Int)) 0 = fun _ => false from rfl, setl_none] at h9
            exact h9
          clear hB10 hp10 HA9 HB9 HC9 HR9 HC10 hb59
          go_wp2_with fail
          refine HCs.out.mono ?_
          rintro e w11 ⟨rfl, hC11, hp11⟩
          have s11 := hp11.size
          have HC11 : Hid (Dk w11 C (fun k => w7.heap.size ≤ k ∧ k < w8.heap.size) 4 (fun _ => 0) 0 tf ld) := hC11
          have HA11 : Hid (Dk w11 A (fun k => w5.heap.size ≤ k ∧ k < w6.heap.size) 4 (setl (fun _ => 0) tf ld (fun _ => true) k) 0 tf ld) := HA10.out.part hp11 (fun q h1 h2 => by omega)
          have HB11 : Hid (Dk w11 B (fun k => w6.heap.size ≤ k ∧ k < w7.heap.size) 4 (setl (fun _ => 0) tf ld (fun _ => true) k) 0 tf ld) := HB10.out.part hp11 (fun q h1 h2 => by omega)
          have HR11 : Hid (Rws w11 g 4 (fun _ => b) (fun i => i * 128) (fun _ => 128) (fun i => sh (fun _ => 0) (i * 128))) := HR10.out.part hp11 (by omega) (by omega) (fun _ _ => by omega)
          have hb11 : Below w.heap.size w w11 := hb5.trans ((hb510.trans (hp11.below (fun q hq => by omega) (by omega))).mono s05)
          clear hC11 hp11 HCs HA10 HB10 HR10 hb510
          have s011 := hb11.size
          have hmin : ((N : Int) ≤ 40 ∧ k = N) ∨ (¬ (N : Int) ≤ 40 ∧ 40 < (N : Int) ∧ k = 40) := by
            have := HM.out
            omega
          have HTail : Hid (∀ wz, Below w11.heap.size w11 wz → Below w.heap.size w wz) := fun wz hz => hb11.trans (hz.mono s011)
          rcases hmin with ⟨x1, x2⟩ | ⟨x1, x3, x2⟩
          all_goals
            first
              | (have x4 : (k : Int) = (N : Int) := by omega)
              | (have x4 : (k : Int) = 40 := by omega)
            go_wp2_with fail
            refine (dkImage A 4 0 _ _ tf ld w11 HA11.out).mono ?_
            rintro e w12 ⟨gA, bA, rfl, hRA, hgA1, hgA2, hbA1, hbA2, hb12⟩
            have s12 := hb12.size
            have HRA : Hid (Rws w12 gA 4 (fun _ => bA) (fun i => i * 128) (fun _ => 128) (fun i => sh (setl (fun _ => 0) tf ld (fun _ => true) k) (i * 128))) := hRA
            clear hRA
            go_wp2_with fail
            refine (dkImage B 4 0 _ _ tf ld w12 (HB11.out.below hb12)).mono ?_
            rintro e w13 ⟨gB, bB, rfl, hRB, _, _, _, _, hb13⟩
            have s13 := hb13.size
            have HRB : Hid (Rws w13 gB 4 (fun _ => bB) (fun i => i * 128) (fun _ => 128) (fun i => sh (setl (fun _ => 0) tf ld (fun _ => true) k) (i * 128))) := hRB
            have HRA2 : Hid (Rws w13 gA 4 (fun _ => bA) (fun i => i * 128) (fun _ => 128) (fun i => sh (setl (fun _ => 0) tf ld (fun _ => true) k) (i * 128))) := HRA.out.part (Part.ofBelow (F := fun _ => False) hb13) (fun h => h) (by omega) (fun _ _ h => h)
            have hb1113 : Below w11.heap.size w11 w13 := hb12.trans (hb13.mono s12)
            clear hRB HRA
            go_wp2_with fail
            refine (sameImg gA gB 4 4 4 _ _ _ _ _ _ _ _ w13 (by omega) HRA2.out HRB.out (fun i hi => rfl)).mono ?_
            rintro e w14 ⟨rfl, hw⟩
            obtain rfl : w13 = w14 := hw.symm
            clear hw
            go_wp2_with fail
            refine (dkImage C 4 0 _ _ tf ld w13 (HC11.out.below hb1113)).mono ?_
            rintro e w14 ⟨gC, bC, rfl, hRC, _, _, _, _, hb14⟩
            have s14 := hb14.size
            have hb1114 : Below w11.heap.size w11 w14 := hb1113.trans (hb14.mono (by omega))
            have HRC : Hid (Rws w14 gC 4 (fun _ => bC) (fun i => i * 128) (fun _ => 128) (fun i => sh (fun _ => 0) (i * 128))) := hRC
            have HRg : Hid (Rws w14 g 4 (fun _ => b) (fun i => i * 128) (fun _ => 128) (fun i => sh (fun _ => 0) (i * 128))) := HR11.out.part (Part.ofBelow (F := fun _ => False) hb1114) (fun h => h) (by omega) (fun _ _ h => h)
            clear hRC
            go_wp2_with fail
            refine (sameImg gC g 4 4 4 _ _ _ _ _ _ _ _ w14 (by omega) HRC.out HRg.out (fun i hi => rfl)).mono ?_
            rintro e w15 ⟨rfl, hw⟩
            obtain rfl : w14 = w15 := hw.symm
            clear hw
            go_wp2_with fail
            refine (dkPending A 4 0 _ _ tf ld w14 (HA11.out.below hb1114) (by omega)).mono ?_
            rintro e w15 ⟨_, _, rfl, _, _, _, _, _, hb15⟩
            have s15 := hb15.size
            have hb1115 : Below w11.heap.size w11 w15 := hb1114.trans (hb15.mono (by omega))
            go_wp2_with fail
            refine (dkPending B 4 0 _ _ tf ld w15 (HB11.out.below hb1115) (by omega)).mono ?_
            rintro e w16 ⟨_, _, rfl, _, _, _, _, _, hb16⟩
            have s16 := hb16.size
            have hb1116 : Below w11.heap.size w11 w16 := hb1115.trans (hb16.mono (by omega))
            go_wp2_with fail
            refine (dkPending C 4 0 _ _ tf ld w16 (HC11.out.below hb1116) (by omega)).mono ?_
            rintro e w17 ⟨_, _, rfl, _, _, _, _, _, hb17⟩
            have hb1117 : Below w11.heap.size w11 w17 := hb1116.trans (hb17.mono (by omega))
            have HFin : Hid (Below w.heap.size w w17) := HTail.out w17 hb1117
            clear hb1117 hb17 hb16 hb15 hb14 hb13 hb12 hb1113 hb1114 hb1115 hb1116
            go_wp2
            go_ret
            exact ⟨rfl, HFin.out⟩
end Go.Proofs.Ytjpjpfmhmcdibaa
