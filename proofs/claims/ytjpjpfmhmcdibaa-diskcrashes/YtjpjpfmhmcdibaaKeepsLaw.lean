/-
  The law DiskKeeps: the walk. No condition but that what is handed in can be read.
-/
import Derived.Test.YtjpjpfmhmcdibaaDkWritten
import Derived.Test.YtjpjpfmhmcdibaaDkPend
import Derived.Test.YtjpjpfmhmcdibaaDkSame
import Derived.Test.YtjpjpfmhmcdibaaDkCrash2
namespace Go.Proofs.Ytjpjpfmhmcdibaa
open Go.RowKit
set_option linter.unusedVariables false

/-- The places below k that sel names, the last first. -/
def selL (sel : Nat → Bool) : Nat → List Nat
  | 0 => []
  | k + 1 => if sel k then k :: selL sel k else selL sel k
theorem selL_mem {sel : Nat → Bool} {p : Nat} : ∀ {k : Nat}, p ∈ selL sel k ↔ p < k ∧ sel p = true
  | 0 => by simp [selL]
  | k + 1 => by
    rw [selL]
    by_cases h : sel k = true
    · rw [if_pos h, List.mem_cons, selL_mem]
      constructor
      · rintro (rfl | h2)
        · exact ⟨by omega, h⟩
        · exact ⟨by omega, h2.2⟩
      · rintro ⟨h1, h2⟩
        by_cases e : p = k
        · exact .inl e
        · exact .inr ⟨by omega, h2⟩
    · rw [if_neg h, selL_mem]
      constructor
      · rintro ⟨h1, h2⟩; exact ⟨by omega, h2⟩
      · rintro ⟨h1, h2⟩
        refine ⟨?_, h2⟩
        by_cases e : p = k
        · subst e; exact absurd h2 h
        · omega
theorem selL_len (sel : Nat → Bool) : ∀ k, (selL sel k).length ≤ k
  | 0 => by simp [selL]
  | k + 1 => by
    have := selL_len sel k
    rw [selL]
    split
    · simp; omega
    · omega
theorem selL_nodup (sel : Nat → Bool) : ∀ k, (selL sel k).Nodup
  | 0 => by simp [selL]
  | k + 1 => by
    rw [selL]
    split
    · exact List.nodup_cons.2 ⟨fun h => by have := (selL_mem.1 h).1; omega, selL_nodup sel k⟩
    · exact selL_nodup sel k
/-- The same as numbers, one by one. -/
def selF (sel : Nat → Bool) (k : Nat) : Nat → Int := fun j => (((selL sel k).getD j 0 : Nat) : Int)
theorem selF_lst (sel : Nat → Bool) (k : Nat) : (selL sel k).map (fun (p : Nat) => (p : Int)) = lst (selF sel k) (selL sel k).length := by
  apply List.ext_getElem?
  intro i
  by_cases h : i < (selL sel k).length
  · rw [lst_get _ _ _ h, List.getElem?_map, List.getElem?_eq_getElem h]
    simp [selF, List.getD, h]
  · rw [List.getElem?_eq_none (by rw [List.length_map]; omega), List.getElem?_eq_none (by rw [lst_length]; omega)]
theorem selF_get (sel : Nat → Bool) (k j : Nat) (h : j < (selL sel k).length) : selF sel k j = (((selL sel k)[j] : Nat) : Int) := by simp [selF, List.getD, h]
theorem selF_good (sel : Nat → Bool) (k : Nat) : Good (selF sel k) k (selL sel k).length := fun j hj => by
  rw [selF_get sel k j hj]
  have := (selL_mem.1 (List.getElem_mem hj)).1
  refine ⟨by omega, by omega, fun i hi e => ?_⟩
  rw [selF_get sel k i (by omega)] at e
  have e2 : (selL sel k)[i] = (selL sel k)[j] := by omega
  exact (List.pairwise_iff_getElem.1 (selL_nodup sel k)) i j (by omega) hj hi e2
theorem selF_named (sel : Nat → Bool) (k p : Nat) (hp : p < k) : named (selF sel k) (selL sel k).length p = sel p := by
  cases h : sel p with
  | true =>
    have hm : p ∈ selL sel k := selL_mem.2 ⟨hp, h⟩
    obtain ⟨j, hj, e⟩ := List.getElem_of_mem hm
    exact named_iff.2 ⟨j, hj, by rw [selF_get sel k j hj, e]⟩
  | false =>
    cases h2 : named (selF sel k) (selL sel k).length p with
    | false => rfl
    | true =>
      obtain ⟨j, hj, e⟩ := named_iff.1 h2
      rw [selF_get sel k j hj] at e
      have := (selL_mem.1 (List.getElem_mem hj)).2
      rw [show (selL sel k)[j] = p by omega, h] at this
      cases this
theorem setl_congr {dur : Nat → Int} {tf : Nat → Nat} {ld : Nat → Int} {s1 s2 : Nat → Bool} : ∀ {k : Nat}, (∀ p, p < k → s1 p = s2 p) → setl dur tf ld s1 k = setl dur tf ld s2 k
  | 0, _ => rfl
  | k + 1, h => by rw [setl, setl, h k (by omega), setl_congr (fun p hp => h p (by omega))]

/-- The sectors of the wanted image behind the first k places. -/
def wantF (tf : Nat → Nat) (ld : Nat → Int) (sel : Nat → Bool) : Nat → Nat → Nat → Int
  | 0, _ => fun _ => 0
  | k + 1, i => if sel k && (i == tf k) then sh ld (k * 128) else wantF tf ld sel k i
theorem want_is (tf : Nat → Nat) (ld : Nat → Int) (sel : Nat → Bool) (i j : Nat) (hj : j < 128) : ∀ k, wantF tf ld sel k i j = setl (fun _ => 0) tf ld sel k (i * 128 + j)
  | 0 => rfl
  | k + 1 => by
    rw [wantF, setl]
    cases hs : sel k with
    | false => simpa using want_is tf ld sel i j hj k
    | true =>
      rw [if_pos rfl, Bool.true_and]
      unfold ov
      by_cases e : i = tf k
      · subst e
        rw [if_pos (by simp), if_pos (by omega)]
        unfold sh
        congr 1
        omega
      · rw [if_neg (by simpa using e), if_neg (by omega)]
        exact want_is tf ld sel i j hj k

/-- The truth values that were handed in. -/
def Blw (w : World) (a : Option Addr) (N : Nat) (st : Nat → Bool) : Prop := ∀ p, p < N → ∃ b off, a = some ⟨b, off, none⟩ ∧ w.cell? ⟨b, off + p, none⟩ = some (.bool (st p))

section
variable {w : World} {ops : Array Oper} {rest : List Oper} {o : Oper} {a : Act} {Q : Exit → Act → World → Prop}
/-- append of numbers of the call's own onto numbers of its own. -/
theorem wpList_appI (hgd : o.guard = none) (s x : Operand) (ho : o.op = .call { callee := .builtin .append, args := #[s, x], argTypes := #[27, 27] })
    (B : Nat) (v : Value) (xs : List Int) (hs : a.eval s = v) (hown : OwnI w B v xs) (v2 : Value) (f : Nat → Int) (m : Nat) (hx : a.eval x = v2) (hf : OwnI w 0 v2 (lst f m))
    (hbig : xs.length + m ≤ 1000000) (hB : B ≤ w.heap.size)
    (h : ∀ v' w', OwnI w' B v' (xs ++ lst f m) → Below B w w' → wpList Try.prog ops Q rest (a.put o.dst v') w') : wpList Try.prog ops Q (o :: rest) a w := by
  obtain ⟨i0, hi, hz0, hz1, hz2⟩ := info_parts info3
  have hown' : w.ownsRow B 3 1 v xs.length (xs.map (Value.int .i64)) := hown
  by_cases hm : v2 = .slice none 0 0
  · subst hm
    have hm0 : m = 0 := by
      rcases hf.2 with ⟨_, h0⟩ | ⟨_, _, _, h0, _⟩
      · rw [lst_length] at h0; exact h0
      · cases h0
    subst hm0
    refine wpList_append_own_none hgd s x 27 ho B 3 i0 1 Try.underlying27 hi v xs.length (xs.map (Value.int .i64)) hs hown' hx (h v w ?_ (Below.refl _ _))
    simpa [lst] using hown
  · have h9 := hf.2
    rw [lst_length] at h9
    rcases h9 with ⟨h0, _⟩ | ⟨g, cap, cur, rfl, _, h3, _⟩
    · exact absurd h0 hm
    · refine wpList_append_own w hgd s x 27 ho B 3 i0 (.int .i64 0) 1 8 Try.underlying27 hi hz0 hz1 hz2 rfl (by decide) v xs.length (xs.map (Value.int .i64)) hs hown' ⟨g, 0, none⟩ m cap ((lst f m).map (Value.int .i64)) hx (by simp [lst_length]) ?_ ?_ (by unfold maxLen; omega) (by omega) hB ?_
      · intro j u hj
        have hjm : j < m := by
          have := (List.getElem?_eq_some_iff.1 hj).1
          simpa [lst_length] using this
        rw [Addr.add_lit, Nat.zero_add, OwnI.cellF hf j hjm]
        rw [List.getElem?_map, lst_get f m j hjm] at hj
        simpa using hj
      · intro u hu
        obtain ⟨y, _, rfl⟩ := List.mem_map.1 hu
        rfl
      · intro v' w' h3 h4 _
        refine h v' w' ?_ ((Below.refl _ w).grown h4 hB (fun q hq => (World.ownsRow.lt hown q hq).1))
        unfold OwnI
        rw [List.length_append, lst_length, List.map_append]
        exact h3
end
theorem row_mono {w : World} {B B' : Nat} {e : TypeId} {sz : Nat} {v : Value} {n : Nat} {xs : List Value} (h : w.ownsRow B e sz v n xs) (hB : B' ≤ B) : w.ownsRow B' e sz v n xs := by
  refine ⟨h.1, ?_⟩
  rcases h.2 with h2 | ⟨g, cap, cur, h1, h2, h3⟩
  · exact .inl h2
  · exact .inr ⟨g, cap, cur, h1, Nat.le_trans hB h2, h3⟩
theorem OwnI.fromI {w : World} {B n c : Nat} {a : Option Addr} {f : Nat → Int} (h : OwnI w B (.slice a n c) (lst f n)) : FromI w a n f := fun i hi => by
  obtain ⟨g, c', e, ho, _⟩ := ownI_some h (show 0 < n by omega)
  injection e with e1 e2 e3
  subst e1
  exact ⟨g, 0, rfl, by rw [Nat.zero_add]; exact OwnI.cellF ho i hi⟩
theorem selF_cons (sel : Nat → Bool) (k : Nat) (h : sel k = true) : [(k : Int)] ++ lst (selF sel k) (selL sel k).length = lst (selF sel (k + 1)) (selL sel (k + 1)).length := by
  rw [← selF_lst, ← selF_lst, selL, if_pos h]
  rfl

set_option maxRecDepth 100000 in
set_option maxHeartbeats 2000000 in
theorem keeps_walk (a0 : Option Addr) (N c0 : Nat) (a1 : Option Addr) (N1 c1 : Nat) (st : Nat → Bool) (w : World) (hN : N ≤ 9223372036854775807) (hN1 : N1 ≤ 9223372036854775807) (h : Dos w a0 N) (hw : Blw w a1 N1 st) :
    Calls Try.prog 4 #[.slice a0 N c0, .slice a1 N1 c1] w fun e w' => e = .returned (.bool true) ∧ Below w.heap.size w w' := by
  have HW : Hid (Blw w a1 N1 st) := hw
  go_enter Try.func4, Try.ntmps4
  go_wp2_with fail
  refine (writtenD a0 N c0 w hN h).mono ?_
  rintro e w1 ⟨D, m, tf, ld, rfl, hd, hm, hb1⟩
  have HD : Hid (Dk w1 D (fun k => w.heap.size ≤ k ∧ k < w1.heap.size) 4 (fun _ => 0) m tf ld) := hd
  have hs1 := hb1.size
  have hm40 : m ≤ 40 := by omega
  clear h hw hd hm
  go_wp2_with fail
  refine (dkImage D 4 m _ _ tf ld w1 HD.out).mono ?_
  rintro e w2 ⟨g, b, rfl, hR, hg1, hg2, hbb1, hbb2, hb2⟩
  have HR : Hid (Rws w2 g 4 (fun _ => b) (fun i => i * 128) (fun _ => 128) (fun i => sh (fun _ => 0) (i * 128))) := hR
  have HD2 : Hid (Dk w2 D (fun k => w.heap.size ≤ k ∧ k < w1.heap.size) 4 (fun _ => 0) m tf ld) := HD.out.below hb2
  have hs2 := hb2.size
  clear hR HD
  go_wp2_with fail
  refine (dkPending D 4 m _ _ tf ld w2 HD2.out (by omega)).mono ?_
  rintro e w3 ⟨g3, b3, rfl, hS, hg31, hg32, hb31, hb32, hb3⟩
  have HS : Hid (Snts w3 g3 m b3 tf ld) := hS
  have HD3 : Hid (Dk w3 D (fun k => w.heap.size ≤ k ∧ k < w1.heap.size) 4 (fun _ => 0) m tf ld) := HD2.out.below hb3
  have hs3 := hb3.size
  clear hS HD2
  obtain ⟨sel, hsel⟩ : ∃ sel : Nat → Bool, ∀ p, sel p = (decide (p < N1) && st p) := ⟨_, fun _ => rfl⟩
  have HSel : Hid (∀ p, sel p = (decide (p < N1) && st p)) := hsel
  have HTn : Hid (∀ j, j < m → tf j < 4) := by
    obtain ⟨_, _, _, _, _, _, _, hh⟩ := HD3.out
    exact hh.tn
  have HK0 : Hid (OwnI w3 w3.heap.size (.slice none 0 0) (lst (selF sel 0) (selL sel 0).length)) := World.ownsRow_nil _ _ _ _
  have HR0 : Hid (Rws w3 g 4 (fun _ => b) (fun i => i * 128) (fun _ => 128) (wantF tf ld sel 0)) := HR.out.part (Part.ofBelow (F := fun _ => False) hb3) (fun h => h) hg2 (fun _ _ h => h)
  have hbw3 : Below w.heap.size w w3 := hb1.trans ((hb2.mono hs1).trans (hb3.mono (by omega)))
  have hbg : b ≠ g := fun e => by
    have h1 := HR.out.cell 0 (by omega)
    rcases HR.out.from_ 0 (by omega) with ⟨h2, _⟩ | ⟨x, h2, h3⟩
    · cases h2
    · cases h2
      have h4 := h3 0 (by omega)
      rw [Addr.add_lit] at h4
      subst e
      rw [h1] at h4
      cases h4
  clear HR hsel
  go_wp2
  go_loopw [7, 19] (fun kp i wr => ∃ (k : Nat) (b' o' c' : Nat → Nat), k ≤ m ∧ i = .int .i64 (k : Int) ∧ OwnI wr w3.heap.size kp (lst (selF sel k) (selL sel k).length) ∧ Rws wr g 4 b' o' c' (wantF tf ld sel k) ∧ (∀ i, i < 4 → b' i = b ∨ b' i = b3) ∧ Part (fun q => q = g) w3 wr) (fun _ i _ => m - (intOf i).toNat)
  case atStart => exact ⟨0, _, _, _, Nat.zero_le _, rfl, HK0.out, HR0.out, fun _ _ => .inl rfl, Part.refl _ _⟩
  case round =>
    obtain ⟨k, b', o', c', hk, rfl, hkp, hrw, hbs, hp⟩ := hrel
    have hps := hp.size
    have hbr : Below w.heap.size w wr := hbw3.trans (hp.below (fun q hq => by rw [hq]; omega) (by omega))
    by_cases hlt : k < m
    · have hlt' : (k : Int) < (m : Int) := by omega
      have hk0 : (0 : Int) ≤ (k : Int) := by omega
      have hSr := HS.out.part hp (by show ¬ g3 = g; omega) (by show ¬ b3 = g; omega)
      have p1 := hSr.sec k hlt
      have p2 := hSr.row k hlt
      have p3 := hSr.from_ k hlt
      have htn := HTn.out k hlt
      have htn' : (tf k : Int) < 4 := by omega
      have hlen := selL_len sel k
      obtain ⟨ob, hO⟩ : ∃ ob, Obj.cells #[.int .i64 (tf k : Int), .slice (some ⟨b3, k * 128, none⟩) 128 128] 33 = ob := ⟨_, rfl⟩
      have hpo : Part (fun q => q = g) w3 (wr.alloc ob) := hp.alloc ob
      have HRo : Hid (Rws (wr.alloc ob) g 4 b' o' c' (wantF tf ld sel k)) := hrw.part (Part.ofBelow (F := fun _ => False) ((Below.refl _ wr).alloc (Nat.le_refl _) ob)) (fun h => h) (by omega) (fun _ _ h => h)
      have HKo : Hid (OwnI (wr.alloc ob) w3.heap.size u7 (lst (selF sel k) (selL sel k).length)) := World.ownsRow.alloc hkp ob
      clear hrw hkp hSr
      by_cases hkN : k < N1
      · have hkN' : (k : Int) < (N1 : Int) := by omega
        obtain ⟨bw, ow, rfl, hwc⟩ := HW.out k hkN
        have hwc' : wr.cell? ⟨bw, ow + k, none⟩ = some (.bool (st k)) := by
          rw [hbr.cell (p := ⟨bw, ow + k, none⟩) (World.block_lt_of_cell? w _ hwc)]; exact hwc
        have hbw : bw < wr.heap.size := World.block_lt_of_cell? wr _ hwc'
        have hwa : ∀ o, (wr.alloc o).cell? ⟨bw, ow + k, none⟩ = some (.bool (st k)) := fun o => (World.cell?_alloc_past (w := wr) o bw (ow + k) hbw).trans hwc'
        clear hwc
        cases hst : st k with
        | true =>
          rw [hst] at hwc'
          simp only [hst] at hwa
          have HT : Hid (sel k = true) := (by rw [HSel.out k, hst]; simp [hkN] : sel k = true)
          have HL1 : Hid (OwnI ((wr.alloc ob).alloc (.cells #[.int .i64 (k : Int)] 3)) (wr.heap.size + 1) (.slice (some ⟨wr.heap.size + 1, 0, none⟩) 1 1) [(k : Int)]) := by
            have h9 := World.ownsRow_lit (base := wr.heap.size + 1) (e := 3) (size := 1) (wr.alloc ob) #[.int .i64 (k : Int)] 1 (by simp) (by unfold maxLen; omega) rfl
            simp only [World.size_alloc] at h9
            exact h9
          have HL2 : Hid (OwnI ((wr.alloc ob).alloc (.cells #[.int .i64 (k : Int)] 3)) 0 u7 (lst (selF sel k) (selL sel k).length)) := row_mono (World.ownsRow.alloc HKo.out _) (Nat.zero_le _)
          have HC : Hid ([(k : Int)] ++ lst (selF sel k) (selL sel k).length = lst (selF sel (k + 1)) (selL sel (k + 1)).length) := selF_cons sel k HT.out
          have HSz : Hid (wr.heap.size + 1 ≤ ((wr.alloc ob).alloc (.cells #[.int .i64 (k : Int)] 3)).heap.size) := (by simp : wr.heap.size + 1 ≤ ((wr.alloc ob).alloc (.cells #[.int .i64 (k : Int)] 3)).heap.size)
          have HB4 : Hid (∀ w4, Below (wr.heap.size + 1) ((wr.alloc ob).alloc (.cells #[.int .i64 (k : Int)] 3)) w4 → Below (wr.alloc ob).heap.size (wr.alloc ob) w4) := fun w4 hb => by
            have h9 : (wr.alloc ob).heap.size = wr.heap.size + 1 := by simp
            exact ((Below.refl _ (wr.alloc ob)).alloc (Nat.le_refl _) _).trans (hb.mono (by omega))
          have hob0 : (wr.alloc ob).cell? ⟨wr.heap.size, 0, none⟩ = some (.int .i64 (tf k : Int)) := by rw [← hO, World.cell?_alloc_at _ _ _ _ rfl]; rfl
          have hob1 : (wr.alloc ob).cell? ⟨wr.heap.size, 1, none⟩ = some (.slice (some ⟨b3, k * 128, none⟩) 128 128) := by rw [← hO, World.cell?_alloc_at _ _ _ _ rfl]; rfl
          have HX : Hid (∀ w4, Below (wr.alloc ob).heap.size (wr.alloc ob) w4 → w4.cell? ⟨wr.heap.size, 0, none⟩ = some (.int .i64 (tf k : Int)) ∧ w4.cell? ⟨wr.heap.size, 1, none⟩ = some (.slice (some ⟨b3, k * 128, none⟩) 128 128) ∧ w4.cell? ⟨g, tf k, none⟩ = some (.slice (some ⟨b' (tf k), o' (tf k), none⟩) 128 (c' (tf k))) ∧ w4.frozen? ⟨g, tf k, none⟩ = false ∧
              Part (fun q => q = g) w3 (w4.setCell ⟨g, tf k, none⟩ (.slice (some ⟨b3, k * 128, none⟩) 128 128)) ∧
              Rws (w4.setCell ⟨g, tf k, none⟩ (.slice (some ⟨b3, k * 128, none⟩) 128 128)) g 4 (fun i => if i = tf k then b3 else b' i) (fun i => if i = tf k then k * 128 else o' i) (fun i => if i = tf k then 128 else c' i) (wantF tf ld sel (k + 1))) := fun w4 hb => by
            have h9 : (wr.alloc ob).heap.size = wr.heap.size + 1 := by simp
            have hR4 := HRo.out.part (Part.ofBelow (F := fun _ => False) hb) (fun h => h) (by omega) (fun _ _ h => h)
            have hf4 : From w4 (some ⟨b3, k * 128, none⟩) 128 (sh ld (k * 128)) := (p3.alloc ob).below hb (Nat.le_refl _)
            have hne : ∀ i, i < 4 → b' i ≠ g := fun i hi => by rcases hbs i hi with e | e <;> rw [e] <;> omega
            refine ⟨by rw [hb.cell (p := ⟨wr.heap.size, 0, none⟩) (by show wr.heap.size < _; omega)]; exact hob0, by rw [hb.cell (p := ⟨wr.heap.size, 1, none⟩) (by show wr.heap.size < _; omega)]; exact hob1, hR4.cell _ htn, hR4.free _ htn, ?_, ⟨fun i hi => ?_, fun i hi => by rw [World.frozen?_setCell]; exact hR4.free i hi, fun i hi => ?_⟩⟩
            · exact (hpo.trans (Part.ofBelow (F := fun _ => False) hb) (fun _ _ h => h.elim)).setCell (p := ⟨g, tf k, none⟩) (fun _ => rfl) _
            · by_cases e : i = tf k
              · subst e
                rw [World.cell?_setCell_same _ _ _ (hR4.cell _ htn), if_pos rfl, if_pos rfl, if_pos rfl]
              · rw [World.cell?_setCell_other _ _ _ _ (fun e2 => e (congrArg Addr.off e2).symm), if_neg e, if_neg e, if_neg e]
                exact hR4.cell i hi
            · have keep : ∀ (bb oo : Nat) (ff : Nat → Int), bb ≠ g → From w4 (some ⟨bb, oo, none⟩) 128 ff → From (w4.setCell ⟨g, tf k, none⟩ (.slice (some ⟨b3, k * 128, none⟩) 128 128)) (some ⟨bb, oo, none⟩) 128 ff := fun bb oo ff hbb hff => by
                rcases hff with ⟨e, _⟩ | ⟨x, e, h2⟩
                · cases e
                · cases e
                  refine .inr ⟨_, rfl, fun j hj => ?_⟩
                  rw [World.cell?_setCell_other _ _ _ _ (fun e2 => hbb (by rw [Addr.add_lit] at e2; exact (congrArg Addr.block e2).symm))]
                  exact h2 j hj
              rw [wantF, HT.out, Bool.true_and]
              by_cases e : i = tf k
              · rw [if_pos e, if_pos e, if_pos (by simpa using e)]
                exact keep _ _ _ (by omega) hf4
              · rw [if_neg e, if_neg e, if_neg (by simpa using e)]
                exact keep _ _ _ (hne i hi) (hR4.from_ i hi)
          have HBs : Hid (∀ i, i < 4 → (fun i => if i = tf k then b3 else b' i) i = b ∨ (fun i => if i = tf k then b3 else b' i) i = b3) := fun i hi => by
            show (if i = tf k then b3 else b' i) = b ∨ (if i = tf k then b3 else b' i) = b3
            split
            · exact .inr rfl
            · exact hbs i hi
          obtain ⟨LL, hLL⟩ : ∃ LL, (selL sel k).length = LL := ⟨_, rfl⟩
          have HLn : Hid ((selL sel k).length = LL) := hLL
          rw [hLL] at hlen
          clear hLL
          go_wp2_with (at_builtin; refine wpList_appI rfl _ _ rfl (wr.heap.size + 1) _ [(k : Int)] rfl HL1.out u7 (selF sel k) (selL sel k).length rfl HL2.out ?q1 HSz.out ?_)
          case q1 =>
            rw [HLn.out]
            omega
          intro v4 w4 ho4 hb4
          obtain ⟨x1, x2, x3, x4, x5, x6⟩ := HX.out w4 (HB4.out w4 hb4)
          have HK4 : Hid (OwnI (w4.setCell ⟨g, tf k, none⟩ (.slice (some ⟨b3, k * 128, none⟩) 128 128)) w3.heap.size v4 (lst (selF sel (k + 1)) (selL sel (k + 1)).length)) := by
            rw [← HC.out]
            refine row_set (row_mono ho4 (by omega)) (fun e => ?_) _ _
            have := (World.ownsRow.lt ho4 g e).1
            omega
          have HX5 : Hid (Part (fun q => q = g) w3 (w4.setCell ⟨g, tf k, none⟩ (.slice (some ⟨b3, k * 128, none⟩) 128 128)) ∧ Rws (w4.setCell ⟨g, tf k, none⟩ (.slice (some ⟨b3, k * 128, none⟩) 128 128)) g 4 (fun i => if i = tf k then b3 else b' i) (fun i => if i = tf k then k * 128 else o' i) (fun i => if i = tf k then 128 else c' i) (wantF tf ld sel (k + 1))) := ⟨x5, x6⟩
          clear ho4 x5 x6 hb4
          go_wp2
          go_roundw
          case rel => exact ⟨k + 1, _, _, _, by omega, by go_num, HK4.out, HX5.out.2, HBs.out, HX5.out.1⟩
          case measure => simp [intOf]; omega
        | false =>
          rw [hst] at hwc'
          simp only [hst] at hwa
          have HT : Hid (sel k = false) := (by rw [HSel.out k, hst]; simp : sel k = false)
          have HRn : Hid (Rws (wr.alloc ob) g 4 b' o' c' (wantF tf ld sel (k + 1))) := by
            have e : wantF tf ld sel (k + 1) = wantF tf ld sel k := by funext i; rw [wantF, HT.out]; simp
            rw [e]; exact HRo.out
          have HKn : Hid (OwnI (wr.alloc ob) w3.heap.size u7 (lst (selF sel (k + 1)) (selL sel (k + 1)).length)) := by
            have e : selL sel (k + 1) = selL sel k := by rw [selL, HT.out]; simp
            unfold selF; rw [e]; exact HKo.out
          go_wp2
          go_roundw
          case rel => exact ⟨k + 1, b', o', c', by omega, by go_num, HKn.out, HRn.out, hbs, hpo⟩
          case measure => simp [intOf]; omega
      · have hkN' : ¬ (k : Int) < (N1 : Int) := by omega
        have HT : Hid (sel k = false) := (by rw [HSel.out k]; simp [hkN] : sel k = false)
        have HRn : Hid (Rws (wr.alloc ob) g 4 b' o' c' (wantF tf ld sel (k + 1))) := by
          have e : wantF tf ld sel (k + 1) = wantF tf ld sel k := by funext i; rw [wantF, HT.out]; simp
          rw [e]; exact HRo.out
        have HKn : Hid (OwnI (wr.alloc ob) w3.heap.size u7 (lst (selF sel (k + 1)) (selL sel (k + 1)).length)) := by
          have e : selL sel (k + 1) = selL sel k := by rw [selL, HT.out]; simp
          unfold selF; rw [e]; exact HKo.out
        go_wp2
        go_roundw
        case rel => exact ⟨k + 1, b', o', c', by omega, by go_num, HKn.out, HRn.out, hbs, hpo⟩
        case measure => simp [intOf]; omega
    · obtain rfl : k = m := by omega
      have hDr := HD3.out.part hp (fun q hq e => by omega)
      obtain ⟨ak, ck, rfl⟩ := ownI_any hkp
      have HFk : Hid (FromI wr ak (selL sel k).length (selF sel k)) := OwnI.fromI hkp
      have HRr : Hid (Rws wr g 4 b' o' c' (wantF tf ld sel k)) := hrw
      have hlen := selL_len sel k
      have HCr : Hid (Calls Try.prog 11 #[.pointer (some ⟨D, 0, none⟩), .slice ak (selL sel k).length ck] wr fun e w' => e = .returned (.int .i64 0) ∧ Dk w' D (fun k => w.heap.size ≤ k ∧ k < w1.heap.size) 4 (setl (fun _ => 0) tf ld sel k) 0 tf ld ∧ Part (fun k => w.heap.size ≤ k ∧ k < w1.heap.size) wr w') := by
        have h9 := dkCrash_ok D 4 k _ _ tf ld ak (selL sel k).length ck (selF sel k) wr hDr (by omega) (by omega) HFk.out (fun j hj => by
          have := selF_good sel k j hj
          omega) (selF_good sel k)
        rw [setl_congr (fun p hp => selF_named sel k p hp)] at h9
        exact h9
      clear hkp hrw hDr HFk
      go_wp2_with fail
      refine HCr.out.mono ?_
      rintro e w5 ⟨rfl, hD5, hp5⟩
      have hs5 := hp5.size
      have HD5 : Hid (Dk w5 D (fun k => w.heap.size ≤ k ∧ k < w1.heap.size) 4 (setl (fun _ => 0) tf ld sel k) 0 tf ld) := hD5
      have HR5 : Hid (Rws w5 g 4 b' o' c' (wantF tf ld sel k)) := HRr.out.part hp5 (fun h => by omega) (by omega) (fun i hi h => by rcases hbs i hi with e | e <;> rw [e] at h <;> omega)
      have hb5 : Below w.heap.size w w5 := hbr.trans (hp5.below (fun q hq => hq.1) (by omega))
      clear hD5 hp5 HCr
      go_wp2_with fail
      refine (dkImage D 4 0 _ _ tf ld w5 HD5.out).mono ?_
      rintro e w6 ⟨g6, b6, rfl, hR6, _, _, _, _, hb6⟩
      have HR6 : Hid (Rws w6 g6 4 (fun _ => b6) (fun i => i * 128) (fun _ => 128) (fun i => sh (setl (fun _ => 0) tf ld sel k) (i * 128))) := hR6
      have HR7 : Hid (Rws w6 g 4 b' o' c' (wantF tf ld sel k)) := HR5.out.part (Part.ofBelow (F := fun _ => False) hb6) (fun h => h) (by omega) (fun _ _ h => h)
      have hb7 : Below w.heap.size w w6 := hb5.trans (hb6.mono hb5.size)
      clear hR6 HR5 hb6
      go_wp2_with fail
      refine (sameImg g6 g 4 4 4 _ _ _ _ _ _ _ _ w6 (by omega) HR6.out HR7.out (fun i hi => lst_ext (fun j hj => (want_is tf ld sel i j hj k).symm))).mono ?_
      rintro e w7 ⟨rfl, hw⟩
      obtain rfl : w6 = w7 := hw.symm
      clear hw
      go_wp2
      go_ret
      exact ⟨rfl, hb7⟩
end Go.Proofs.Ytjpjpfmhmcdibaa
