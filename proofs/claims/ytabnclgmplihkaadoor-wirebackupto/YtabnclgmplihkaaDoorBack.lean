/-
  The law WireBack: what is written is read as it was. The facts and the walk. Condition: the texts together have at most 2^46 bytes; the table is laid.
-/
import Derived.Test.YtabnclgmplihkaaDoorOverD
import Derived.Test.YtabnclgmplihkaaDoorTorn
namespace Go.Proofs.YtabnclgmplihkaaDoor
open Go.RowKit
set_option linter.unusedVariables false

theorem sh_sh (f : Nat → Int) (p q : Nat) : sh (sh f p) q = sh f (p + q) := by funext i; simp [sh, Nat.add_assoc]
theorem sh_right (A B : List Int) : sh (fn (A ++ B)) A.length = fn B := by funext i; exact fn_right A B i
theorem lst_congr {g g' : Nat → Int} {n : Nat} (h : ∀ i, i < n → g i = g' i) : lst g n = lst g' n := by
  apply List.map_congr_left
  intro i hi
  exact h i (List.mem_range.1 hi)
theorem strF_of (s : ByteArray) (B : List Int) : strF (fn (strL s ++ B)) s.size = s := by
  have e : lst (fn (strL s ++ B)) s.size = strL s := by
    rw [← strL_length s, lst_congr (g' := fn (strL s)) (fun i hi => by rw [fn_left _ _ i hi]; rfl)]
    exact lst_fn _
  unfold strF
  rw [e]
  unfold strOfNums strL
  cases s with
  | mk data =>
    have c : ((fun n : Int => UInt8.ofNat n.toNat) ∘ fun b : UInt8 => (b.toNat : Int)) = id := by funext b; simp
    simp [c]

theorem num_head (n : Nat) (B : List Int) (L : Nat) (hn : n ≤ 9223372036854775807) (hL : (putB n).length ≤ L) : Wm.num (fn (putB n ++ B)) L = ((n : Int), (((putB n).length : Nat) : Int), 0) := by
  rw [num_put (fn (putB n ++ B)) L n hn (fun i hi => fn_left _ _ i hi), if_pos hL]

/-- A frame is read as it was, whatever stands behind (P1.4, P1.5). -/
theorem unf_back (f : Nat → Int) (n : Nat) (hn : n ≤ 65536) (hby : ∀ i, 0 ≤ f i ∧ f i ≤ 255) (R : List Int) : unf (fn (frameB f n ++ R)) ((frameB f n).length + R.length) = (0, lst f n, R) := by
  have hs := Crc.sum_lt (lstN f n) (lstN_by hby n)
  have hlen := frameB_len f n
  have hg : ∀ i, i < (frameB f n).length → fn (frameB f n ++ R) i = fn (frameB f n) i := fun i hi => fn_left _ _ i hi
  have h : Wm.num (fn (frameB f n ++ R)) ((frameB f n).length + R.length) = ((n : Int), (((putB n).length : Nat) : Int), 0) := by
    rw [num_put _ _ n (by omega) (fun i hi => by rw [hg i (by omega)]; exact frame_head f n i hi), if_pos (by omega)]
  unfold unf
  rw [h]
  rw [if_neg (by simp), if_neg (by simp only; omega), if_neg (by simp only [Int.toNat_natCast]; omega)]
  simp only [Int.toNat_natCast]
  have h1 : rd (sh (fn (frameB f n ++ R)) ((putB n).length + n)) 4 = Crc.sum (lstN f n) := rd_four _ hs _ (fun i hi => by
    rw [sh, hg _ (by omega)]
    exact frame_sum f n i hi)
  have h2 : lstN (sh (fn (frameB f n ++ R)) (putB n).length) n = lstN f n := lstN_congr (fun i hi => by
    rw [sh, hg _ (by omega)]
    exact frame_load f n i hi)
  have h3 : lst (sh (fn (frameB f n ++ R)) (putB n).length) n = lst f n := lst_congr (fun i hi => by
    rw [sh, hg _ (by omega)]
    exact frame_load f n i hi)
  rw [h1, h2, if_neg (by simp), h3, show (putB n).length + n + 4 = (frameB f n).length by omega, sh_right, show (frameB f n).length + R.length - (putB n).length - (n + 4) = R.length by omega, lst_fn]

/-- What the text's reading comes to behind the number. -/
theorem txt_back (z : Nat) (s : ByteArray) (R : List Int) (hs : s.size ≤ 70368744177664) (hz : z ≤ 9223372036854775807) :
    txt (fn (putB z ++ (putB s.size ++ (strL s ++ R)))) ((putB z).length + ((putB s.size).length + (s.size + R.length))) (putB z).length (s.size : Int) = (s, 0, (putB z).length + (putB s.size).length + s.size) := by
  have h := num_head s.size (strL s ++ R) ((putB s.size).length + (s.size + R.length)) (by omega) (by omega)
  unfold txt
  rw [sh_right, show (putB z).length + ((putB s.size).length + (s.size + R.length)) - (putB z).length = (putB s.size).length + (s.size + R.length) by omega, h]
  rw [if_neg (by simp), if_neg (by simp only; omega), if_neg (by simp only; omega)]
  simp only [Int.toNat_natCast]
  rw [← sh_sh, sh_right, sh_right, strF_of]

set_option maxRecDepth 100000 in
set_option maxHeartbeats 2000000 in
theorem back_walk (z : Int) (s : ByteArray) (a0 : Option Addr) (n c : Nat) (f : Nat → Int) (a1 : Option Addr) (m d : Nat) (g : Nat → Int) (w : World) (hbig : s.size + n + m ≤ 35184372088832) (hby : ∀ i, 0 ≤ f i ∧ f i ≤ 255) (hgy : ∀ i, 0 ≤ g i ∧ g i ≤ 255)
    (hf : From w a0 n f) (hc0 : a0 = none → c = 0) (hg : From w a1 m g) (hd0 : a1 = none → d = 0) (hz : z ≤ 9223372036854775807) (ht : Tab w) :
    Calls Tryd.prog 5 #[.int .i64 z, .string s, .slice a0 n c, .slice a1 m d] w fun e w' => e = .returned (.bool true) ∧ Below w.heap.size w w' := by
  have hpz := putB_le z.toNat (by omega)
  have hps := putB_le s.size (by omega)
  obtain ⟨BS, hBS⟩ : ∃ BS, putB z.toNat ++ (putB s.size ++ (strL s ++ lst g m)) = BS := ⟨_, rfl⟩
  have hbl : BS.length = (putB z.toNat).length + ((putB s.size).length + (s.size + m)) := by rw [← hBS, List.length_append, List.length_append, List.length_append, strL_length, lst_length]
  have HBL : Hid (BS.length = (putB z.toNat).length + ((putB s.size).length + (s.size + m))) := hbl
  have hble : BS.length ≤ 70368744177664 := by omega
  clear hbl
  have HB : Hid (putB z.toNat ++ (putB s.size ++ (strL s ++ lst g m)) = BS) := hBS
  have HF : Hid (From w a0 n f) := hf
  have HG : Hid (From w a1 m g) := hg
  have HT : Hid (Tab w) := ht
  have hbb : ∀ x ∈ BS, 0 ≤ x ∧ x ≤ 255 := by
    intro x hx
    rw [← hBS] at hx
    rcases List.mem_append.1 hx with hx | hx
    · exact putB_by 8 _ (by have : (128 : Nat) ^ (8 + 1) = 9223372036854775808 := by decide
                            omega) x hx
    · rcases List.mem_append.1 hx with hx | hx
      · exact putB_by 8 _ (by have : (128 : Nat) ^ (8 + 1) = 9223372036854775808 := by decide
                              omega) x hx
      · rcases List.mem_append.1 hx with hx | hx
        · obtain ⟨b, _, rfl⟩ := List.mem_map.1 hx
          have := b.toNat_lt
          omega
        · obtain ⟨i, _, rfl⟩ := List.mem_map.1 hx
          exact hgy i
  have HBB : Hid (∀ x ∈ BS, 0 ≤ x ∧ x ≤ 255) := hbb
  clear hBS hf hg ht hbb
  go_enter Tryd.func5, Tryd.ntmps5
  go_wp2_with fail
  refine (wPut none 0 0 f z w (by omega) (.inl ⟨rfl, rfl⟩) (fun _ => rfl) hz).mono ?_
  rintro e w1 ⟨v1, rfl, ho1, hb1⟩
  rw [show lst f 0 ++ putB z.toNat = putB z.toNat from rfl] at ho1
  obtain ⟨ao1, c1, rfl, hf1, hn1, _, _, _⟩ := ho1.open
  have hs1 := hb1.size
  go_wp2_with fail
  refine (wText2 ao1 _ c1 (fn (putB z.toNat)) s w1 (by omega) hf1 hn1).mono ?_
  rintro e w2 ⟨v2, rfl, ho2, hb2⟩
  rw [lst_fn] at ho2
  have hbA := hb1.trans (hb2.mono hs1)
  have hs2 := hbA.size
  have hsz2 := hb2.size
  have HG2 : Hid (From w2 a1 m g) := HG.out.below hbA (Nat.le_refl _)
  have hl2 : Hid ((putB z.toNat ++ putB s.size ++ strL s).length + m ≤ 140737488355328) := by
    show _ ≤ _
    rw [List.length_append, List.length_append, strL_length]
    omega
  clear ho1 hf1
  go_wp2_with (at_builtin; refine wpList_app rfl _ _ rfl w1.heap.size _ (putB z.toNat ++ putB s.size ++ strL s) rfl ho2 a1 m d g rfl HG2.out hd0 hl2.out hsz2 ?_)
  intro v3 w3 ho3 hb3
  have ho3 : Own w3 w1.heap.size v3 BS := by
    rw [← HB.out]
    simpa only [List.append_assoc] using ho3
  have hbB := hbA.trans (hb3.mono hs1)
  have hs3 := hbB.size
  obtain ⟨ao3, c3, rfl, hf3, hn3, _, _, _⟩ := ho3.open
  clear HG2 hl2 ho2 hb2 hb3 hbA hs2 hsz2
  go_wp2_with fail
  refine (over ao3 _ c3 (fn BS) w3 (by omega) (fun i => fn_by HBB.out i) hf3).mono ?_
  rintro e w4 ⟨R, ao4, cap4, rfl, hrd, hR, hb4⟩
  have hbC := hbB.trans (hb4.mono hs3)
  have hs4 := hbC.size
  clear ho3 hf3 hb4
  have HN : Hid (Wm.num (sh (fn BS) 0) (BS.length - 0) = ((z.toNat : Int), (((putB z.toNat).length : Nat) : Int), 0)) := by
    show _ = _
    have e0 : sh (fn BS) 0 = fn BS := by funext i; simp [sh]
    rw [e0, Nat.sub_zero, ← HB.out]
    exact num_head z.toNat _ _ (by omega) (by rw [HB.out]; have := HBL.out; omega)
  go_wp2_with fail
  refine (wUint hrd).mono ?_
  rintro e w5 ⟨rfl, hrd5, ho5⟩
  rw [HN.out] at hrd5 ⊢
  simp only [Int.toNat_natCast, Nat.zero_add] at hrd5
  have HTx : Hid (txt (fn BS) BS.length (putB z.toNat).length (s.size : Int) = (s, 0, (putB z.toNat).length + (putB s.size).length + s.size)) := by
    show _ = _
    have := txt_back z.toNat s (lst g m) (by omega) (by omega)
    rw [lst_length, HB.out, ← HBL.out] at this
    exact this
  have hbD := hbC.trans (ho5.below (by omega))
  clear hrd ho5 HN
  go_wp2_with fail
  refine (wText hrd5 (s.size : Int)).mono ?_
  rintro e w6 ⟨rfl, hrd6, ho6⟩
  rw [HTx.out] at hrd6 ⊢
  simp only at hrd6
  have hbE := hbD.trans (ho6.below (by omega))
  have hleft : Hid (BS.length - ((putB z.toNat).length + (putB s.size).length + s.size) = m) := (by have := HBL.out; omega : BS.length - ((putB z.toNat).length + (putB s.size).length + s.size) = m)
  clear hrd5 ho6 hbD
  have HFr : Hid (n ≤ 65536 → unf (fn (frameB f n ++ lst g m)) ((frameB f n).length + (lst g m).length) = (0, lst f n, lst g m)) := fun h => unf_back f n h hby (lst g m)
  obtain ⟨XS, hXS⟩ : ∃ XS, frameB f n = XS := ⟨_, rfl⟩
  have HX : Hid (frameB f n = XS) := hXS
  have HXL : Hid (XS.length = (putB n).length + n + 4) := (by rw [← hXS]; exact frameB_len f n : XS.length = (putB n).length + n + 4)
  have HXB : Hid (n ≤ 65536 → ∀ x ∈ XS ++ lst g m, 0 ≤ x ∧ x ≤ 255) := fun h x hx => by
    rcases List.mem_append.1 hx with hx | hx
    · rw [← hXS] at hx; exact frame_by f n h hby x hx
    · obtain ⟨i, _, rfl⟩ := List.mem_map.1 hx
      exact hgy i
  have hpn := putB_le n (by omega)
  clear hXS
  go_wp2_with fail
  all_goals
    refine (wLeft hrd6).mono ?_
    rintro e w7 ⟨rfl, q, hq⟩
    rw [hleft.out]
    have hb7 : Below w.heap.size w w7 := by rw [hq]; exact blw_drewN q hbE
    have hs7 := hb7.size
    have HF7 : Hid (From w7 a0 n f) := HF.out.below hb7 (Nat.le_refl _)
    have HG7 : Hid (From w7 a1 m g) := HG.out.below hb7 (Nat.le_refl _)
    have HT7 : Hid (Tab w7) := HT.out.below hb7 (Nat.le_refl _)
    clear hq
    by_cases hlong : 65536 < n
    · have hlong' : (65536 : Int) < (n : Int) := by omega
      go_wp2_with fail
      refine (wFrame_long a0 n c w7 hlong).mono ?_
      rintro e w8 ⟨rfl, rfl⟩
      go_wp2
      go_ret
      exact ⟨rfl, hb7⟩
    · have hn : n ≤ 65536 := by omega
      have hlong' : ¬ (65536 : Int) < (n : Int) := by omega
      clear hlong
      go_wp2_with fail
      refine (wFrame_ok a0 n c f w7 hn hby HF7.out hc0 HT7.out).mono ?_
      rintro e w8 ⟨vX, rfl, hoX, hb8⟩
      rw [HX.out] at hoX
      have hs8 := hb8.size
      have HF8 : Hid (From w8 a0 n f) := HF7.out.below hb8 (Nat.le_refl _)
      have HG8 : Hid (From w8 a1 m g) := HG7.out.below hb8 (Nat.le_refl _)
      have HT8 : Hid (Tab w8) := HT7.out.below hb8 (Nat.le_refl _)
      obtain ⟨aX, cX, rfl, hfX, _, _, _, _⟩ := hoX.open
      have hxs : XS.length ≤ 70000 := by have := HXL.out; omega
      clear HF7 HG7 HT7
      go_wp2_with fail
      refine (clone aX _ cX (fn XS) w8 (by omega) hfX).mono ?_
      rintro e w9 ⟨v9, rfl, ho9, hb9⟩
      rw [lst_fn] at ho9
      have hs9 := hb9.size
      have HF9 : Hid (From w9 a0 n f) := HF8.out.below hb9 (Nat.le_refl _)
      have HG9 : Hid (From w9 a1 m g) := HG8.out.below hb9 (Nat.le_refl _)
      have HT9 : Hid (Tab w9) := HT8.out.below hb9 (Nat.le_refl _)
      clear HF8 HG8 HT8 hfX hoX
      have hl9 : Hid (XS.length + m ≤ 140737488355328) := (by omega : XS.length + m ≤ 140737488355328)
      go_wp2_with (at_builtin; refine wpList_app rfl _ _ rfl w8.heap.size _ XS rfl ho9 a1 m d g rfl HG9.out hd0 hl9.out hs9 ?_)
      intro v10 w10 ho10 hb10
      obtain ⟨a10, c10, rfl, hf10, hn10, hc10, hcc10, _⟩ := ho10.open
      have hbA : Below w8.heap.size w8 w10 := hb9.trans hb10
      have hs10 := hbA.size
      have hbT : Below w.heap.size w w10 := hb7.trans ((hb8.mono hs7).trans (hbA.mono (by omega)))
      have HF10 : Hid (From w10 a0 n f) := HF.out.below hbT (Nat.le_refl _)
      have HG10 : Hid (From w10 a1 m g) := HG.out.below hbT (Nat.le_refl _)
      have HT10 : Tab w10 := HT.out.below hbT (Nat.le_refl _)
      have HU : Hid (unf (fn (XS ++ lst g m)) (XS ++ lst g m).length = (0, lst f n, lst g m)) := by
        show _ = _
        rw [List.length_append, ← HX.out]
        exact HFr.out hn
      have hyl : (XS ++ lst g m).length ≤ 70368744177664 := by rw [List.length_append, lst_length]; omega
      have HYB : Hid (∀ x ∈ XS ++ lst g m, 0 ≤ x ∧ x ≤ 255) := HXB.out hn
      clear HF9 HG9 HT9 ho9 ho10 hb10 hbA
      generalize XS ++ lst g m = YS at *
      go_wp2_with fail
      refine (wUnframe a10 _ c10 (fn YS) w10 (by omega) (fun i => fn_by HYB.out i) hf10 hc10 hcc10 HT10).mono ?_
      rintro e w11 ⟨u1, u2, rfl, hu1, hu2, hb11⟩
      rw [HU.out] at hu1 hu2 ⊢
      simp only at hu1 hu2
      have hbU : Below w.heap.size w w11 := hbT.trans (hb11.mono hbT.size)
      obtain ⟨b1, d1, rfl, hfu1, _⟩ := Own.openF hu1
      obtain ⟨b2, d2, rfl, hfu2, _⟩ := Own.openF hu2
      have HF11 := HF.out.below hbU (Nat.le_refl _)
      have HG11 := HG.out.below hbU (Nat.le_refl _)
      clear hu1 hu2 hf10 HU HYB HT10
      go_wp2_with fail
      refine (equal_yes b1 a0 n d1 n c f f w11 hfu1 HF11 rfl).mono ?_
      rintro e w12 ⟨rfl, hw⟩
      obtain rfl : w11 = w12 := hw.symm
      go_wp2_with fail
      refine (equal_yes b2 a1 m d2 m d g g w11 hfu2 HG11 rfl).mono ?_
      rintro e w13 ⟨rfl, hw⟩
      obtain rfl : w11 = w13 := hw.symm
      go_wp2
      go_ret
      exact ⟨rfl, hbU⟩
end Go.Proofs.YtabnclgmplihkaaDoor
