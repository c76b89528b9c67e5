/-
  A datum's text is read as it: as functions of bytes.
  The same data twice: SameData, SameDatum say so.
-/
import Derived.Test.YtfobiknbjijphaaDoorGal
import Derived.Test.YtfobiknbjijphaaDoorGaw
import Derived.Test.YtfobiknbjijphaaDoorGbb
import Derived.Test.YtfobiknbjijphaaDoorGap
namespace Go.Proofs.YtfobiknbjijphaaDoor
open Go.RowKit
set_option linter.unusedVariables false
set_option linter.unusedSimpArgs false

theorem pcL_zero {l : List UInt8} (h : enB l = true) : pcL l = 0 := by
  cases l with
  | nil => rfl
  | cons c r => simp only [pcL]; rw [if_pos h]
theorem enB_plain {c : UInt8} {r : List UInt8} (h : dlB c = false) (h2 : c ≠ 35) : enB (c :: r) = false := by simp [enB, h, h2]
theorem pcL_plain : ∀ (l rest : List UInt8), (∀ c ∈ l, dlB c = false ∧ c ≠ 35) → enB rest = true → pcL (l ++ rest) = l.length
  | [], rest, _, hr => pcL_zero hr
  | c :: r, rest, h, hr => by
    have h1 := h c (by simp)
    show pcL (c :: (r ++ rest)) = _
    simp only [pcL]
    rw [enB_plain h1.1 h1.2]
    simp only [Bool.false_eq_true, if_false]
    rw [pcL_plain r rest (fun x hx => h x (by simp [hx])) hr]
    simp; omega
theorem rdD_leaf {n : Nat} {c : UInt8} {r rest : List UInt8} {d : Dt} (h1 : blB c = false) (h2 : c ≠ 59) (h3 : c ≠ 34) (ho : opn (c :: (r ++ rest)) = 0) (hp : pcL (c :: (r ++ rest)) = (c :: r).length) (ha : atL (c :: r) = .ok d) : rdD n (c :: (r ++ rest)) = .ok d rest := by
  have e : c :: (r ++ rest) = (c :: r) ++ rest := rfl
  rw [rdD_pcR (skF_stop h1 h2) h3 ho, pcR_ok (d := d) (by rw [hp, e, List.take_left]; exact ha), hp, e, List.drop_left]
theorem dl_no {c : UInt8} (h : dlB c = false) : c ≠ 40 ∧ c ≠ 41 ∧ c ≠ 34 ∧ c ≠ 39 ∧ c ≠ 59 ∧ blB c = false := by
  unfold dlB at h
  simp only [Bool.or_eq_false_iff, beq_eq_false_iff_ne] at h
  exact ⟨h.1.1.1.1.1, h.1.1.1.1.2, h.1.1.1.2, h.1.1.2, h.1.2, h.2⟩
theorem opn_no {c : UInt8} {r : List UInt8} (h : c ≠ 40) (h2 : c ≠ 39) (h3 : c ≠ 35) : opn (c :: r) = 0 := by
  unfold opn
  split
  · rename_i e; injection e with e1 e2; exact absurd e1 h
  · rename_i e; injection e with e1 e2; exact absurd e1 h2
  · rename_i e; injection e with e1 e2; exact absurd e1 h3
  · rfl
theorem part_no (c : UInt8) : partB c = true → dlB c = false ∧ c ≠ 35 := all256 (p := fun c => partB c = true → dlB c = false ∧ c ≠ 35) (by decide +kernel) c
theorem dig_no (c : UInt8) : (dgB c = true ∨ c = 45) → dlB c = false ∧ c ≠ 35 ∧ c ≠ 46 := all256 (p := fun c => (dgB c = true ∨ c = 45) → dlB c = false ∧ c ≠ 35 ∧ c ≠ 46) (by decide +kernel) c
theorem dig_sg (c : UInt8) : dgB c = true → sgnB c = false := all256 (p := fun c => dgB c = true → sgnB c = false) (by decide +kernel) c
theorem stp_dig {l : List UInt8} (h : l.head? ≠ some 48) : stp l = l := by
  cases l with
  | nil => rfl
  | cons c r => exact stp_ne (fun e => h (by rw [e]; rfl))
/-- A number's text is read as it. -/
theorem atL_can {t : ByteArray} (h : canP t.data.toList) : atL t.data.toList = .ok (.node 1 t [] []) ∧ (∀ c ∈ t.data.toList, dlB c = false ∧ c ≠ 35) ∧ ∃ c r, t.data.toList = c :: r ∧ c ≠ 46 := by
  obtain ⟨l, hl⟩ : ∃ l, t.data.toList = l := ⟨_, rfl⟩
  have htb : t = ba l := data_ba hl
  rw [hl] at h ⊢
  rw [htb]
  rcases h with ⟨h1, h2, h3, h4⟩ | ⟨r, rfl, ⟨h1, h2, h3, h4⟩, h5⟩
  · cases l with
    | nil => exact absurd rfl h1
    | cons c r =>
      have hd : ∀ x ∈ c :: r, dgB x = true := fun x hx => (dgB_iff x).2 (h3 x hx)
      have hs := dig_sg c (hd c (by simp))
      have hdg : dgT (c :: r) = c :: r := by simp [dgT, hs]
      have hn : numP (c :: r) := ⟨by rw [hdg]; simp, by rw [hdg]; exact hd⟩
      have hc45 : c ≠ 45 := by rintro rfl; exact absurd hs (by decide)
      have hcn : cnL (c :: r) = c :: r := by
        unfold cnL
        rw [hdg]
        by_cases h48 : c = 48
        · have hr : r = [] := by
            have := h4 (by rw [h48]; rfl)
            simpa using this
          rw [h48, hr]; rfl
        · rw [stp_ne h48, if_neg (by simp), if_neg (by simpa using hc45)]
      have hlen : (stp (dgT (c :: r))).length ≤ 200 := by
        have := stp_len (dgT (c :: r))
        rw [hdg] at this ⊢
        omega
      refine ⟨by rw [(atL_num hn).1 hlen, hcn], fun x hx => ?_, c, r, rfl, ?_⟩
      · have := dig_no x (.inl (hd x hx)); exact ⟨this.1, this.2.1⟩
      · exact (dig_no c (.inl (hd c (by simp)))).2.2
  · have hd : ∀ x ∈ r, dgB x = true := fun x hx => (dgB_iff x).2 (h3 x hx)
    have hdg : dgT (45 :: r) = r := by
      show (if sgnB 45 then r else 45 :: r) = r
      rw [if_pos (by decide)]
    have hn : numP (45 :: r) := ⟨by rw [hdg]; exact h1, by rw [hdg]; exact hd⟩
    have hst := stp_dig h5
    have hcn : cnL (45 :: r) = 45 :: r := by
      unfold cnL
      rw [hdg, hst, if_neg h1, if_pos (show (45 :: r : List UInt8).head? = some 45 from rfl)]
    refine ⟨by rw [(atL_num hn).1 (by rw [hdg, hst]; exact h2), hcn], fun x hx => ?_, 45, r, rfl, by decide⟩
    simp only [List.mem_cons] at hx
    rcases hx with rfl | hx
    · exact ⟨by decide, by decide⟩
    · have := dig_no x (.inl (hd x hx)); exact ⟨this.1, this.2.1⟩
/-- A name's text is read as it. -/
theorem atL_name {t : ByteArray} (h : nameP t) : atL t.data.toList = .ok (.node 4 t [] []) ∧ (∀ c ∈ t.data.toList, dlB c = false ∧ c ≠ 35) ∧ ∃ c r, t.data.toList = c :: r ∧ (c = 46 → r ≠ []) := by
  obtain ⟨l, hl⟩ : ∃ l, t.data.toList = l := ⟨_, rfl⟩
  have htb : t = ba l := data_ba hl
  have hp : ∀ c ∈ l, partB c = true := fun c hc => by
    rw [← hl] at hc
    obtain ⟨j, hj, rfl⟩ := List.getElem_of_mem hc
    rw [dlen] at hj
    exact h.2.2.2.2 j hj
  have hno : ∀ c ∈ l, dlB c = false ∧ c ≠ 35 := fun c hc => part_no c (hp c hc)
  rw [hl]
  refine ⟨?_, hno, ?_⟩
  · unfold atL
    rw [if_neg, ← htb, if_pos h]
    rintro (e | e)
    · exact (hno 35 (by rw [e]; simp)).2 rfl
    · exact (hno 35 (by rw [e]; simp)).2 rfl
  · cases l with
    | nil =>
      have h0 := h.1
      have := dlen t
      rw [hl] at this
      simp at this
      omega
    | cons c r =>
      refine ⟨c, r, rfl, fun hc hr => ?_⟩
      have h1 := h.2.2.1
      rw [list_eq, hl, hc, hr] at h1
      exact absurd h1 (by decide)
theorem stL_back (k : Nat) : ∀ (l acc rest : List UInt8), stL k acc (escL l ++ 34 :: rest) = .ok (acc ++ l) rest
  | [], acc, rest => by
    show stL k acc (34 :: rest) = _
    rw [stL_quote, List.append_nil]
  | c :: l, acc, rest => by
    have hx : ∀ x, stL k (acc ++ [x]) (escL l ++ 34 :: rest) = .ok (acc ++ x :: l) rest := fun x => by
      rw [stL_back k l (acc ++ [x]) rest, List.append_assoc]; rfl
    show stL k acc ((escB c ++ escL l) ++ 34 :: rest) = _
    unfold escB
    by_cases h1 : c = 92 ∨ c = 34
    · rw [if_pos h1]
      show stL k acc (92 :: c :: (escL l ++ 34 :: rest)) = _
      rw [stL_esc]
      have : escO c = some c := by unfold escO; rw [if_pos h1]
      rw [this]
      exact hx c
    · rw [if_neg h1]
      by_cases h2 : c = 10
      · rw [if_pos h2]
        show stL k acc (92 :: 110 :: (escL l ++ 34 :: rest)) = _
        rw [stL_esc]
        show stL k (acc ++ [10]) _ = _
        rw [h2]; exact hx 10
      · rw [if_neg h2]
        by_cases h3 : c = 9
        · rw [if_pos h3]
          show stL k acc (92 :: 116 :: (escL l ++ 34 :: rest)) = _
          rw [stL_esc]
          show stL k (acc ++ [9]) _ = _
          rw [h3]; exact hx 9
        · rw [if_neg h3]
          show stL k acc (c :: (escL l ++ 34 :: rest)) = _
          rw [stL_plain k acc _ c (fun e => h1 (.inr e)) (fun e => h1 (.inl e))]
          exact hx c
theorem size0 {t : ByteArray} (h : t.size = 0) : t = ⟨#[]⟩ := ByteArray.ext (Array.size_eq_zero_iff.1 h)
/-- What is behind an item: a blank or the end. -/
theorem tail_en (l m : List Dt) (rest : List UInt8) : enB (outL true l ++ (outT m ++ 41 :: rest)) = true := by
  cases l with
  | nil =>
    cases m with
    | nil => rfl
    | cons x r => rfl
  | cons x r => rfl
theorem enB_41 (rest : List UInt8) : enB (41 :: rest) = true := rfl
/-- How a datum's text begins. -/
theorem out_head {d : Dt} (h : d.good) {rest : List UInt8} (hr : enB rest = true) : ∃ c r, d.out ++ rest = c :: r ∧ blB c = false ∧ c ≠ 59 ∧ c ≠ 41 ∧ ¬ (c = 46 ∧ pcL (c :: r) = 1) := by
  cases d with
  | node k t l m =>
    obtain ⟨hf, -, -⟩ := h
    rcases hf with ⟨rfl, ht, _⟩ | ⟨rfl, ht, _⟩ | ⟨h5, h6, rfl, rfl, htx⟩
    · refine ⟨40, (outL false l ++ outT m ++ [41]) ++ rest, by simp [Dt.out, sqB], by decide, by decide, by decide, fun h => absurd h.1 (by decide)⟩
    · refine ⟨35, (40 :: (outL false l ++ outT m ++ [41])) ++ rest, by simp [Dt.out, sqB], by decide, by decide, by decide, fun h => absurd h.1 (by decide)⟩
    · have hsq : sqB k = false := by simp [sqB, h5, h6]
      rcases htx with ⟨rfl, hc⟩ | ⟨rfl, ht⟩ | rfl | ⟨rfl, hn⟩
      · obtain ⟨_, h2, c, r, h3, h4⟩ := atL_can hc
        have hh := dl_no (h2 c (by rw [h3]; simp)).1
        exact ⟨c, r ++ rest, by simp [Dt.out, hsq, h3], hh.2.2.2.2.2, hh.2.2.2.2.1, hh.2.1, fun h => h4 h.1⟩
      · have : t.data.toList = [35, 116] ∨ t.data.toList = [35, 102] := by
          rw [list_eq] at ht
          simpa using ht
        rcases this with e | e
        · exact ⟨35, 116 :: rest, by simp [Dt.out, hsq, e], by decide, by decide, by decide, fun h => absurd h.1 (by decide)⟩
        · exact ⟨35, 102 :: rest, by simp [Dt.out, hsq, e], by decide, by decide, by decide, fun h => absurd h.1 (by decide)⟩
      · exact ⟨34, (escL t.data.toList ++ [34]) ++ rest, by simp [Dt.out, strL], by decide, by decide, by decide, fun h => absurd h.1 (by decide)⟩
      · obtain ⟨_, h2, c, r, h3, h4⟩ := atL_name hn
        have hh := dl_no (h2 c (by rw [h3]; simp)).1
        refine ⟨c, r ++ rest, by simp [Dt.out, hsq, h3], hh.2.2.2.2.2, hh.2.2.2.2.1, hh.2.1, fun h => ?_⟩
        have hp := pcL_plain (c :: r) rest (by rw [← h3]; exact h2) hr
        have h5 : pcL (c :: (r ++ rest)) = (c :: r).length := hp
        rw [h5] at h
        have := h.2
        simp at this
        exact h4 h.1 this
/-- Items of a list, or a vector. -/
theorem items_back {n : Nat} (vec : Bool) (m : List Dt) (hv : vec = true → m = []) (hm : ∀ x ∈ m, ∀ rest, enB rest = true → rdD n (x.out ++ rest) = .ok x rest) (hmk : ∀ x ∈ m, x.kd ≠ 5) (hm1 : m.length ≤ 1) (rest : List UInt8) :
    ∀ (l acc : List Dt) (f : Nat) (flag : Bool), (∀ x ∈ l, x.good ∧ ∀ rest, enB rest = true → rdD n (x.out ++ rest) = .ok x rest) → (m ≠ [] → acc ++ l ≠ []) → (outL flag l ++ (outT m ++ 41 :: rest)).length < f →
      itL (rdD n) vec f acc (outL flag l ++ (outT m ++ 41 :: rest)) = .ok (.node (if vec then 6 else 5) ⟨#[]⟩ (acc ++ l) m) rest
  | [], acc, f, flag, hl, hne, hf => by
    cases f with
    | zero => omega
    | succ f =>
      cases m with
      | nil =>
        show itL (rdD n) vec (f + 1) acc (41 :: rest) = _
        rw [itL_close (r := rest) (skF_stop (by decide) (by decide)), List.append_nil]
      | cons x m2 =>
        have hm2 : m2 = [] := by
          have : m2.length = 0 := by simpa using hm1
          exact List.length_eq_zero_iff.1 this
        subst hm2
        have hvf : vec = false := by
          cases vec
          · rfl
          · have := hv rfl; cases this
        subst hvf
        have hacc : acc ≠ [] := by have := hne (by simp); simpa using this
        have e : outL flag [] ++ (outT [x] ++ 41 :: rest) = 32 :: 46 :: 32 :: (x.out ++ 41 :: rest) := by simp [outL, outT]
        rw [e]
        have hsk : skB false (32 :: 46 :: 32 :: (x.out ++ 41 :: rest)) = 46 :: 32 :: (x.out ++ 41 :: rest) := by
          rw [skF_blank (by decide), skF_stop (by decide) (by decide)]
        have hpc : pcL (46 :: 32 :: (x.out ++ 41 :: rest)) = 1 := by
          have : pcL ([46] ++ (32 :: (x.out ++ 41 :: rest))) = [46].length := pcL_plain [46] _ (by intro c hc; simp at hc; subst hc; exact ⟨by decide, by decide⟩) rfl
          exact this
        rw [itL_dot hsk (by decide) hacc rfl hpc]
        have hrd : rdD n (32 :: (x.out ++ 41 :: rest)) = .ok x (41 :: rest) := by
          rw [← rdD_skip, skF_blank (by decide), rdD_skip]
          exact hm x (by simp) (41 :: rest) rfl
        rw [hrd, dotR_yes (r3 := rest) (skF_stop (by decide) (by decide))]
        have : mkl acc x = .node 5 ⟨#[]⟩ acc [x] := by unfold mkl; rw [if_neg (hmk x (by simp))]
        rw [this, List.append_nil]
        rfl
  | x :: l, acc, f, flag, hl, hne, hf => by
    cases f with
    | zero => omega
    | succ f =>
      obtain ⟨hg, hb⟩ := hl x (by simp)
      have e : outL flag (x :: l) ++ (outT m ++ 41 :: rest) = (if flag then [32] else []) ++ (x.out ++ (outL true l ++ (outT m ++ 41 :: rest))) := by simp [outL]
      rw [e] at hf ⊢
      have hen := tail_en l m rest
      obtain ⟨Y, hY⟩ : ∃ Y, outL true l ++ (outT m ++ 41 :: rest) = Y := ⟨_, rfl⟩
      rw [hY] at hf hen ⊢
      obtain ⟨c, r, h1, h2, h3, h4, h5⟩ := out_head hg hen
      have hsk : skB false ((if flag then [32] else []) ++ (x.out ++ Y)) = c :: r := by
        rw [h1]
        cases flag
        · exact skF_stop h2 h3
        · show skB false (32 :: c :: r) = c :: r
          rw [skF_blank (by decide), skF_stop h2 h3]
      rw [itL_item hsk h4 (by rintro ⟨_, _, h6, h7⟩; exact h5 ⟨h6, h7⟩)]
      have hrd : rdD n (c :: r) = .ok x Y := by rw [← h1]; exact hb Y hen
      rw [hrd]
      show itL (rdD n) vec f (acc ++ [x]) Y = _
      have hlen := congrArg List.length h1
      rw [← hY]
      have hgt := (rdD_gets n _ _ _ hrd).2.1
      rw [items_back vec m hv hm hmk hm1 rest l (acc ++ [x]) f true (fun z hz => hl z (by simp [hz])) (by intro _; simp) (by
        rw [hY]
        rw [List.length_append] at hf
        rw [hlen] at hf
        omega)]
      rw [List.append_assoc]; rfl
theorem good_mem {l : List Dt} (h : goodL l) : ∀ x ∈ l, x.good := by
  intro x hx
  obtain ⟨j, hj, rfl⟩ := List.getElem_of_mem hx
  exact goodL_mem h j hj
theorem dep_mem {l : List Dt} : ∀ x ∈ l, x.dep ≤ depL l := by
  intro x hx
  obtain ⟨j, hj, rfl⟩ := List.getElem_of_mem hx
  exact depL_mem j hj
theorem rd_back (N : Nat) : ∀ d : Dt, d.siz < N → d.good → ∀ n, d.dep ≤ n → ∀ rest, enB rest = true → rdD n (d.out ++ rest) = .ok d rest := by
  induction N with
  | zero => exact fun d h => absurd h (Nat.not_lt_zero _)
  | succ N ih =>
    intro d hN hg n hn rest hr
    cases d with
    | node k t l m =>
      obtain ⟨hf, hgl, hgm⟩ := hg
      rcases hf with ⟨rfl, ht, htp⟩ | ⟨rfl, ht, rfl⟩ | ⟨h5, h6, rfl, rfl, htx⟩
      · obtain rfl := size0 ht
        have hd : 1 + max (depL l) (depL m) ≤ n := by simpa [Dt.dep, sqB] using hn
        obtain ⟨n, rfl⟩ : ∃ n2, n = n2 + 1 := ⟨n - 1, by omega⟩
        have e : (Dt.node 5 ⟨#[]⟩ l m).out ++ rest = 40 :: (outL false l ++ (outT m ++ 41 :: rest)) := by simp [Dt.out, sqB]
        rw [e, rdD_list (skF_stop (by decide) (by decide))]
        have hm0 : (m = [] ∨ ∃ x, m = [x] ∧ l ≠ [] ∧ x.kd ≠ 5) := htp
        have := items_back (n := n) false m (by simp) (fun x hx rest hr => ih x (by
            obtain ⟨j, hj, rfl⟩ := List.getElem_of_mem hx
            have := siz_m 5 ⟨#[]⟩ l m j hj
            omega) (good_mem hgm x hx) n (by have := dep_mem x hx; omega) rest hr) (fun x hx => by
            rcases hm0 with rfl | ⟨y, rfl, _, hy⟩
            · simp at hx
            · simp at hx; subst hx; exact hy) (by rcases hm0 with rfl | ⟨y, rfl, _, _⟩ <;> simp) rest l [] _ false (fun x hx => ⟨good_mem hgl x hx, fun rest hr => ih x (by
            obtain ⟨j, hj, rfl⟩ := List.getElem_of_mem hx
            have := siz_l 5 ⟨#[]⟩ l m j hj
            omega) (good_mem hgl x hx) n (by have := dep_mem x hx; omega) rest hr⟩) (by
            intro hne
            rcases hm0 with rfl | ⟨y, rfl, hl, _⟩
            · exact absurd rfl hne
            · simpa using hl) (Nat.lt_succ_self _)
        rw [this]
        rfl
      · obtain rfl := size0 ht
        have hd : 1 + max (depL l) (depL []) ≤ n := by simpa [Dt.dep, sqB] using hn
        obtain ⟨n, rfl⟩ : ∃ n2, n = n2 + 1 := ⟨n - 1, by omega⟩
        have e : (Dt.node 6 ⟨#[]⟩ l []).out ++ rest = 35 :: 40 :: (outL false l ++ (outT [] ++ 41 :: rest)) := by simp [Dt.out, sqB, outT]
        rw [e, rdD_vec (skF_stop (by decide) (by decide))]
        have := items_back (n := n) true [] (fun _ => rfl) (fun x hx => by simp at hx) (fun x hx => by simp at hx) (by simp) rest l [] ((outL false l ++ (outT [] ++ 41 :: rest)).length + 2) false (fun x hx => ⟨good_mem hgl x hx, fun rest hr => ih x (by
            obtain ⟨j, hj, rfl⟩ := List.getElem_of_mem hx
            have := siz_l 6 ⟨#[]⟩ l [] j hj
            omega) (good_mem hgl x hx) n (by have := dep_mem x hx; omega) rest hr⟩) (by intro h; exact absurd rfl h) (by omega)
        rw [this]
        rfl
      · have hsq : sqB k = false := by simp [sqB, h5, h6]
        rcases htx with ⟨rfl, hc⟩ | ⟨rfl, ht⟩ | rfl | ⟨rfl, hnm⟩
        · obtain ⟨h1, h2, c, r, h3, h4⟩ := atL_can hc
          have hh := h2 c (by rw [h3]; simp)
          have hd := dl_no hh.1
          have e : (Dt.node 1 t [] []).out ++ rest = c :: (r ++ rest) := by simp [Dt.out, hsq, h3]
          rw [e]
          exact rdD_leaf hd.2.2.2.2.2 hd.2.2.2.2.1 hd.2.2.1 (opn_no hd.1 hd.2.2.2.1 hh.2) (pcL_plain (c :: r) rest (by rw [← h3]; exact h2) hr) (by rw [← h3]; exact h1)
        · have htb : t.data.toList = [35, 116] ∨ t.data.toList = [35, 102] := by
            rw [list_eq] at ht
            simpa using ht
          have h2 : ∀ x : UInt8, (x = 116 ∨ x = 102) → t.data.toList = [35, x] → rdD n ((Dt.node 2 t [] []).out ++ rest) = .ok (.node 2 t [] []) rest := fun x hx e0 => by
            have e : (Dt.node 2 t [] []).out ++ rest = 35 :: ([x] ++ rest) := by simp [Dt.out, hsq, e0]
            rw [e]
            have hx2 : dlB x = false ∧ x ≠ 35 ∧ x ≠ 40 := by rcases hx with rfl | rfl <;> exact ⟨by decide, by decide, by decide⟩
            have hpc : pcL (35 :: ([x] ++ rest)) = 2 := by
              have h1 : pcL ([x] ++ rest) = 1 := pcL_plain [x] rest (by intro c hc; simp at hc; subst hc; exact ⟨hx2.1, hx2.2.1⟩) hr
              have h3 : enB (35 :: ([x] ++ rest)) = false := by
                show (dlB 35 || ((35 : UInt8) == 35 && some x == some 40)) = false
                have : (some x == some (40 : UInt8)) = false := by simpa using hx2.2.2
                rw [this]; decide
              simp only [pcL]
              rw [h3]
              simp only [Bool.false_eq_true, if_false]
              rw [h1]
            have hop : opn (35 :: ([x] ++ rest)) = 0 := by
              show opn (35 :: x :: rest) = 0
              unfold opn
              split
              · rename_i e; injection e with e1 e2; exact absurd e1 (by decide)
              · rename_i e; injection e with e1 e2; exact absurd e1 (by decide)
              · rename_i e; injection e with e1 e2; injection e2 with e2 e3; exact absurd e2 hx2.2.2
              · rfl
            refine rdD_leaf (by decide) (by decide) (by decide) hop hpc ?_
            unfold atL
            rw [if_pos (by rcases hx with rfl | rfl; exact .inl rfl; exact .inr rfl), ← data_ba e0]
          rcases htb with e | e
          · exact h2 116 (.inl rfl) e
          · exact h2 102 (.inr rfl) e
        · have e : (Dt.node 3 t [] []).out ++ rest = 34 :: (escL t.data.toList ++ 34 :: rest) := by simp [Dt.out, strL]
          rw [e, rdD_strR (skF_stop (by decide) (by decide)), strR_ok (stL_back _ _ _ _), List.nil_append, ba_data]
        · obtain ⟨h1, h2, c, r, h3, h4⟩ := atL_name hnm
          have hh := h2 c (by rw [h3]; simp)
          have hd := dl_no hh.1
          have e : (Dt.node 4 t [] []).out ++ rest = c :: (r ++ rest) := by simp [Dt.out, hsq, h3]
          rw [e]
          exact rdD_leaf hd.2.2.2.2.2 hd.2.2.2.2.1 hd.2.2.1 (opn_no hd.1 hd.2.2.2.1 hh.2) (pcL_plain (c :: r) rest (by rw [← h3]; exact h2) hr) (by rw [← h3]; exact h1)
/-- A datum that may be is read back. -/
theorem al_back {d : Dt} (h : d.may) (F : Nat) (hF : d.out.length < F) : alL F [] d.out = .ok [d] [] := by
  have hb := rd_back _ d (Nat.lt_succ_self _) h.1 64 h.2 [] rfl
  rw [List.append_nil] at hb
  obtain ⟨c, r, h1, h2, h3, _, _⟩ := out_head h.1 (rest := []) rfl
  rw [List.append_nil] at h1
  have hgt := (rdD_gets 64 _ _ _ hb).2.1
  cases F with
  | zero => omega
  | succ F =>
    rw [al_item (c := c) (r := r) (by rw [h1]; exact skF_stop h2 h3), ← h1, hb]
    show alL F [d] [] = _
    cases F with
    | zero => rw [h1] at hF; simp at hF
    | succ F => rw [al_end rfl]
end Go.Proofs.YtfobiknbjijphaaDoor

namespace Go.Proofs.YtfobiknbjijphaaDoor
open Go.RowKit
set_option linter.unusedVariables false
set_option linter.unusedSimpArgs false

/-- A row of data. -/
def AS (w : World) (l : List Dt) (v : Value) : Prop :=
  ∃ a c X, v = .slice a l.length c ∧ (l.length ≤ c ∧ c ≤ 9223372036854775807) ∧ RowAt w a l.length X ∧ ∀ j (h : j < l.length), DAt w l[j] (vx X j)
theorem SS.as {lo : Nat} {x : Option Nat} {w : World} {l : List Dt} {v : Value} (h : SS lo x w l v) : AS w l v := by
  obtain ⟨a, c, X, h1, h2, h3, h4⟩ := h
  exact ⟨a, c, X, h1, h2, h3.mono fun a u hc => (cutW_cell.1 hc).2, fun j hj => (h4 j hj).at_⟩
theorem DAt.as {w : World} {d : Dt} {v : Value} (h : DAt w d v) : ∃ v1 v2, v = .agg #[.int .i64 d.kd, .string d.tx, v1, v2] ∧ AS w d.its v1 ∧ AS w d.tl v2 := by
  cases h with
  | mk k t l m a b c c2 X Y hl hm ra rb sz => exact ⟨_, _, rfl, ⟨a, c, X, rfl, ⟨sz.1, sz.2.1⟩, ra, hl⟩, ⟨b, c2, Y, rfl, ⟨sz.2.2.1, sz.2.2.2.1⟩, rb, hm⟩⟩
theorem AS.under {w w' : World} {l : List Dt} {v : Value} (h : AS w l v) (hb : Below w.heap.size w w') : AS w' l v := by
  obtain ⟨a, c, X, h1, h2, h3, h4⟩ := h
  exact ⟨a, c, X, h1, h2, h3.below hb, fun j hj => (h4 j hj).under hb⟩
/-- Twice the same datum. -/
def Same2 (x : Dt) : Prop := ∀ (V : World) (u1 u2 : Value), DAt V x u1 → DAt V x u2 → Calls Tryd.prog 14 #[u1, u2] V fun e w' => e = .returned (.bool true) ∧ Hid (Below V.heap.size V w')
set_option maxHeartbeats 8000000 in
theorem eq_func {w : World} {l : List Dt} {v1 v2 : Value} (h1 : AS w l v1) (h2 : AS w l v2) (HI : Hid (∀ x ∈ l, Same2 x)) :
    Calls Tryd.prog 15 #[v1, v2, .func (.func 14) #[] #[]] w fun e w' => e = .returned (.bool true) ∧ Hid (Below w.heap.size w w') := by
  obtain ⟨a, c, X, rfl, hc, ra, hl⟩ := h1
  obtain ⟨b, c2, Y, rfl, hc2, rb, hm⟩ := h2
  obtain ⟨n, hn⟩ : ∃ n, l.length = n := ⟨_, rfl⟩
  have Hl := hid hl
  have Hm := hid hm
  have Hn := hid hn
  rw [hn] at ra rb hc ⊢
  have hnb : (n : Int) ≤ 9223372036854775807 := by omega
  clear hl hm hc hc2
  go_enter Tryd.func15, Tryd.ntmps15
  go_wp2_with fail
  go_loopw [17] (fun i wr => ∃ j : Nat, i = .int .i64 (j : Int) ∧ j ≤ n ∧ Hid (Below w.heap.size w wr)) (fun i _ => n - (intOf i).toNat)
  case atStart => exact ⟨0, rfl, Nat.zero_le _, Below.refl _ _⟩
  case round =>
    obtain ⟨j, rfl, hj, HB⟩ := hrel
    by_cases hlt : j < n
    · have l1 : (j : Int) < (n : Int) := by omega
      have l2 : (0 : Int) ≤ (j : Int) := by omega
      have hjl : j < l.length := by rw [hn]; exact hlt
      obtain ⟨g, o, rfl, hX⟩ := ra (by omega)
      obtain ⟨g2, o2, rfl, hY⟩ := rb (by omega)
      have hXw : ∀ i, i < 4 → wr.cell? ⟨g, o + j * 4 + i, none⟩ = some (X j i) := fun i hi => (HB.out.cell (World.block_lt_of_cell? w _ (hX j hlt i hi))).trans (hX j hlt i hi)
      have hYw : ∀ i, i < 4 → wr.cell? ⟨g2, o2 + j * 4 + i, none⟩ = some (Y j i) := fun i hi => (HB.out.cell (World.block_lt_of_cell? w _ (hY j hlt i hi))).trans (hY j hlt i hi)
      obtain ⟨ax, nx, cx, bx, mx, dx, e0, e1, e2, e3⟩ := (Hl.out j hjl).form
      obtain ⟨ay, ny, cy, by_, my, dy, f0, f1, f2, f3⟩ := (Hm.out j hjl).form
      have hvx : vx X j = .agg #[.int .i64 l[j].kd, .string l[j].tx, .slice ax nx cx, .slice bx mx dx] := by unfold vx; rw [e0, e1, e2, e3]
      have hvy : vx Y j = .agg #[.int .i64 l[j].kd, .string l[j].tx, .slice ay ny cy, .slice by_ my dy] := by unfold vx; rw [f0, f1, f2, f3]
      have hdx := (Hl.out j hjl).under HB.out
      have hdy := (Hm.out j hjl).under HB.out
      rw [hvx] at hdx
      rw [hvy] at hdy
      obtain ⟨x, hx⟩ : ∃ x, l[j] = x := ⟨_, rfl⟩
      have hmem : x ∈ l := by rw [← hx]; exact List.getElem_mem _
      rw [hx] at hdx hdy e0 e1 f0 f1
      have x0 : wr.cell? ⟨g, o + j * 4, none⟩ = some (X j 0) := hXw 0 (by decide)
      have x1 := hXw 1 (by decide)
      have x2 := hXw 2 (by decide)
      have x3 := hXw 3 (by decide)
      have y0 : wr.cell? ⟨g2, o2 + j * 4, none⟩ = some (Y j 0) := hYw 0 (by decide)
      have y1 := hYw 1 (by decide)
      have y2 := hYw 2 (by decide)
      have y3 := hYw 3 (by decide)
      rw [e0] at x0
      rw [e1] at x1
      rw [e2] at x2
      rw [e3] at x3
      rw [f0] at y0
      rw [f1] at y1
      rw [f2] at y2
      rw [f3] at y3
      clear e0 e1 e2 e3 f0 f1 f2 f3 hvx hvy hXw hYw
      have lx : g < wr.heap.size := World.block_lt_of_cell? wr _ x0
      have ly : g2 < wr.heap.size := World.block_lt_of_cell? wr _ y0
      have HD : Hid (∀ V, Below wr.heap.size wr V → Calls Tryd.prog 14 #[.agg #[.int .i64 x.kd, .string x.tx, .slice ax nx cx, .slice bx mx dx], .agg #[.int .i64 x.kd, .string x.tx, .slice ay ny cy, .slice by_ my dy]] V fun e w' => e = .returned (.bool true) ∧ Hid (Below w.heap.size w w')) := hid fun V hV => by
        refine (HI.out x hmem V _ _ (hdx.under hV) (hdy.under hV)).mono ?_
        rintro e w' ⟨h1, h2⟩
        exact ⟨h1, HB.out.trans ((hV.trans (h2.out.mono hV.size)).mono HB.out.size)⟩
      obtain ⟨V, hV⟩ : ∃ V, (wr.alloc (.cells #[.int .i64 x.kd, .string x.tx, .slice ax nx cx, .slice bx mx dx] 34)).alloc (.cells #[.int .i64 x.kd, .string x.tx, .slice ay ny cy, .slice by_ my dy] 34) = V := ⟨_, rfl⟩
      have HC := hid (HD.out V (by rw [← hV]; exact ((Below.refl _ wr).alloc (Nat.le_refl _) _).alloc (by rw [World.size_alloc]; omega) _))
      have HV := hid hV
      clear HD hdx hdy hV
      go_wp2_with fail
      rw [HV.out]
      refine HC.out.mono ?_
      clear HC HV
      rintro e w3 ⟨rfl, hb3⟩
      go_wp2
      go_roundw
      case rel => exact ⟨j + 1, by go_num, by omega, hb3⟩
      case measure => simp [intOf]; omega
    · obtain rfl : j = n := by omega
      go_wp2_with fail
      go_ret
      exact ⟨rfl, HB⟩
theorem same_data {w : World} {l : List Dt} {v1 v2 : Value} (h1 : AS w l v1) (h2 : AS w l v2) (HI : Hid (∀ x ∈ l, Same2 x)) :
    Calls Tryd.prog 10 #[v1, v2] w fun e w' => e = .returned (.bool true) ∧ Hid (Below w.heap.size w w') := by
  have HE := hid (eq_func h1 h2 HI)
  clear h1 h2 HI
  go_enter Tryd.func10, Tryd.ntmps10
  go_wp2_with fail
  refine HE.out.mono ?_
  clear HE
  rintro e w3 ⟨rfl, hb3⟩
  go_wp2
  go_ret
  exact ⟨rfl, hb3⟩
theorem siz_its {d x : Dt} (h : x ∈ d.its ∨ x ∈ d.tl) : x.siz < d.siz := by
  cases d with
  | node k t l m =>
    rcases h with h | h
    · obtain ⟨j, hj, rfl⟩ := List.getElem_of_mem h
      exact siz_l k t l m j hj
    · obtain ⟨j, hj, rfl⟩ := List.getElem_of_mem h
      exact siz_m k t l m j hj
set_option maxHeartbeats 4000000 in
theorem same_datum (N : Nat) : ∀ d : Dt, d.siz < N → Same2 d := by
  induction N with
  | zero => exact fun d h => absurd h (Nat.not_lt_zero _)
  | succ N ih =>
    intro d hN w u1 u2 h1 h2
    obtain ⟨p1, p2, rfl, a1, a2⟩ := h1.as
    obtain ⟨q1, q2, rfl, b1, b2⟩ := h2.as
    obtain ⟨ap1, cp1, _, rfl, _⟩ := id a1
    obtain ⟨ap2, cp2, _, rfl, _⟩ := id a2
    obtain ⟨aq1, cq1, _, rfl, _⟩ := id b1
    obtain ⟨aq2, cq2, _, rfl, _⟩ := id b2
    have HI1 : Hid (∀ x ∈ d.its, Same2 x) := hid fun x hx => ih x (by have := siz_its (.inl hx); omega)
    have HI2 : Hid (∀ x ∈ d.tl, Same2 x) := hid fun x hx => ih x (by have := siz_its (.inr hx); omega)
    obtain ⟨B, hB⟩ : ∃ B, w.heap.size = B := ⟨_, rfl⟩
    obtain ⟨W, hW⟩ : ∃ W, (w.alloc (.cells #[.int .i64 d.kd, .string d.tx, .slice ap1 d.its.length cp1, .slice ap2 d.tl.length cp2] 34)).alloc (.cells #[.int .i64 d.kd, .string d.tx, .slice aq1 d.its.length cq1, .slice aq2 d.tl.length cq2] 34) = W := ⟨_, rfl⟩
    have hb : Below w.heap.size w W := by rw [← hW]; exact ((Below.refl _ w).alloc (Nat.le_refl _) _).alloc (by rw [World.size_alloc]; omega) _
    have H1 := hid (same_data (a1.under hb) (b1.under hb) HI1)
    have H2 : Hid (∀ V, Below W.heap.size W V → Calls Tryd.prog 10 #[.slice ap2 d.tl.length cp2, .slice aq2 d.tl.length cq2] V fun e w' => e = .returned (.bool true) ∧ Hid (Below w.heap.size w w')) := hid fun V hV => by
      have hV' : Below w.heap.size w V := hb.trans (hV.mono hb.size)
      refine (same_data (a2.under hV') (b2.under hV') HI2).mono ?_
      rintro e w' ⟨h1, h2⟩
      exact ⟨h1, hV'.trans (h2.out.mono hV'.size)⟩
    have z1 : W.heap[B]? = some (.cells #[.int .i64 d.kd, .string d.tx, .slice ap1 d.its.length cp1, .slice ap2 d.tl.length cp2] 34 (0, 0)) := by
      rw [← hW]
      have e1 : (w.alloc (.cells #[.int .i64 d.kd, .string d.tx, .slice ap1 d.its.length cp1, .slice ap2 d.tl.length cp2] 34)).heap[B]? = some (.cells #[.int .i64 d.kd, .string d.tx, .slice ap1 d.its.length cp1, .slice ap2 d.tl.length cp2] 34 (0, 0)) := heap_alloc_at _ _ _ hB.symm
      exact (Below.heap_alloc _ _ B (by rw [World.size_alloc]; omega)).trans e1
    have z2 : W.heap[B + 1]? = some (.cells #[.int .i64 d.kd, .string d.tx, .slice aq1 d.its.length cq1, .slice aq2 d.tl.length cq2] 34 (0, 0)) := by
      rw [← hW]; exact heap_alloc_at _ _ _ (by rw [World.size_alloc, hB])
    have s2 : B + 1 < W.heap.size := (Array.getElem?_eq_some_iff.1 z2).1
    have c0 : W.cell? ⟨B, 0, none⟩ = some (.int .i64 d.kd) := by rw [cells_at z1 0]; rfl
    have c1 : W.cell? ⟨B, 1, none⟩ = some (.string d.tx) := by rw [cells_at z1 1]; rfl
    have c2 : W.cell? ⟨B, 2, none⟩ = some (.slice ap1 d.its.length cp1) := by rw [cells_at z1 2]; rfl
    have c3 : W.cell? ⟨B, 3, none⟩ = some (.slice ap2 d.tl.length cp2) := by rw [cells_at z1 3]; rfl
    have d0 : W.cell? ⟨B + 1, 0, none⟩ = some (.int .i64 d.kd) := by rw [cells_at z2 0]; rfl
    have d1 : W.cell? ⟨B + 1, 1, none⟩ = some (.string d.tx) := by rw [cells_at z2 1]; rfl
    have d2 : W.cell? ⟨B + 1, 2, none⟩ = some (.slice aq1 d.its.length cq1) := by rw [cells_at z2 2]; rfl
    have d3 : W.cell? ⟨B + 1, 3, none⟩ = some (.slice aq2 d.tl.length cq2) := by rw [cells_at z2 3]; rfl
    have HL : Hid (∀ V, Below W.heap.size W V → V.cell? ⟨B, 3, none⟩ = some (.slice ap2 d.tl.length cp2) ∧ V.cell? ⟨B + 1, 3, none⟩ = some (.slice aq2 d.tl.length cq2)) := hid fun V hV => ⟨(hV.cell (by show B < _; omega)).trans c3, (hV.cell (by show B + 1 < _; omega)).trans d3⟩
    have HW := hid hW
    clear z1 z2 s2 a1 a2 b1 b2 hb HI1 HI2 hW h1 h2 ih hN
    go_enter Tryd.func14, Tryd.ntmps14
    go_wp2_with fail
    try rw [HW.out]
    try go_wp2_with fail
    refine H1.out.mono ?_
    clear H1
    rintro e w3 ⟨rfl, hb3⟩
    obtain ⟨g1, g2⟩ := HL.out w3 hb3.out
    have H3 := hid (H2.out w3 hb3.out)
    clear HL H2 hb3 c0 c1 c2 c3 d0 d1 d2 d3
    go_wp2_with fail
    refine H3.out.mono ?_
    clear H3
    rintro e w4 ⟨rfl, hb4⟩
    go_wp2
    go_ret
    exact ⟨rfl, hb4⟩
/-- Two rows of the same data. -/
theorem same_rows {w : World} {l : List Dt} {v1 v2 : Value} (h1 : AS w l v1) (h2 : AS w l v2) :
    Calls Tryd.prog 10 #[v1, v2] w fun e w' => e = .returned (.bool true) ∧ Hid (Below w.heap.size w w') :=
  same_data h1 h2 (hid fun x _ => same_datum _ x (Nat.lt_succ_self _))
end Go.Proofs.YtfobiknbjijphaaDoor
