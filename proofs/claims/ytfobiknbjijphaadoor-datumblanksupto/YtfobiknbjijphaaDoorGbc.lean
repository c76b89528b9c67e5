/-
  A datum's text is read as it: as functions of bytes.
  What is read may be, and is not much greater than its text; texts of data with blanks behind each are read as them.
-/
import Derived.Test.YtfobiknbjijphaaDoorGal
import Derived.Test.YtfobiknbjijphaaDoorGaw
import Derived.Test.YtfobiknbjijphaaDoorGbb
namespace Go.Proofs.YtfobiknbjijphaaDoor
open Go.RowKit
set_option linter.unusedVariables false
set_option linter.unusedSimpArgs false

theorem pcL_zero {l : List UInt8} (h : enB l = true) : pcL l = 0 := by
  cases l with
  | nil => rfl
  | cons c r => simp only [pcL]; rw [if_pos h]
theorem enB_plain {c : UInt8} {r : List UInt8} (h : dlB c = false) (h2 : c ≠ 35) : enB (c :: r) = false := by simp [enB, h, h2]
theorem pcL_plain : ∀ (l rest : List UInt8), (∀ c ∈ l, dlB c = false ∧ c ≠ 35) → enB rest = true → pcL (l ++ rest) = l.length
  | [], rest, _, hr => pcL_zero hr
  | c :: r, rest, h, hr => by
    have h1 := h c (by simp)
    show pcL (c :: (r ++ rest)) = _
    simp only [pcL]
    rw [enB_plain h1.1 h1.2]
    simp only [Bool.false_eq_true, if_false]
    rw [pcL_plain r rest (fun x hx => h x (by simp [hx])) hr]
    simp; omega
theorem rdD_leaf {n : Nat} {c : UInt8} {r rest : List UInt8} {d : Dt} (h1 : blB c = false) (h2 : c ≠ 59) (h3 : c ≠ 34) (ho : opn (c :: (r ++ rest)) = 0) (hp : pcL (c :: (r ++ rest)) = (c :: r).length) (ha : atL (c :: r) = .ok d) : rdD n (c :: (r ++ rest)) = .ok d rest := by
  have e : c :: (r ++ rest) = (c :: r) ++ rest := rfl
  rw [rdD_pcR (skF_stop h1 h2) h3 ho, pcR_ok (d := d) (by rw [hp, e, List.take_left]; exact ha), hp, e, List.drop_left]
theorem dl_no {c : UInt8} (h : dlB c = false) : c ≠ 40 ∧ c ≠ 41 ∧ c ≠ 34 ∧ c ≠ 39 ∧ c ≠ 59 ∧ blB c = false := by
  unfold dlB at h
  simp only [Bool.or_eq_false_iff, beq_eq_false_iff_ne] at h
  exact ⟨h.1.1.1.1.1, h.1.1.1.1.2, h.1.1.1.2, h.1.1.2, h.1.2, h.2⟩
theorem opn_no {c : UInt8} {r : List UInt8} (h : c ≠ 40) (h2 : c ≠ 39) (h3 : c ≠ 35) : opn (c :: r) = 0 := by
  unfold opn
  split
  · rename_i e; injection e with e1 e2; exact absurd e1 h
  · rename_i e; injection e with e1 e2; exact absurd e1 h2
  · rename_i e; injection e with e1 e2; exact absurd e1 h3
  · rfl
theorem part_no (c : UInt8) : partB c = true → dlB c = false ∧ c ≠ 35 := all256 (p := fun c => partB c = true → dlB c = false ∧ c ≠ 35) (by decide +kernel) c
theorem dig_no (c : UInt8) : (dgB c = true ∨ c = 45) → dlB c = false ∧ c ≠ 35 ∧ c ≠ 46 := all256 (p := fun c => (dgB c = true ∨ c = 45) → dlB c = false ∧ c ≠ 35 ∧ c ≠ 46) (by decide +kernel) c
theorem dig_sg (c : UInt8) : dgB c = true → sgnB c = false := all256 (p := fun c => dgB c = true → sgnB c = false) (by decide +kernel) c
theorem stp_dig {l : List UInt8} (h : l.head? ≠ some 48) : stp l = l := by
  cases l with
  | nil => rfl
  | cons c r => exact stp_ne (fun e => h (by rw [e]; rfl))
/-- A number's text is read as it. -/
theorem atL_can {t : ByteArray} (h : canP t.data.toList) : atL t.data.toList = .ok (.node 1 t [] []) ∧ (∀ c ∈ t.data.toList, dlB c = false ∧ c ≠ 35) ∧ ∃ c r, t.data.toList = c :: r ∧ c ≠ 46 := by
  obtain ⟨l, hl⟩ : ∃ l, t.data.toList = l := ⟨_, rfl⟩
  have htb : t = ba l := data_ba hl
  rw [hl] at h ⊢
  rw [htb]
  rcases h with ⟨h1, h2, h3, h4⟩ | ⟨r, rfl, ⟨h1, h2, h3, h4⟩, h5⟩
  · cases l with
    | nil => exact absurd rfl h1
    | cons c r =>
      have hd : ∀ x ∈ c :: r, dgB x = true := fun x hx => (dgB_iff x).2 (h3 x hx)
      have hs := dig_sg c (hd c (by simp))
      have hdg : dgT (c :: r) = c :: r := by simp [dgT, hs]
      have hn : numP (c :: r) := ⟨by rw [hdg]; simp, by rw [hdg]; exact hd⟩
      have hc45 : c ≠ 45 := by rintro rfl; exact absurd hs (by decide)
      have hcn : cnL (c :: r) = c :: r := by
        unfold cnL
        rw [hdg]
        by_cases h48 : c = 48
        · have hr : r = [] := by
            have := h4 (by rw [h48]; rfl)
            simpa using this
          rw [h48, hr]; rfl
        · rw [stp_ne h48, if_neg (by simp), if_neg (by simpa using hc45)]
      have hlen : (stp (dgT (c :: r))).length ≤ 200 := by
        have := stp_len (dgT (c :: r))
        rw [hdg] at this ⊢
        omega
      refine ⟨by rw [(atL_num hn).1 hlen, hcn], fun x hx => ?_, c, r, rfl, ?_⟩
      · have := dig_no x (.inl (hd x hx)); exact ⟨this.1, this.2.1⟩
      · exact (dig_no c (.inl (hd c (by simp)))).2.2
  · have hd : ∀ x ∈ r, dgB x = true := fun x hx => (dgB_iff x).2 (h3 x hx)
    have hdg : dgT (45 :: r) = r := by
      show (if sgnB 45 then r else 45 :: r) = r
      rw [if_pos (by decide)]
    have hn : numP (45 :: r) := ⟨by rw [hdg]; exact h1, by rw [hdg]; exact hd⟩
    have hst := stp_dig h5
    have hcn : cnL (45 :: r) = 45 :: r := by
      unfold cnL
      rw [hdg, hst, if_neg h1, if_pos (show (45 :: r : List UInt8).head? = some 45 from rfl)]
    refine ⟨by rw [(atL_num hn).1 (by rw [hdg, hst]; exact h2), hcn], fun x hx => ?_, 45, r, rfl, by decide⟩
    simp only [List.mem_cons] at hx
    rcases hx with rfl | hx
    · exact ⟨by decide, by decide⟩
    · have := dig_no x (.inl (hd x hx)); exact ⟨this.1, this.2.1⟩
/-- A name's text is read as it. -/
theorem atL_name {t : ByteArray} (h : nameP t) : atL t.data.toList = .ok (.node 4 t [] []) ∧ (∀ c ∈ t.data.toList, dlB c = false ∧ c ≠ 35) ∧ ∃ c r, t.data.toList = c :: r ∧ (c = 46 → r ≠ []) := by
  obtain ⟨l, hl⟩ : ∃ l, t.data.toList = l := ⟨_, rfl⟩
  have htb : t = ba l := data_ba hl
  have hp : ∀ c ∈ l, partB c = true := fun c hc => by
    rw [← hl] at hc
    obtain ⟨j, hj, rfl⟩ := List.getElem_of_mem hc
    rw [dlen] at hj
    exact h.2.2.2.2 j hj
  have hno : ∀ c ∈ l, dlB c = false ∧ c ≠ 35 := fun c hc => part_no c (hp c hc)
  rw [hl]
  refine ⟨?_, hno, ?_⟩
  · unfold atL
    rw [if_neg, ← htb, if_pos h]
    rintro (e | e)
    · exact (hno 35 (by rw [e]; simp)).2 rfl
    · exact (hno 35 (by rw [e]; simp)).2 rfl
  · cases l with
    | nil =>
      have h0 := h.1
      have := dlen t
      rw [hl] at this
      simp at this
      omega
    | cons c r =>
      refine ⟨c, r, rfl, fun hc hr => ?_⟩
      have h1 := h.2.2.1
      rw [list_eq, hl, hc, hr] at h1
      exact absurd h1 (by decide)
theorem stL_back (k : Nat) : ∀ (l acc rest : List UInt8), stL k acc (escL l ++ 34 :: rest) = .ok (acc ++ l) rest
  | [], acc, rest => by
    show stL k acc (34 :: rest) = _
    rw [stL_quote, List.append_nil]
  | c :: l, acc, rest => by
    have hx : ∀ x, stL k (acc ++ [x]) (escL l ++ 34 :: rest) = .ok (acc ++ x :: l) rest := fun x => by
      rw [stL_back k l (acc ++ [x]) rest, List.append_assoc]; rfl
    show stL k acc ((escB c ++ escL l) ++ 34 :: rest) = _
    unfold escB
    by_cases h1 : c = 92 ∨ c = 34
    · rw [if_pos h1]
      show stL k acc (92 :: c :: (escL l ++ 34 :: rest)) = _
      rw [stL_esc]
      have : escO c = some c := by unfold escO; rw [if_pos h1]
      rw [this]
      exact hx c
    · rw [if_neg h1]
      by_cases h2 : c = 10
      · rw [if_pos h2]
        show stL k acc (92 :: 110 :: (escL l ++ 34 :: rest)) = _
        rw [stL_esc]
        show stL k (acc ++ [10]) _ = _
        rw [h2]; exact hx 10
      · rw [if_neg h2]
        by_cases h3 : c = 9
        · rw [if_pos h3]
          show stL k acc (92 :: 116 :: (escL l ++ 34 :: rest)) = _
          rw [stL_esc]
          show stL k (acc ++ [9]) _ = _
          rw [h3]; exact hx 9
        · rw [if_neg h3]
          show stL k acc (c :: (escL l ++ 34 :: rest)) = _
          rw [stL_plain k acc _ c (fun e => h1 (.inr e)) (fun e => h1 (.inl e))]
          exact hx c
theorem size0 {t : ByteArray} (h : t.size = 0) : t = ⟨#[]⟩ := ByteArray.ext (Array.size_eq_zero_iff.1 h)
/-- What is behind an item: a blank or the end. -/
theorem tail_en (l m : List Dt) (rest : List UInt8) : enB (outL true l ++ (outT m ++ 41 :: rest)) = true := by
  cases l with
  | nil =>
    cases m with
    | nil => rfl
    | cons x r => rfl
  | cons x r => rfl
theorem enB_41 (rest : List UInt8) : enB (41 :: rest) = true := rfl
/-- How a datum's text begins. -/
theorem out_head {d : Dt} (h : d.good) {rest : List UInt8} (hr : enB rest = true) : ∃ c r, d.out ++ rest = c :: r ∧ blB c = false ∧ c ≠ 59 ∧ c ≠ 41 ∧ ¬ (c = 46 ∧ pcL (c :: r) = 1) := by
  cases d with
  | node k t l m =>
    obtain ⟨hf, -, -⟩ := h
    rcases hf with ⟨rfl, ht, _⟩ | ⟨rfl, ht, _⟩ | ⟨h5, h6, rfl, rfl, htx⟩
    · refine ⟨40, (outL false l ++ outT m ++ [41]) ++ rest, by simp [Dt.out, sqB], by decide, by decide, by decide, fun h => absurd h.1 (by decide)⟩
    · refine ⟨35, (40 :: (outL false l ++ outT m ++ [41])) ++ rest, by simp [Dt.out, sqB], by decide, by decide, by decide, fun h => absurd h.1 (by decide)⟩
    · have hsq : sqB k = false := by simp [sqB, h5, h6]
      rcases htx with ⟨rfl, hc⟩ | ⟨rfl, ht⟩ | rfl | ⟨rfl, hn⟩
      · obtain ⟨_, h2, c, r, h3, h4⟩ := atL_can hc
        have hh := dl_no (h2 c (by rw [h3]; simp)).1
        exact ⟨c, r ++ rest, by simp [Dt.out, hsq, h3], hh.2.2.2.2.2, hh.2.2.2.2.1, hh.2.1, fun h => h4 h.1⟩
      · have : t.data.toList = [35, 116] ∨ t.data.toList = [35, 102] := by
          rw [list_eq] at ht
          simpa using ht
        rcases this with e | e
        · exact ⟨35, 116 :: rest, by simp [Dt.out, hsq, e], by decide, by decide, by decide, fun h => absurd h.1 (by decide)⟩
        · exact ⟨35, 102 :: rest, by simp [Dt.out, hsq, e], by decide, by decide, by decide, fun h => absurd h.1 (by decide)⟩
      · exact ⟨34, (escL t.data.toList ++ [34]) ++ rest, by simp [Dt.out, strL], by decide, by decide, by decide, fun h => absurd h.1 (by decide)⟩
      · obtain ⟨_, h2, c, r, h3, h4⟩ := atL_name hn
        have hh := dl_no (h2 c (by rw [h3]; simp)).1
        refine ⟨c, r ++ rest, by simp [Dt.out, hsq, h3], hh.2.2.2.2.2, hh.2.2.2.2.1, hh.2.1, fun h => ?_⟩
        have hp := pcL_plain (c :: r) rest (by rw [← h3]; exact h2) hr
        have h5 : pcL (c :: (r ++ rest)) = (c :: r).length := hp
        rw [h5] at h
        have := h.2
        simp at this
        exact h4 h.1 this
/-- Items of a list, or a vector. -/
theorem items_back {n : Nat} (vec : Bool) (m : List Dt) (hv : vec = true → m = []) (hm : ∀ x ∈ m, ∀ rest, enB rest = true → rdD n (x.out ++ rest) = .ok x rest) (hmk : ∀ x ∈ m, x.kd ≠ 5) (hm1 : m.length ≤ 1) (rest : List UInt8) :
    ∀ (l acc : List Dt) (f : Nat) (flag : Bool), (∀ x ∈ l, x.good ∧ ∀ rest, enB rest = true → rdD n (x.out ++ rest) = .ok x rest) → (m ≠ [] → acc ++ l ≠ []) → (outL flag l ++ (outT m ++ 41 :: rest)).length < f →
      itL (rdD n) vec f acc (outL flag l ++ (outT m ++ 41 :: rest)) = .ok (.node (if vec then 6 else 5) ⟨#[]⟩ (acc ++ l) m) rest
  | [], acc, f, flag, hl, hne, hf => by
    cases f with
    | zero => omega
    | succ f =>
      cases m with
      | nil =>
        show itL (rdD n) vec (f + 1) acc (41 :: rest) = _
        rw [itL_close (r := rest) (skF_stop (by decide) (by decide)), List.append_nil]
      | cons x m2 =>
        have hm2 : m2 = [] := by
          have : m2.length = 0 := by simpa using hm1
          exact List.length_eq_zero_iff.1 this
        subst hm2
        have hvf : vec = false := by
          cases vec
          · rfl
          · have := hv rfl; cases this
        subst hvf
        have hacc : acc ≠ [] := by have := hne (by simp); simpa using this
        have e : outL flag [] ++ (outT [x] ++ 41 :: rest) = 32 :: 46 :: 32 :: (x.out ++ 41 :: rest) := by simp [outL, outT]
        rw [e]
        have hsk : skB false (32 :: 46 :: 32 :: (x.out ++ 41 :: rest)) = 46 :: 32 :: (x.out ++ 41 :: rest) := by
          rw [skF_blank (by decide), skF_stop (by decide) (by decide)]
        have hpc : pcL (46 :: 32 :: (x.out ++ 41 :: rest)) = 1 := by
          have : pcL ([46] ++ (32 :: (x.out ++ 41 :: rest))) = [46].length := pcL_plain [46] _ (by intro c hc; simp at hc; subst hc; exact ⟨by decide, by decide⟩) rfl
          exact this
        rw [itL_dot hsk (by decide) hacc rfl hpc]
        have hrd : rdD n (32 :: (x.out ++ 41 :: rest)) = .ok x (41 :: rest) := by
          rw [← rdD_skip, skF_blank (by decide), rdD_skip]
          exact hm x (by simp) (41 :: rest) rfl
        rw [hrd, dotR_yes (r3 := rest) (skF_stop (by decide) (by decide))]
        have : mkl acc x = .node 5 ⟨#[]⟩ acc [x] := by unfold mkl; rw [if_neg (hmk x (by simp))]
        rw [this, List.append_nil]
        rfl
  | x :: l, acc, f, flag, hl, hne, hf => by
    cases f with
    | zero => omega
    | succ f =>
      obtain ⟨hg, hb⟩ := hl x (by simp)
      have e : outL flag (x :: l) ++ (outT m ++ 41 :: rest) = (if flag then [32] else []) ++ (x.out ++ (outL true l ++ (outT m ++ 41 :: rest))) := by simp [outL]
      rw [e] at hf ⊢
      have hen := tail_en l m rest
      obtain ⟨Y, hY⟩ : ∃ Y, outL true l ++ (outT m ++ 41 :: rest) = Y := ⟨_, rfl⟩
      rw [hY] at hf hen ⊢
      obtain ⟨c, r, h1, h2, h3, h4, h5⟩ := out_head hg hen
      have hsk : skB false ((if flag then [32] else []) ++ (x.out ++ Y)) = c :: r := by
        rw [h1]
        cases flag
        · exact skF_stop h2 h3
        · show skB false (32 :: c :: r) = c :: r
          rw [skF_blank (by decide), skF_stop h2 h3]
      rw [itL_item hsk h4 (by rintro ⟨_, _, h6, h7⟩; exact h5 ⟨h6, h7⟩)]
      have hrd : rdD n (c :: r) = .ok x Y := by rw [← h1]; exact hb Y hen
      rw [hrd]
      show itL (rdD n) vec f (acc ++ [x]) Y = _
      have hlen := congrArg List.length h1
      rw [← hY]
      have hgt := (rdD_gets n _ _ _ hrd).2.1
      rw [items_back vec m hv hm hmk hm1 rest l (acc ++ [x]) f true (fun z hz => hl z (by simp [hz])) (by intro _; simp) (by
        rw [hY]
        rw [List.length_append] at hf
        rw [hlen] at hf
        omega)]
      rw [List.append_assoc]; rfl
theorem good_mem {l : List Dt} (h : goodL l) : ∀ x ∈ l, x.good := by
  intro x hx
  obtain ⟨j, hj, rfl⟩ := List.getElem_of_mem hx
  exact goodL_mem h j hj
theorem dep_mem {l : List Dt} : ∀ x ∈ l, x.dep ≤ depL l := by
  intro x hx
  obtain ⟨j, hj, rfl⟩ := List.getElem_of_mem hx
  exact depL_mem j hj
theorem rd_back (N : Nat) : ∀ d : Dt, d.siz < N → d.good → ∀ n, d.dep ≤ n → ∀ rest, enB rest = true → rdD n (d.out ++ rest) = .ok d rest := by
  induction N with
  | zero => exact fun d h => absurd h (Nat.not_lt_zero _)
  | succ N ih =>
    intro d hN hg n hn rest hr
    cases d with
    | node k t l m =>
      obtain ⟨hf, hgl, hgm⟩ := hg
      rcases hf with ⟨rfl, ht, htp⟩ | ⟨rfl, ht, rfl⟩ | ⟨h5, h6, rfl, rfl, htx⟩
      · obtain rfl := size0 ht
        have hd : 1 + max (depL l) (depL m) ≤ n := by simpa [Dt.dep, sqB] using hn
        obtain ⟨n, rfl⟩ : ∃ n2, n = n2 + 1 := ⟨n - 1, by omega⟩
        have e : (Dt.node 5 ⟨#[]⟩ l m).out ++ rest = 40 :: (outL false l ++ (outT m ++ 41 :: rest)) := by simp [Dt.out, sqB]
        rw [e, rdD_list (skF_stop (by decide) (by decide))]
        have hm0 : (m = [] ∨ ∃ x, m = [x] ∧ l ≠ [] ∧ x.kd ≠ 5) := htp
        have := items_back (n := n) false m (by simp) (fun x hx rest hr => ih x (by
            obtain ⟨j, hj, rfl⟩ := List.getElem_of_mem hx
            have := siz_m 5 ⟨#[]⟩ l m j hj
            omega) (good_mem hgm x hx) n (by have := dep_mem x hx; omega) rest hr) (fun x hx => by
            rcases hm0 with rfl | ⟨y, rfl, _, hy⟩
            · simp at hx
            · simp at hx; subst hx; exact hy) (by rcases hm0 with rfl | ⟨y, rfl, _, _⟩ <;> simp) rest l [] _ false (fun x hx => ⟨good_mem hgl x hx, fun rest hr => ih x (by
            obtain ⟨j, hj, rfl⟩ := List.getElem_of_mem hx
            have := siz_l 5 ⟨#[]⟩ l m j hj
            omega) (good_mem hgl x hx) n (by have := dep_mem x hx; omega) rest hr⟩) (by
            intro hne
            rcases hm0 with rfl | ⟨y, rfl, hl, _⟩
            · exact absurd rfl hne
            · simpa using hl) (Nat.lt_succ_self _)
        rw [this]
        rfl
      · obtain rfl := size0 ht
        have hd : 1 + max (depL l) (depL []) ≤ n := by simpa [Dt.dep, sqB] using hn
        obtain ⟨n, rfl⟩ : ∃ n2, n = n2 + 1 := ⟨n - 1, by omega⟩
        have e : (Dt.node 6 ⟨#[]⟩ l []).out ++ rest = 35 :: 40 :: (outL false l ++ (outT [] ++ 41 :: rest)) := by simp [Dt.out, sqB, outT]
        rw [e, rdD_vec (skF_stop (by decide) (by decide))]
        have := items_back (n := n) true [] (fun _ => rfl) (fun x hx => by simp at hx) (fun x hx => by simp at hx) (by simp) rest l [] ((outL false l ++ (outT [] ++ 41 :: rest)).length + 2) false (fun x hx => ⟨good_mem hgl x hx, fun rest hr => ih x (by
            obtain ⟨j, hj, rfl⟩ := List.getElem_of_mem hx
            have := siz_l 6 ⟨#[]⟩ l [] j hj
            omega) (good_mem hgl x hx) n (by have := dep_mem x hx; omega) rest hr⟩) (by intro h; exact absurd rfl h) (by omega)
        rw [this]
        rfl
      · have hsq : sqB k = false := by simp [sqB, h5, h6]
        rcases htx with ⟨rfl, hc⟩ | ⟨rfl, ht⟩ | rfl | ⟨rfl, hnm⟩
        · obtain ⟨h1, h2, c, r, h3, h4⟩ := atL_can hc
          have hh := h2 c (by rw [h3]; simp)
          have hd := dl_no hh.1
          have e : (Dt.node 1 t [] []).out ++ rest = c :: (r ++ rest) := by simp [Dt.out, hsq, h3]
          rw [e]
          exact rdD_leaf hd.2.2.2.2.2 hd.2.2.2.2.1 hd.2.2.1 (opn_no hd.1 hd.2.2.2.1 hh.2) (pcL_plain (c :: r) rest (by rw [← h3]; exact h2) hr) (by rw [← h3]; exact h1)
        · have htb : t.data.toList = [35, 116] ∨ t.data.toList = [35, 102] := by
            rw [list_eq] at ht
            simpa using ht
          have h2 : ∀ x : UInt8, (x = 116 ∨ x = 102) → t.data.toList = [35, x] → rdD n ((Dt.node 2 t [] []).out ++ rest) = .ok (.node 2 t [] []) rest := fun x hx e0 => by
            have e : (Dt.node 2 t [] []).out ++ rest = 35 :: ([x] ++ rest) := by simp [Dt.out, hsq, e0]
            rw [e]
            have hx2 : dlB x = false ∧ x ≠ 35 ∧ x ≠ 40 := by rcases hx with rfl | rfl <;> exact ⟨by decide, by decide, by decide⟩
            have hpc : pcL (35 :: ([x] ++ rest)) = 2 := by
              have h1 : pcL ([x] ++ rest) = 1 := pcL_plain [x] rest (by intro c hc; simp at hc; subst hc; exact ⟨hx2.1, hx2.2.1⟩) hr
              have h3 : enB (35 :: ([x] ++ rest)) = false := by
                show (dlB 35 || ((35 : UInt8) == 35 && some x == some 40)) = false
                have : (some x == some (40 : UInt8)) = false := by simpa using hx2.2.2
                rw [this]; decide
              simp only [pcL]
              rw [h3]
              simp only [Bool.false_eq_true, if_false]
              rw [h1]
            have hop : opn (35 :: ([x] ++ rest)) = 0 := by
              show opn (35 :: x :: rest) = 0
              unfold opn
              split
              · rename_i e; injection e with e1 e2; exact absurd e1 (by decide)
              · rename_i e; injection e with e1 e2; exact absurd e1 (by decide)
              · rename_i e; injection e with e1 e2; injection e2 with e2 e3; exact absurd e2 hx2.2.2
              · rfl
            refine rdD_leaf (by decide) (by decide) (by decide) hop hpc ?_
            unfold atL
            rw [if_pos (by rcases hx with rfl | rfl; exact .inl rfl; exact .inr rfl), ← data_ba e0]
          rcases htb with e | e
          · exact h2 116 (.inl rfl) e
          · exact h2 102 (.inr rfl) e
        · have e : (Dt.node 3 t [] []).out ++ rest = 34 :: (escL t.data.toList ++ 34 :: rest) := by simp [Dt.out, strL]
          rw [e, rdD_strR (skF_stop (by decide) (by decide)), strR_ok (stL_back _ _ _ _), List.nil_append, ba_data]
        · obtain ⟨h1, h2, c, r, h3, h4⟩ := atL_name hnm
          have hh := h2 c (by rw [h3]; simp)
          have hd := dl_no hh.1
          have e : (Dt.node 4 t [] []).out ++ rest = c :: (r ++ rest) := by simp [Dt.out, hsq, h3]
          rw [e]
          exact rdD_leaf hd.2.2.2.2.2 hd.2.2.2.2.1 hd.2.2.1 (opn_no hd.1 hd.2.2.2.1 hh.2) (pcL_plain (c :: r) rest (by rw [← h3]; exact h2) hr) (by rw [← h3]; exact h1)
/-- A datum that may be is read back. -/
theorem al_back {d : Dt} (h : d.may) (F : Nat) (hF : d.out.length < F) : alL F [] d.out = .ok [d] [] := by
  have hb := rd_back _ d (Nat.lt_succ_self _) h.1 64 h.2 [] rfl
  rw [List.append_nil] at hb
  obtain ⟨c, r, h1, h2, h3, _, _⟩ := out_head h.1 (rest := []) rfl
  rw [List.append_nil] at h1
  have hgt := (rdD_gets 64 _ _ _ hb).2.1
  cases F with
  | zero => omega
  | succ F =>
    rw [al_item (c := c) (r := r) (by rw [h1]; exact skF_stop h2 h3), ← h1, hb]
    show alL F [d] [] = _
    cases F with
    | zero => rw [h1] at hF; simp at hF
    | succ F => rw [al_end rfl]
end Go.Proofs.YtfobiknbjijphaaDoor

namespace Go.Proofs.YtfobiknbjijphaaDoor
open Go.RowKit
set_option linter.unusedVariables false
set_option linter.unusedSimpArgs false

theorem sizL_cat (l m : List Dt) : sizL (l ++ m) = sizL l + sizL m := by
  induction l with
  | nil => simp [sizL]
  | cons x r ih => show x.siz + sizL (r ++ m) = x.siz + sizL r + sizL m; rw [ih]; omega
theorem wtL_cat (l m : List Dt) : wtL (l ++ m) = wtL l + wtL m := by
  induction l with
  | nil => simp [wtL]
  | cons x r ih => show x.wt + wtL (r ++ m) = x.wt + wtL r + wtL m; rw [ih]; omega
theorem depL_cat (l m : List Dt) : depL (l ++ m) = max (depL l) (depL m) := by
  induction l with
  | nil => simp [depL]
  | cons x r ih => show max x.dep (depL (r ++ m)) = max (max x.dep (depL r)) (depL m); rw [ih]; omega
theorem goodL_cat (l m : List Dt) : goodL (l ++ m) ↔ goodL l ∧ goodL m := by
  induction l with
  | nil => simp [goodL]
  | cons x r ih => show (x.good ∧ goodL (r ++ m)) ↔ ((x.good ∧ goodL r) ∧ goodL m); rw [ih]; exact and_assoc.symm
/-- A reader whose data may be, and are no greater than what it read. -/
def Mays (n : Nat) (rd : List UInt8 → Rs Dt) : Prop := ∀ l d r, rd l = .ok d r → d.good ∧ d.dep ≤ n ∧ d.siz + 2 * r.length ≤ 2 * l.length ∧ d.wt + 8 * r.length ≤ 8 * l.length
theorem mkl_may {n : Nat} {acc : List Dt} {x : Dt} (h1 : goodL acc) (h2 : depL acc ≤ n) (h3 : acc ≠ []) (g1 : x.good) (g2 : x.dep ≤ n) : (mkl acc x).good ∧ (mkl acc x).dep ≤ n + 1 ∧ (mkl acc x).siz ≤ 1 + sizL acc + x.siz ∧ (mkl acc x).wt ≤ 1 + wtL acc + x.wt := by
  cases x with
  | node k t l m =>
    unfold mkl
    by_cases hk : k = 5
    · have hk' : (Dt.node k t l m).kd = 5 := hk
      rw [if_pos hk']
      subst hk
      obtain ⟨hf, gl, gm⟩ := g1
      have ht : tailP l m := by
        rcases hf with ⟨_, _, h⟩ | ⟨h, _⟩ | ⟨h, _⟩
        · exact h
        · exact absurd h (by decide)
        · exact absurd rfl h
      have hd : 1 + max (depL l) (depL m) ≤ n := by simpa [Dt.dep, sqB] using g2
      refine ⟨⟨.inl ⟨rfl, rfl, ?_⟩, (goodL_cat _ _).2 ⟨h1, gl⟩, gm⟩, ?_, ?_, ?_⟩
      · rcases ht with h | ⟨y, e1, e2, e3⟩
        · exact .inl h
        · exact .inr ⟨y, e1, by simp [h3], e3⟩
      · show (if sqB 5 then 1 + max (depL (acc ++ l)) (depL m) else 0) ≤ _
        rw [if_pos (by decide), depL_cat]; omega
      · show 1 + (sizL (acc ++ l) + sizL m) ≤ 1 + sizL acc + (1 + (sizL l + sizL m))
        rw [sizL_cat]; omega
      · show 1 + 0 + (wtL (acc ++ l) + wtL m) ≤ 1 + wtL acc + (1 + t.size + (wtL l + wtL m))
        rw [wtL_cat]; omega
    · have hk' : ¬ (Dt.node k t l m).kd = 5 := hk
      rw [if_neg hk']
      refine ⟨⟨.inl ⟨rfl, rfl, .inr ⟨_, rfl, h3, hk'⟩⟩, h1, g1, trivial⟩, ?_, ?_, ?_⟩
      · show (if sqB 5 then 1 + max (depL acc) (max (Dt.node k t l m).dep 0) else 0) ≤ _
        rw [if_pos (by decide)]; omega
      · show 1 + (sizL acc + ((Dt.node k t l m).siz + 0)) ≤ _
        omega
      · show 1 + 0 + (wtL acc + ((Dt.node k t l m).wt + 0)) ≤ _
        omega
theorem itL_mays {n : Nat} {rd : List UInt8 → Rs Dt} (hr : Mays n rd) (vec : Bool) : ∀ (f : Nat) (acc : List Dt) (l : List UInt8) (d : Dt) (r : List UInt8), goodL acc → depL acc ≤ n → itL rd vec f acc l = .ok d r → d.good ∧ d.dep ≤ n + 1 ∧ d.siz + 2 * r.length ≤ sizL acc + 2 * l.length ∧ d.wt + 8 * r.length ≤ wtL acc + 8 * l.length
  | 0, acc, l, d, r, _, _, h => by simp [itL] at h
  | f + 1, acc, l, d, r, hg, hd, h => by
    have hs := skB_len false l
    simp only [itL] at h
    split at h
    · cases h
    · rename_i c r1 e
      rw [e] at hs
      simp only [List.length_cons] at hs
      split at h
      · injection h with e1 e2
        subst e1; subst e2
        cases vec
        · refine ⟨⟨.inl ⟨rfl, rfl, .inl rfl⟩, hg, trivial⟩, ?_, ?_, ?_⟩
          · show (if sqB 5 then 1 + max (depL acc) 0 else 0) ≤ _
            rw [if_pos (by decide)]; omega
          · show 1 + (sizL acc + 0) + 2 * r1.length ≤ _
            omega
          · show 1 + 0 + (wtL acc + 0) + 8 * r1.length ≤ _
            omega
        · refine ⟨⟨.inr (.inl ⟨rfl, rfl, rfl⟩), hg, trivial⟩, ?_, ?_, ?_⟩
          · show (if sqB 6 then 1 + max (depL acc) 0 else 0) ≤ _
            rw [if_pos (by decide)]; omega
          · show 1 + (sizL acc + 0) + 2 * r1.length ≤ _
            omega
          · show 1 + 0 + (wtL acc + 0) + 8 * r1.length ≤ _
            omega
      · split at h
        · rename_i hdot
          split at h
          · cases h
          · rename_i x r2 e2
            obtain ⟨g1, g2, g3, g4⟩ := hr _ _ _ e2
            split at h
            · cases h
            · rename_i c3 r3 e3
              have hs3 := skB_len false r2
              rw [e3] at hs3
              simp only [List.length_cons] at hs3
              split at h
              · injection h with q1 q2
                subst q1; subst q2
                obtain ⟨k1, k2, k3, k4⟩ := mkl_may hg hd hdot.2.1 g1 g2
                exact ⟨k1, k2, by omega, by omega⟩
              · cases h
        · split at h
          · cases h
          · rename_i x r2 e2
            obtain ⟨g1, g2, g3, g4⟩ := hr _ _ _ e2
            simp only [List.length_cons] at g3 g4
            have h1 : goodL (acc ++ [x]) := (goodL_cat _ _).2 ⟨hg, g1, trivial⟩
            have h2 : depL (acc ++ [x]) ≤ n := by
              rw [depL_cat]
              show max (depL acc) (max x.dep 0) ≤ n
              omega
            obtain ⟨q1, q2, q3, q4⟩ := itL_mays hr vec f _ _ _ _ h1 h2 h
            rw [sizL_cat] at q3
            rw [wtL_cat] at q4
            have e5 : sizL [x] = x.siz := by show x.siz + 0 = _; omega
            have e6 : wtL [x] = x.wt := by show x.wt + 0 = _; omega
            exact ⟨q1, q2, by omega, by omega⟩
theorem leaf_may {k : Int} {t : ByteArray} (h5 : k ≠ 5) (h6 : k ≠ 6) (h : textP k t) : (Dt.node k t [] []).good ∧ (Dt.node k t [] []).dep = 0 ∧ (Dt.node k t [] []).siz = 1 ∧ (Dt.node k t [] []).wt = 1 + t.size := by
  refine ⟨⟨.inr (.inr ⟨h5, h6, rfl, rfl, h⟩), trivial, trivial⟩, ?_, rfl, rfl⟩
  show (if sqB k then _ else 0) = 0
  rw [if_neg (by simp [sqB, h5, h6])]
theorem cnL_len {s : List UInt8} (h : s ≠ []) : (cnL s).length ≤ s.length := by
  have h1 := stp_len (dgT s)
  cases s with
  | nil => exact absurd rfl h
  | cons c r =>
    unfold cnL
    split
    · simp
    · split
      · rename_i hc
        have hc45 : c = 45 := by simpa using hc
        subst hc45
        have e : dgT (45 :: r) = r := by show (if sgnB 45 then r else 45 :: r) = r; rw [if_pos (by decide)]
        rw [e] at h1 ⊢
        simp; omega
      · have : (dgT (c :: r)).length ≤ (c :: r).length := by
          simp only [dgT]
          split
          · simp
          · exact Nat.le_refl _
        omega
theorem atL_may {s : List UInt8} {d : Dt} (h : atL s = .ok d) : d.good ∧ d.dep = 0 ∧ d.siz = 1 ∧ d.wt ≤ 1 + s.length := by
  have hne := (atL_its h).2
  unfold atL at h
  split at h
  · rename_i g
    injection h with h
    subst h
    have := leaf_may (k := 2) (t := ba s) (by decide) (by decide) (.inr (.inl ⟨rfl, by
      rw [list_eq]
      show (s == [35, 116] || s == [35, 102]) = true
      simpa using g⟩))
    exact ⟨this.1, this.2.1, this.2.2.1, Nat.le_of_eq this.2.2.2⟩
  · split at h
    · rename_i g
      injection h with h
      subst h
      have := leaf_may (k := 4) (t := ba s) (by decide) (by decide) (.inr (.inr (.inr ⟨rfl, g⟩)))
      exact ⟨this.1, this.2.1, this.2.2.1, Nat.le_of_eq this.2.2.2⟩
    · split at h
      · rename_i g
        split at h
        · rename_i g2
          injection h with h
          subst h
          have := leaf_may (k := 1) (t := ba (cnL s)) (by decide) (by decide) (.inl ⟨rfl, (can_cn g).2 g2⟩)
          refine ⟨this.1, this.2.1, this.2.2.1, ?_⟩
          rw [this.2.2.2]
          have := cnL_len hne
          show 1 + (cnL s).length ≤ _
          omega
        · cases h
      · cases h
theorem quoD_good : quoD.good := by
  refine ⟨.inr (.inr ⟨by decide, by decide, rfl, rfl, .inr (.inr (.inr ⟨rfl, by decide, by decide, ?_, by decide, fun i hi => ?_⟩))⟩), trivial, trivial⟩
  · rw [list_eq]; decide
  · have h5 : i < 5 := hi
    match i, h5 with
    | 0, _ => exact (by decide : partB 113 = true)
    | 1, _ => exact (by decide : partB 117 = true)
    | 2, _ => exact (by decide : partB 111 = true)
    | 3, _ => exact (by decide : partB 116 = true)
    | 4, _ => exact (by decide : partB 101 = true)
theorem rdD_mays : ∀ n, Mays n (rdD n) := by
  have leafs : ∀ n l r1 c d r, skB false l = c :: r1 → opn (c :: r1) = 0 ∨ c = 34 → rdD n l = .ok d r → d.good ∧ d.dep ≤ n ∧ d.siz + 2 * r.length ≤ 2 * l.length ∧ d.wt + 8 * r.length ≤ 8 * l.length := fun n l r1 c d r e ho h => by
    have hs := skB_len false l
    rw [e] at hs
    simp only [List.length_cons] at hs
    by_cases h34 : c = 34
    · subst h34
      rw [rdD_strR e] at h
      unfold strR at h
      split at h
      · cases h
      · rename_i t r2 e2
        injection h with q1 q2
        subst q1; subst q2
        have g1 := (stL_len _ _ _ _ _ e2).1
        simp only [List.length_nil] at g1
        have := leaf_may (k := 3) (t := ba t) (by decide) (by decide) (.inr (.inr (.inl rfl)))
        have hsz : (ba t).size = t.length := rfl
        exact ⟨this.1, by omega, by omega, by omega⟩
    · have ho2 : opn (c :: r1) = 0 := ho.elim id (fun e => absurd e h34)
      rw [rdD_pcR e h34 ho2] at h
      unfold pcR at h
      split at h
      · cases h
      · rename_i x e2
        injection h with q1 q2
        subst q1; subst q2
        obtain ⟨g1, g2, g3, g4⟩ := atL_may e2
        have g5 := (atL_its e2).2
        have hp := pcL_le (c :: r1)
        have h0 : pcL (c :: r1) ≠ 0 := fun e0 => g5 (by rw [e0]; rfl)
        rw [List.length_take] at g4
        simp only [List.length_cons] at hp g4
        simp only [List.length_drop, List.length_cons]
        exact ⟨g1, by omega, by omega, by omega⟩
  intro n
  induction n with
  | zero =>
    intro l d r h
    cases e : skB false l with
    | nil => rw [rdD_nil e] at h; cases h
    | cons c r1 =>
      by_cases ho : opn (c :: r1) = 0
      · exact leafs 0 l r1 c d r e (.inl ho) h
      · rw [rdD_deep e ho] at h; cases h
  | succ n ih =>
    intro l d r h
    have hs := skB_len false l
    cases e : skB false l with
    | nil => rw [rdD_nil e] at h; cases h
    | cons c r1 =>
      rw [e] at hs
      simp only [List.length_cons] at hs
      by_cases ho : opn (c :: r1) = 0
      · exact leafs (n + 1) l r1 c d r e (.inl ho) h
      · unfold opn at ho
        split at ho
        · rename_i r2 e2
          injection e2 with q1 q2
          subst q1; subst q2
          rw [rdD_list e] at h
          obtain ⟨g1, g2, g3, g4⟩ := itL_mays ih false _ [] _ _ _ trivial (Nat.zero_le _) h
          simp only [sizL, wtL] at g3 g4
          exact ⟨g1, g2, by omega, by omega⟩
        · rename_i r2 e2
          injection e2 with q1 q2
          subst q1; subst q2
          rw [rdD_quote e] at h
          split at h
          · cases h
          · rename_i x r3 e3
            obtain ⟨g1, g2, g3, g4⟩ := ih _ _ _ e3
            injection h with q1 q2
            subst q1; subst q2
            refine ⟨⟨.inl ⟨rfl, rfl, .inl rfl⟩, ⟨quoD_good, g1, trivial⟩, trivial⟩, ?_, ?_, ?_⟩
            · show (if sqB 5 then 1 + max (max quoD.dep (max x.dep 0)) 0 else 0) ≤ _
              rw [if_pos (by decide)]
              have : quoD.dep = 0 := rfl
              omega
            · show 1 + ((quoD.siz + (x.siz + 0)) + 0) + 2 * r3.length ≤ _
              have : quoD.siz = 1 := rfl
              omega
            · show 1 + 0 + ((quoD.wt + (x.wt + 0)) + 0) + 8 * r3.length ≤ _
              have : quoD.wt = 6 := rfl
              omega
        · rename_i r2 e2
          injection e2 with q1 q2
          subst q1; subst q2
          rw [rdD_vec e] at h
          obtain ⟨g1, g2, g3, g4⟩ := itL_mays ih true _ [] _ _ _ trivial (Nat.zero_le _) h
          simp only [sizL, wtL] at g3 g4
          simp only [List.length_cons] at hs
          exact ⟨g1, g2, by omega, by omega⟩
        · exact absurd rfl ho
theorem alL_mays : ∀ (f : Nat) (acc : List Dt) (l : List UInt8) (L : List Dt) (r : List UInt8), alL f acc l = .ok L r → ∃ M, L = acc ++ M ∧ (∀ d ∈ M, d.may) ∧ sizL M ≤ 2 * l.length ∧ wtL M ≤ 8 * l.length ∧ M.length ≤ l.length
  | 0, acc, l, L, r, h => by simp [alL] at h
  | f + 1, acc, l, L, r, h => by
    have hs := skB_len false l
    cases e : skB false l with
    | nil =>
      rw [al_end e] at h
      injection h with h1 h2
      exact ⟨[], by rw [← h1, List.append_nil], fun d hd => by simp at hd, Nat.zero_le _, Nat.zero_le _, Nat.zero_le _⟩
    | cons c r1 =>
      rw [al_item e] at h
      rw [e] at hs
      cases e2 : rdD 64 (c :: r1) with
      | bad k m => rw [e2] at h; cases h
      | ok x r2 =>
        rw [e2] at h
        obtain ⟨g1, g2, g3, g4⟩ := rdD_mays 64 _ _ _ e2
        have g5 := (rdD_gets 64 _ _ _ e2).2.1
        obtain ⟨M, h1, h2, h3, h4, h5⟩ := alL_mays f _ _ _ _ h
        refine ⟨x :: M, by rw [h1, List.append_assoc]; rfl, fun d hd => ?_, ?_, ?_, ?_⟩
        · simp only [List.mem_cons] at hd
          rcases hd with rfl | hd
          · exact ⟨g1, g2⟩
          · exact h2 d hd
        · show x.siz + sizL M ≤ _
          omega
        · show x.wt + wtL M ≤ _
          omega
        · simp only [List.length_cons]; omega
/-- What may stand behind a datum. -/
def Sp (b : List UInt8) : Prop := (∀ X, skB false (b ++ X) = skB false X) ∧ (∀ X, enB (b ++ X) = true) ∧ b ≠ []
/-- A text of data, each with its blanks. -/
def txL (sp : Nat → List UInt8) : Nat → List Dt → List UInt8
  | _, [] => []
  | i, d :: r => d.out ++ sp i ++ txL sp (i + 1) r
theorem txL_back (sp : Nat → List UInt8) (hsp : ∀ i, Sp (sp i)) : ∀ (l acc : List Dt) (i f : Nat), (∀ d ∈ l, d.may) → (txL sp i l).length < f → alL f acc (txL sp i l) = .ok (acc ++ l) []
  | [], acc, i, f, _, hf => by
    cases f with
    | zero => omega
    | succ f => show alL (f + 1) acc [] = _; rw [al_end rfl, List.append_nil]
  | d :: l, acc, i, f, hl, hf => by
    have hm := hl d (by simp)
    cases f with
    | zero => omega
    | succ f =>
      obtain ⟨Y, hY⟩ : ∃ Y, sp i ++ txL sp (i + 1) l = Y := ⟨_, rfl⟩
      have e : txL sp i (d :: l) = d.out ++ Y := by rw [← hY]; simp [txL]
      have hen : enB Y = true := by rw [← hY]; exact (hsp i).2.1 _
      have hb := rd_back _ d (Nat.lt_succ_self _) hm.1 64 hm.2 Y hen
      obtain ⟨c, r, h1, h2, h3, _, _⟩ := out_head hm.1 hen
      have hgt := (rdD_gets 64 _ _ _ hb).2.1
      rw [e] at hf ⊢
      rw [al_item (c := c) (r := r) (by rw [h1]; exact skF_stop h2 h3), ← h1, hb]
      show alL f (acc ++ [d]) Y = _
      cases f with
      | zero => rw [h1] at hf; simp at hf
      | succ f =>
        have hsk : alL (f + 1) (acc ++ [d]) Y = alL (f + 1) (acc ++ [d]) (txL sp (i + 1) l) := by
          rw [← hY]
          have := (hsp i).1 (txL sp (i + 1) l)
          simp only [alL, this]
        rw [hsk, txL_back sp hsp l (acc ++ [d]) (i + 1) (f + 1) (fun z hz => hl z (by simp [hz])) (by
          have hl2 : (txL sp (i + 1) l).length ≤ Y.length := by rw [← hY]; simp
          omega), List.append_assoc]
        rfl
end Go.Proofs.YtfobiknbjijphaaDoor
