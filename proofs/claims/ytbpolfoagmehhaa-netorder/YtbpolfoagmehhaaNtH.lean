/-
  NetOrder's walk.
-/
import Derived.Test.YtbpolfoagmehhaaNtF
import Derived.Test.YtbpolfoagmehhaaNtO
namespace Go.Proofs.Ytbpolfoagmehhaa
open Go.RowKit
set_option linter.unusedVariables false
set_option maxRecDepth 100000
set_option maxHeartbeats 4000000

/-- A row of the call's own (what was sent), of slices that were handed in. -/
structure Sr (w0 w : World) (u : Value) (ys : List Ms) : Prop where
  row : w.ownsRow w0.heap.size 29 1 u ys.length (ys.map Prod.fst)
  src : ∀ z ∈ ys, ∃ a c, z.1 = .slice a z.2.length c ∧ From w0 a z.2.length (fn z.2)
theorem Sr.ty {w0 w : World} {u : Value} {ys : List Ms} (h : Sr w0 w u ys) {k : Nat} (hk : u.ownBlock = some k) : w0.heap.size ≤ k ∧ ∃ cur, w.heap[k]? = some (.cells cur 29 (0, 0)) := by
  obtain ⟨cur, h1, h2⟩ := row_ty h.row hk
  exact ⟨h2, cur, h1⟩
/-- The net and what was sent, side by side. -/
structure Od (w0 w : World) (b : Nat) (v u : Value) (zs ys : List Ms) : Prop where
  net : Nt w w0.heap.size true b v zs
  sr : Sr w0 w u ys
  sep : ∀ k, u.ownBlock = some k → v.ownBlock ≠ some k
  bel : Below w0.heap.size w0 w
theorem Od.foot {w0 w : World} {b : Nat} {v u : Value} {zs ys : List Ms} (h : Od w0 w b v u zs ys) {k : Nat} (hf : Foot b v k) : w0.heap.size ≤ k := by
  rcases hf with rfl | hf
  · exact h.net.lo
  · exact (h.net.q.vty hf).1
/-- The net was changed. -/
theorem Od.went {w0 w w1 : World} {b : Nat} {v v1 u : Value} {zs zs1 ys : List Ms} (h : Od w0 w b v u zs ys) (hn : Nt w1 w0.heap.size true b v1 zs1) (hw : Went w w1 b v v1) : Od w0 w1 b v1 u zs1 ys := by
  refine ⟨hn, ⟨hw.part.row h.sr.row (fun k hk hf => ?_), h.sr.src⟩, fun k hk hv => ?_, h.bel.trans (hw.part.below (fun k hk => h.foot hk) h.bel.size)⟩
  · obtain ⟨_, cur, hc⟩ := h.sr.ty hk
    rcases hf with hf | hf
    · subst hf
      exact tyne h.net.hb hc (by decide)
    · exact h.sep k hk hf
  · rcases hw.row k hv with e | e
    · exact h.sep k hk e
    · have := (World.ownsRow.lt h.sr.row k hk).2
      omega
/-- One more that was sent is noted. -/
theorem Od.note {w0 w w2 : World} {b : Nat} {v u u2 : Value} {zs ys : List Ms} (h : Od w0 w b v u zs ys) {a : Option Addr} {n c : Nat} {f : Nat → Int} (hs : From w0 a n f) (o : Obj) (h2 : w2.ownsRow w0.heap.size 29 1 u2 (ys.length + 1) (ys.map Prod.fst ++ [.slice a n c])) (hg : (w.alloc o).grownBy w2 u.ownBlock) (ha : u2.ownBlock = u.ownBlock ∨ u2.ownBlock = some (w.alloc o).heap.size) :
    Od w0 w2 b v u2 zs (ys ++ [(.slice a n c, lst f n)]) := by
  have hp : Part (fun k => u.ownBlock = some k) w w2 := ((Part.refl _ w).alloc o).grown hg (fun k hk _ => hk)
  have hB := h.bel.size
  refine ⟨h.net.kept hp (fun hf => ?_) (fun k hk hf => h.sep k hf hk) (fun z hz k hk hf => ?_), ⟨?_, fun z hz => ?_⟩, fun k hk hv => ?_, h.bel.trans (hp.below (fun k hk => (h.sr.ty hk).1) hB)⟩
  · obtain ⟨_, cur, hc⟩ := h.sr.ty hf
    exact tyne h.net.hb hc (by decide)
  · obtain ⟨_, cur, hc⟩ := h.sr.ty hf
    obtain ⟨_, cur2, hc2⟩ := h.net.q.zty hz hk
    exact tyne hc hc2 (by decide)
  · rw [List.length_append, List.map_append]; exact h2
  · rcases List.mem_append.1 hz with hz | hz
    · exact h.sr.src z hz
    · obtain rfl : z = (.slice a n c, lst f n) := by simpa using hz
      refine ⟨a, c, by simp [lst_length], ?_⟩
      show From w0 a (lst f n).length (fn (lst f n))
      rw [lst_length]
      rcases hs with hs | ⟨x, e1, e2⟩
      · exact .inl hs
      · exact .inr ⟨x, e1, fun i hi => by rw [e2 i hi, fn_lst f n i hi]⟩
  · have h9 := (World.ownsRow.lt h.net.q.row k hv).2
    rcases ha with e | e
    · exact h.sep k (by rw [← e]; exact hk) hv
    · rw [e] at hk
      injection hk with hk
      simp at hk
      omega
/-- What was sent, the k-th. -/
theorem Sr.get {w0 w : World} {u : Value} {ys : List Ms} (h : Sr w0 w u ys) (hb : Below w0.heap.size w0 w) {a : Option Addr} {n c : Nat} (hv : u = .slice a n c) (k : Nat) (hk : k < ys.length) : ∃ g ak ck, a = some ⟨g, 0, none⟩ ∧ w.cell? ⟨g, k, none⟩ = some (.slice ak ys[k].2.length ck) ∧ ∀ w', Below w0.heap.size w0 w' → From w' ak ys[k].2.length (fn ys[k].2) := by
  obtain ⟨ak, ck, hu, hf⟩ := h.src ys[k] (List.getElem_mem hk)
  rcases h.row.2 with ⟨_, e⟩ | ⟨g, cap, cur, e, e1, e2, e3, e4, _⟩
  · omega
  · have hr := h.row
    rw [e] at hr
    have hc := hr.cellAt k (by omega)
    rw [List.getElem?_map, List.getElem?_eq_getElem hk] at hc
    rw [hv] at e
    injection e with e
    exact ⟨g, ak, ck, e, by rw [hc]; show some ys[k].1 = _; rw [hu], fun w' hb' => hf.below hb' (Nat.le_refl _)⟩
theorem map_drop0 {zs ys : List Ms} {k : Nat} (h : zs.map Prod.snd = (ys.drop k).map Prod.snd) (hk : k < ys.length) : ∃ h0 : 0 < zs.length, zs[0].2 = ys[k].2 ∧ (zs.eraseIdx 0).map Prod.snd = (ys.drop (k + 1)).map Prod.snd := by
  rw [List.drop_eq_getElem_cons hk] at h
  cases zs with
  | nil => simp at h; omega
  | cons z r =>
    simp only [List.map_cons] at h
    injection h with h1 h2
    exact ⟨by simp, h1, h2⟩
theorem od_new {w w1 : World} (hn1 : Nt w1 w.heap.size true w.heap.size (.slice none 0 0) []) (hw1 : w1 = w.alloc (.cells #[.slice none 0 0, .bool true] 45)) : Od w w1 w.heap.size (.slice none 0 0) (.slice none 0 0) [] [] :=
  ⟨hn1, ⟨⟨rfl, .inl ⟨rfl, rfl⟩⟩, fun z hz => by cases hz⟩, (fun k hk => by cases hk), by rw [hw1]; exact (Below.refl _ w).alloc (Nat.le_refl _) _⟩
theorem net_order {w : World} (a0 : Option Addr) (N C0 : Nat) (A : Nat → Option Addr) (L C : Nat → Nat) (f : Nat → Nat → Int) (hI : ImgN w a0 N A L C f) (hN : N ≤ 5864062014805) :
    Calls Try.prog 5 #[.slice a0 N C0] w fun e w' => e = .returned (.bool true) ∧ Below w.heap.size w w' := by
  obtain ⟨i0, hi0, hz0, hz1, hz2⟩ := info_parts infoB
  have hNew := n_new w w.heap.size (Nat.le_refl _)
  have HI : Hid (ImgN w a0 N A L C f) := hI
  clear hI
  go_enter Try.func5, Try.ntmps5
  go_wp2_with (go_at_call 6; refine hNew.mono ?_; rintro e w1 ⟨rfl, hn1, hw1⟩; have H1 : Hid (Od w w1 w.heap.size (.slice none 0 0) (.slice none 0 0) [] []) := od_new hn1 hw1; clear hn1 hw1)
  clear hNew
  go_loopw [4, 16] (fun u i wr => ∃ (k : Nat) (v : Value) (zs ys : List Ms), k ≤ N ∧ i = .int .i64 (k : Int) ∧ Od w wr w.heap.size v u zs ys ∧ ys.map Prod.snd = zs.map Prod.snd ∧ (k = 0 ∨ 4096 < L 0 ∨ 0 < ys.length)) (fun _ i _ => N - (intOf i).toNat)
  case atStart => exact ⟨0, _, [], [], Nat.zero_le _, rfl, H1.out, rfl, .inl rfl⟩
  case round =>
    obtain ⟨k, v, zs, ys, hk, rfl, hO, hy, hz⟩ := hrel
    have HO : Hid (Od w wr w.heap.size v u4 zs ys) := hO
    have HY : Hid (ys.map Prod.snd = zs.map Prod.snd) := hy
    have HZ : Hid (k = 0 ∨ 4096 < L 0 ∨ 0 < ys.length) := hz
    have hyl : Hid (ys.length = zs.length) := show ys.length = zs.length by have := congrArg List.length hy; simpa using this
    obtain ⟨au, cu, hu, hu0, _⟩ := row_slice hO.sr.row
    subst hu
    have hn64 := hO.net.n
    clear hO hy hz H1
    by_cases hlt : k < N
    · have hlt' : (k : Int) < (N : Int) := by omega
      have hk0 : (0 : Int) ≤ (k : Int) := by omega
      obtain ⟨b, off, rfl, hc, hf, hL, hC⟩ := HI.out k hlt
      have hc' : wr.cell? ⟨b, off + k, none⟩ = some (.slice (A k) (L k) (C k)) := by rw [HO.out.bel.cell (World.block_lt_of_cell? w _ hc)]; exact hc
      have hfr : From wr (A k) (L k) (f k) := hf.below HO.out.bel (Nat.le_refl _)
      have HF : Hid (From w (A k) (L k) (f k)) := hf
      have HK : Hid (∀ j, j = k → L j = L k) := fun j e => by rw [e]
      clear hc hf HI
      by_cases hlong : 4096 < L k
      · have hS := n_send_long HO.out.net (A k) (L k) (C k) hlong
        generalize hLk : L k = lk at *
        generalize A k = ak at *
        generalize C k = ck at *
        clear hfr HF
        go_wp2_with (go_at_call 8; refine hS.mono ?_; rintro e w2 ⟨rfl, hw⟩; rw [hw]; clear hw)
        go_roundw
        case rel => exact ⟨k + 1, v, zs, ys, by omega, by go_num, HO.out, HY.out, by
          rcases HZ.out with e | e | e
          · exact .inr (.inl (by rw [HK.out 0 e.symm]; omega))
          · exact .inr (.inl e)
          · exact .inr (.inr e)⟩
        case measure => simp [intOf]; omega
      · by_cases hfull : zs.length = 64
        · have hS := n_send_full HO.out.net (A k) (L k) (C k) (by omega) hfull
          generalize hLk : L k = lk at *
          generalize A k = ak at *
          generalize C k = ck at *
          clear hfr HF
          go_wp2_with (go_at_call 8; refine hS.mono ?_; rintro e w2 ⟨rfl, hw⟩; rw [hw]; clear hw)
          go_roundw
          case rel => exact ⟨k + 1, v, zs, ys, by omega, by go_num, HO.out, HY.out, .inr (.inr (by have := hyl.out; omega))⟩
          case measure => simp [intOf]; omega
        · have hS := n_send HO.out.net (by omega) (A k) (L k) (C k) (f k) hfr (by omega)
          generalize hLk : L k = lk at *
          generalize A k = ak at *
          generalize C k = ck at *
          generalize f k = fk at *
          clear hfr
          have HA : Hid (∀ w2 : World, Sent wr w2 w.heap.size w.heap.size true v zs (lst fk lk) → ∃ v1 m, Od w w2 w.heap.size v1 (.slice au ys.length cu) (zs ++ [(m, lst fk lk)]) ys) := fun w2 hs => by
            obtain ⟨v1, m, h1, h2, _⟩ := hs
            exact ⟨v1, m, HO.out.went h1 h2⟩
          have HN : Hid (∀ m : Value, (ys ++ [(Value.slice ak lk ck, lst fk lk)]).map Prod.snd = (zs ++ [(m, lst fk lk)]).map Prod.snd) := fun m => by rw [List.map_append, List.map_append, HY.out]; rfl
          have hyb : ys.length < 64 := by have := hyl.out; omega
          go_wp2_with (first
            | (go_at_call 8; refine hS.mono ?_; rintro e w2 ⟨rfl, hs⟩; obtain ⟨v1, m, ho2⟩ := HA.out w2 hs; clear hs; have HO2 : Hid (Od w w2 w.heap.size v1 (.slice au ys.length cu) (zs ++ [(m, lst fk lk)]) ys) := ho2; clear ho2)
            | (at_builtin; refine wpList_append_own_at _ rfl _ _ 26 rfl w.heap.size 29 i0 (.slice none 0 0) 1 24 Try.underlying26 hi0 hz0 hz1 hz2 rfl (by decide) (.slice au ys.length cu) ys.length (ys.map Prod.fst) ?q1 ?q2 ⟨w2.heap.size, 0, none⟩ 1 1 [.slice ak lk ck] rfl rfl ?q3 ?q4 ?q5 ?q6 ?q7 ?_))
          case q1 => rfl
          case q2 => exact World.ownsRow.alloc HO2.out.sr.row _
          case q3 => intro j u hj; rw [Addr.add_lit, Nat.zero_add, World.cell?_alloc_at _ _ _ _ rfl]; simpa using hj
          case q4 => intro u hu; simp at hu; subst hu; rfl
          case q5 => unfold maxLen; omega
          case q6 => omega
          case q7 => have := HO2.out.bel.size; simp; omega
          intro u2 w3 ho3 hg3 _ ha3
          have HO3 : Hid (Od w w3 w.heap.size v1 u2 (zs ++ [(m, lst fk lk)]) (ys ++ [(.slice ak lk ck, lst fk lk)])) := HO2.out.note HF.out _ ho3 hg3 (by simpa using ha3)
          obtain ⟨a3, c3, e3, _⟩ := row_slice ho3
          clear ho3 hg3 ha3
          subst e3
          go_wp2
          go_roundw
          case rel => exact ⟨k + 1, v1, _, _, by omega, by go_num, HO3.out, HN.out m, .inr (.inr (by simp))⟩
          case measure => simp [intOf]; omega
    · obtain rfl : k = N := by omega
      have hlt' : ¬ (k : Int) < (k : Int) := by omega
      have HT : Hid (∀ wr' v' zs', Od w wr' w.heap.size v' (.slice au ys.length cu) zs' ys → zs'.length = 0 → Calls Try.prog 16 #[.pointer (some ⟨w.heap.size, 0, none⟩), .int .i64 0] wr' fun e w' => e = .returned (.tuple #[.slice none 0 0, .int .i64 190]) ∧ w' = wr') := fun wr' v' zs' ho hl => n_take_no ho.net 0 (.inr (by rw [hl]; decide))
      have hy64 : ys.length ≤ 64 := by have := hyl.out; omega
      have hy64' : (ys.length : Int) ≤ 64 := by omega
      go_wp2
      go_loopw [31] (fun i wr => ∃ (j : Nat) (v : Value) (zs : List Ms), j ≤ ys.length ∧ i = .int .i64 (j : Int) ∧ Od w wr w.heap.size v (.slice au ys.length cu) zs ys ∧ zs.map Prod.snd = (ys.drop j).map Prod.snd) (fun i _ => ys.length - (intOf i).toNat)
      case atStart => exact ⟨0, v, zs, Nat.zero_le _, rfl, HO.out, HY.out.symm⟩
      case round =>
        clear HO HY
        obtain ⟨j, v, zs, hj, rfl, hO, hy⟩ := hrel
        by_cases hjl : j < ys.length
        · have hjl' : (j : Int) < (ys.length : Int) := by omega
          have hj0 : (0 : Int) ≤ (j : Int) := by omega
          obtain ⟨g, ak, ck, rfl, hat, hfr⟩ := hO.sr.get hO.bel rfl j hjl
          obtain ⟨hz0', e0, e1⟩ := map_drop0 hy hjl
          have hT := n_take hO.net 0 hz0'
          rw [e0] at hT
          have HA : Hid (∀ (w2 : World) (u : Value), Own w2 wr.heap.size u ys[j].2 → Gone wr w2 w.heap.size w.heap.size true v zs 0 → ∃ v1 au2 cu2, u = .slice au2 ys[j].2.length cu2 ∧ Hid (Od w w2 w.heap.size v1 (.slice (some ⟨g, 0, none⟩) ys.length cu) (zs.eraseIdx 0) ys) ∧ Calls Try.prog 10 #[u, .slice ak ys[j].2.length ck] w2 fun e w' => e = .returned (.bool true) ∧ w' = w2) := fun w2 u ho hg => by
            obtain ⟨v1, h1, h2⟩ := hg
            have ho2 := hO.went h1 h2
            obtain ⟨au2, cu2, hu2, hf2, _⟩ := ho.open
            refine ⟨v1, au2, cu2, hu2, ho2, ?_⟩
            rw [hu2]
            exact equal_yes au2 ak ys[j].2.length cu2 ys[j].2.length ck (fn ys[j].2) (fn ys[j].2) w2 hf2 (hfr w2 ho2.bel) rfl
          have HN : Hid ((zs.eraseIdx 0).map Prod.snd = (ys.drop (j + 1)).map Prod.snd) := e1
          generalize ys[j].2 = xs at *
          clear hO hy hfr e0 e1 HT HZ hyl
          go_wp2_with (first
            | (go_at_call 16; refine hT.mono ?_; rintro e w2 ⟨u, rfl, ho, hg⟩; obtain ⟨v1, au2, cu2, hu2, HO2, hE⟩ := HA.out w2 u ho hg; clear ho hg; subst hu2)
            | (go_at_call 10; refine hE.mono ?_; rintro e w3 ⟨rfl, hw⟩; rw [hw]; clear hw))
          go_roundw
          case rel => exact ⟨j + 1, v1, _, by omega, by go_num, HO2.out, HN.out⟩
          case measure => simp [intOf]; omega
        · obtain rfl : j = ys.length := by omega
          have hjl' : ¬ (ys.length : Int) < (ys.length : Int) := by omega
          have hz0' : zs.length = 0 := by
            have := congrArg List.length hy
            simpa using this
          have hT := HT.out wr v zs hO hz0'
          have HB : Hid (Below w.heap.size w wr) := hO.bel
          clear hO hy HT hz0'
          by_cases hk1 : k = 0
          · subst hk1
            clear HI HZ hyl
            go_wp2_with (go_at_call 16; refine hT.mono ?_; rintro e w2 ⟨rfl, hw⟩; rw [hw]; clear hw)
            go_ret
            exact ⟨rfl, HB.out⟩
          · have hk2 : ((k : Int) == 0) = false := by simp; omega
            obtain ⟨b, off, rfl, hc, hf, hL, hC⟩ := HI.out 0 (by omega)
            rw [Nat.add_zero] at hc
            have hc' : wr.cell? ⟨b, off, none⟩ = some (.slice (A 0) (L 0) (C 0)) := by rw [HB.out.cell (World.block_lt_of_cell? w _ hc)]; exact hc
            have hkp : (0 : Int) < (k : Int) := by omega
            have HZ' := HZ.out
            generalize L 0 = l0 at *
            generalize A 0 = aa at *
            generalize C 0 = cc at *
            clear HI HZ hc hf hyl
            rcases HZ' with e | e | e
            · omega
            · have e' : (4096 : Int) < (l0 : Int) := by omega
              go_wp2_with (go_at_call 16; refine hT.mono ?_; rintro e w2 ⟨rfl, hw⟩; rw [hw]; clear hw)
              go_ret
              exact ⟨rfl, HB.out⟩
            · have e' : (0 : Int) < (ys.length : Int) := by omega
              by_cases h4 : (4096 : Int) < (l0 : Int)
              · go_wp2_with (go_at_call 16; refine hT.mono ?_; rintro e w2 ⟨rfl, hw⟩; rw [hw]; clear hw)
                go_ret
                exact ⟨rfl, HB.out⟩
              · go_wp2_with (go_at_call 16; refine hT.mono ?_; rintro e w2 ⟨rfl, hw⟩; rw [hw]; clear hw)
                go_ret
                exact ⟨rfl, HB.out⟩
end Go.Proofs.Ytbpolfoagmehhaa
