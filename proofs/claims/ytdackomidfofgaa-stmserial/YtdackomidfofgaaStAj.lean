/-
  StmSerial's walk.
-/
import Derived.Test.YtdackomidfofgaaStAl
import Derived.Deep.CutBlock
import Derived.Deep.DeepCutAuto
namespace Go.Proofs.Ytdackomidfofgaa
open Go.RowKit Go.Maps
set_option linter.unusedVariables false
set_option linter.unusedSimpArgs false
set_option maxRecDepth 100000
set_option maxHeartbeats 4000000

theorem Lp.start {w0 w : World} {sp sl lk : Nat} (h : Sys w0 w ⟨sp, sl, lk, 0, [], []⟩ []) : Lp w0 ((w.alloc (.map #[] 0)).alloc (.map #[] 0)) 0 sp w.heap.size (w.heap.size + 1) (.slice none 0 0) [] :=
  ⟨⟨_, [], _, _, rfl, rfl, Ser.start h⟩, World.ownsRow_nil _ _ _ _⟩
theorem infoP : (Try.prog.info? 36).map (fun i => (i.zero, i.size, i.bytes)) = some (some (.pointer none), 1, 8) := by kernel_rfl
theorem stm_serial {w : World} {a0 : Option Addr} {N cap : Nat} (h : Dos w a0 N) (hN : N ≤ 3000000000000) :
    Calls Try.prog 3 #[.slice a0 N cap] w fun e w' => e = .returned (.bool true) ∧ Below w.heap.size w w' := by
  have hmm := @run_makeMap Try.prog
  have HN := new_nil w
  go_enter Try.func3, Try.ntmps3
  go_wp2_with (go_at_call 7; refine HN.mono ?_; clear HN; rintro e w1 ⟨sp, rfl, hh⟩; obtain ⟨sl, lk, h1⟩ := hh.out; clear hh)
  have hLp : Hid (Lp w ((w1.alloc (.map #[] 0)).alloc (.map #[] 0)) 0 sp w1.heap.size (w1.heap.size + 1) (.slice none 0 0) []) := Lp.start h1
  clear h1
  generalize w1.heap.size = mb at *
  go_loopw [5, 33] (fun v s wr => ∃ (i : Nat) (bs : List Nat) (av : Option Addr) (cv : Nat), i ≤ N ∧ i ≤ 121 ∧ s = .int .i64 (i : Int) ∧ v = .slice av bs.length cv ∧ bs.length ≤ i ∧ Hid (Lp w wr i sp mb (mb + 1) (.slice av bs.length cv) bs)) (fun _ s _ => N - (intOf s).toNat)
  case atStart => exact ⟨0, [], none, 0, Nat.zero_le _, Nat.zero_le _, rfl, rfl, Nat.le_refl _, hLp⟩
  case round =>
    clear hLp
    obtain ⟨i, bs, av, cv, hi, hi2, rfl, rfl, hbl, HL⟩ := hrel
    have hL := HL.out
    clear HL
    by_cases hlt : i < N
    · obtain ⟨b, off, rfl, p, q, s, a, l, c, f, hd⟩ := h i hlt
      have hd' := hd.below hL.B
      have c0 := hd'.c0
      have c1 := hd'.c1
      have c2 := hd'.c2
      have c3 := hd'.c3
      have l1 : (i : Int) < (N : Int) := by omega
      have l2 : (0 : Int) ≤ (i : Int) := by omega
      by_cases h120 : i = 121
      · subst h120
        have hBe : Hid (∀ o, Below w.heap.size w (wr.alloc o)) := fun o => hL.B.alloc hL.B.size o
        clear hL hd hd' h
        go_wp2
        go_ret
        exact ⟨rfl, hBe.out _⟩
      · have l3 : ¬ ((120 : Int) < (i : Int)) := by omega
        have l4 : decide ((120 : Int) < (i : Int)) = false := decide_eq_false l3
        have hL1 : Hid (Lp w (wr.alloc (.cells #[.int .i64 p, .int .i64 q, .string s, .slice a l c] 32)) i sp mb (mb + 1) (.slice av bs.length cv) bs) := hL.below ((Below.refl _ _).alloc (Nat.le_refl _) _)
        have hbx : (wr.alloc (.cells #[.int .i64 p, .int .i64 q, .string s, .slice a l c] 32)).heap[wr.heap.size]? = some (.cells #[.int .i64 p, .int .i64 q, .string s, .slice a l c] 32 (0, 0)) := World.alloc_heap_new wr _
        have hfb : Hid (From (wr.alloc (.cells #[.int .i64 p, .int .i64 q, .string s, .slice a l c] 32)) a l f ∧ l ≤ 140737488355328) := ⟨hd'.fb.below ((Below.refl _ _).alloc (Nat.le_refl _) _) (Nat.le_refl _), hd'.nb⟩
        clear hL hd hd' h
        have h3 : (p.tmod 6 == 0) = true ∨ ((p.tmod 6 == 0) = false ∧ bs = []) ∨ ((p.tmod 6 == 0) = false ∧ bs ≠ []) := by
          cases e : (p.tmod 6 == 0) with
          | true => exact .inl rfl
          | false =>
            by_cases hb : bs = []
            · exact .inr (.inl ⟨rfl, hb⟩)
            · exact .inr (.inr ⟨rfl, hb⟩)
        by_cases hbg : (p.tmod 6 == 0) = true ∨ ((p.tmod 6 == 0) = false ∧ bs = [])
        · as_aux_lemma =>
          obtain ⟨S, Xs, m, lf, e1, e2, hS⟩ := hL1.out.ex
          have hRw := hL1.out.row
          obtain ⟨i0, hi0, hz0, hz1, hz2⟩ := info_parts infoP
          subst e1
          have HBg := v_begin hS
          have HNx : ∀ (w2 : World) (t rd wr' : Nat), Beg w w2 w2 (2 * i) S Xs mb (i * 400) m m (mb + 1) (i * 200000) lf t rd wr' → Below (wr.alloc (.cells #[.int .i64 p, .int .i64 q, .string s, .slice a l c] 32)).heap.size (wr.alloc (.cells #[.int .i64 p, .int .i64 q, .string s, .slice a l c] 32)) w2 →
              Calls Try.prog 9 #[.pointer (some ⟨S.sp, 0, none⟩)] (w2.alloc (.map #[] 0)) fun e w4 => ∃ bb, e = .returned (.map (some bb)) ∧ (∀ o1 o2, ((w4.alloc o1).alloc o2).ownsRow w.heap.size 36 1 (.slice av bs.length cv) bs.length (bs.map ptr) ∧ w.heap.size ≤ ((w4.alloc o1).alloc o2).heap.size) ∧ Hid (∀ o v' w7, w7.ownsRow w.heap.size 36 1 v' (bs.length + 1) (bs.map ptr ++ [ptr w4.heap.size]) → ((w4.alloc (.cells #[.pointer (some ⟨t, 0, none⟩), .map (some w2.heap.size), .map (some bb)] 39)).alloc o).grownBy w7 (Value.slice av bs.length cv).ownBlock → Lp w w7 (i + 1) S.sp mb (mb + 1) v' (bs ++ [w4.heap.size])) := fun w2 t rd wr' hbe hb2 => by
            have hb3 : Below w2.heap.size w2 (w2.alloc (.map #[] 0)) := (Below.refl _ w2).alloc (Nat.le_refl _) _
            refine (v_bytes (hbe.below hb3).ser (by omega)).mono fun e w4 ⟨bb, he, hh⟩ => ⟨bb, he, fun o1 o2 => ?_, ?_⟩
            · obtain ⟨bg, k1, k2, k3, k4⟩ := hh.out
              have hb5 : Below w4.heap.size w4 ((w4.alloc o1).alloc o2) := ((Below.refl _ w4).alloc (Nat.le_refl _) o1).alloc (by simp) o2
              exact ⟨(((hRw.below hb2).below hb3).below k4).below hb5, Nat.le_trans hbe.ser.sys.B.size (Nat.le_trans hb3.size (Nat.le_trans k4.size hb5.size))⟩
            · obtain ⟨bg, k1, k2, k3, k4⟩ := hh.out
              exact fun o v' w7 ho hg => v_noted hbe e2 (hRw.below hb2) k4 k1 k2 k3 o ho hg
          clear hS hRw h3
          generalize S.sp = sp at *
          have hbg' : (p.tmod 6 == 0) = true ∨ ((p.tmod 6 == 0) = false ∧ ((bs.length : Int) == 0) = true) := by
            rcases hbg with hc | ⟨hc, hb⟩
            · exact .inl hc
            · exact .inr ⟨hc, by rw [hb]; rfl⟩
          clear hbg e2
          rcases hbg' with hc | ⟨hc, hb0⟩
          all_goals
            go_wp2_with (first
              | (go_at_call 8; refine HBg.mono ?_; clear HBg; rintro e w2 ⟨t, rfl, hh⟩; obtain ⟨rd, wr', hbe, hb2⟩ := hh.out; have HBy := HNx w2 t rd wr' hbe hb2; clear hh hbe hb2 HNx)
              | (go_at_call 9; refine HBy.mono ?_; clear HBy; rintro e w4 ⟨bb, rfl, HO, HF⟩)
              | (at_builtin; refine wpList_append_own _ rfl _ _ 27 rfl w.heap.size 36 i0 (.pointer none) 1 8 Try.underlying27 hi0 hz0 hz1 hz2 rfl (by decide) (.slice av bs.length cv) bs.length (bs.map ptr) rfl (HO _ _).1 ⟨w4.heap.size + 1, 0, none⟩ 1 1 [ptr w4.heap.size] rfl rfl (by intro j u hj; rw [Addr.add_lit, Nat.zero_add, World.cell?_alloc_at _ _ _ _ (by simp)]; simpa [ptr] using hj) (by intro u hu; simp at hu; subst hu; rfl) (by unfold maxLen; omega) (by omega) (HO _ _).2 ?_; intro v7 w7 ho7 hg7 _; have hL7 := HF.out _ v7 w7 ho7 hg7; obtain ⟨a7, c7, rfl⟩ := row_slice ho7; clear ho7 hg7 HF HO))
            go_roundw
            case rel => exact ⟨i + 1, bs ++ [w4.heap.size], a7, c7, by omega, by omega, by go_num, by rw [List.length_append]; rfl, by rw [List.length_append]; simp; omega, by have := hL7; rw [List.length_append]; exact this⟩
            case measure => simp [intOf]; omega
        · as_aux_lemma =>
          have hc : (p.tmod 6 == 0) = false := by
            cases e : (p.tmod 6 == 0) with
            | true => exact absurd (.inl e) hbg
            | false => rfl
          have hbn : bs ≠ [] := fun e => hbg (.inr ⟨hc, e⟩)
          have hb0 : 0 < bs.length := by cases bs with
            | nil => exact absurd rfl hbn
            | cons _ _ => simp
          obtain ⟨j, hj, ej⟩ := modW_ex q bs.length hb0 (by omega)
          obtain ⟨t, ht, et⟩ := modW_ex p 6 (by omega) (by omega)
          have et : IntKind.i64.wrap ((IntKind.u64.wrap p).tmod 6) = (t : Int) := et
          have hbf : ((bs.length : Int) == 0) = false := by simpa using hbn
          have hbw : IntKind.u64.wrap (bs.length : Int) = (bs.length : Int) := by rw [IntKind.wrap_u64]; omega
          obtain ⟨S, Xs, m, lf, e1, e2, hS⟩ := hL1.out.ex
          have hRw := hL1.out.row
          have hjb : bs[j]? = some (bs[j]) := List.getElem?_eq_getElem hj
          obtain ⟨g, cg, eg, cj⟩ := hRw.at hjb
          injection eg with eg1 _ eg3
          obtain ⟨X, hX, hXb⟩ : ∃ X ∈ Xs, X.sn = bs[j] := by
            have h1 : bs[j] ∈ Xs.map Xm.sn := by rw [e2, List.mem_reverse]; exact List.getElem_mem hj
            obtain ⟨X, h2, h3⟩ := List.mem_map.1 h1
            exact ⟨X, h2, h3⟩
          obtain ⟨A, C, rfl⟩ := List.append_of_mem hX
          subst eg1
          subst eg3
          rw [← hXb] at cj
          replace cj : (wr.alloc (.cells #[.int .i64 p, .int .i64 q, .string s, .slice a l c] 32)).cell? ⟨g, j, none⟩ = some (.pointer (some ⟨X.sn, 0, none⟩)) := cj
          have j1 : (0 : Int) ≤ (j : Int) := by omega
          have j2 : (j : Int) < (bs.length : Int) := by omega
          have HAt : Hid (At w (wr.alloc (.cells #[.int .i64 p, .int .i64 q, .string s, .slice a l c] 32)) (2 * i) i sp mb (mb + 1) S A C X m lf (.slice (some ⟨g, 0, none⟩) bs.length cv) bs wr.heap.size p q s a l c) := ⟨e1, hS, e2, hRw, ⟨hbx⟩⟩
          clear hS e1 e2 hRw hX hXb hjb hbn hbg h3 hL1
          go_upto_block 2 with fail
          clear ej et
          generalize (wr.alloc (.cells #[.int .i64 p, .int .i64 q, .string s, .slice a l c] 32)) = W at *
          generalize wr.heap.size = kb at *
          go_cut [] (fun wx => Hid (Md w wx i sp mb (mb + 1) (.slice (some ⟨g, 0, none⟩) bs.length cv) bs))
          case first =>
            have hA := HAt.out
            clear HAt hbx
            have hBd : Below W.heap.size W W.drew := blw_drewN 1 (Below.refl _ W)
            have ht6 : (t = 1 ∨ t = 2) ∨ t = 3 ∨ t = 4 ∨ (t = 0 ∨ t = 5) := by omega
            rcases ht6 with h12 | ht3 | ht4 | h05
            · as_aux_lemma =>
              have hb12 : ((t : Int) == 1) = true ∨ (((t : Int) == 1) = false ∧ ((t : Int) == 2) = true) := by
                rcases h12 with e | e
                · exact .inl (by rw [e]; rfl)
                · exact .inr ⟨by rw [e]; rfl, by rw [e]; rfl⟩
              clear h12 hBd hfb
              go_upto_if 131 with fail
              go_cut [131] (fun s131 wx => s131 = .bool true ∧ wx = W)
              case first =>
                clear hA
                rcases hb12 with b1 | ⟨b1, b2⟩
                all_goals
                  go_wp2
                  go_meet
                  case rel => exact ⟨rfl, rfl⟩
              case rest =>
                clear hb12
                obtain ⟨rfl, ew⟩ := hcut
                rw [ew]
                clear ew
                have x0 := hA.x0
                have HOw := a_own hA (by omega)
                go_upto_region 35 with (first
                  | (go_at_call 11; refine HOw.mono ?_; clear HOw; rintro e w2 ⟨v2, rfl, ⟨a2, n2, c2, rfl⟩, hb2, HCn⟩)
                  | (go_at_call 10; refine HCn.mono ?_; clear HCn; rintro e w3 ⟨bo, rfl, hbo, hb3⟩))
                have hA3 := (hA.below hb2).below hb3
                have HBo : Hid (bo = true ↔ ∃ x ∈ X.T.writes, Eb.ky x = (nme s.size).data.toList) := hbo
                clear hA hb2 hb3 hbo x0
                have k0 : Below w3.heap.size w3 w3 := Below.refl _ w3
                have HS : Hid (∀ wq, Below w3.heap.size w3 wq → wq.cell? ⟨X.sn, 0, none⟩ = some (.pointer (some ⟨X.T.t, 0, none⟩)) ∧ wq.cell? ⟨kb, 0, none⟩ = some (.int .i64 p) ∧ wq.cell? ⟨kb, 1, none⟩ = some (.int .i64 q) ∧ wq.cell? ⟨kb, 2, none⟩ = some (.string s) ∧ wq.cell? ⟨kb, 3, none⟩ = some (.slice a l c)) := fun wq hb => by
                  have hc := (hA3.below hb).cs
                  exact ⟨hc.x0, hc.d0, hc.d1, hc.d2, hc.d3⟩
                have HSc : Hid (∀ wq, Cs wq X kb p q s a l c → wq.cell? ⟨X.sn, 0, none⟩ = some (.pointer (some ⟨X.T.t, 0, none⟩)) ∧ wq.cell? ⟨kb, 0, none⟩ = some (.int .i64 p) ∧ wq.cell? ⟨kb, 1, none⟩ = some (.int .i64 q) ∧ wq.cell? ⟨kb, 2, none⟩ = some (.string s) ∧ wq.cell? ⟨kb, 3, none⟩ = some (.slice a l c)) := fun wq hc => ⟨hc.x0, hc.d0, hc.d1, hc.d2, hc.d3⟩
                have HNm : Hid (∀ w0 wq, Below w0.heap.size w0 wq → Calls Try.prog 13 #[.agg #[.int .i64 p, .int .i64 q, .string s, .slice a l c]] wq fun e w' => e = .returned (.string (nme s.size)) ∧ Below w0.heap.size w0 w') := fun w0 wq hb => (l_name p q s a l c wq).mono fun e w' ⟨he, hb2⟩ => ⟨he, hb.trans (hb2.mono hb.size)⟩
                have HGt : Hid (∀ wq, Below w3.heap.size w3 wq → Calls Try.prog 14 #[.pointer (some ⟨X.T.t, 0, none⟩), .string (nme s.size)] wq fun e w' => ∃ a3 q3 c3 r, e = .returned (.tuple #[.slice a3 q3 c3, .int .i64 r]) ∧ Cs w' X kb p q s a l c ∧ Hid (Got w w' i sp mb (mb + 1) A C X m lf (.slice (some ⟨g, 0, none⟩) bs.length cv) bs kb p q s a l c a3 q3 c3 (∃ x ∈ X.T.writes, Eb.ky x = (nme s.size).data.toList) r)) := fun wq hb => a_get (hA3.below hb) (by omega)
                clear hA3
                go_cut [14, 15] (fun s14 s15 wx => ∃ a3 q3 c3 r, s14 = .slice a3 q3 c3 ∧ s15 = .int .i64 r ∧ Hid (Got w wx i sp mb (mb + 1) A C X m lf (.slice (some ⟨g, 0, none⟩) bs.length cv) bs kb p q s a l c a3 q3 c3 (∃ x ∈ X.T.writes, Eb.ky x = (nme s.size).data.toList) r))
                case first => as_aux_lemma =>
                  go_region_held2 (fun wq => wq.cell? ⟨X.sn, 0, none⟩ = some (.pointer (some ⟨X.T.t, 0, none⟩)) ∧ wq.cell? ⟨kb, 0, none⟩ = some (.int .i64 p) ∧ wq.cell? ⟨kb, 1, none⟩ = some (.int .i64 q) ∧ wq.cell? ⟨kb, 2, none⟩ = some (.string s) ∧ wq.cell? ⟨kb, 3, none⟩ = some (.slice a l c))
                    (first | exact HSc.out _ (by assumption) | exact HS.out _ (by assumption) | exact HS.out _ (Below.drew (by assumption)) | go_keep)
                    (first
                      | (go_at_call 13; refine (HNm.out w3 _ (by first | exact k0 | exact k0.drew)).mono ?_; clear HNm; rintro e w4 ⟨rfl, k2⟩)
                      | (go_at_call 14; refine (HGt.out _ k2).mono ?_; clear HGt; rintro e w5 ⟨a3, q3, c3, r, rfl, hcs, HG⟩))
                  go_wp2
                  go_meet
                  case rel => exact ⟨a3, q3, c3, r, rfl, rfl, HG⟩
                case rest => as_aux_lemma =>
                  obtain ⟨a3, q3, c3, r, rfl, rfl, HG⟩ := hcut
                  clear HS HSc HGt k0
                  obtain ⟨S', X', hsx, hA', hrd⟩ := HG.out.ex
                  clear HG
                  have HMd : Hid (Md w wc i sp mb (mb + 1) (.slice (some ⟨g, 0, none⟩) bs.length cv) bs) := hA'.md (by omega)
                  rcases em0 r with ⟨hrb, hr0⟩ | ⟨hrb, hr0⟩
                  · cases bo with
                    | true =>
                      clear hrd hA' HNm
                      go_wp2
                      go_meet
                      case rel => exact HMd
                    | false =>
                      obtain ⟨xs, B, ho, hx1, hy1⟩ := hrd hr0.out (fun hown => by have := HBo.out.2 hown; cases this)
                      clear hrd HMd HBo hr0
                      have hCs := hA'.cs.same hsx
                      have HOn : Hid (Own wc B (.slice a3 q3 c3) xs) := ho
                      have HAp : Hid (At w wc (2 * i + 1) i sp mb (mb + 1) S' A C X' m lf (.slice (some ⟨g, 0, none⟩) bs.length cv) bs kb p q s a l c) := hA'
                      have k0 : Below wc.heap.size wc wc := Below.refl _ wc
                      have HS : Hid (∀ wq, Below wc.heap.size wc wq → wq.cell? ⟨X.sn, 2, none⟩ = some (.map (some X.bb)) ∧ wq.cell? ⟨kb, 0, none⟩ = some (.int .i64 p) ∧ wq.cell? ⟨kb, 1, none⟩ = some (.int .i64 q) ∧ wq.cell? ⟨kb, 2, none⟩ = some (.string s) ∧ wq.cell? ⟨kb, 3, none⟩ = some (.slice a l c)) := fun wq hb => by
                        have hc := ((HAp.out.below hb).cs).same hsx
                        exact ⟨hc.x2, hc.d0, hc.d1, hc.d2, hc.d3⟩
                      have HLk : Hid (∀ wq, Below wc.heap.size wc wq → ∃ a4 c4, (Instr.lookup 28 (.map (some X.bb)) (.string (nme s.size)) false).run Try.prog wq = .ok (.slice a4 q3 c4) wq ∧ Calls Try.prog 15 #[.slice a3 q3 c3, .slice a4 q3 c4] wq fun e w' => e = .returned (.bool true) ∧ w' = wq) := fun wq hb => by
                        obtain ⟨a4, l4, c4, g1, g2, g3⟩ := ((HAp.out.below hb).ser.xce X' mid_mem).beg.look (nme s.size) (nme_max _)
                        rw [hsx.2.2.2.1] at g1
                        rw [hx1] at g2 g3
                        obtain ⟨f1, f2⟩ := Own.at0 HOn.out
                        have e5 : l4 = q3 := by omega
                        subst e5
                        exact ⟨a4, c4, g1, equal_yes a3 a4 l4 c3 l4 c4 (fn xs) (fn xs) wq (f1.below hb (Nat.le_refl _)) g2 (rfl : lst (fn xs) l4 = lst (fn xs) l4)⟩
                      have HNt : Hid (∀ wq, Below wc.heap.size wc wq → ∃ w2, (Instr.mapUpdate 28 (.map (some X.rb)) (.string (nme s.size)) (.slice a3 q3 c3)).run Try.prog wq = .ok () w2 ∧ Cs w2 X kb p q s a l c ∧ Hid (Md w w2 i sp mb (mb + 1) (.slice (some ⟨g, 0, none⟩) bs.length cv) bs)) := fun wq hb => by
                        obtain ⟨w2, n1, n2, n3⟩ := (HAp.out.below hb).note (by omega) (HOn.out.below hb (Nat.le_refl _)) hx1 hy1
                        rw [hsx.2.2.1] at n1
                        exact ⟨w2, n1, n2.same hsx, n3⟩
                      have HC2 : Hid (∀ wq, Below wc.heap.size wc wq → Cs wq X kb p q s a l c) := fun wq hb => ((HAp.out.below hb).cs).same hsx
                      clear hA' hCs ho hx1 hy1 HAp HOn
                      go_upto_region 37 with fail
                      go_cut [166] (fun s166 wx => s166 = .bool false ∧ Below wc.heap.size wc wx)
                      case first => as_aux_lemma =>
                        clear HNt HC2
                        go_region_held2 (fun wq => wq.cell? ⟨X.sn, 2, none⟩ = some (.map (some X.bb)) ∧ wq.cell? ⟨kb, 0, none⟩ = some (.int .i64 p) ∧ wq.cell? ⟨kb, 1, none⟩ = some (.int .i64 q) ∧ wq.cell? ⟨kb, 2, none⟩ = some (.string s) ∧ wq.cell? ⟨kb, 3, none⟩ = some (.slice a l c))
                          (first | exact HS.out _ (by assumption) | exact HS.out _ (Below.drew (by assumption)) | go_keep)
                          (first
                            | (go_at_call 13; refine (HNm.out wc _ (by first | exact k0 | exact k0.drew)).mono ?_; clear HNm; rintro e w4 ⟨rfl, k2⟩; obtain ⟨a4, c4, hlk4, HEq⟩ := HLk.out _ k2; clear HLk)
                            | (go_at_call 15; refine HEq.mono ?_; clear HEq; rintro e w5 ⟨rfl, rfl⟩))
                        go_wp2
                        go_meet
                        case rel => exact ⟨rfl, k2⟩
                      case rest => as_aux_lemma =>
                        obtain ⟨rfl, kc⟩ := hcut
                        clear HS HLk
                        rename World => wd
                        have HS : Hid (∀ wq, Below wc.heap.size wc wq → wq.cell? ⟨X.sn, 1, none⟩ = some (.map (some X.rb)) ∧ wq.cell? ⟨kb, 0, none⟩ = some (.int .i64 p) ∧ wq.cell? ⟨kb, 1, none⟩ = some (.int .i64 q) ∧ wq.cell? ⟨kb, 2, none⟩ = some (.string s) ∧ wq.cell? ⟨kb, 3, none⟩ = some (.slice a l c)) := fun wq hb => by
                          have hc := HC2.out wq hb
                          exact ⟨hc.x1, hc.d0, hc.d1, hc.d2, hc.d3⟩
                        have HSc : Hid (∀ wq, Cs wq X kb p q s a l c → wq.cell? ⟨X.sn, 1, none⟩ = some (.map (some X.rb)) ∧ wq.cell? ⟨kb, 0, none⟩ = some (.int .i64 p) ∧ wq.cell? ⟨kb, 1, none⟩ = some (.int .i64 q) ∧ wq.cell? ⟨kb, 2, none⟩ = some (.string s) ∧ wq.cell? ⟨kb, 3, none⟩ = some (.slice a l c)) := fun wq hc => ⟨hc.x1, hc.d0, hc.d1, hc.d2, hc.d3⟩
                        clear k0 HC2
                        go_upto_region 39 with fail
                        go_region_held2 (fun wq => wq.cell? ⟨X.sn, 1, none⟩ = some (.map (some X.rb)) ∧ wq.cell? ⟨kb, 0, none⟩ = some (.int .i64 p) ∧ wq.cell? ⟨kb, 1, none⟩ = some (.int .i64 q) ∧ wq.cell? ⟨kb, 2, none⟩ = some (.string s) ∧ wq.cell? ⟨kb, 3, none⟩ = some (.slice a l c))
                          (first | exact HSc.out _ (by assumption) | exact HS.out _ (by assumption) | exact HS.out _ (Below.drew (by assumption)) | go_keep)
                          (first
                            | (go_at_call 13; refine (HNm.out wc _ (by first | exact kc | exact kc.drew)).mono ?_; clear HNm; rintro e w4 ⟨rfl, k2⟩; obtain ⟨w6, hup, hc6, HM⟩ := HNt.out _ k2; clear HNt))
                        go_wp2
                        go_meet
                        case rel => exact HM
                  · clear hrd hA' HNm
                    go_wp2
                    go_meet
                    case rel => exact HMd
            · as_aux_lemma =>
              have b1 : ((t : Int) == 1) = false := by rw [ht3]; rfl
              have b2 : ((t : Int) == 2) = false := by rw [ht3]; rfl
              have b3 : ((t : Int) == 3) = true := by rw [ht3]; rfl
              clear ht3 hBd
              have k0 : Below W.heap.size W W := Below.refl _ W
              have HS : Hid (∀ wq, Below W.heap.size W wq → wq.cell? ⟨X.sn, 0, none⟩ = some (.pointer (some ⟨X.T.t, 0, none⟩)) ∧ wq.cell? ⟨kb, 0, none⟩ = some (.int .i64 p) ∧ wq.cell? ⟨kb, 1, none⟩ = some (.int .i64 q) ∧ wq.cell? ⟨kb, 2, none⟩ = some (.string s) ∧ wq.cell? ⟨kb, 3, none⟩ = some (.slice a l c)) := fun wq hb => by
                have hc := (hA.below hb).cs
                exact ⟨hc.x0, hc.d0, hc.d1, hc.d2, hc.d3⟩
              have HSc : Hid (∀ wq, Cs wq X kb p q s a l c → wq.cell? ⟨X.sn, 0, none⟩ = some (.pointer (some ⟨X.T.t, 0, none⟩)) ∧ wq.cell? ⟨kb, 0, none⟩ = some (.int .i64 p) ∧ wq.cell? ⟨kb, 1, none⟩ = some (.int .i64 q) ∧ wq.cell? ⟨kb, 2, none⟩ = some (.string s) ∧ wq.cell? ⟨kb, 3, none⟩ = some (.slice a l c)) := fun wq hc => ⟨hc.x0, hc.d0, hc.d1, hc.d2, hc.d3⟩
              have HNm : ∀ wq, Below W.heap.size W wq → Calls Try.prog 13 #[.agg #[.int .i64 p, .int .i64 q, .string s, .slice a l c]] wq fun e w' => e = .returned (.string (nme s.size)) ∧ Below W.heap.size W w' := fun wq hb => (l_name p q s a l c wq).mono fun e w' ⟨he, hb2⟩ => ⟨he, hb.trans (hb2.mono hb.size)⟩
              have HPt : Hid (∀ wq, Below W.heap.size W wq → Calls Try.prog 16 #[.pointer (some ⟨X.T.t, 0, none⟩), .string (nme s.size), .slice a l c] wq fun e w' => ∃ r, e = .returned (.int .i64 r) ∧ Cs w' X kb p q s a l c ∧ Hid (Md w w' i sp mb (mb + 1) (.slice (some ⟨g, 0, none⟩) bs.length cv) bs)) := fun wq hb => a_put (hA.below hb) (by omega) f (hfb.out.1.below hb (Nat.le_refl _)) hfb.out.2
              clear hA hfb
              go_upto_region 41 with fail
              go_region_held2 (fun wq => wq.cell? ⟨X.sn, 0, none⟩ = some (.pointer (some ⟨X.T.t, 0, none⟩)) ∧ wq.cell? ⟨kb, 0, none⟩ = some (.int .i64 p) ∧ wq.cell? ⟨kb, 1, none⟩ = some (.int .i64 q) ∧ wq.cell? ⟨kb, 2, none⟩ = some (.string s) ∧ wq.cell? ⟨kb, 3, none⟩ = some (.slice a l c))
                (first | exact HSc.out _ (by assumption) | exact HS.out _ (by assumption) | exact HS.out _ (Below.drew (by assumption)) | go_keep)
                (first
                  | (go_at_call 13; refine (HNm _ (by first | exact k0 | exact k0.drew)).mono ?_; clear HNm; rintro e w2 ⟨rfl, k2⟩)
                  | (go_at_call 16; refine (HPt.out _ k2).mono ?_; clear HPt; rintro e w3 ⟨r, rfl, hcs, HM⟩))
              go_wp2
              go_meet
              case rel => exact HM
            · as_aux_lemma =>
              have b1 : ((t : Int) == 1) = false := by rw [ht4]; rfl
              have b2 : ((t : Int) == 2) = false := by rw [ht4]; rfl
              have b3 : ((t : Int) == 3) = false := by rw [ht4]; rfl
              have b4 : ((t : Int) == 4) = true := by rw [ht4]; rfl
              have x0 := hA.x0
              have HLk := a_lock hA (by omega)
              clear ht4 hA hBd hfb
              go_wp2_with (first
                | (go_at_call 17; refine HLk.mono ?_; clear HLk; rintro e w2 ⟨r, rfl, y0, HM⟩; rcases em0 r with ⟨hrb, hr0⟩ | ⟨hrb, hr0⟩)
                | (go_at_call 18; refine (HM.out.2 hr0.out).mono ?_; rintro e w3 ⟨rfl, rfl⟩))
              all_goals
                go_meet
                case rel => exact HM.out.1
            · have b1 : ((t : Int) == 1) = false := by rcases h05 with e | e <;> rw [e] <;> rfl
              have b2 : ((t : Int) == 2) = false := by rcases h05 with e | e <;> rw [e] <;> rfl
              have b3 : ((t : Int) == 3) = false := by rcases h05 with e | e <;> rw [e] <;> rfl
              have b4 : ((t : Int) == 4) = false := by rcases h05 with e | e <;> rw [e] <;> rfl
              clear h05
              have HPh := v_phase hA.ser mid_mem
              have x0 := hA.x0
              by_cases hph : X.T.ph = 1
              · as_aux_lemma =>
                have hpb : (X.T.ph == 1) = true := by rw [hph]; rfl
                have HCk := a_check hA (by omega) hph
                clear hph hA hBd hfb
                go_wp2_with (first
                  | (go_at_call 18; refine HPh.mono ?_; clear HPh; rintro e w2 ⟨rfl, rfl⟩)
                  | (go_at_call 19; refine HCk.mono ?_; clear HCk; rintro e w3 ⟨r, rfl, HM⟩))
                have hL3 := HM.out.lp
                go_roundw
                case rel => exact ⟨i + 1, bs, some ⟨g, 0, none⟩, cv, by omega, by omega, by go_num, rfl, by omega, hL3⟩
                case measure => simp [intOf]; omega
              · as_aux_lemma =>
                have hpb : (X.T.ph == 1) = false := by simpa using hph
                have HWr := v_writes hA.ser (by omega) mid_mem
                clear hph hBd hfb
                go_wp2_with (first
                  | (go_at_call 18; refine HPh.mono ?_; clear HPh; rintro e w2 ⟨rfl, ew⟩; rw [ew]; clear ew)
                  | (go_at_call 11; refine HWr.mono ?_; clear HWr; rintro e w3 ⟨v3, zs, rfl, hzl, hh⟩; obtain ⟨hz1, hz2, _, hR3, hb3⟩ := hh.out; obtain ⟨a3, c3, rfl⟩ := row_slice hR3.row; have hA3 := hA.below hb3; have x03 := hA3.x0; have HPb := a_publish hA3 (by omega) hR3; have HZ : Hid ((∀ m' : Bf, mdl m' zs = over m' X.wm) ∧ ∀ z ∈ zs, (⟨z.ky.toArray⟩ : ByteArray).size ≤ maxLen) := ⟨hz1, hz2⟩; clear hh hz1 hz2 hR3 hb3 hA3 hA)
                  | (go_at_call 20; refine HPb.mono ?_; clear HPb; rintro e w4 ⟨r, rfl, y1, HM⟩; rcases em0 r with ⟨hrb, hr0⟩ | ⟨hrb, hr0⟩)
                  | (at_range; obtain ⟨hPb, hrd⟩ := HM.out.2 hr0.out; obtain ⟨L, hMp, h4⟩ := hPb.range; refine wpList_range_own _ rfl _ 28 rfl 9 30 law9 Try.underlying28 idR X.rb _ _ rfl hMp ?_; intro w5 hrg5 hg5 hs5))
                · have HRd : Hid (Pb w w4 i sp mb (mb + 1) X.rb (i * 400) m (over m X.wm) X.rm (.slice (some ⟨g, 0, none⟩) bs.length cv) bs W.heap.size (.slice a3 zs.length c3) zs ∧ (∀ k xs, X.rm k = some xs → (m k).getD [] = xs) ∧ ∀ k x, fnd Eb.ky L k = some x → ∃ xs, X.rm k = some xs ∧ Own w4 0 x.vl xs) := ⟨hPb, hrd, h4⟩
                  have hb45 : Below w4.heap.size w4 w5 := (Below.refl _ w4).grown hg5 (Nat.le_refl _) (fun j hj => by cases hj)
                  have hrf : (r != 0) = false := by rw [hr0.out]; rfl
                  clear hPb hrd h4 hMp HM hr0 hrb hg5 x0 x03 y1
                  go_frame
                  rw [hrf]
                  go_loopw [17] (fun _ wr => ∃ (left : Lit → Bool) (cnt : Nat), wr.ranges Try.prog 9 idR X.rb w4.heap.size (L.map Eb.kv).length (toD (L.map Eb.kv)) left cnt ∧ Hid (Below w4.heap.size w4 wr)) (fun _ wr => wr.rangeLeft X.rb w4.heap.size)
                  case atStart => exact ⟨_, _, hrg5, hb45⟩
                  case round =>
                    clear hrg5 hb45 hs5
                    obtain ⟨left, cnt, hrg, hbw⟩ := hrel
                    go_wp2_with (at_next; refine wpList_next_ranges _ rfl _ rfl 9 law9 idR Value.string (fun u : Value => u) (fun key kl hk => keyOf_str_inv hk) (fun u y hv => ⟨u, rfl⟩) X.rb w4.heap.size _ _ _ _ rfl hrg ?_ ?_)
                    · intro _ hl0
                      have HPb2 : Hid (Pb w wr i sp mb (mb + 1) X.rb (i * 400) (mdl m (zs.take 0)) (over m X.wm) X.rm (.slice (some ⟨g, 0, none⟩) bs.length cv) bs W.heap.size (.slice a3 zs.length c3) zs) := HRd.out.1.below hbw.out
                      clear HRd hrg hbw hl0
                      go_wp2
                      go_loopw [121] (fun s' wq => ∃ (k : Nat), k ≤ zs.length ∧ s' = .int .i64 (k : Int) ∧ Hid (Pb w wq i sp mb (mb + 1) X.rb (i * 400 + k) (mdl m (zs.take k)) (over m X.wm) X.rm (.slice (some ⟨g, 0, none⟩) bs.length cv) bs W.heap.size (.slice a3 zs.length c3) zs)) (fun s' _ => zs.length - (intOf s').toNat)
                      case atStart => exact ⟨0, Nat.zero_le _, rfl, HPb2⟩
                      case round =>
                        clear HPb2
                        obtain ⟨k, hk, rfl, HI⟩ := hrel
                        by_cases hlt4 : k < zs.length
                        · obtain ⟨z, hz⟩ : ∃ z, zs[k]? = some z := ⟨_, List.getElem?_eq_getElem hlt4⟩
                          have hzm := List.mem_of_getElem? hz
                          obtain ⟨gz, capz, za, zc, e6, hzv, hF6, z0, z1, z2⟩ := HI.out.wrt.at hz
                          injection e6 with e6 _ e7
                          subst e6
                          subst e7
                          have k1 : (k : Int) < (zs.length : Int) := by omega
                          have k2 : (0 : Int) ≤ (k : Int) := by omega
                          have hbl : Below wr.heap.size wr (wr.alloc (.cells #[.string ⟨z.ky.toArray⟩, .int .i64 z.ver, .slice za z.xs.length zc] 44)) := (Below.refl _ wr).alloc (Nat.le_refl _) _
                          obtain ⟨a6, c6, w7, q1, q2, q3⟩ := (HI.out.below hbl).put (by omega) hzm (HZ.out.2 z hzm)
                          rw [hzv] at q1
                          injection q1 with q1 _ q4
                          subst q1
                          subst q4
                          have HE : Hid (Pb w w7 i sp mb (mb + 1) X.rb (i * 400 + (k + 1)) (mdl m (zs.take (k + 1))) (over m X.wm) X.rm (.slice (some ⟨g, 0, none⟩) bs.length cv) bs W.heap.size (.slice (some ⟨gz, 0, none⟩) zs.length c3) zs) := by
                            rw [mdl_next m zs k z hz]
                            exact q3
                          clear HI hz hzm hzv hF6 hbl q3
                          go_wp2
                          go_roundw
                          case rel => exact ⟨k + 1, by omega, by go_num, HE⟩
                          case measure => simp [intOf]; omega
                        · obtain rfl : k = zs.length := by omega
                          have HM3 : Hid (Md w wr i sp mb (mb + 1) (.slice (some ⟨g, 0, none⟩) bs.length cv) bs) := by
                            have h7 := HI.out
                            rw [List.take_length, HZ.out.1 m] at h7
                            exact h7.done (by omega)
                          clear HI HZ
                          go_wp2
                          go_meet
                          case rel => exact HM3
                    · intro x u kl y1 y2 w6 cnt6 hkey hlk hv hat hrg6 hlt hg6 hs6 hen
                      have hb6 : Below w4.heap.size w4 w6 := hbw.out.grown hg6 hbw.out.size (fun j hj => by cases hj; exact Nat.le_refl _)
                      obtain ⟨a7, l7, c7, a8, c8, eu, hlk7, HEq⟩ := HRd.out.1.read (y := (y1, y2)) HRd.out.2.1 HRd.out.2.2 hb6 hkey hv hat
                      subst eu
                      have hb6' : Hid (Below w4.heap.size w4 w6) := hb6
                      clear hb6 hv hat hkey hlk HRd hbw hg6 hs6
                      go_wp2_with (go_at_call 15; refine HEq.mono ?_; clear HEq; rintro e w8 ⟨rfl, ew⟩; rw [ew]; clear ew)
                      go_roundw
                      case rel =>
                        have hrg7 : w6.ranges Try.prog 9 idR X.rb w4.heap.size (L.map Eb.kv).length (toD (L.map Eb.kv)) (fun z => left z && !z.sameKey kl) cnt6 := by rw [List.length_map]; exact hrg6
                        first | exact ⟨_, cnt6, hrg7, hb6'⟩ | ((repeat apply Exists.intro); exact ⟨⟨_, cnt6, hrg7, hb6'⟩, rfl⟩)
                      case measure => rw [hrg6.left_eq, hrg.left_eq]; exact hlt
                · have hL3 := (HM.out.1 hr0.out).lp
                  go_roundw
                  case rel => exact ⟨i + 1, bs, some ⟨g, 0, none⟩, cv, by omega, by omega, by go_num, rfl, by omega, hL3⟩
                  case measure => simp [intOf]; omega
          case rest => as_aux_lemma =>
            obtain ⟨S', Xs', m', lf', e1, e2, hS'⟩ := hcut.out.ex
            have hRw := hcut.out.row
            have HSl := v_slots hS' (by omega)
            rw [e1] at HSl
            have hlen := hS'.lsl
            clear hcut HAt
            go_wp2_with (go_at_call 21; refine HSl.mono ?_; clear HSl; rintro e w5 ⟨v5, zs, rfl, hzl, hh⟩; obtain ⟨hz5, hR5, hb5⟩ := hh.out; obtain ⟨a5, c5, rfl⟩ := row_slice hR5.row; clear hh)
            have hS5 := hS'.below hb5
            have hRw5 := hRw.below hb5
            clear hS' hRw hb5
            obtain ⟨ll, hll⟩ : ∃ ll, ll = i * 200000 := ⟨_, rfl⟩
            rw [← hll] at hS5
            have HLL : Hid (ll = i * 200000) := hll
            clear hll
            go_loopw [204] (fun s' wq => ∃ (k : Nat), k ≤ zs.length ∧ s' = .int .i64 (k : Int) ∧ Hid (∃ lf'', Ser w wq (2 * (i + 1)) S' Xs' mb ((i + 1) * 400) m' m' (mb + 1) (ll + k) lf'' ∧ Rls wq wc.heap.size (.slice a5 zs.length c5) zs ∧ Rw wq w.heap.size (.slice (some ⟨g, 0, none⟩) bs.length cv) bs)) (fun s' _ => zs.length - (intOf s').toNat)
            case atStart => exact ⟨0, Nat.zero_le _, rfl, lf', hS5, hR5, hRw5⟩
            case round =>
              clear hS5 hRw5 hR5
              obtain ⟨k, hk, rfl, HI⟩ := hrel
              obtain ⟨lf'', hSk, hRk, hRwk⟩ := HI.out
              clear HI
              by_cases hlt4 : k < zs.length
              · obtain ⟨z, hz⟩ : ∃ z, zs[k]? = some z := ⟨_, List.getElem?_eq_getElem hlt4⟩
                obtain ⟨x, hx, y1, y2, y3⟩ := hz5 z (List.mem_of_getElem? hz)
                obtain ⟨gz, capz, za, zc, e6, hzv, hF6, z0, z1, z2⟩ := hRk.at hz
                injection e6 with e6 _ e7
                subst e6
                subst e7
                have k1 : (k : Int) < (zs.length : Int) := by omega
                have k2 : (0 : Int) ≤ (k : Int) := by omega
                have hbl : Below wr.heap.size wr (wr.alloc (.cells #[.string ⟨z.ky.toArray⟩, .int .i64 z.ver, .slice za z.xs.length zc] 44)) := (Below.refl _ wr).alloc (Nat.le_refl _) _
                obtain ⟨lv, a6, l6, c6, q1, q2, q3, q4, q5, w7, lf7, q6, q7, q8, q9⟩ := (hSk.below hbl).slot (by have := HLL.out; omega) hx y1 y2 y3
                subst q5
                have q2' : ¬ (z.ver < lv) := of_decide_eq_false q2
                have HEq := equal_yes za a6 z.xs.length zc z.xs.length c6 (fn z.xs) (fn z.xs) (wr.alloc (.cells #[.string ⟨z.ky.toArray⟩, .int .i64 z.ver, .slice za z.xs.length zc] 44)) (hF6.below hbl (Nat.le_refl _)) q4 (rfl : lst (fn z.xs) z.xs.length = lst (fn z.xs) z.xs.length)
                have HE : Hid (∃ lf'', Ser w w7 (2 * (i + 1)) S' Xs' mb ((i + 1) * 400) m' m' (mb + 1) (ll + (k + 1)) lf'' ∧ Rls w7 wc.heap.size (.slice (some ⟨gz, 0, none⟩) zs.length c5) zs ∧ Rw w7 w.heap.size (.slice (some ⟨g, 0, none⟩) bs.length cv) bs) := ⟨lf7, q7, q8 _ _ _ (hRk.below hbl), q9 _ _ _ (hRwk.below hbl)⟩
                clear hSk hRk hRwk q7 q8 q9 hF6 q4 hbl hzv hz hx y1 y2 y3
                go_wp2_with (go_at_call 15; go_loud (refine HEq.mono ?_); clear HEq; rintro e w8 ⟨rfl, rfl⟩)
                go_roundw
                case rel => exact ⟨k + 1, by omega, by go_num, HE⟩
                case measure => simp [intOf]; omega
              · obtain rfl : k = zs.length := by omega
                have HLp : Hid (Lp w wr (i + 1) sp mb (mb + 1) (.slice (some ⟨g, 0, none⟩) bs.length cv) bs) := ⟨⟨S', Xs', m', lf'', e1, e2, hSk.lek (Nat.le_refl _) (by have := HLL.out; omega)⟩, hRwk⟩
                clear hSk hRk hRwk
                go_wp2
                go_roundw
                case rel => exact ⟨i + 1, bs, some ⟨g, 0, none⟩, cv, by omega, by omega, by go_num, rfl, by omega, HLp⟩
                case measure => simp [intOf]; omega
    · obtain rfl : i = N := by omega
      have hBe : Hid (Below w.heap.size w wr) := hL.B
      clear hL h
      go_wp2
      go_ret
      exact ⟨rfl, hBe.out⟩
end Go.Proofs.Ytdackomidfofgaa
