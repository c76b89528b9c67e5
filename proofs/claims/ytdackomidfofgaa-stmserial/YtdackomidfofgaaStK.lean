/-
  New: a space with some slots, or the error.
-/
import Derived.Test.YtdackomidfofgaaStJ
namespace Go.Proofs.Ytdackomidfofgaa
open Go.RowKit Go.Maps
set_option linter.unusedVariables false
set_option maxRecDepth 100000
set_option maxHeartbeats 2000000

/-- A slot of a list of slots. -/
structure SlA (w : World) (b off : Nat) (s : ByteArray) (v : Int) (a : Option Addr) (l c : Nat) (f : Nat → Int) : Prop where
  c0 : w.cell? ⟨b, off, none⟩ = some (.string s)
  c1 : w.cell? ⟨b, off + 1, none⟩ = some (.int .i64 v)
  c2 : w.cell? ⟨b, off + 2, none⟩ = some (.slice a l c)
  fb : From w a l f
  nb : l ≤ 140737488355328
  sz : s.size ≤ 140737488355328
  nc : a = none → c = 0
/-- A list of slots: their names, and how many bytes each has. -/
def Sls (w : World) (a0 : Option Addr) (N : Nat) (sm : Nat → ByteArray) (bl : Nat → Nat) : Prop := ∀ r, r < N → ∃ b off, a0 = some ⟨b, off, none⟩ ∧ ∃ v a c f, SlA w b (off + r * 3) (sm r) v a (bl r) c f
theorem SlA.below {w w' : World} {b off : Nat} {s : ByteArray} {v : Int} {a : Option Addr} {l c : Nat} {f : Nat → Int} (h : SlA w b off s v a l c f) (hb : Below w.heap.size w w') : SlA w' b off s v a l c f := by
  have key : ∀ p v, w.cell? p = some v → w'.cell? p = some v := fun p v hp => by
    rw [hb.cell (p := p) (World.block_lt_of_cell? w _ hp)]; exact hp
  exact ⟨key _ _ h.c0, key _ _ h.c1, key _ _ h.c2, h.fb.below hb (Nat.le_refl _), h.nb, h.sz, h.nc⟩
theorem Sls.below {w w' : World} {a0 : Option Addr} {N : Nat} {sm : Nat → ByteArray} {bl : Nat → Nat} (h : Sls w a0 N sm bl) (hb : Below w.heap.size w w') : Sls w' a0 N sm bl := fun r hr => by
  obtain ⟨b, off, e, v, a, c, f, hs⟩ := h r hr
  exact ⟨b, off, e, v, a, c, f, hs.below hb⟩
def ks (sm : Nat → ByteArray) (j : Nat) : List UInt8 := (sm j).data.toList
/-- The names may be; none stands twice. -/
def Good (sm : Nat → ByteArray) (N : Nat) : Prop := ∀ j, j < N → nm (sm j) = true
def Twice (sm : Nat → ByteArray) (N : Nat) : Prop := ∃ i j, i < j ∧ j < N ∧ ks sm i = ks sm j
theorem nm_short {s : ByteArray} (h : s.size ≤ 140737488355328) : s.size ≤ maxLen := by unfold maxLen; omega

/-- The slots that were made of the first k of the list. -/
structure Kn (sm : Nat → ByteArray) (bl : Nat → Nat) (k : Nat) (A : List Es) : Prop where
  len : A.length ≤ k
  yes : ∀ j, j < k → ∃ x, fnd Es.ky A (ks sm j) = some x
  no : ∀ q, (∀ j, j < k → ks sm j ≠ q) → fnd Es.ky A q = none
  one : ¬ Twice sm k
  zero : ∀ x ∈ A, x.1.2.1 = 0
  emp : (∀ j, bl j = 0) → ∀ x ∈ A, x.1.2.2.2.1 = 0
theorem Kn.start (sm : Nat → ByteArray) (bl : Nat → Nat) : Kn sm bl 0 [] := ⟨Nat.le_refl _, fun j hj => absurd hj (by omega), fun _ _ => rfl, fun ⟨i, j, _, hj, _⟩ => by omega, fun x hx => (by cases hx), fun _ x hx => (by cases hx)⟩
theorem Kn.step {sm : Nat → ByteArray} {bl : Nat → Nat} {k : Nat} {A : List Es} (h : Kn sm bl k A) (hn : ∀ j, j < k → ks sm j ≠ ks sm k) (x : Es) (hx : x.ky = ks sm k) (hv : x.1.2.1 = 0) (he : x.1.2.2.2.1 = bl k) : Kn sm bl (k + 1) (putT Es.ky A x) := by
  refine ⟨by have := putT_len (ky := Es.ky) A x; have := h.len; omega, fun j hj => ?_, fun q hq => ?_, fun ⟨i, j, hij, hj, e⟩ => ?_, fun y hy => ?_, fun h0 y hy => ?_⟩
  · rw [fnd_put]
    by_cases e : j = k
    · rw [e, if_pos hx]; exact ⟨_, rfl⟩
    · rw [if_neg (fun e' => hn j (by omega) (by rw [← hx, e']))]; exact h.yes j (by omega)
  · rw [fnd_put, if_neg (fun e => hq k (by omega) (by rw [← hx, e]))]
    exact h.no q (fun j hj => hq j (by omega))
  · by_cases e' : j = k
    · subst e'; exact hn i hij e
    · exact h.one ⟨i, j, hij, by omega, e⟩
  · rcases mem_put hy with e | hy
    · rw [e]; exact hv
    · exact h.zero y hy
  · rcases mem_put hy with e | hy
    · rw [e, he]; exact h0 k
    · exact h.emp h0 y hy
/-- What New answers and leaves. -/
def Newed (w : World) (N : Nat) (sm : Nat → ByteArray) (bl : Nat → Nat) (e : Ending) (w' : World) : Prop :=
  Below w.heap.size w w' ∧ ((¬ Good sm N ∧ e = .returned (.tuple #[.pointer none, .int .i64 6])) ∨ (Good sm N ∧ Twice sm N ∧ e = .returned (.tuple #[.pointer none, .int .i64 1])) ∨
    (Good sm N ∧ ¬ Twice sm N ∧ ∃ S : Sm, e = .returned (.tuple #[.pointer (some ⟨S.sp, 0, none⟩), .int .i64 0]) ∧ Spc w' S ∧ S.clock = 0 ∧ S.locks = [] ∧ S.slots.length ≤ N ∧ ((∀ x ∈ S.slots, x.1.2.1 = 0) ∧ ((∀ j, bl j = 0) → ∀ x ∈ S.slots, x.1.2.2.2.1 = 0)) ∧ w.heap.size ≤ S.sp ∧ w.heap.size ≤ S.sl ∧ w.heap.size ≤ S.lk))
theorem s_new {w : World} {a0 : Option Addr} {N cap : Nat} {sm : Nat → ByteArray} {bl : Nat → Nat} (h : Sls w a0 N sm bl) (hN : N ≤ 1099511627776 * 1024) :
    Calls Try.prog 7 #[.slice a0 N cap] w fun e w' => Hid (Newed w N sm bl e w') := by
  have hmm := @run_makeMap Try.prog
  go_enter Try.func7, Try.ntmps7
  go_wp2
  go_loopw [13] (fun s wr => ∃ k : Nat, k ≤ N ∧ s = .int .i64 (k : Int) ∧ Hid (∀ j, j < k → nm (sm j) = true) ∧ Below w.heap.size w wr) (fun k _ => N - (intOf k).toNat)
  case atStart => exact ⟨0, Nat.zero_le _, rfl, fun j hj => absurd hj (by omega), Below.refl _ _⟩
  case round =>
    obtain ⟨k, hk, rfl, HJ, hB⟩ := hrel
    by_cases hlt : k < N
    · obtain ⟨b, off, rfl, v, a, c, f, hs⟩ := (h.below hB) k hlt
      have c0 := hs.c0
      have c1 := hs.c1
      have c2 := hs.c2
      have l1 : (k : Int) < (N : Int) := by omega
      have l2 : (0 : Int) ≤ (k : Int) := by omega
      obtain ⟨s, hsk⟩ : ∃ s, s = sm k := ⟨_, rfl⟩
      rw [← hsk] at c0
      have HB1 : Hid (∀ o, Below w.heap.size w (wr.alloc o)) := fun o => hB.alloc hB.size o
      have HNs : ∀ wx, Calls Try.prog 28 #[.string s] wx fun e w' => e = .returned (.bool (nm s)) ∧ w' = wx := fun wx => p_isName s wx
      cases hn : nm s with
      | true =>
        have HF : Hid (∀ j, j < k + 1 → nm (sm j) = true) := fun j hj => by
          by_cases hjk : j < k
          · exact HJ.out j hjk
          · obtain rfl : j = k := by omega
            rw [← hsk]; exact hn
        rw [hn] at HNs
        clear hs hsk hn hB h
        go_wp2_with (go_at_call 28; refine (HNs _).mono ?_; rintro e w2 ⟨rfl, rfl⟩)
        go_roundw
        case rel => exact ⟨k + 1, by omega, by go_num, HF, HB1.out _⟩
        case measure => simp [intOf]; omega
      | false =>
        have HF : Hid (¬ Good sm N) := ((fun hg => by have hq := hg k hlt; rw [← hsk, hn] at hq; cases hq) : ¬ Good sm N)
        rw [hn] at HNs
        clear hs hsk hn hB h
        go_wp2_with (go_at_call 28; refine (HNs _).mono ?_; rintro e w2 ⟨rfl, rfl⟩)
        go_ret2
        exact ⟨HB1.out _, .inl ⟨HF.out, rfl⟩⟩
    · obtain rfl : k = N := by omega
      have hg : Hid (Good sm k) := HJ
      clear HJ hlt
      rename World => wb
      have hbs := hB.size
      have hC : Spc (((wb.alloc (.map #[] 0)).alloc (.map #[] 0)).alloc (.cells #[.int .i64 0, .map (some wb.heap.size), .map (some (wb.heap.size + 1))] 63)) ⟨wb.heap.size + 2, wb.heap.size, wb.heap.size + 1, 0, [], []⟩ := by
        refine ⟨?_, ?_, ?_, ?_, fun x hx => by cases hx⟩
        · have := World.alloc_heap_new ((wb.alloc (.map #[] 0)).alloc (.map #[] 0)) (.cells #[.int .i64 0, .map (some wb.heap.size), .map (some (wb.heap.size + 1))] 63)
          simpa using this
        · have h := Mp.made wb
          exact ((h.heap (Below.heap_alloc _ _ _ (by simp))).heap (Below.heap_alloc _ _ _ (by simp; omega)))
        · have h := Mp.made (wb.alloc (.map #[] 0))
          rw [World.size_alloc] at h
          exact h.heap (Below.heap_alloc _ _ _ (by simp))
        · show wb.heap.size ≠ wb.heap.size + 1; omega
      have hBc : Below w.heap.size w (((wb.alloc (.map #[] 0)).alloc (.map #[] 0)).alloc (.cells #[.int .i64 0, .map (some wb.heap.size), .map (some (wb.heap.size + 1))] 63)) := ((hB.alloc hbs _).alloc (by simp; omega) _).alloc (by simp; omega) _
      have HCC : Hid (Spc (((wb.alloc (.map #[] 0)).alloc (.map #[] 0)).alloc (.cells #[.int .i64 0, .map (some wb.heap.size), .map (some (wb.heap.size + 1))] 63)) ⟨wb.heap.size + 2, wb.heap.size, wb.heap.size + 1, 0, [], []⟩ ∧ Below w.heap.size w (((wb.alloc (.map #[] 0)).alloc (.map #[] 0)).alloc (.cells #[.int .i64 0, .map (some wb.heap.size), .map (some (wb.heap.size + 1))] 63))) := ⟨hC, hBc⟩
      clear hC hBc hB
      go_wp2
      go_loopw [28] (fun s wq => ∃ (q : Nat) (A : List Es), q ≤ k ∧ s = .int .i64 (q : Int) ∧ Hid (Spc wq ⟨wb.heap.size + 2, wb.heap.size, wb.heap.size + 1, 0, A, []⟩ ∧ Kn sm bl q A ∧ Below w.heap.size w wq)) (fun i' _ => k - (intOf i').toNat)
      case atStart => exact ⟨0, [], Nat.zero_le _, rfl, HCC.out.1, Kn.start _ _, HCC.out.2⟩
      case round =>
        clear HCC
        obtain ⟨q, A, hqi, rfl, HI⟩ := hrel
        obtain ⟨hS, hK, hBq⟩ := HI.out
        by_cases hlt : q < k
        · obtain ⟨b, off, rfl, v, a, c, f, hs⟩ := (h.below hBq) q hlt
          have c0 := hs.c0
          have c1 := hs.c1
          have c2 := hs.c2
          have l1 : (q : Int) < (k : Int) := by omega
          have l2 : (0 : Int) ≤ (q : Int) := by omega
          have hsz := nm_short hs.sz
          have hB1 : Below wr.heap.size wr (wr.alloc (.cells #[.string (sm q), .int .i64 v, .slice a (bl q) c] 44)) := (Below.refl _ wr).alloc (Nat.le_refl _) _
          have hBw1 : Below w.heap.size w (wr.alloc (.cells #[.string (sm q), .int .i64 v, .slice a (bl q) c] 44)) := hBq.trans (hB1.mono hBq.size)
          have hS1 := hS.below hB1
          have hs1 := hs.below hB1
          have hbx : (wr.alloc (.cells #[.string (sm q), .int .i64 v, .slice a (bl q) c] 44)).heap[wr.heap.size]? = some (.cells #[.string (sm q), .int .i64 v, .slice a (bl q) c] 44 (0, 0)) := World.alloc_heap_new wr _
          have hxl : wr.heap.size < (wr.alloc (.cells #[.string (sm q), .int .i64 v, .slice a (bl q) c] 44)).heap.size := (Array.getElem?_eq_some_iff.1 hbx).1
          clear hs hS HI hB1 hBq h
          go_wp2
          generalize (wr.alloc (.cells #[.string (sm q), .int .i64 v, .slice a (bl q) c] 44)) = W1 at *
          generalize wr.heap.size = xb at *
          clear c0 c1 c2
          have CC : ∀ w2, Below W1.heap.size W1 w2 → w2.cell? ⟨wb.heap.size + 2, 1, none⟩ = some (.map (some wb.heap.size)) ∧ w2.cell? ⟨xb, 0, none⟩ = some (.string (sm q)) ∧ w2.cell? ⟨xb, 2, none⟩ = some (.slice a (bl q) c) ∧ (Instr.lookup 60 (.map (some wb.heap.size)) (.string (sm q)) true).run Try.prog w2 = .ok (.tuple #[((fnd Es.ky A (ks sm q)).map Es.vl).getD (.agg #[.int .i64 0, .slice none 0 0]), .bool ((fnd Es.ky A (ks sm q)).map Es.vl).isSome]) w2 := fun w2 hb => by
            have hx2 := (hb.block xb hxl).trans hbx
            have hS2 := hS1.below hb
            refine ⟨hS2.c1, by rw [cells_at hx2 0]; rfl, by rw [cells_at hx2 2]; rfl, ?_⟩
            have hl := hS2.slo.look_ok Try.underlying60 (zeroEs w2) hsz
            rw [kv_s, fnd_map] at hl
            exact hl
          have hBd : Below W1.heap.size W1 W1.drew := blw_drewN 1 (Below.refl _ _)
          have hBo : ∀ o, Below W1.heap.size W1 (W1.alloc o).drew := fun o => blw_drewN 1 ((Below.refl _ W1).alloc (Nat.le_refl _) o)
          obtain ⟨d1, e0, e2, hl⟩ := CC _ hBd
          obtain ⟨d1', e0', e2', hl'⟩ := CC _ (hBo (.cells #[.int .i64 0, .slice none 0 0] 73))
          by_cases hd : ∃ j, j < q ∧ ks sm j = ks sm q
          · obtain ⟨j, hj, hje⟩ := hd
            obtain ⟨x, hx⟩ := hK.yes j hj
            rw [← hje, hx] at hl hl'
            have hvl : Es.vl x = .agg #[.int .i64 x.1.2.1, .slice x.1.2.2.1 x.1.2.2.2.1 x.1.2.2.2.2] := rfl
            replace hl : (Instr.lookup 60 (.map (some wb.heap.size)) (.string (sm q)) true).run Try.prog W1.drew = .ok (.tuple #[.agg #[.int .i64 x.1.2.1, .slice x.1.2.2.1 x.1.2.2.2.1 x.1.2.2.2.2], .bool true]) W1.drew := hl
            replace hl' : (Instr.lookup 60 (.map (some wb.heap.size)) (.string (sm q)) true).run Try.prog (W1.alloc (.cells #[.int .i64 0, .slice none 0 0] 73)).drew = .ok (.tuple #[.agg #[.int .i64 x.1.2.1, .slice x.1.2.2.1 x.1.2.2.2.1 x.1.2.2.2.2], .bool true]) (W1.alloc (.cells #[.int .i64 0, .slice none 0 0] 73)).drew := hl'
            generalize x.1.2.1 = xv at *
            generalize x.1.2.2.1 = xa at *
            generalize x.1.2.2.2.1 = xn at *
            generalize x.1.2.2.2.2 = xc at *
            have HE : ∀ w2, Below W1.heap.size W1 w2 → Hid (Newed w k sm bl (.returned (.tuple #[.pointer none, .int .i64 1])) w2) := fun w2 hb => ⟨hBw1.trans (hb.mono hBw1.size), .inr (.inl ⟨hg.out, ⟨j, q, hj, hlt, hje⟩, rfl⟩)⟩
            clear hS1 hs1 hK hBw1 CC hbx hx hvl hje hBd
            go_region
            all_goals
              go_wp2
              go_ret2
              exact (HE _ (hBo _)).out
          · have hd' : ∀ j, j < q → ks sm j ≠ ks sm q := fun j hj e => hd ⟨j, hj, e⟩
            have hx : fnd Es.ky A (ks sm q) = none := hK.no _ hd'
            rw [hx] at hl hl'
            replace hl : (Instr.lookup 60 (.map (some wb.heap.size)) (.string (sm q)) true).run Try.prog W1.drew = .ok (.tuple #[.agg #[.int .i64 0, .slice none 0 0], .bool false]) W1.drew := hl
            replace hl' : (Instr.lookup 60 (.map (some wb.heap.size)) (.string (sm q)) true).run Try.prog (W1.alloc (.cells #[.int .i64 0, .slice none 0 0] 73)).drew = .ok (.tuple #[.agg #[.int .i64 0, .slice none 0 0], .bool false]) (W1.alloc (.cells #[.int .i64 0, .slice none 0 0] 73)).drew := hl'
            go_region
            go_wp2
            have hBo' := hBo (.cells #[.int .i64 0, .slice none 0 0] 73)
            have hBw2 : Below w.heap.size w (W1.alloc (.cells #[.int .i64 0, .slice none 0 0] 73)).drew := hBw1.trans (hBo'.mono hBw1.size)
            have hS2 := hS1.below hBo'
            have hs2 := hs1.below hBo'
            have hx2 := (hBo'.block xb hxl).trans hbx
            have hxl2 := Nat.lt_of_lt_of_le hxl hBo'.size
            clear hl hl' d1 d1' e0 e0' e2 e2' hBo' hBo hBd CC hS1 hs1 hbx hxl hBw1 hx
            generalize (W1.alloc (.cells #[.int .i64 0, .slice none 0 0] 73)).drew = W2 at *
            have HC := clone a (bl q) c f W2.drew hs2.nb (hs2.fb.below (blw_drewN 1 (Below.refl _ _)) (Nat.le_refl _))
            have hS2d : Spc W2.drew _ := hS2.below (blw_drewN 1 (Below.refl _ _))
            have HB : ∀ w2 v', Below W2.drew.heap.size W2.drew w2 → Own w2 W2.drew.heap.size v' (lst f (bl q)) → ∃ a' c', v' = .slice a' (lst f (bl q)).length c' ∧ w2.cell? ⟨wb.heap.size + 2, 1, none⟩ = some (.map (some wb.heap.size)) ∧ w2.cell? ⟨xb, 0, none⟩ = some (.string (sm q)) ∧ w2.cell? ⟨xb, 2, none⟩ = some (.slice a (bl q) c) ∧ ∃ w3, (Instr.mapUpdate 60 (.map (some wb.heap.size)) (.string (sm q)) (.agg #[.int .i64 0, .slice a' (lst f (bl q)).length c'])).run Try.prog w2 = .ok () w3 ∧ Hid (∃ A' : List Es, Spc w3 ⟨wb.heap.size + 2, wb.heap.size, wb.heap.size + 1, 0, A', []⟩ ∧ Kn sm bl (q + 1) A' ∧ Below w.heap.size w w3) := by
              intro w2 v' hb2 ho
              obtain ⟨a', c', rfl⟩ := ho.slice
              have hS3 := hS2d.below hb2
              have hx3 := (hb2.block xb hxl2).trans hx2
              obtain ⟨w3, hrun, hm, htu⟩ := hS3.slo.store Try.underlying60 (by rw [List.length_map]; show A.length < maxLen; have := hK.len; unfold maxLen; omega) hsz (.agg #[.int .i64 0, .slice a' (lst f (bl q)).length c'])
              have hpt := turned_part htu
              obtain ⟨a1, a2⟩ := hS3.apart
              refine ⟨a', c', rfl, hS3.c1, by rw [cells_at hx3 0]; rfl, by rw [cells_at hx3 2]; rfl, w3, hrun, putT Es.ky A ⟨((sm q).data.toList, 0, a', (lst f (bl q)).length, c'), by rw [Array.length_toList]; exact hsz⟩, ⟨(hpt.block _ hS3.lts.1 a1).trans hS3.cel, ?_, hS3.loc.part hpt (fun e => hS3.ne e.symm), hS3.ne, fun x hx => by cases hx⟩, hK.step hd' _ rfl rfl (by show (lst f (bl q)).length = bl q; simp [lst]), ?_⟩
              · rw [kv_s, putT_map]; exact hm
              · have hb3 : Below w.heap.size w w2 := (hBw2.trans (blw_drewN 1 (Below.refl _ _))).trans (hb2.mono (by have := hBw2.size; exact this))
                exact hb3.trans (hpt.below (fun b hb => by have hb : b = wb.heap.size := hb; omega) hb3.size)
            have d1d : W2.drew.cell? ⟨wb.heap.size + 2, 1, none⟩ = some (.map (some wb.heap.size)) := hS2d.c1
            have e0d : W2.drew.cell? ⟨xb, 0, none⟩ = some (.string (sm q)) := by have := cells_at hx2 0; exact this
            have e2d : W2.drew.cell? ⟨xb, 2, none⟩ = some (.slice a (bl q) c) := by have := cells_at hx2 2; exact this
            have HR : ∀ w3, (∃ A' : List Es, Spc w3 ⟨wb.heap.size + 2, wb.heap.size, wb.heap.size + 1, 0, A', []⟩ ∧ Kn sm bl (q + 1) A' ∧ Below w.heap.size w w3) → Hid (∃ (q' : Nat) (A : List Es), q' ≤ k ∧ Value.int .i64 ((q : Int) + 1) = .int .i64 (q' : Int) ∧ Hid (Spc w3 ⟨wb.heap.size + 2, wb.heap.size, wb.heap.size + 1, 0, A, []⟩ ∧ Kn sm bl q' A ∧ Below w.heap.size w w3)) := fun w3 ⟨A', h1⟩ => ⟨q + 1, A', by omega, by go_num, h1⟩
            clear hS2 hs2 hx2 hxl2 hS2d hBw2 hd hd' hK
            go_region_with (go_at_call 29; refine HC.mono ?_; rintro e w2 ⟨v', rfl, ho, hb2⟩; obtain ⟨a', c', rfl, x1, x2, x3, w3, hrun, HE⟩ := HB w2 v' hb2 ho; clear ho hb2)
            all_goals
              go_wp2
              go_roundw
              case rel => exact (HR _ HE.out).out
              case measure => simp [intOf]; omega
        · obtain rfl : q = k := by omega
          have HE : Hid (Newed w q sm bl (.returned (.tuple #[.pointer (some ⟨wb.heap.size + 2, 0, none⟩), .int .i64 0])) wr) := ⟨hBq, .inr (.inr ⟨hg.out, hK.one, _, rfl, hS, rfl, rfl, hK.len, ⟨hK.zero, hK.emp⟩, by show w.heap.size ≤ wb.heap.size + 2; omega, by show w.heap.size ≤ wb.heap.size; omega, by show w.heap.size ≤ wb.heap.size + 1; omega⟩)⟩
          clear hS HI h hK hBq
          go_wp2
          go_ret2
          exact HE.out
end Go.Proofs.Ytdackomidfofgaa
