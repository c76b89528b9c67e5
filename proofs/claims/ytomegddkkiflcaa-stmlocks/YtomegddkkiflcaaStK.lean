/-
  New: a space with some slots, or the error.
-/
import Derived.Test.YtomegddkkiflcaaStJ
namespace Go.Proofs.Ytomegddkkiflcaa
open Go.RowKit Go.Maps
set_option linter.unusedVariables false
set_option maxRecDepth 100000
set_option maxHeartbeats 2000000

/-- A slot of a list of slots. -/
structure SlA (w : World) (b off : Nat) (s : ByteArray) (v : Int) (a : Option Addr) (l c : Nat) (f : Nat → Int) : Prop where
  c0 : w.cell? ⟨b, off, none⟩ = some (.string s)
  c1 : w.cell? ⟨b, off + 1, none⟩ = some (.int .i64 v)
  c2 : w.cell? ⟨b, off + 2, none⟩ = some (.slice a l c)
  fb : From w a l f
  nb : l ≤ 140737488355328
  sz : s.size ≤ 140737488355328
  nc : a = none → c = 0
/-- A list of slots: their names, and how many bytes each has. -/
def Sls (w : World) (a0 : Option Addr) (N : Nat) (sm : Nat → ByteArray) (bl : Nat → Nat) : Prop := ∀ r, r < N → ∃ b off, a0 = some ⟨b, off, none⟩ ∧ ∃ v a c f, SlA w b (off + r * 3) (sm r) v a (bl r) c f
theorem SlA.below {w w' : World} {b off : Nat} {s : ByteArray} {v : Int} {a : Option Addr} {l c : Nat} {f : Nat → Int} (h : SlA w b off s v a l c f) (hb : Below w.heap.size w w') : SlA w' b off s v a l c f := by
  have key : ∀ p v, w.cell? p = some v → w'.cell? p = some v := fun p v hp => by
    rw [hb.cell (p := p) (World.block_lt_of_cell? w _ hp)]; exact hp
  exact ⟨key _ _ h.c0, key _ _ h.c1, key _ _ h.c2, h.fb.below hb (Nat.le_refl _), h.nb, h.sz, h.nc⟩
theorem Sls.below {w w' : World} {a0 : Option Addr} {N : Nat} {sm : Nat → ByteArray} {bl : Nat → Nat} (h : Sls w a0 N sm bl) (hb : Below w.heap.size w w') : Sls w' a0 N sm bl := fun r hr => by
  obtain ⟨b, off, e, v, a, c, f, hs⟩ := h r hr
  exact ⟨b, off, e, v, a, c, f, hs.below hb⟩
def ks (sm : Nat → ByteArray) (j : Nat) : List UInt8 := (sm j).data.toList
/-- The names may be; none stands twice. -/
def Good (sm : Nat → ByteArray) (N : Nat) : Prop := ∀ j, j < N → nm (sm j) = true
def Twice (sm : Nat → ByteArray) (N : Nat) : Prop := ∃ i j, i < j ∧ j < N ∧ ks sm i = ks sm j
theorem nm_short {s : ByteArray} (h : s.size ≤ 140737488355328) : s.size ≤ maxLen := by unfold maxLen; omega

theorem zeroInt (w : World) : (zeroValue 3).run Try.prog w = .ok (.int .i64 0) w := by kernel_rfl
/-- The names that were met: each once. -/
structure Met1 (sm : Nat → ByteArray) (k : Nat) (L : List Kv) : Prop where
  len : L.length ≤ k
  yes : ∀ j, j < k → lk L (ks sm j) = some (.int .i64 1)
  no : ∀ q, (∀ j, j < k → ks sm j ≠ q) → lk L q = none
  one : ¬ Twice sm k
theorem Met1.step {sm : Nat → ByteArray} {k : Nat} {L : List Kv} (h : Met1 sm k L) (hn : ∀ j, j < k → ks sm j ≠ ks sm k) : Met1 sm (k + 1) (putL L (ks sm k) (.int .i64 1)) := by
  refine ⟨by have := put_len L (ks sm k) (.int .i64 1); have := h.len; omega, fun j hj => ?_, fun q hq => ?_, fun ⟨i, j, hij, hj, e⟩ => ?_⟩
  · by_cases e : j = k
    · subst e; exact lk_put_same _ _ _
    · rw [lk_put_other (hn j (by omega))]; exact h.yes j (by omega)
  · rw [lk_put_other (fun e => hq k (by omega) e.symm)]
    exact h.no q (fun j hj => hq j (by omega))
  · by_cases e' : j = k
    · subst e'; exact hn i hij e
    · exact h.one ⟨i, j, hij, by omega, e⟩
/-- What New answers and leaves. -/
def Newed (w : World) (N : Nat) (sm : Nat → ByteArray) (bl : Nat → Nat) (e : Ending) (w' : World) : Prop :=
  Below w.heap.size w w' ∧ ((¬ Good sm N ∧ e = .returned (.tuple #[.pointer none, .int .i64 6])) ∨ (Good sm N ∧ Twice sm N ∧ e = .returned (.tuple #[.pointer none, .int .i64 1])) ∨
    (Good sm N ∧ ¬ Twice sm N ∧ ∃ S : Sm, e = .returned (.tuple #[.pointer (some ⟨S.sp, 0, none⟩), .int .i64 0]) ∧ Spc w' S ∧ S.clock = 0 ∧ S.locks = [] ∧ S.slots.length ≤ N ∧ ((∀ j, bl j = 0) → S.slots = []) ∧ w.heap.size ≤ S.sp ∧ w.heap.size ≤ S.sl ∧ w.heap.size ≤ S.lk))
theorem s_new {w : World} {a0 : Option Addr} {N cap : Nat} {sm : Nat → ByteArray} {bl : Nat → Nat} (h : Sls w a0 N sm bl) (hN : N ≤ 1099511627776 * 1024) :
    Calls Try.prog 7 #[.slice a0 N cap] w fun e w' => Hid (Newed w N sm bl e w') := by
  have hmm := @run_makeMap Try.prog
  go_enter Try.func7, Try.ntmps7
  go_wp2
  go_loopw [14] (fun s wr => ∃ k : Nat, k ≤ N ∧ s = .int .i64 (k : Int) ∧ Hid (∀ j, j < k → nm (sm j) = true) ∧ Below w.heap.size w wr) (fun k _ => N - (intOf k).toNat)
  case atStart => exact ⟨0, Nat.zero_le _, rfl, fun j hj => absurd hj (by omega), Below.refl _ _⟩
  case round =>
    obtain ⟨k, hk, rfl, HJ, hB⟩ := hrel
    by_cases hlt : k < N
    · obtain ⟨b, off, rfl, v, a, c, f, hs⟩ := (h.below hB) k hlt
      have c0 := hs.c0
      have c1 := hs.c1
      have c2 := hs.c2
      have l1 : (k : Int) < (N : Int) := by omega
      have l2 : (0 : Int) ≤ (k : Int) := by omega
      obtain ⟨s, hsk⟩ : ∃ s, s = sm k := ⟨_, rfl⟩
      rw [← hsk] at c0
      have HB1 : Hid (∀ o, Below w.heap.size w (wr.alloc o)) := fun o => hB.alloc hB.size o
      have HNs : ∀ wx, Calls Try.prog 28 #[.string s] wx fun e w' => e = .returned (.bool (nm s)) ∧ w' = wx := fun wx => p_isName s wx
      cases hn : nm s with
      | true =>
        have HF : Hid (∀ j, j < k + 1 → nm (sm j) = true) := fun j hj => by
          by_cases hjk : j < k
          · exact HJ.out j hjk
          · obtain rfl : j = k := by omega
            rw [← hsk]; exact hn
        rw [hn] at HNs
        clear hs hsk hn hB h
        go_wp2_with (go_at_call 28; refine (HNs _).mono ?_; rintro e w2 ⟨rfl, rfl⟩)
        go_roundw
        case rel => exact ⟨k + 1, by omega, by go_num, HF, HB1.out _⟩
        case measure => simp [intOf]; omega
      | false =>
        have HF : Hid (¬ Good sm N) := ((fun hg => by have hq := hg k hlt; rw [← hsk, hn] at hq; cases hq) : ¬ Good sm N)
        rw [hn] at HNs
        clear hs hsk hn hB h
        go_wp2_with (go_at_call 28; refine (HNs _).mono ?_; rintro e w2 ⟨rfl, rfl⟩)
        go_ret2
        exact ⟨HB1.out _, .inl ⟨HF.out, rfl⟩⟩
    · obtain rfl : k = N := by omega
      have hg : Hid (Good sm k) := HJ
      clear HJ hlt
      rename World => wa
      have hM0 := Mp.made wa
      have hBa : Below w.heap.size w (wa.alloc (.map #[] 0)) := hB.alloc hB.size _
      have hsa := hB.size
      go_wp2
      go_loopw [26] (fun s wq => ∃ (i : Nat) (L : List Kv), i ≤ k ∧ s = .int .i64 (i : Int) ∧ Hid (Met1 sm i L ∧ Mp wq wa.heap.size L ∧ Below w.heap.size w wq)) (fun i _ => k - (intOf i).toNat)
      case atStart => exact ⟨0, [], Nat.zero_le _, rfl, ⟨Nat.le_refl _, fun j hj => absurd hj (by omega), fun q _ => rfl, fun ⟨i, j, _, hj, _⟩ => by omega⟩, hM0, hBa⟩
      case round =>
        obtain ⟨i, L, hik, rfl, HI⟩ := hrel
        obtain ⟨hMet, hM, hBr⟩ := HI.out
        by_cases hlt : i < k
        · obtain ⟨b, off, rfl, v, a, c, f, hs⟩ := (h.below hBr) i hlt
          have c0 := hs.c0
          have c1 := hs.c1
          have c2 := hs.c2
          have l1 : (i : Int) < (k : Int) := by omega
          have l2 : (0 : Int) ≤ (i : Int) := by omega
          have hsz := nm_short hs.sz
          have hM1 : Mp (wr.alloc (.cells #[.string (sm i), .int .i64 v, .slice a (bl i) c] 44)) wa.heap.size L := hM.heap (Below.heap_alloc _ _ _ hM.lt)
          have hB1 : Below w.heap.size w (wr.alloc (.cells #[.string (sm i), .int .i64 v, .slice a (bl i) c] 44)) := hBr.alloc hBr.size _
          have hlkA := hM1.look Try.underlying29 (zeroInt _) hsz
          have hll : L.length < maxLen := by have := hMet.len; unfold maxLen; omega
          have hbx : (wr.alloc (.cells #[.string (sm i), .int .i64 v, .slice a (bl i) c] 44)).heap[wr.heap.size]? = some (.cells #[.string (sm i), .int .i64 v, .slice a (bl i) c] 44 (0, 0)) := World.alloc_heap_new wr _
          have hwab : wa.heap.size < wr.heap.size := hM.lt
          by_cases hd : ∃ j, j < i ∧ ks sm j = ks sm i
          · obtain ⟨j, hj, hje⟩ := hd
            have hv : lk L (ks sm i) = some (.int .i64 1) := by rw [← hje]; exact hMet.yes j hj
            have hlk : (Instr.lookup 29 (.map (some wa.heap.size)) (.string (sm i)) false).run Try.prog (wr.alloc (.cells #[.string (sm i), .int .i64 v, .slice a (bl i) c] 44)) = .ok (.int .i64 1) (wr.alloc (.cells #[.string (sm i), .int .i64 v, .slice a (bl i) c] 44)) := by rw [hlkA]; show Result.ok ((lk L (ks sm i)).getD _) _ = _; rw [hv]; rfl
            obtain ⟨w2, hrun, hM2, htu⟩ := hM1.store Try.underlying29 hll hsz (.int .i64 2)
            have hpt := turned_part htu
            have hlkB := hM2.look Try.underlying29 (zeroInt _) hsz
            rw [lk_put_same] at hlkB
            have hlk2 : (Instr.lookup 29 (.map (some wa.heap.size)) (.string (sm i)) false).run Try.prog w2 = .ok (.int .i64 2) w2 := hlkB
            have c0' : w2.cell? ⟨wr.heap.size, 0, none⟩ = some (.string (sm i)) := by rw [cells_at ((hpt.block _ (by simp) (fun e => by omega)).trans hbx) 0]; rfl
            have HE : Hid (Newed w k sm bl (.returned (.tuple #[.pointer none, .int .i64 1])) w2) := ⟨hB1.trans (hpt.below (fun b hb => by have hb : b = wa.heap.size := hb; omega) hB1.size), .inr (.inl ⟨hg.out, ⟨j, i, hj, hlt, hje⟩, rfl⟩)⟩
            clear hs hM hM1 hM2 hBr hB hBa hM0 hMet HI hlkA hlkB htu hpt hbx hB1 hv h hje
            go_wp2
            go_ret2
            exact HE.out
          · have hd' : ∀ j, j < i → ks sm j ≠ ks sm i := fun j hj e => hd ⟨j, hj, e⟩
            have hv : lk L (ks sm i) = none := hMet.no _ hd'
            have hlk : (Instr.lookup 29 (.map (some wa.heap.size)) (.string (sm i)) false).run Try.prog (wr.alloc (.cells #[.string (sm i), .int .i64 v, .slice a (bl i) c] 44)) = .ok (.int .i64 0) (wr.alloc (.cells #[.string (sm i), .int .i64 v, .slice a (bl i) c] 44)) := by rw [hlkA]; show Result.ok ((lk L (ks sm i)).getD _) _ = _; rw [hv]; rfl
            obtain ⟨w2, hrun, hM2, htu⟩ := hM1.store Try.underlying29 hll hsz (.int .i64 1)
            have hpt := turned_part htu
            have hlkB := hM2.look Try.underlying29 (zeroInt _) hsz
            rw [lk_put_same] at hlkB
            have hlk2 : (Instr.lookup 29 (.map (some wa.heap.size)) (.string (sm i)) false).run Try.prog w2 = .ok (.int .i64 1) w2 := hlkB
            have c0' : w2.cell? ⟨wr.heap.size, 0, none⟩ = some (.string (sm i)) := by rw [cells_at ((hpt.block _ (by simp) (fun e => by omega)).trans hbx) 0]; rfl
            have HE : Hid (Met1 sm (i + 1) (putL L (ks sm i) (.int .i64 1)) ∧ Mp w2 wa.heap.size (putL L (ks sm i) (.int .i64 1)) ∧ Below w.heap.size w w2) := ⟨hMet.step hd', hM2, hB1.trans (hpt.below (fun b hb => by have hb : b = wa.heap.size := hb; omega) hB1.size)⟩
            clear hs hM hM1 hM2 hBr hB hBa hM0 hMet HI hlkA hlkB htu hpt hbx hB1 hv h hd hd'
            go_wp2
            go_roundw
            case rel => exact ⟨i + 1, _, by omega, by go_num, HE⟩
            case measure => simp [intOf]; omega
        · obtain rfl : i = k := by omega
          have hone : Hid (¬ Twice sm i) := hMet.one
          clear hM hMet HI hlt hB hBa hM0 hsa
          rename World => wb
          obtain ⟨S0, hS0⟩ : ∃ S0 : Sm, S0 = ⟨wb.heap.size + 2, wb.heap.size, wb.heap.size + 1, 0, [], []⟩ := ⟨_, rfl⟩
          have hbs := hBr.size
          have hC : Spc (((wb.alloc (.map #[] 0)).alloc (.map #[] 0)).alloc (.cells #[.int .i64 0, .map (some wb.heap.size), .map (some (wb.heap.size + 1))] 63)) ⟨wb.heap.size + 2, wb.heap.size, wb.heap.size + 1, 0, [], []⟩ := by
            refine ⟨?_, ?_, ?_, ?_, fun x hx => by cases hx⟩
            · have := World.alloc_heap_new ((wb.alloc (.map #[] 0)).alloc (.map #[] 0)) (.cells #[.int .i64 0, .map (some wb.heap.size), .map (some (wb.heap.size + 1))] 63)
              simpa using this
            · have h := Mp.made wb
              exact ((h.heap (Below.heap_alloc _ _ _ (by simp))).heap (Below.heap_alloc _ _ _ (by simp; omega)))
            · have h := Mp.made (wb.alloc (.map #[] 0))
              rw [World.size_alloc] at h
              exact h.heap (Below.heap_alloc _ _ _ (by simp))
            · show wb.heap.size ≠ wb.heap.size + 1; omega
          have hBc : Below w.heap.size w (((wb.alloc (.map #[] 0)).alloc (.map #[] 0)).alloc (.cells #[.int .i64 0, .map (some wb.heap.size), .map (some (wb.heap.size + 1))] 63)) := ((hBr.alloc hbs _).alloc (by simp; omega) _).alloc (by simp; omega) _
          have HCC : Hid (Spc (((wb.alloc (.map #[] 0)).alloc (.map #[] 0)).alloc (.cells #[.int .i64 0, .map (some wb.heap.size), .map (some (wb.heap.size + 1))] 63)) ⟨wb.heap.size + 2, wb.heap.size, wb.heap.size + 1, 0, [], []⟩ ∧ Below w.heap.size w (((wb.alloc (.map #[] 0)).alloc (.map #[] 0)).alloc (.cells #[.int .i64 0, .map (some wb.heap.size), .map (some (wb.heap.size + 1))] 63))) := ⟨hC, hBc⟩
          clear hC hBc hS0 hBr
          go_wp2
          go_loopw [47] (fun s wq => ∃ (q : Nat) (A : List Es), q ≤ i ∧ s = .int .i64 (q : Int) ∧ Hid (Spc wq ⟨wb.heap.size + 2, wb.heap.size, wb.heap.size + 1, 0, A, []⟩ ∧ A.length ≤ q ∧ ((∀ j, bl j = 0) → A = []) ∧ Below w.heap.size w wq)) (fun i' _ => i - (intOf i').toNat)
          case atStart => exact ⟨0, [], Nat.zero_le _, rfl, HCC.out.1, Nat.le_refl _, fun _ => rfl, HCC.out.2⟩
          case round =>
            clear HCC
            obtain ⟨q, A, hqi, rfl, HI⟩ := hrel
            obtain ⟨hS, hAl, hAz, hBq⟩ := HI.out
            by_cases hlt : q < i
            · obtain ⟨b, off, rfl, v, a, c, f, hs⟩ := (h.below hBq) q hlt
              have c0 := hs.c0
              have c1 := hs.c1
              have c2 := hs.c2
              have l1 : (q : Int) < (i : Int) := by omega
              have l2 : (0 : Int) ≤ (q : Int) := by omega
              have hsz := nm_short hs.sz
              have hB1 : Below wr.heap.size wr (wr.alloc (.cells #[.string (sm q), .int .i64 v, .slice a (bl q) c] 44)) := (Below.refl _ wr).alloc (Nat.le_refl _) _
              have hBw1 : Below w.heap.size w (wr.alloc (.cells #[.string (sm q), .int .i64 v, .slice a (bl q) c] 44)) := hBq.trans (hB1.mono hBq.size)
              have hS1 := hS.below hB1
              have hs1 := hs.below hB1
              have hbx : (wr.alloc (.cells #[.string (sm q), .int .i64 v, .slice a (bl q) c] 44)).heap[wr.heap.size]? = some (.cells #[.string (sm q), .int .i64 v, .slice a (bl q) c] 44 (0, 0)) := World.alloc_heap_new wr _
              by_cases hz : bl q = 0
              · have hz' : ¬ (0 < bl q) := by omega
                have hz2 : decide ((0 : Int) < (bl q : Int)) = false := decide_eq_false (by omega)
                have hz3 : decide (0 < bl q) = false := decide_eq_false hz'
                have HE : Hid (Spc (wr.alloc (.cells #[.string (sm q), .int .i64 v, .slice a (bl q) c] 44)) ⟨wb.heap.size + 2, wb.heap.size, wb.heap.size + 1, 0, A, []⟩ ∧ A.length ≤ q + 1 ∧ ((∀ j, bl j = 0) → A = []) ∧ Below w.heap.size w (wr.alloc (.cells #[.string (sm q), .int .i64 v, .slice a (bl q) c] 44))) := ⟨hS1, by omega, hAz, hBw1⟩
                clear hs hS hS1 hs1 hbx hB1 hBw1 hBq HI hz h hAz
                go_wp2
                go_roundw
                case rel => exact ⟨q + 1, A, by omega, by go_num, HE⟩
                case measure => simp [intOf]; omega
              · have hz' : 0 < bl q := by omega
                have hz2 : decide ((0 : Int) < (bl q : Int)) = true := decide_eq_true (by omega)
                have hz3 : decide (0 < bl q) = true := decide_eq_true hz'
                have HC := clone a (bl q) c f (wr.alloc (.cells #[.string (sm q), .int .i64 v, .slice a (bl q) c] 44)).drew hs1.nb (hs1.fb.below (blw_drewN 1 (Below.refl _ _)) (Nat.le_refl _))
                have d1 := hS1.c1
                have hS1d : Spc (wr.alloc (.cells #[.string (sm q), .int .i64 v, .slice a (bl q) c] 44)).drew _ := hS1.below (blw_drewN 1 (Below.refl _ _))
                have HB : ∀ w2 v', Below (wr.alloc (.cells #[.string (sm q), .int .i64 v, .slice a (bl q) c] 44)).drew.heap.size (wr.alloc (.cells #[.string (sm q), .int .i64 v, .slice a (bl q) c] 44)).drew w2 → Own w2 (wr.alloc (.cells #[.string (sm q), .int .i64 v, .slice a (bl q) c] 44)).drew.heap.size v' (lst f (bl q)) → ∃ a' c', v' = .slice a' (lst f (bl q)).length c' ∧ w2.cell? ⟨wb.heap.size + 2, 1, none⟩ = some (.map (some wb.heap.size)) ∧ w2.cell? ⟨wr.heap.size, 0, none⟩ = some (.string (sm q)) ∧ w2.cell? ⟨wr.heap.size, 2, none⟩ = some (.slice a (bl q) c) ∧ ∃ w3, (Instr.mapUpdate 60 (.map (some wb.heap.size)) (.string (sm q)) (.agg #[.int .i64 0, .slice a' (lst f (bl q)).length c'])).run Try.prog w2 = .ok () w3 ∧ Hid (∃ A' : List Es, Spc w3 ⟨wb.heap.size + 2, wb.heap.size, wb.heap.size + 1, 0, A', []⟩ ∧ A'.length ≤ q + 1 ∧ ((∀ j, bl j = 0) → A' = []) ∧ Below w.heap.size w w3) := by
                  intro w2 v' hb2 ho
                  obtain ⟨a', c', rfl⟩ := ho.slice
                  have hS2 := hS1d.below hb2
                  have hx2 := (hb2.block wr.heap.size (by show wr.heap.size < (wr.alloc _).heap.size; simp)).trans hbx
                  obtain ⟨w3, hrun, hm, htu⟩ := hS2.slo.store Try.underlying60 (by rw [List.length_map]; show A.length < maxLen; unfold maxLen; omega) hsz (.agg #[.int .i64 0, .slice a' (lst f (bl q)).length c'])
                  have hpt := turned_part htu
                  obtain ⟨a1, a2⟩ := hS2.apart
                  refine ⟨a', c', rfl, hS2.c1, by rw [cells_at hx2 0]; rfl, by rw [cells_at hx2 2]; rfl, w3, hrun, putT Es.ky A ⟨((sm q).data.toList, 0, a', (lst f (bl q)).length, c'), by rw [Array.length_toList]; exact hsz⟩, ⟨(hpt.block _ hS2.lts.1 a1).trans hS2.cel, ?_, hS2.loc.part hpt (fun e => hS2.ne e.symm), hS2.ne, fun x hx => by cases hx⟩, ?_, fun hall => absurd (hall q) hz, ?_⟩
                  · rw [kv_s, putT_map]; exact hm
                  · have := putT_len (ky := Es.ky) A ⟨((sm q).data.toList, 0, a', (lst f (bl q)).length, c'), by rw [Array.length_toList]; exact hsz⟩
                    omega
                  · have hb3 : Below w.heap.size w w2 := (hBw1.trans (blw_drewN 1 (Below.refl _ _))).trans (hb2.mono (by have := hBw1.size; exact this))
                    exact hb3.trans (hpt.below (fun b hb => by have hb : b = wb.heap.size := hb; omega) hb3.size)
                clear hs hS hS1 hs1 hB1 hBw1 hBq HI hz h hAz hS1d
                have e0 : (wr.alloc (.cells #[.string (sm q), .int .i64 v, .slice a (bl q) c] 44)).cell? ⟨wr.heap.size, 0, none⟩ = some (.string (sm q)) := by rw [cells_at hbx 0]; rfl
                have e2 : (wr.alloc (.cells #[.string (sm q), .int .i64 v, .slice a (bl q) c] 44)).cell? ⟨wr.heap.size, 2, none⟩ = some (.slice a (bl q) c) := by rw [cells_at hbx 2]; rfl
                clear hbx
                go_wp2
                generalize (wr.alloc (.cells #[.string (sm q), .int .i64 v, .slice a (bl q) c] 44)) = W1 at *
                generalize wr.heap.size = xb at *
                have d1d : W1.drew.cell? ⟨wb.heap.size + 2, 1, none⟩ = some (.map (some wb.heap.size)) := d1
                have e0d : W1.drew.cell? ⟨xb, 0, none⟩ = some (.string (sm q)) := e0
                have e2d : W1.drew.cell? ⟨xb, 2, none⟩ = some (.slice a (bl q) c) := e2
                clear d1 e0 e2 c0 c1 c2
                have HR : ∀ w3, (∃ A' : List Es, Spc w3 ⟨wb.heap.size + 2, wb.heap.size, wb.heap.size + 1, 0, A', []⟩ ∧ A'.length ≤ q + 1 ∧ ((∀ j, bl j = 0) → A' = []) ∧ Below w.heap.size w w3) → Hid (∃ (q' : Nat) (A : List Es), q' ≤ i ∧ Value.int .i64 ((q : Int) + 1) = .int .i64 (q' : Int) ∧ Hid (Spc w3 ⟨wb.heap.size + 2, wb.heap.size, wb.heap.size + 1, 0, A, []⟩ ∧ A.length ≤ q' ∧ ((∀ j, bl j = 0) → A = []) ∧ Below w.heap.size w w3)) := fun w3 ⟨A', h1⟩ => ⟨q + 1, A', by omega, by go_num, h1⟩
                go_region_with (go_at_call 29; refine HC.mono ?_; rintro e w2 ⟨v', rfl, ho, hb2⟩; obtain ⟨a', c', rfl, x1, x2, x3, w3, hrun, HE⟩ := HB w2 v' hb2 ho; clear ho hb2)
                all_goals
                  go_wp2
                  go_roundw
                  case rel => exact (HR _ HE.out).out
                  case measure => simp [intOf]; omega
            · obtain rfl : q = i := by omega
              have HE : Hid (Newed w q sm bl (.returned (.tuple #[.pointer (some ⟨wb.heap.size + 2, 0, none⟩), .int .i64 0])) wr) := ⟨hBq, .inr (.inr ⟨hg.out, hone.out, _, rfl, hS, rfl, rfl, hAl, hAz, by show w.heap.size ≤ wb.heap.size + 2; omega, by show w.heap.size ≤ wb.heap.size; omega, by show w.heap.size ≤ wb.heap.size + 1; omega⟩)⟩
              clear hS HI h hAz hBq
              go_wp2
              go_ret2
              exact HE.out
end Go.Proofs.Ytomegddkkiflcaa
