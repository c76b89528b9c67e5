/-
  Transactions: refuse, refuseName, isTaken, isNewer: what they answer of a transaction in memory. They change nothing.
-/
import Derived.Test.YtdackomidfofgaaStC
namespace Go.Proofs.Ytdackomidfofgaa
open Go.RowKit Go.Maps
set_option linter.unusedVariables false
set_option maxHeartbeats 2000000
set_option maxRecDepth 100000

/-- What refuse answers. -/
def rf (ph : Int) (ps : List Int) : Int := if ph ∈ ps then 0 else 3
theorem getD_mem {ps : List Int} {k : Nat} (h : k < ps.length) : ps.getD k 0 ∈ ps := by
  have : ps[k]? = some (ps.getD k 0) := by simp [List.getD, List.getElem?_eq_getElem h]
  exact List.mem_of_getElem? this
theorem mem_getD {ps : List Int} {p : Int} (h : p ∈ ps) : ∃ k, k < ps.length ∧ ps.getD k 0 = p := by
  obtain ⟨k, hk, e⟩ := List.getElem_of_mem h
  exact ⟨k, hk, by simp [List.getD, List.getElem?_eq_getElem hk, e]⟩
theorem t_refuse {w : World} {S : Sm} {T : Tm} (h : Txc w S T) (g n : Nat) (ps : List Int) (hn : n = ps.length) (hb : n ≤ 100) (hc : ∀ j, j < n → w.cell? ⟨g, j, none⟩ = some (.int .i64 (ps.getD j 0))) :
    Calls Try.prog 38 #[.pointer (some ⟨T.t, 0, none⟩), .slice (some ⟨g, 0, none⟩) n n] w fun e w' => e = .returned (.int .i64 (rf T.ph ps)) ∧ w' = w := by
  have c4 := h.c4
  have HM := t_missing h
  have HC : Hid (∀ j, j < n → w.cell? ⟨g, j, none⟩ = some (.int .i64 (ps.getD j 0))) := hc
  have HN : Hid (n = ps.length) := hn
  clear h hc hn
  generalize hph : T.ph = ph at *
  clear hph
  go_enter Try.func38, Try.ntmps38
  go_wp2_with (go_at_call 32; refine HM.mono ?_; rintro e w' ⟨rfl, rfl⟩)
  clear HM
  go_loopw [11] (fun s wr => ∃ k : Nat, k ≤ n ∧ s = .int .i64 (k : Int) ∧ Hid (∀ j, j < k → ps.getD j 0 ≠ ph) ∧ wr = w') (fun k _ => n - (intOf k).toNat)
  case atStart => exact ⟨0, Nat.zero_le _, rfl, fun j hj => absurd hj (by omega), rfl⟩
  case round =>
    obtain ⟨k, hk, rfl, HJ, rfl⟩ := hrel
    by_cases hlt : k < n
    · obtain ⟨p, hp⟩ : ∃ p, ps.getD k 0 = p := ⟨_, rfl⟩
      have hc := HC.out k hlt
      rw [hp] at hc
      have l1 : (k : Int) < (n : Int) := by omega
      have l2 : (0 : Int) ≤ (k : Int) := by omega
      by_cases he : ph = p
      · have HF : Hid (rf ph ps = 0) := (by
          unfold rf
          rw [if_pos]
          rw [he, ← hp]
          exact getD_mem (by rw [← HN.out]; exact hlt) : rf ph ps = 0)
        have d1 : (ph == p) = true := by simpa using he
        clear he hp
        go_wp2
        go_ret
        exact ⟨by rw [HF.out]; rfl, rfl⟩
      · have HF : Hid (∀ j, j < k + 1 → ps.getD j 0 ≠ ph) := fun j hj => by
          by_cases h : j < k
          · exact HJ.out j h
          · obtain rfl : j = k := by omega
            rw [hp]
            exact fun e => he e.symm
        have d1 : (ph == p) = false := by simpa using he
        clear he hp
        go_wp2
        go_roundw
        case rel => exact ⟨k + 1, by omega, by go_num, HF, trivial⟩
        case measure => simp [intOf]; omega
    · obtain rfl : k = n := by omega
      have HF : Hid (rf ph ps = 3) := (by
        unfold rf
        rw [if_neg]
        intro hm
        obtain ⟨j, hj, e⟩ := mem_getD hm
        exact HJ.out j (by rw [HN.out]; exact hj) e : rf ph ps = 3)
      clear HJ HC
      go_wp2
      go_ret
      exact ⟨by rw [HF.out]; rfl, rfl⟩

/-- What refuseName answers. -/
def rn (ph : Int) (s : ByteArray) : Int := if ph = 0 then (if nm s then 0 else 6) else 3
theorem t_refName {w : World} {S : Sm} {T : Tm} (h : Txc w S T) (s : ByteArray) :
    Calls Try.prog 34 #[.pointer (some ⟨T.t, 0, none⟩), .string s] w fun e w' => e = .returned (.int .i64 (rn T.ph s)) ∧ Below w.heap.size w w' := by
  have hB : Below w.heap.size w (w.alloc (.cells #[.int .i64 0] 3)) := (Below.refl _ w).alloc (Nat.le_refl _) _
  have HR := t_refuse (h.below hB) w.heap.size 1 [0] rfl (by decide) (fun j hj => by
    obtain rfl : j = 0 := by omega
    rw [cells_at (World.alloc_heap_new w (.cells #[.int .i64 0] 3)) 0]
    rfl)
  have HN := p_isName s (w.alloc (.cells #[.int .i64 0] 3))
  have HB : Hid (Below w.heap.size w (w.alloc (.cells #[.int .i64 0] 3))) := hB
  clear hB
  by_cases hp : T.ph = 0
  · have e1 : rf T.ph [0] = 0 := by unfold rf; simp [hp]
    rw [e1] at HR
    cases hs : nm s
    · have HE : Hid (rn T.ph s = 6) := (by unfold rn; rw [if_pos hp, hs]; rfl : rn T.ph s = 6)
      rw [hs] at HN
      clear h hp e1 hs
      go_enter Try.func34, Try.ntmps34
      go_wp2_with (first | (go_at_call 38; refine HR.mono ?_; rintro e w' ⟨rfl, rfl⟩) | (go_at_call 28; refine HN.mono ?_; rintro e w' ⟨rfl, rfl⟩))
      go_ret
      exact ⟨by rw [HE.out]; rfl, HB.out⟩
    · have HE : Hid (rn T.ph s = 0) := (by unfold rn; rw [if_pos hp, hs]; rfl : rn T.ph s = 0)
      rw [hs] at HN
      clear h hp e1 hs
      go_enter Try.func34, Try.ntmps34
      go_wp2_with (first | (go_at_call 38; refine HR.mono ?_; rintro e w' ⟨rfl, rfl⟩) | (go_at_call 28; refine HN.mono ?_; rintro e w' ⟨rfl, rfl⟩))
      go_ret
      exact ⟨by rw [HE.out]; rfl, HB.out⟩
  · have e1 : rf T.ph [0] = 3 := by unfold rf; simp [hp]
    have HE : Hid (rn T.ph s = 3) := (by unfold rn; rw [if_neg hp] : rn T.ph s = 3)
    rw [e1] at HR
    clear h hp e1 HN
    go_enter Try.func34, Try.ntmps34
    go_wp2_with (go_at_call 38; refine HR.mono ?_; rintro e w' ⟨rfl, rfl⟩)
    go_ret
    exact ⟨by rw [HE.out]; rfl, HB.out⟩

theorem infoTx : ∃ j, Try.prog.info? 67 = some j ∧ j.size ≠ 0 := by
  have h : (Try.prog.info? 67).map (·.size) = some 5 := by kernel_rfl
  cases e : Try.prog.info? 67 with
  | none => rw [e] at h; cases h
  | some j => rw [e] at h; exact ⟨j, rfl, by injection h with h; have h : j.size = 5 := h; rw [h]; decide⟩
theorem neq_same (w : World) (a : Addr) : (binOp .neq 33 (.pointer (some a)) (.pointer (some a))).run Try.prog w = .ok (.bool false) w := by
  obtain ⟨j, hj, _⟩ := infoTx
  have h : ∀ d : Nat, (Op.equalIn (d + 1) 33 (.pointer (some a)) (.pointer (some a))).run Try.prog w = .ok true w := fun d => by
    simp [Op.equalIn, run_underlying Try.underlying33, sizeOf, typeInfo, hj, run_sameAddr_same]
  simp only [binOp]
  simp [Op.equal, Op.maxDepth, h 9999]
theorem neq_other (w : World) {a b : Addr} {ca cb : Array Value} {ta tb : TypeId} (hne : a ≠ b) (ha : w.heap[a.block]? = some (.cells ca ta (0, 0))) (hb : w.heap[b.block]? = some (.cells cb tb (0, 0))) : (binOp .neq 33 (.pointer (some a)) (.pointer (some b))).run Try.prog w = .ok (.bool true) w := by
  obtain ⟨j, hj, hsz⟩ := infoTx
  have h : ∀ d : Nat, (Op.equalIn (d + 1) 33 (.pointer (some a)) (.pointer (some b))).run Try.prog w = .ok false w := fun d => by
    simp [Op.equalIn, run_underlying Try.underlying33, sizeOf, typeInfo, hj, hsz, run_sameAddr_other w hne ha hb]
  simp only [binOp]
  simp [Op.equal, Op.maxDepth, h 9999]

/-- Another one holds the name's lock. -/
def tkn (S : Sm) (T : Tm) (k : List UInt8) : Bool := match fnd El.ky S.locks k with | none => false | some x => decide (x.1.2 ≠ T.t)
theorem t_taken {w : World} {S : Sm} {T : Tm} (hS : Spc w S) (h : Txc w S T) (s : ByteArray) (hs : s.size ≤ maxLen) :
    Calls Try.prog 35 #[.pointer (some ⟨T.t, 0, none⟩), .string s] w fun e w' => e = .returned (.bool (tkn S T s.data.toList)) ∧ w' = w := by
  have c0 := h.c0
  have c2 := hS.c2
  have hl := hS.loc.look Try.underlying61 (zeroEl w) hs
  rw [kv_l, fnd_map] at hl
  cases e : fnd El.ky S.locks s.data.toList with
  | none =>
    rw [e] at hl
    have hl' : (Instr.lookup 61 (.map (some S.lk)) (.string s) false).run Try.prog w = .ok (.pointer none) w := hl
    have HE : Hid (tkn S T s.data.toList = false) := (by unfold tkn; rw [e] : tkn S T s.data.toList = false)
    clear hl hS h e
    go_enter Try.func35, Try.ntmps35
    go_wp2
    go_ret
    exact ⟨by rw [HE.out]; rfl, rfl⟩
  | some x =>
    rw [e] at hl
    obtain ⟨q, hq⟩ : ∃ q, q = x.1.2 := ⟨_, rfl⟩
    have hl' : (Instr.lookup 61 (.map (some S.lk)) (.string s) false).run Try.prog w = .ok (.pointer (some ⟨q, 0, none⟩)) w := by rw [hq]; exact hl
    obtain ⟨cs, hcs⟩ := hS.liv x (fnd_some e).2
    by_cases he : x.1.2 = T.t
    · have HE : Hid (tkn S T s.data.toList = false) := (by unfold tkn; rw [e]; simp [he] : tkn S T s.data.toList = false)
      obtain rfl : q = T.t := hq.trans he
      have hn := neq_same w ⟨T.t, 0, none⟩
      clear hl hS h e hcs he hq
      go_enter Try.func35, Try.ntmps35
      go_wp2
      go_ret
      exact ⟨by rw [HE.out]; rfl, rfl⟩
    · have HE : Hid (tkn S T s.data.toList = true) := (by unfold tkn; rw [e]; simp [he] : tkn S T s.data.toList = true)
      rw [← hq] at hcs he
      have hn := neq_other w (a := ⟨q, 0, none⟩) (b := ⟨T.t, 0, none⟩) (fun e => he (by injection e)) hcs h.cel
      clear hl hS h e hcs he hq
      go_enter Try.func35, Try.ntmps35
      go_wp2
      go_ret
      exact ⟨by rw [HE.out]; rfl, rfl⟩

/-- What a slot has: its version, and its bytes; noughts of one that there is not. -/
def slt (S : Sm) (k : List UInt8) : Int × Option Addr × Nat × Nat := match fnd Es.ky S.slots k with | none => (0, none, 0, 0) | some x => x.1.2
theorem s_look {w : World} {S : Sm} (hS : Spc w S) (s : ByteArray) (hs : s.size ≤ maxLen) :
    (Instr.lookup 60 (.map (some S.sl)) (.string s) false).run Try.prog w = .ok (.agg #[.int .i64 (slt S s.data.toList).1, .slice (slt S s.data.toList).2.1 (slt S s.data.toList).2.2.1 (slt S s.data.toList).2.2.2]) w := by
  rw [hS.slo.look Try.underlying60 (zeroEs w) hs, kv_s, fnd_map]
  unfold slt
  cases fnd Es.ky S.slots s.data.toList <;> rfl
theorem fld0 (w : World) (v : Int) (a : Option Addr) (l c : Nat) : (Instr.field 73 (.agg #[.int .i64 v, .slice a l c]) 0).run Try.prog w = .ok (.int .i64 v) w := by kernel_rfl
theorem fld1 (w : World) (v : Int) (a : Option Addr) (l c : Nat) : (Instr.field 73 (.agg #[.int .i64 v, .slice a l c]) 1).run Try.prog w = .ok (.slice a l c) w := by kernel_rfl
theorem t_newer {w : World} {S : Sm} {T : Tm} (hS : Spc w S) (h : Txc w S T) (s : ByteArray) (hs : s.size ≤ maxLen) :
    Calls Try.prog 36 #[.pointer (some ⟨T.t, 0, none⟩), .string s] w fun e w' => e = .returned (.bool (decide (T.time < (slt S s.data.toList).1))) ∧ Below w.heap.size w w' := by
  have c0 := h.c0
  have c1 := h.c1
  have d1 := hS.c1
  have hB : Below w.heap.size w w.drew := blw_drewN 1 (Below.refl _ w)
  have hl := s_look (hS.below hB) s hs
  have HB : Hid (Below w.heap.size w w.drew) := hB
  obtain ⟨v, a, l, c, hv⟩ : ∃ v a l c, (slt S s.data.toList) = (v, a, l, c) := ⟨_, _, _, _, rfl⟩
  rw [hv] at hl ⊢
  have hf := fld0 w.drew v a l c
  clear hS h hv hB
  go_enter Try.func36, Try.ntmps36
  go_wp2
  go_region
  go_wp2
  go_ret
  exact ⟨rfl, HB.out⟩
end Go.Proofs.Ytdackomidfofgaa
