/-
  The library's strings.Trim and TrimLeft at an ASCII cutset, laid at this dump.
  The program's digitsOf.
-/
import Derived.Shelf.Strings.SlTrimAscii
import Derived.Test.YtfobiknbjijphaaDoorProg
import Derived.Test.YtfobiknbjijphaaDoorGan
namespace Go.Proofs
open Go.Shelf Go.RowKit
def Tryd.lays160_ren : Go.Shelf.Ren := ⟨fun | 160 => 79 | 232 => 85 | 231 => 84 | 227 => 86 | 234 => 88 | 233 => 87 | 236 => 90 | 235 => 89 | 228 => 92 | 271 => 95 | 151 => 94 | 197 => 93 | 120 => 98 | 152 => 97 | 260 => 96 | 137 => 61 | 119 => 99 | 224 => 100 | 225 => 101 | 217 => 74 | 266 => 82 | n => n, fun | 9 => 9 | 4 => 4 | 3 => 3 | 5 => 5 | 117 => 103 | 116 => 102 | 0 => 0 | 124 => 106 | 21 => 21 | 105 => 107 | 46 => 39 | 119 => 111 | 139 => 114 | 138 => 113 | n => n, fun | 3 => 1 | 4 => 2 | n => n⟩
theorem Tryd.lays160 : Go.Proofs.Lays.n160 Tryd.prog Tryd.lays160_ren := {
  mixed := by kernel_rfl
  f119 := Tryd.func99.trans (congrArg some (by kernel_rfl))
  f120 := Tryd.func98.trans (congrArg some (by kernel_rfl))
  f137 := Tryd.func61.trans (congrArg some (by kernel_rfl))
  f151 := Tryd.func94.trans (congrArg some (by kernel_rfl))
  f152 := Tryd.func97.trans (congrArg some (by kernel_rfl))
  f160 := Tryd.func79.trans (congrArg some (by kernel_rfl))
  f197 := Tryd.func93.trans (congrArg some (by kernel_rfl))
  f217 := Tryd.func74.trans (congrArg some (by kernel_rfl))
  f224 := Tryd.func100.trans (congrArg some (by kernel_rfl))
  f225 := Tryd.func101.trans (congrArg some (by kernel_rfl))
  f227 := Tryd.func86.trans (congrArg some (by kernel_rfl))
  f228 := Tryd.func92.trans (congrArg some (by kernel_rfl))
  f231 := Tryd.func84.trans (congrArg some (by kernel_rfl))
  f232 := Tryd.func85.trans (congrArg some (by kernel_rfl))
  f233 := Tryd.func87.trans (congrArg some (by kernel_rfl))
  f234 := Tryd.func88.trans (congrArg some (by kernel_rfl))
  f235 := Tryd.func89.trans (congrArg some (by kernel_rfl))
  f236 := Tryd.func90.trans (congrArg some (by kernel_rfl))
  f260 := Tryd.func96.trans (congrArg some (by kernel_rfl))
  f266 := Tryd.func82.trans (congrArg some (by kernel_rfl))
  f271 := Tryd.func95.trans (congrArg some (by kernel_rfl))
  t0 := Tryd.underlying0
  a0 := Tryd.isAgg0
  z0 := Tryd.sizeOf0
  v0 := Tryd.zeroValue0
  t3 := Tryd.underlying3
  a3 := Tryd.isAgg3
  z3 := Tryd.sizeOf3
  v3 := Tryd.zeroValue3
  t4 := Tryd.underlying4
  a4 := Tryd.isAgg4
  z4 := Tryd.sizeOf4
  v4 := Tryd.zeroValue4
  t5 := Tryd.underlying5
  a5 := Tryd.isAgg5
  z5 := Tryd.sizeOf5
  v5 := Tryd.zeroValue5
  t9 := Tryd.underlying9
  a9 := Tryd.isAgg9
  z9 := Tryd.sizeOf9
  v9 := Tryd.zeroValue9
  t21 := Tryd.underlying21
  a21 := Tryd.isAgg21
  z21 := Tryd.sizeOf21
  v21 := Tryd.zeroValue21
  t46 := Tryd.underlying39
  a46 := Tryd.isAgg39
  z46 := Tryd.sizeOf39
  v46 := Tryd.zeroValue39
  t105 := Tryd.underlying107
  a105 := Tryd.isAgg107
  z105 := Tryd.sizeOf107
  v105 := Tryd.zeroValue107
  t116 := Tryd.underlying102
  a116 := Tryd.isAgg102
  z116 := Tryd.sizeOf102
  t117 := Tryd.underlying103
  a117 := Tryd.isAgg103
  z117 := Tryd.sizeOf103
  v117 := Tryd.zeroValue103
  t119 := Tryd.underlying111
  a119 := Tryd.isAgg111
  z119 := Tryd.sizeOf111
  t124 := Tryd.underlying106
  a124 := Tryd.isAgg106
  z124 := Tryd.sizeOf106
  v124 := Tryd.zeroValue106
  t138 := Tryd.underlying113
  a138 := Tryd.isAgg113
  z138 := Tryd.sizeOf113
  v138 := Tryd.zeroValue113
  t139 := Tryd.underlying114
  a139 := Tryd.isAgg114
  z139 := Tryd.sizeOf114
  v139 := Tryd.zeroValue114
  g3 := by kernel_rfl
  g4 := by kernel_rfl }
def Tryd.lays161_ren : Go.Shelf.Ren := ⟨fun | 161 => 80 | 231 => 84 | 227 => 86 | 233 => 87 | 235 => 89 | 228 => 92 | 197 => 93 | 151 => 94 | 260 => 96 | 152 => 97 | 137 => 61 | 119 => 99 | 224 => 100 | 225 => 101 | 217 => 74 | 266 => 82 | n => n, fun | 9 => 9 | 4 => 4 | 3 => 3 | 5 => 5 | 117 => 103 | 116 => 102 | 0 => 0 | 124 => 106 | 105 => 107 | 21 => 21 | 119 => 111 | 46 => 39 | 139 => 114 | 138 => 113 | n => n, fun | 3 => 1 | 4 => 2 | n => n⟩
theorem Tryd.lays161 : Go.Proofs.Lays.n161 Tryd.prog Tryd.lays161_ren := {
  mixed := by kernel_rfl
  f119 := Tryd.func99.trans (congrArg some (by kernel_rfl))
  f137 := Tryd.func61.trans (congrArg some (by kernel_rfl))
  f151 := Tryd.func94.trans (congrArg some (by kernel_rfl))
  f152 := Tryd.func97.trans (congrArg some (by kernel_rfl))
  f161 := Tryd.func80.trans (congrArg some (by kernel_rfl))
  f197 := Tryd.func93.trans (congrArg some (by kernel_rfl))
  f217 := Tryd.func74.trans (congrArg some (by kernel_rfl))
  f224 := Tryd.func100.trans (congrArg some (by kernel_rfl))
  f225 := Tryd.func101.trans (congrArg some (by kernel_rfl))
  f227 := Tryd.func86.trans (congrArg some (by kernel_rfl))
  f228 := Tryd.func92.trans (congrArg some (by kernel_rfl))
  f231 := Tryd.func84.trans (congrArg some (by kernel_rfl))
  f233 := Tryd.func87.trans (congrArg some (by kernel_rfl))
  f235 := Tryd.func89.trans (congrArg some (by kernel_rfl))
  f260 := Tryd.func96.trans (congrArg some (by kernel_rfl))
  f266 := Tryd.func82.trans (congrArg some (by kernel_rfl))
  t0 := Tryd.underlying0
  a0 := Tryd.isAgg0
  z0 := Tryd.sizeOf0
  v0 := Tryd.zeroValue0
  t3 := Tryd.underlying3
  a3 := Tryd.isAgg3
  z3 := Tryd.sizeOf3
  v3 := Tryd.zeroValue3
  t4 := Tryd.underlying4
  a4 := Tryd.isAgg4
  z4 := Tryd.sizeOf4
  v4 := Tryd.zeroValue4
  t5 := Tryd.underlying5
  a5 := Tryd.isAgg5
  z5 := Tryd.sizeOf5
  v5 := Tryd.zeroValue5
  t9 := Tryd.underlying9
  a9 := Tryd.isAgg9
  z9 := Tryd.sizeOf9
  v9 := Tryd.zeroValue9
  t21 := Tryd.underlying21
  a21 := Tryd.isAgg21
  z21 := Tryd.sizeOf21
  v21 := Tryd.zeroValue21
  t46 := Tryd.underlying39
  a46 := Tryd.isAgg39
  z46 := Tryd.sizeOf39
  v46 := Tryd.zeroValue39
  t105 := Tryd.underlying107
  a105 := Tryd.isAgg107
  z105 := Tryd.sizeOf107
  v105 := Tryd.zeroValue107
  t116 := Tryd.underlying102
  a116 := Tryd.isAgg102
  z116 := Tryd.sizeOf102
  t117 := Tryd.underlying103
  a117 := Tryd.isAgg103
  z117 := Tryd.sizeOf103
  v117 := Tryd.zeroValue103
  t119 := Tryd.underlying111
  a119 := Tryd.isAgg111
  z119 := Tryd.sizeOf111
  t124 := Tryd.underlying106
  a124 := Tryd.isAgg106
  z124 := Tryd.sizeOf106
  v124 := Tryd.zeroValue106
  t138 := Tryd.underlying113
  a138 := Tryd.isAgg113
  z138 := Tryd.sizeOf113
  v138 := Tryd.zeroValue113
  t139 := Tryd.underlying114
  a139 := Tryd.isAgg114
  z139 := Tryd.sizeOf114
  v139 := Tryd.zeroValue114
  g3 := by kernel_rfl
  g4 := by kernel_rfl }
theorem Tryd.info102 : (Tryd.prog.info? 102).map (fun i => (i.zero, i.size)) = some (some (.agg (Array.replicate 256 (.bool false))), 256) := by kernel_rfl
theorem Tryd.trim_ascii (s cutset : ByteArray) (w : World) (hs : s.size ≤ 9223372036854775807) (hcs : cutset.size < 4294967281) (ha : ∀ (j : Nat) b, cutset.data.toList[j]? = some b → b.toNat < 128) :
    Calls Tryd.prog 79 #[.string s, .string cutset] w fun e w' => e = .returned (.string ⟨(Lib.trimS s.data.toList cutset.data.toList).toArray⟩) ∧ Below w.heap.size w w' := Any.strings_Trim_laid Tryd.lays160 Tryd.info102 s cutset w hs hcs ha
theorem Tryd.trimLeft_ascii (s cutset : ByteArray) (w : World) (hcs : cutset.size < 4294967281) (ha : ∀ (j : Nat) b, cutset.data.toList[j]? = some b → b.toNat < 128) :
    Calls Tryd.prog 80 #[.string s, .string cutset] w fun e w' => e = .returned (.string ⟨(Lib.trimLeftS s.data.toList cutset.data.toList).toArray⟩) ∧ Below w.heap.size w w' := Any.strings_TrimLeft_laid Tryd.lays161 Tryd.info102 s cutset w hcs ha
end Go.Proofs

namespace Go.Proofs.YtfobiknbjijphaaDoor
open Go.RowKit
set_option linter.unusedVariables false
set_option linter.unusedSimpArgs false

def dsL : List UInt8 := [48, 49, 50, 51, 52, 53, 54, 55, 56, 57]
theorem ds_has (c : UInt8) : dsL.contains c = dgB c := all256 (p := fun c => dsL.contains c = dgB c) (by decide +kernel) c
theorem dw_nil {p : UInt8 → Bool} : ∀ l : List UInt8, l.dropWhile p = [] ↔ ∀ c ∈ l, p c = true
  | [] => by simp
  | x :: r => by
    cases h : p x
    · simp [List.dropWhile, h]
    · simp [List.dropWhile, h, dw_nil r]
theorem dw_head {p : UInt8 → Bool} : ∀ (l : List UInt8) (y : UInt8) (r : List UInt8), l.dropWhile p = y :: r → p y = false
  | [], y, r, h => by simp at h
  | x :: l, y, r, h => by
    cases hx : p x
    · simp only [List.dropWhile, hx] at h
      injection h with e _
      rw [← e]; exact hx
    · simp only [List.dropWhile, hx] at h
      exact dw_head l y r h
theorem dlen (s : ByteArray) : s.data.toList.length = s.size := by simp
theorem dnil {s : ByteArray} (h : ¬ 0 < s.size) : s.data.toList = [] := List.eq_nil_of_length_eq_zero (by rw [dlen]; omega)
theorem trim_nil (l cs : List UInt8) : Lib.trimS l cs = [] ↔ ∀ c ∈ l, cs.contains c = true := by
  unfold Lib.trimS Lib.trimLeftS Lib.trimRightS
  rw [dw_nil]
  constructor
  · intro h c hc
    cases hd : l.reverse.dropWhile (fun x => cs.contains x) with
    | nil =>
      rw [dw_nil] at hd
      exact hd c (by simpa using hc)
    | cons y r =>
      rw [hd] at h
      have h1 := h y (by simp)
      have h2 := dw_head _ _ _ hd
      rw [h1] at h2
      cases h2
  · intro h x hx
    have hx2 : x ∈ l.reverse.dropWhile (fun x => cs.contains x) := by simpa using hx
    exact h x (by simpa using (List.dropWhile_suffix _).subset hx2)
/-- What cutSign leaves, and the sign. -/
def CutA (s a E : ByteArray) : Prop := (∃ h : 0 < s.size, sgnB s[0] = true ∧ E = s.extract 1 s.size ∧ a = s.extract 0 1) ∨ ((∀ h : 0 < s.size, sgnB s[0] = false) ∧ E = s ∧ a = ⟨#[]⟩)
theorem dt_cutA (s : ByteArray) (w : World) : Calls Tryd.prog 78 #[.string s] w fun e w' => ∃ a E, e = .returned (.tuple #[.string a, .string E]) ∧ Hid (CutA s a E) ∧ Hid (Below w.heap.size w w') := by
  have hB : Hid (∀ q, Below w.heap.size w (w.drewN q)) := fun q => blw_drewN q (Below.refl _ _)
  by_cases h0 : 0 < s.size
  · have he := notEmpty_of s h0
    have l0 : (0 : Int) < (s.size : Int) := by omega
    have l1 : (1 : Int) ≤ (s.size : Int) := by omega
    by_cases h1 : s[0].toNat = 43
    · have d1 : ((s[0].toNat : Int) == 43) = true := by rw [h1]; rfl
      have hs : sgnB s[0] = true := by unfold sgnB; rw [h1]; rfl
      have HR : Hid (CutA s (s.extract 0 1) (s.extract 1 s.size)) := .inl ⟨h0, hs, rfl, rfl⟩
      clear h1 hs
      go_enter Tryd.func78, Tryd.ntmps78
      go_wp2
      go_region
      all_goals
        go_wp2
        go_ret2
        exact ⟨_, _, rfl, HR, hB.out _⟩
    · by_cases h2 : s[0].toNat = 45
      · have d1 : ((s[0].toNat : Int) == 43) = false := by rw [h2]; rfl
        have d2 : ((s[0].toNat : Int) == 45) = true := by rw [h2]; rfl
        have hs : sgnB s[0] = true := by unfold sgnB; rw [h2]; rfl
        have HR : Hid (CutA s (s.extract 0 1) (s.extract 1 s.size)) := .inl ⟨h0, hs, rfl, rfl⟩
        clear h1 h2 hs
        go_enter Tryd.func78, Tryd.ntmps78
        go_wp2
        go_region
        all_goals
          go_wp2
          go_ret2
          exact ⟨_, _, rfl, HR, hB.out _⟩
      · have d1 : ((s[0].toNat : Int) == 43) = false := by simp; omega
        have d2 : ((s[0].toNat : Int) == 45) = false := by simp; omega
        have hs : sgnB s[0] = false := by unfold sgnB; simp; omega
        have HR : Hid (CutA s ⟨#[]⟩ s) := .inr ⟨fun _ => hs, rfl, rfl⟩
        clear h1 h2 hs
        go_enter Tryd.func78, Tryd.ntmps78
        go_wp2
        go_ret2
        exact ⟨_, _, rfl, HR, Below.refl _ _⟩
  · have he := isEmpty_of s h0
    have HR : Hid (CutA s ⟨#[]⟩ s) := .inr ⟨fun h => absurd h h0, rfl, rfl⟩
    clear h0
    go_enter Tryd.func78, Tryd.ntmps78
    go_wp2
    go_ret2
    exact ⟨_, _, rfl, HR, Below.refl _ _⟩
theorem data_cons {s : ByteArray} (h : 0 < s.size) : s.data.toList = s[0] :: (s.extract 1 s.size).data.toList := by
  have e1 : s.data.toList = rst s 0 := by simp [rst]
  rw [e1, rst_cons h, ext_all]
theorem CutA.dg {s a E : ByteArray} (h : CutA s a E) : E.data.toList = dgT s.data.toList := by
  rcases h with ⟨h0, h1, rfl, -⟩ | ⟨h1, rfl, -⟩
  · rw [data_cons h0]
    simp [dgT, h1]
  · by_cases h0 : 0 < E.size
    · rw [data_cons h0]
      simp [dgT, h1 h0]
    · have : E.data.toList = [] := dnil h0
      rw [this]; rfl
theorem CutA.minus {s a E : ByteArray} (h : CutA s a E) : (a.toList == [45]) = decide (s.data.toList.head? = some 45) := by
  rcases h with ⟨h0, h1, rfl, rfl⟩ | ⟨h1, rfl, rfl⟩
  · have e1 : (s.extract 0 1).toList = [s[0]] := by
      rw [list_eq, ext_list, rst_cons h0]
      simp
    rw [e1, data_cons h0]
    rw [Bool.eq_iff_iff]
    simp
  · by_cases h0 : 0 < E.size
    · rw [data_cons h0]
      have := h1 h0
      have hn : ¬ E[0] = 45 := fun e => by rw [e] at this; exact absurd this (by decide)
      rw [list_eq]
      simp [hn]
    · have : E.data.toList = [] := dnil h0
      rw [this, list_eq]
      rfl
theorem CutA.size {s a E : ByteArray} (h : CutA s a E) : E.size ≤ s.size := by
  rcases h with ⟨h0, h1, rfl, -⟩ | ⟨h1, rfl, -⟩
  · simp
  · exact Nat.le_refl _
theorem stp_len (l : List UInt8) : (stp l).length ≤ l.length := (List.dropWhile_suffix _).length_le
theorem trim0 (l : List UInt8) : Lib.trimLeftS l [48] = stp l := by
  unfold Lib.trimLeftS stp
  congr 1
  funext b
  simp [List.contains, List.elem]
  rcases (b == 48) <;> rfl
theorem ba_empty (l : List UInt8) : (ba l).toList.isEmpty = l.isEmpty := by rw [list_eq]; rfl
theorem ba_data (s : ByteArray) : ba s.data.toList = s := by cases s; rfl
theorem ba_list (l : List UInt8) : (ba l).data.toList = l := rfl
/-- What digitsOf answers. -/
def DgO (s : ByteArray) (e : Ending) : Prop := (numP s.data.toList ∧ e = .returned (.tuple #[.string (ba (cnL s.data.toList)), .bool true])) ∨ (¬ numP s.data.toList ∧ e = .returned (.tuple #[.string ⟨#[]⟩, .bool false]))
set_option maxHeartbeats 2000000 in
theorem rd_digits (s : ByteArray) (w : World) (hs : s.size ≤ 1099511627776) : Calls Tryd.prog 70 #[.string s] w fun e w' => DgO s e ∧ Hid (Below w.heap.size w w') := by
  have HC := hid (dt_cutA s w)
  have HS := hid hs
  clear hs
  go_enter Tryd.func70, Tryd.ntmps70
  go_wp2_with fail
  refine HC.out.mono ?_
  clear HC
  rintro e w1 ⟨a, E, rfl, HA, hb1⟩
  have HEs : Hid (E.size ≤ 1099511627776) := hid (Nat.le_trans HA.out.size HS.out)
  obtain ⟨l, hl⟩ : ∃ l, s.data.toList = l := ⟨_, rfl⟩
  have HD : Hid (E.data.toList = dgT l) := hid (by rw [HA.out.dg, hl])
  have HM : Hid ((a.toList == [45]) = decide (l.head? = some 45)) := hid (by rw [HA.out.minus, hl])
  have HG : Hid (∀ e, ((numP l ∧ e = .returned (.tuple #[.string (ba (cnL l)), .bool true])) ∨ (¬ numP l ∧ e = .returned (.tuple #[.string ⟨#[]⟩, .bool false]))) → DgO s e) := hid (fun e h => by unfold DgO; rw [hl]; exact h)
  clear HA hl
  by_cases h0 : 0 < E.size
  · have he := notEmpty_of E h0
    have HT := hid (Go.Proofs.Tryd.trim_ascii E ⟨#[48, 49, 50, 51, 52, 53, 54, 55, 56, 57]⟩ w1 (by have := HEs.out; omega) (by decide) (ascii_of_all (by decide)))
    have HN : Hid ((Lib.trimS E.data.toList dsL).isEmpty = true ↔ numP l) := hid (by
      rw [List.isEmpty_iff, trim_nil, HD.out]
      unfold numP
      constructor
      · intro h
        refine ⟨fun e => ?_, fun c hc => by rw [← ds_has]; exact h c hc⟩
        have : E.size = 0 := by rw [← dlen, HD.out, e]; rfl
        omega
      · intro h c hc
        rw [ds_has]; exact h.2 c hc)
    obtain ⟨T, hT⟩ : ∃ T, (⟨(Lib.trimS E.data.toList (⟨#[48, 49, 50, 51, 52, 53, 54, 55, 56, 57]⟩ : ByteArray).data.toList).toArray⟩ : ByteArray) = T := ⟨_, rfl⟩
    have HTe : Hid (T.toList.isEmpty = true ↔ numP l) := hid (by rw [← hT]; exact Iff.trans (by rw [list_eq]; rfl) HN.out)
    rw [hT] at HT
    clear hT HN
    go_wp2_with fail
    refine HT.out.mono ?_
    clear HT
    rintro e w2 ⟨rfl, hb2'⟩
    have hb2 := hid (hb1.out.trans (hb2'.mono hb1.out.size))
    clear hb2' hb1
    cases hte : T.toList.isEmpty
    · have HF : Hid (¬ numP l) := hid (fun h => by rw [HTe.out.2 h] at hte; cases hte)
      clear HTe
      go_wp2
      go_ret2
      exact ⟨HG.out _ (.inr ⟨HF.out, rfl⟩), hb2⟩
    · have HF : Hid (numP l) := hid (HTe.out.1 hte)
      have HL := hid (Go.Proofs.Tryd.trimLeft_ascii E ⟨#[48]⟩ w2 (by decide) (ascii_of_all (by decide)))
      have hcs : (⟨(Lib.trimLeftS E.data.toList (⟨#[48]⟩ : ByteArray).data.toList).toArray⟩ : ByteArray) = ba (stp (dgT l)) := by
        show (⟨(Lib.trimLeftS E.data.toList [48]).toArray⟩ : ByteArray) = _
        rw [trim0, HD.out]; rfl
      rw [hcs] at HL
      clear hcs HTe he
      have HSz : Hid ((stp (dgT l)).length ≤ 1099511627776) := hid (by
        have h1 := stp_len (dgT l)
        have h2 := congrArg List.length HD.out
        have h3 := HEs.out
        rw [dlen] at h2
        omega)
      have Hcn : Hid (cnL l = if stp (dgT l) = [] then [48] else if l.head? = some 45 then 45 :: stp (dgT l) else stp (dgT l)) := hid rfl
      go_wp2_with fail
      refine HL.out.mono ?_
      clear HL
      rintro e w3 ⟨rfl, hb3'⟩
      have hb3 := hid (hb2.out.trans (hb3'.mono hb2.out.size))
      clear hb3' hb2
      obtain ⟨d, hd⟩ : ∃ d, stp (dgT l) = d := ⟨_, rfl⟩
      rw [hd] at Hcn HSz ⊢
      obtain ⟨D, hD⟩ : ∃ D, ba d = D := ⟨_, rfl⟩
      have HDe : Hid (D.toList.isEmpty = d.isEmpty) := hid (by rw [← hD, ba_empty])
      have HDs : (D.size : Int) ≤ 1099511627776 := by
        have := HSz.out
        have h2 : D.size = d.length := by rw [← hD]; rfl
        omega
      rw [hD]
      cases hde : D.toList.isEmpty
      · have hdne : d ≠ [] := fun e => by rw [HDe.out, e] at hde; cases hde
        cases hm : decide (l.head? = some 45)
        · have hm2 : (a.toList == [45]) = false := by rw [HM.out, hm]
          have HR : Hid (cnL l = d) := hid (by rw [Hcn.out, if_neg hdne, if_neg (of_decide_eq_false hm)])
          clear HDe hdne hm HM Hcn
          go_wp2
          go_ret2
          exact ⟨HG.out _ (.inl ⟨HF.out, by rw [HR.out, hD]; rfl⟩), hb3⟩
        · have hm2 : (a.toList == [45]) = true := by rw [HM.out, hm]
          have HR : Hid (ba (cnL l) = ⟨#[45]⟩ ++ D) := hid (by
            rw [Hcn.out, if_neg hdne, if_pos (of_decide_eq_true hm), ← hD]
            apply ByteArray.ext
            simp [ba])
          have hZ1 : (⟨#[45]⟩ : ByteArray).size = 1 := rfl
          clear HDe hdne hm HM Hcn
          go_wp2_with fail
          all_goals first | (exfalso; clear HG HR hb3 HF; omega) | skip
          go_ret2
          exact ⟨HG.out _ (.inl ⟨HF.out, by rw [HR.out]; rfl⟩), hb3⟩
      · have hdne : d = [] := by
          rw [HDe.out] at hde
          simpa using hde
        have HR : Hid (cnL l = [48]) := hid (by rw [Hcn.out, if_pos hdne])
        clear HDe hdne HM Hcn
        go_wp2
        go_ret2
        exact ⟨HG.out _ (.inl ⟨HF.out, by rw [HR.out]; rfl⟩), hb3⟩
  · have he := isEmpty_of E h0
    have HF : Hid (¬ numP l) := hid (fun h => h.1 (by
      rw [← HD.out]
      exact dnil h0))
    clear h0
    go_wp2
    go_ret2
    exact ⟨HG.out _ (.inr ⟨HF.out, rfl⟩), hb1⟩
end Go.Proofs.YtfobiknbjijphaaDoor
