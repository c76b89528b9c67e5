/-
  LogLives: the law's walk; how its calls are read. Condition: the library's table of sums is as it starts.
-/
import Derived.Test.YtmjoklppibfdmaaDoorLogYd
import Derived.Test.YtmjoklppibfdmaaDoorLogOp
import Derived.Test.YtmjoklppibfdmaaDoorGh
import Derived.Test.YtmjoklppibfdmaaDoorRkOf
namespace Go.Proofs.YtmjoklppibfdmaaDoor
open Go.RowKit
set_option linter.unusedVariables false

def DosW (w : World) (a0 : Option Addr) (N : Nat) : Prop := ∀ r, r < N → ∃ b off, a0 = some ⟨b, off, none⟩ ∧ ∃ op a l c f, DoL w b (off + r * 2) op a l c f ∧ l ≤ 140737488355328
set_option maxRecDepth 100000 in
theorem open_dosW {H : Type} {enc : TypeId × Value → H} {W : World} {a0 : Option Addr} {n c : Nat} {d : DataW H} {p : List MemPlace} (h : DataW.Trod enc Tryd.prog W 0 (fun _ => true) true 23 (.slice a0 n c) d p) (hw : Light 23 d) :
    n ≤ 9223372036854775806 ∧ DosW W a0 n := by
  obtain ⟨fuel, hf⟩ := h
  rcases Go.Deep.open_slice Tryd.underlying23 hf with ⟨hcs, _⟩ | ⟨a, len, cap, m, k, D, Pl, hcs, _, hl, hm, hmm, hxx, hx⟩
  · simp [Value.cells] at hcs
    obtain ⟨rfl, rfl, rfl⟩ := hcs
    exact ⟨by decide, fun r hr => by omega⟩
  · simp [Value.cells] at hcs
    obtain ⟨rfl, rfl, rfl⟩ := hcs
    simp only [if_true] at hmm
    subst hmm
    have hd : d = .slice ((List.range n).map D) ((List.range (m - n)).map fun j => D (n + j)) := congrArg Prod.fst hxx
    rw [hd] at hw
    obtain ⟨hn, hel⟩ := light_slice Tryd.underlying23 hw
    rw [bytesDo] at hn
    simp only [List.length_map, List.length_range, reachBytes] at hn
    refine ⟨by omega, fun r hr => ?_⟩
    obtain ⟨cs', h1, h2⟩ := hx r (by omega)
    rw [cellsDo] at h1
    obtain ⟨_, hlen, hcell⟩ := World.cells?_some h1
    obtain ⟨xs, q, _, hag, _, hxl, hfl⟩ := DataW.trod_struct Tryd.underlying36 h2
    obtain ⟨b, off, spot⟩ := a
    have hspot : spot = none := by
      obtain ⟨cs0, m1, _⟩ := hx 0 (by omega)
      rw [cellsDo] at m1
      obtain ⟨_, m2, m3⟩ := World.cells?_some m1
      have m4 := m3 0 (by omega)
      rw [List.getElem?_eq_getElem (by omega)] at m4
      simpa [Addr.add] using World.cell?_spot m4
    subst hspot
    obtain ⟨y0, y1, rfl⟩ := list2 xs hxl
    obtain ⟨v0, v1, rfl⟩ := list2 cs' hlen
    have g0 := hfl 0 _ rfl
    have g1 := hfl 1 _ rfl
    simp [cells3, cellsB] at g0 g1
    have hDr : Light 36 (D r) := hel (D r) (List.mem_map.2 ⟨r, List.mem_range.2 hr, rfl⟩)
    have hy1 : Light 34 y1.1 := fun x hx => by
      refine hDr x ?_
      rw [show D r = .agg [y0.1, y1.1] from congrArg Prod.fst hag]
      have key : (DataW.agg [y0.1, y1.1]).weights Tryd.prog 36 = DataW.weightsEach Tryd.prog [3, 34] [y0.1, y1.1] := by
        simp only [DataW.weights, Tryd.underlying36]
        rfl
      rw [key]
      exact DataW.weights_mem_each (j := 1) rfl rfl x hx
    obtain ⟨z0, e0, _⟩ := DataW.trod_int Tryd.underlying3 g0
    obtain ⟨a2, l2, c2, f2, e2, k1, k2, k3, k4⟩ := open_bytesW g1
    cases e0
    subst e2
    have hc0 := hcell 0 (by omega)
    have hc1 := hcell 1 (by omega)
    rw [Go.Deep.add_add] at hc0 hc1
    rw [Addr.add_lit] at hc0 hc1
    simp only [← Nat.add_assoc] at hc0 hc1
    exact ⟨b, off, rfl, z0, a2, l2, c2, f2, ⟨by simpa using hc0, by simpa using hc1, k1, k2, k4⟩, k3 hy1⟩

theorem Rk.sx {w : World} {X : Nat} {F : Nat → Prop} {n : Nat} {e : Nat → Int} {tf : Nat → Nat} {ld : Nat → Int} (h : Rk w X F n e 0 tf ld) : Sx w X F n 0 e := by
  have hR := h
  obtain ⟨gB, cB, vP, rb, rc, pb, pc, r⟩ := h
  exact ⟨e, 0, tf, ld, hR, Nat.le_refl _, fun p _ i _ => by rw [seen0]; rfl, r.by1⟩
/-- Two new disks. -/
def News (w w' : World) (D X n : Nat) : Prop := ∃ F G en, Sd w' D F n 0 en ∧ Sx w' X G n 0 en ∧ (∀ k, F k → w.heap.size ≤ k) ∧ (∀ k, G k → w.heap.size ≤ k) ∧ (∀ k, F k → ¬ G k) ∧ Below w.heap.size w w'

set_option maxRecDepth 100000 in
set_option maxHeartbeats 1000000 in
theorem disks_two (a0 : Option Addr) (N c0 : Nat) (A : Nat → Option Addr) (L C : Nat → Nat) (f : Nat → Nat → Int) (w : World) (h : Img w a0 N A L C f) (hN : N ≤ 5864062014805) (hL : ∀ i, i < N → L i ≤ 140737488355328) (hby : ∀ i j, 0 ≤ f i j ∧ f i j ≤ 255) :
    Calls Tryd.prog 7 #[.slice a0 N c0] w fun e w' => (e = .returned (.tuple #[.pointer none, .pointer none, .bool true]) ∧ Below w.heap.size w w') ∨ ∃ D X, e = .returned (.tuple #[.pointer (some ⟨D, 0, none⟩), .pointer (some ⟨X, 0, none⟩), .bool true]) ∧ Hid (News w w' D X N) := by
  have H : Hid (∀ wq, Below w.heap.size w wq → Img wq a0 N A L C f) := fun wq hq => h.below hq
  have HIm : Hid (Calls Tryd.prog 29 #[.slice a0 N c0] w fun e w' => ∃ ag cg A' C', e = .returned (.slice ag N cg) ∧ Img w' ag N A' L C' f ∧ (N ≤ cg ∧ cg ≤ 9223372036854775807) ∧ Below w.heap.size w w') := plImageW a0 N c0 A L C f w h hN hL
  have HBy : Hid (∀ i j, 0 ≤ f i j ∧ f i j ≤ 255) := hby
  clear h hL hby
  go_enter Tryd.func7, Tryd.ntmps7
  go_wp2_with fail
  refine HIm.out.mono ?_
  rintro e w1 ⟨ag, cg, A', C', rfl, hI, hcg, hb1⟩
  have HI : Hid (Img w1 ag N A' L C' f) := hI
  have hcg1 := hcg.1
  have s1 := hb1.size
  clear hI hcg HIm
  by_cases hF : N < 1 ∨ 4096 < N
  · go_wp2_with fail
    refine (dOf_size ag N cg w1 hF).mono ?_
    rintro e w2 ⟨rfl, hb2⟩
    go_wp2_with fail
    refine (rOf_size a0 N c0 w2 hF).mono ?_
    rintro e w3 ⟨rfl, hb3⟩
    have hb : Below w.heap.size w w3 := (hb1.trans (hb2.mono s1)).trans (hb3.mono (Nat.le_trans s1 hb2.size))
    clear hb1 hb2 hb3 hF
    go_wp2
    go_ret3
    exact .inl ⟨rfl, hb⟩
  · have n1 : 1 ≤ N := by omega
    have n2 : N ≤ 4096 := by omega
    clear hF
    go_wp2_with fail
    refine (dOf_in ag N cg A' L C' f w1 HI.out n1 n2 hcg1 HBy.out).mono ?_
    rintro e w2 (⟨hno, rfl, hb2⟩ | ⟨hall, D, rfl, hD, hb2⟩)
    · have hb12 : Below w.heap.size w w2 := hb1.trans (hb2.mono s1)
      have HNo : Hid (∃ i, i < N ∧ L i ≠ 128) := hno
      clear hno
      go_wp2_with fail
      refine (rOf_in a0 N c0 A L C f w2 (H.out w2 hb12) n1 n2 HBy.out).mono ?_
      rintro e w3 (⟨_, rfl, hb3⟩ | ⟨hall, _⟩)
      · have hb : Below w.heap.size w w3 := hb12.trans (hb3.mono hb12.size)
        clear hb1 hb2 hb3 hb12
        go_wp2
        go_ret3
        exact .inl ⟨rfl, hb⟩
      · obtain ⟨i, hi, hne⟩ := HNo.out
        exact absurd (hall i hi) hne
    · have hb12 : Below w.heap.size w w2 := hb1.trans (hb2.mono s1)
      have s2 := hb2.size
      have HAll : Hid (∀ i, i < N → L i = 128) := hall
      have HD : Hid (Dk w2 D (fun k => w1.heap.size ≤ k ∧ k < w2.heap.size) N (flat f) 0 (fun _ => 0) (fun _ => 0)) := hD
      clear hall hD
      go_wp2_with fail
      refine (rOf_in a0 N c0 A L C f w2 (H.out w2 hb12) n1 n2 HBy.out).mono ?_
      rintro e w3 (⟨⟨i, hi, hne⟩, _⟩ | ⟨_, X, rfl, hX, hb3⟩)
      · exact absurd (HAll.out i hi) hne
      · have hb : Below w.heap.size w w3 := hb12.trans (hb3.mono hb12.size)
        have s3 := hb3.size
        have HO : Hid (News w w3 D X N) := ⟨_, _, flat f, (HD.out.below hb3).sd, hX.sx, fun k hk => by omega, fun k hk => by omega, fun k hk hk2 => by omega, hb⟩
        clear hb1 hb2 hb3 hb12 hX HD
        go_wp2
        go_ret3
        exact .inr ⟨D, X, rfl, HO⟩

set_option maxRecDepth 100000 in
set_option maxHeartbeats 4000000 in
theorem lives_walk (a0 : Option Addr) (N c0 : Nat) (A : Nat → Option Addr) (L C : Nat → Nat) (f : Nat → Nat → Int) (z1 z2 : Int) (a3 : Option Addr) (R c3 : Nat) (w : World) (h : Img w a0 N A L C f) (hN : N ≤ 5864062014805) (hL : ∀ i, i < N → L i ≤ 140737488355328) (hby : ∀ i j, 0 ≤ f i j ∧ f i j ≤ 255)
    (h1 : -9223372036854775808 ≤ z1 ∧ z1 ≤ 9223372036854775807) (h2 : -9223372036854775808 ≤ z2 ∧ z2 ≤ 9223372036854775807) (hR : R ≤ 9223372036854775806) (hd : DosW w a3 R) (ht : Tab w) :
    Calls Tryd.prog 3 #[.slice a0 N c0, .int .i64 z1, .int .i64 z2, .slice a3 R c3] w fun e w' => e = .returned (.bool true) ∧ Below w.heap.size w w' := by
  have htb : 1 < w.heap.size := World.block_lt_of_cell? w _ (ht 0 (by decide))
  have HDk : Hid (Calls Tryd.prog 7 #[.slice a0 N c0] w fun e w' => (e = .returned (.tuple #[.pointer none, .pointer none, .bool true]) ∧ Below w.heap.size w w') ∨ ∃ D X, e = .returned (.tuple #[.pointer (some ⟨D, 0, none⟩), .pointer (some ⟨X, 0, none⟩), .bool true]) ∧ Hid (News w w' D X N)) := disks_two a0 N c0 A L C f w h hN hL hby
  have HD : Hid (DosW w a3 R) := hd
  have HT : Hid (Tab w) := ht
  clear h hL hby hd ht
  go_enter Tryd.func3, Tryd.ntmps3
  go_wp2_with fail
  refine HDk.out.mono ?_
  rintro e w1 (⟨rfl, hb⟩ | ⟨D, X, rfl, HN⟩)
  · clear HDk
    go_wp2
    go_ret
    exact ⟨rfl, hb⟩
  obtain ⟨o, ho⟩ : ∃ o, Obj.cells #[.pointer (some ⟨D, 0, none⟩), .pointer (some ⟨X, 0, none⟩), .pointer none, .pointer none] 32 = o := ⟨_, rfl⟩
  have HTw : Hid (∃ en PA PB, Two w (w1.alloc o) w1.heap.size D X N en PA PB (.pointer none) (.pointer none)) := by
    obtain ⟨F, G, en, n1, n2, n3, n4, n5, hb⟩ := HN.out
    have b0 : Below w1.heap.size w1 (w1.alloc o) := (Below.refl _ w1).alloc (Nat.le_refl _) o
    have s0 := b0.size
    refine ⟨en, F, G, ⟨⟨F, n1.below b0, fun _ h => h⟩, ⟨G, n2.below b0, fun _ h => h⟩, fun k hk => by have := n1.lt k hk; omega, fun k hk => by have := n2.lt k hk; omega, n5, fun hk => by have := n1.lt _ hk; omega, fun hk => by have := n2.lt _ hk; omega, ?_, hb.size, n3, n4, hb.trans (b0.mono hb.size)⟩⟩
    rw [← ho]
    exact heap_alloc_at _ _ _ rfl
  clear HDk HN
  by_cases hin : 0 ≤ z1 ∧ 1 ≤ z2 ∧ z2 ≤ (N : Int) - z1
  · obtain ⟨from_, rfl⟩ := Int.eq_ofNat_of_zero_le hin.1
    obtain ⟨sectors, rfl⟩ := Int.eq_ofNat_of_zero_le (show 0 ≤ z2 by omega)
    have HOp : Hid (Calls Tryd.prog 8 #[.pointer (some ⟨w1.heap.size, 0, none⟩), .int .i64 (from_ : Int), .int .i64 (sectors : Int)] (w1.alloc o) fun r w' => r = .returned (.bool true) ∧ ∃ M, w'.cell? ⟨w1.heap.size, 3, none⟩ = some (.pointer (some ⟨M, 0, none⟩)) ∧ Hid (After w w' w1.heap.size D X N from_ sectors)) := by
      obtain ⟨en, PA, PB, hT⟩ := HTw.out
      refine (pr_open hT from_ sectors (by omega) (by omega) HT.out htb).mono ?_
      rintro r w' ⟨rfl, HZ⟩
      obtain ⟨L', M', e', x', PA', PB', hZ⟩ := HZ.out
      exact ⟨rfl, M', hZ.hb.cells.2.2.2, L', M', e', x', PA', PB', hZ⟩
    clear HTw hin h1 h2
    go_wp2_with fail
    try rw [ho]
    refine HOp.out.mono ?_
    rintro r w2 ⟨rfl, M, y3, HAf⟩
    clear HOp ho
    go_wp2
    go_loopw [51] (fun s51 wr => ∃ k : Nat, k ≤ R ∧ s51 = .int .i64 (k : Int) ∧ Hid (After w wr w1.heap.size D X N from_ sectors)) (fun i _ => R - (intOf i).toNat)
    case atStart => exact ⟨0, Nat.zero_le _, rfl, HAf⟩
    case round =>
      obtain ⟨k, hk, rfl, HB⟩ := hrel
      by_cases hlt : k < R
      · obtain ⟨b, off, rfl, op, a, l, c, g, hdo, hl9⟩ := HD.out k hlt
        have hlt' : (k : Int) < (R : Int) := by omega
        have hk0 : (0 : Int) ≤ (k : Int) := by omega
        obtain ⟨L', M', e', x', PA', PB', hZ⟩ := HB.out
        obtain ⟨q0, q1, _, _, _⟩ := hdo.below hZ.bl
        have HDo : Hid (∀ o, Calls Tryd.prog 9 #[.pointer (some ⟨w1.heap.size, 0, none⟩), .agg #[.int .i64 op, .slice a l c], .int .i64 (from_ : Int), .int .i64 (sectors : Int)] (wr.alloc o) fun r w' => r = .returned (.bool true) ∧ Hid (After w w' w1.heap.size D X N from_ sectors)) := fun o => pr_does (hZ.below ((Below.refl _ wr).alloc (Nat.le_refl _) o)) op a l c g hdo.fb hdo.by_ hdo.nb hl9 HT.out htb
        clear hZ hdo HAf y3
        go_wp2_with fail
        refine (HDo.out _).mono ?_
        rintro r w3 ⟨rfl, HZ⟩
        clear HDo
        go_wp2
        go_roundw
        case rel => exact ⟨k + 1, by omega, by go_num, HZ⟩
        case measure => simp [intOf]; omega
      · obtain rfl : k = R := by omega
        have hge : ¬ (k : Int) < (k : Int) := by omega
        have HSm : Hid (Calls Tryd.prog 10 #[.pointer (some ⟨w1.heap.size, 0, none⟩)] wr fun r w' => r = .returned (.bool true) ∧ Below w.heap.size w w') := by
          obtain ⟨L', M', e', x', PA', PB', hZ⟩ := HB.out
          exact (pr_same hZ).mono fun r w' ⟨hr, hb⟩ => ⟨hr, hZ.bl.trans (hb.mono hZ.bl.size)⟩
        clear HB HAf y3
        go_wp2_with fail
        refine HSm.out.mono ?_
        rintro r w3 ⟨rfl, hb⟩
        clear HSm
        go_wp2
        go_ret
        exact ⟨rfl, hb⟩
  · have HOp : Hid (Calls Tryd.prog 8 #[.pointer (some ⟨w1.heap.size, 0, none⟩), .int .i64 z1, .int .i64 z2] (w1.alloc o) fun r w' => r = .returned (.bool true) ∧ w'.cell? ⟨w1.heap.size, 3, none⟩ = some (.pointer none) ∧ Below w.heap.size w w') := by
      obtain ⟨en, PA, PB, hT⟩ := HTw.out
      refine (pr_open_no hT z1 z2 h1 (by omega)).mono ?_
      rintro r w' ⟨rfl, HZ⟩
      exact ⟨rfl, HZ.out.hb.cells.2.2.2, HZ.out.bl⟩
    clear HTw hin h1 h2
    go_wp2_with fail
    try rw [ho]
    refine HOp.out.mono ?_
    rintro r w2 ⟨rfl, y3, hb⟩
    clear HOp ho
    go_wp2
    go_ret
    exact ⟨rfl, hb⟩
end Go.Proofs.YtmjoklppibfdmaaDoor
