/-
  Contract of disk.Of over slices of bytes.
-/
import Derived.Test.YtmjoklppibfdmaaDoorJoinB
import Derived.Test.YtmjoklppibfdmaaDoorDkOps
namespace Go.Proofs.YtmjoklppibfdmaaDoor
open Go.RowKit
set_option linter.unusedVariables false

/-- Bytes of one's own, and what over makes around them: a disk. -/
theorem dk_over {w w1 : World} {n g c : Nat} {dur : Nat → Int} {MI : Array Value} (hb : Below w.heap.size w w1) (ho : OwnC w1 g (n * 128) c dur) (hg : w.heap.size ≤ g) (hgl : g < w1.heap.size) (hMI : MI.toList = (lst (fun _ => 0) n).map (Value.int .i64)) (y1 : ∀ i, 0 ≤ dur i ∧ dur i ≤ 255) (n1 : 1 ≤ n) (n2 : n ≤ 4096) (wf : World)
    (hf : wf = ((w1.alloc (.cells MI 3)).alloc (.cells #[.slice (some ⟨g, 0, none⟩) (n * 128) c, .slice (some ⟨w1.heap.size, 0, none⟩) n n, .slice none 0 0, .slice none 0 0] 93)).alloc (.cells #[.pointer (some ⟨w1.heap.size + 1, 0, none⟩)] 88)) :
    Dk wf (w1.heap.size + 2) (fun k => w.heap.size ≤ k ∧ k < wf.heap.size) n dur 0 (fun _ => 0) (fun _ => 0) ∧ Below w.heap.size w wf := by
  have s1 := hb.size
  have hI : OwnI (w1.alloc (.cells MI 3)) 0 (.slice (some ⟨w1.heap.size, 0, none⟩) n n) (lst (fun _ => 0) n) := by
    have := ownI_made (w := w1) (MB := MI) (xs := lst (fun _ => 0) n) hMI (by rw [lst_length]; omega)
    rw [lst_length] at this
    exact this
  have hsz : wf.heap.size = w1.heap.size + 3 := by rw [hf]; simp
  subst hf
  refine ⟨⟨w1.heap.size + 1, g, w1.heap.size, c, n, .slice none 0 0, .slice none 0 0, ?_⟩, ?_⟩
  · refine ⟨heap_alloc_at _ _ _ (by simp), ?_, ?_, ?_, World.ownsRow_nil _ _ _ _, ?_, (fun h => by cases h), (fun h => by cases h), ⟨by omega, by omega⟩, ⟨by omega, by omega⟩, ⟨hg, by omega⟩, ⟨by omega, by omega⟩, (fun k h => by cases h), (fun k h => by cases h), fun k h => h.2, fun j h => by omega, y1, fun _ => by decide, n1, n2⟩
    · rw [heap_alloc_past _ _ _ (by simp), heap_alloc_at _ _ _ (by simp)]
    · exact ho.map fun C hoC => World.ownsRow.alloc (World.ownsRow.alloc (World.ownsRow.alloc hoC _) _) _
    · exact World.ownsRow.alloc (World.ownsRow.alloc hI _) _
    · rw [Nat.zero_mul]; exact World.ownsRow_nil _ _ _ _
  · exact ((hb.alloc (by omega) _).alloc (by simp; omega) _).alloc (by simp; omega) _

/-- Whether an image may be a disk's. -/
def Fits (N : Nat) (L : Nat → Nat) : Prop := 1 ≤ N ∧ N ≤ 4096 ∧ ∀ i, i < N → L i = 128

set_option maxRecDepth 100000 in
set_option maxHeartbeats 2000000 in
theorem dOf_size (ag : Option Addr) (N cg : Nat) (w : World) (hN : N < 1 ∨ 4096 < N) :
    Calls Tryd.prog 23 #[.slice ag N cg] w fun e w' => e = .returned (.tuple #[.pointer none, .int .i64 1]) ∧ Below w.heap.size w w' := by
  by_cases h0 : N < 1
  · obtain rfl : N = 0 := by omega
    clear hN
    go_enter Tryd.func23, Tryd.ntmps23
    go_wp2
    go_ret2
    exact ⟨rfl, Below.refl _ _⟩
  · have h1 : (1 : Int) ≤ (N : Int) := by omega
    have h2 : ¬ (N : Int) ≤ 4096 := by omega
    clear hN
    go_enter Tryd.func23, Tryd.ntmps23
    go_wp2
    go_ret2
    exact ⟨rfl, Below.refl _ _⟩

set_option maxRecDepth 100000 in
set_option maxHeartbeats 2000000 in
theorem dOf_in (ag : Option Addr) (N cg : Nat) (A : Nat → Option Addr) (L C : Nat → Nat) (f : Nat → Nat → Int) (w : World) (h : Img w ag N A L C f) (n1 : 1 ≤ N) (n2 : N ≤ 4096) (hc : N ≤ cg) (hby : ∀ i j, 0 ≤ f i j ∧ f i j ≤ 255) :
    Calls Tryd.prog 23 #[.slice ag N cg] w fun e w' => ((∃ i, i < N ∧ L i ≠ 128) ∧ e = .returned (.tuple #[.pointer none, .int .i64 1]) ∧ Below w.heap.size w w') ∨ ((∀ i, i < N → L i = 128) ∧ ∃ D, e = .returned (.tuple #[.pointer (some ⟨D, 0, none⟩), .int .i64 0]) ∧ Dk w' D (fun k => w.heap.size ≤ k ∧ k < w'.heap.size) N (flat f) 0 (fun _ => 0) (fun _ => 0) ∧ Below w.heap.size w w') := by
  have H : Hid (Img w ag N A L C f) := h
  have h1 : (1 : Int) ≤ (N : Int) := by omega
  have h2 : (N : Int) ≤ 4096 := by omega
  have HBy : Hid (∀ i, 0 ≤ flat f i ∧ flat f i ≤ 255) := fun i => hby _ _
  clear h hby
  go_enter Tryd.func23, Tryd.ntmps23
  go_wp2
  go_loopw [12] (fun i wr => w = wr ∧ ∃ k : Nat, k ≤ N ∧ i = .int .i64 (k : Int) ∧ ∀ j, j < k → L j = 128) (fun i _ => N - (intOf i).toNat)
  case atStart => exact ⟨rfl, 0, Nat.zero_le _, rfl, fun j hj => by omega⟩
  case round =>
    obtain ⟨rfl, k, hk, rfl, hA⟩ := hrel
    have HA : Hid (∀ j, j < k → L j = 128) := hA
    clear hA
    by_cases hlt : k < N
    · have hlt' : (k : Int) < (N : Int) := by omega
      have hk0 : (0 : Int) ≤ (k : Int) := by omega
      obtain ⟨b, off, rfl, p1, _⟩ := H.out k hlt
      by_cases hL : L k = 128
      · have hL' : (L k : Int) = 128 := by omega
        have HA2 : Hid (∀ j, j < k + 1 → L j = 128) := fun j hj => by
          by_cases e : j = k
          · rw [e]; exact hL
          · exact HA.out j (by omega)
        rw [hL] at p1
        go_wp2
        go_roundw
        case rel => exact ⟨by first | rfl | trivial, k + 1, by omega, by go_num, HA2.out⟩
        case measure => simp [intOf]; omega
      · have hL' : ¬ (L k : Int) = 128 := by omega
        have hL2 : ((L k : Int) == 128) = false := beq_eq_false_iff_ne.2 hL'
        have HN : Hid (∃ i, i < N ∧ L i ≠ 128) := ⟨k, hlt, hL⟩
        go_wp2
        go_ret2
        exact .inl ⟨HN.out, rfl, Below.refl _ _⟩
    · obtain rfl : k = N := by omega
      obtain ⟨MI, hMI⟩ : ∃ MI, madeCells #[.int .i64 0] k = MI := ⟨_, rfl⟩
      have hmi : ∀ w : World, (Instr.makeSlice 89 (.int .i64 (k : Int)) (.int .i64 (k : Int))).run Tryd.prog w = .ok (.slice (some ⟨w.heap.size, 0, none⟩) k k) (w.alloc (.cells MI 3)) := fun w => by
        rw [← hMI]
        exact run_make_row' (P := Tryd.prog) 89 3 (.int .i64 0) 8 Tryd.underlying89 info3 rfl .i64 .i64 k (by omega) (by omega) w
      have HMI : Hid (MI.toList = (lst (fun _ => 0) k).map (Value.int .i64)) := (by rw [← hMI, made_ints] : MI.toList = (lst (fun _ => 0) k).map (Value.int .i64))
      clear hMI
      have hq : ((k : Int) * 128).tdiv 128 = (k : Int) := by rw [Int.tdiv_eq_ediv_of_nonneg (by omega)]; omega
      have hq2 : ((k : Int) * 128) / 128 = (k : Int) := by omega
      go_wp2_with fail
      refine (joinB ag k cg A L C f w H.out HA.out n1 n2 hc).mono ?_
      rintro e w1 ⟨g, c, rfl, ho, hg, hgl, hb⟩
      have HZ : Hid (∀ wf, wf = ((w1.alloc (.cells MI 3)).alloc (.cells #[.slice (some ⟨g, 0, none⟩) (k * 128) c, .slice (some ⟨w1.heap.size, 0, none⟩) k k, .slice none 0 0, .slice none 0 0] 93)).alloc (.cells #[.pointer (some ⟨w1.heap.size + 1, 0, none⟩)] 88) → Dk wf (w1.heap.size + 2) (fun q => w.heap.size ≤ q ∧ q < wf.heap.size) k (flat f) 0 (fun _ => 0) (fun _ => 0) ∧ Below w.heap.size w wf) := fun wf hf => dk_over hb ho hg hgl HMI.out HBy.out n1 n2 wf hf
      clear ho hb hg hgl
      go_wp2
      go_ret2
      obtain ⟨z1, z2⟩ := HZ.out _ rfl
      exact .inr ⟨HA.out, _, by simp, z1, z2⟩
end Go.Proofs.YtmjoklppibfdmaaDoor
