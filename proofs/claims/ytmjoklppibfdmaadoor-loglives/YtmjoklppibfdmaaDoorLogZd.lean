/-
  The document's disk by what its reads tell (Sx), and a log of the document's over it: contracts of Read, Write, Flush, of the getters, Append and Reset. Conditions: the sectors are the disk's; at most some thousand writes pend.
-/
import Derived.Test.YtmjoklppibfdmaaDoorLogZb
import Derived.Test.YtmjoklppibfdmaaDoorLogLf
import Derived.Test.YtmjoklppibfdmaaDoorGj
namespace Go.Proofs.YtmjoklppibfdmaaDoor
open Go.RowKit
set_option linter.unusedVariables false

theorem Rk.lt {w : World} {X : Nat} {F : Nat → Prop} {n : Nat} {dur : Nat → Int} {m : Nat} {tf : Nat → Nat} {ld : Nat → Int} (h : Rk w X F n dur m tf ld) : ∀ k, F k → k < w.heap.size := by
  obtain ⟨gB, cB, vP, rb, rc, pb, pc, h⟩ := h
  exact h.lt
/-- A disk of the document's, of n sectors at X, whose reads tell the bytes of e; at most M writes pend. -/
def Sx (w : World) (X : Nat) (F : Nat → Prop) (n M : Nat) (e : Nat → Int) : Prop := ∃ dur m tf ld, Rk w X F n dur m tf ld ∧ m ≤ M ∧ (∀ p, p < n → ∀ i, i < 128 → seen dur m tf ld p i = e (p * 128 + i)) ∧ ∀ i, 0 ≤ e i ∧ e i ≤ 255
theorem Sx.below {w w' : World} {X : Nat} {F : Nat → Prop} {n M : Nat} {e : Nat → Int} (h : Sx w X F n M e) (hb : Below w.heap.size w w') : Sx w' X F n M e := by
  obtain ⟨dur, m, tf, ld, h1, h2⟩ := h
  exact ⟨dur, m, tf, ld, h1.below hb, h2⟩
theorem Sx.part {w w' : World} {X : Nat} {F G : Nat → Prop} {n M : Nat} {e : Nat → Int} (h : Sx w X F n M e) (hp : Part G w w') (hn : ∀ k, F k → ¬ G k) : Sx w' X F n M e := by
  obtain ⟨dur, m, tf, ld, h1, h2⟩ := h
  exact ⟨dur, m, tf, ld, h1.part hp hn, h2⟩
theorem Sx.grow {w : World} {X : Nat} {F G : Nat → Prop} {n M : Nat} {e : Nat → Int} (h : Sx w X F n M e) (h1 : ∀ k, F k → G k) (h2 : ∀ k, G k → k < w.heap.size) : Sx w X G n M e := by
  obtain ⟨dur, m, tf, ld, k1, k2⟩ := h
  exact ⟨dur, m, tf, ld, k1.grow h1 h2, k2⟩
theorem Sx.lt {w : World} {X : Nat} {F : Nat → Prop} {n M : Nat} {e : Nat → Int} (h : Sx w X F n M e) : ∀ k, F k → k < w.heap.size := by
  obtain ⟨dur, m, tf, ld, k1, k2⟩ := h
  exact k1.lt
theorem Sx.by_ {w : World} {X : Nat} {F : Nat → Prop} {n M : Nat} {e : Nat → Int} (h : Sx w X F n M e) : ∀ i, 0 ≤ e i ∧ e i ≤ 255 := by
  obtain ⟨_, _, _, _, _, _, _, h⟩ := h
  exact h
theorem Sx.n2 {w : World} {X : Nat} {F : Nat → Prop} {n M : Nat} {e : Nat → Int} (h : Sx w X F n M e) : 1 ≤ n ∧ n ≤ 4096 := by
  obtain ⟨dur, m, tf, ld, ⟨_, _, _, _, _, _, _, h⟩, _⟩ := h
  exact ⟨h.n1, h.n2⟩
theorem Sx.mono {w : World} {X : Nat} {F : Nat → Prop} {n M M' : Nat} {e : Nat → Int} (h : Sx w X F n M e) (hM : M ≤ M') : Sx w X F n M' e := by
  obtain ⟨dur, m, tf, ld, k1, k2, k3⟩ := h
  exact ⟨dur, m, tf, ld, k1, by omega, k3⟩
theorem Sx.heap {w w' : World} {X : Nat} {F : Nat → Prop} {n M : Nat} {e : Nat → Int} (h : Sx w X F n M e) (h1 : w'.heap = w.heap) (h2 : w'.os = w.os) (h3 : w'.tape = w.tape) (h4 : w'.output = w.output) : Sx w' X F n M e := h.below ⟨h2, h3, h4, by rw [h1]; exact Nat.le_refl _, fun k _ => by rw [h1]⟩

theorem sxRead (X p n M : Nat) (F : Nat → Prop) (e : Nat → Int) (w : World) (h : Sx w X F n M e) (hp : p < n) (hM : M ≤ 549755813887) :
    Calls Tryd.prog 65 #[.pointer (some ⟨X, 0, none⟩), .int .i64 (p : Int)] w fun r w' => ∃ g c, r = .returned (.tuple #[.slice (some ⟨g, 0, none⟩) 128 c, .int .i64 0]) ∧ Hid (Own w' w.heap.size (.slice (some ⟨g, 0, none⟩) 128 c) (lst (sh e (p * 128)) 128)) ∧ 128 ≤ c ∧ c ≤ 9223372036854775807 ∧ Below w.heap.size w w' := by
  obtain ⟨dur, m, tf, ld, k1, k2, k3, k4⟩ := h
  refine (rkRead X p n m F dur tf ld w k1 hp (by omega)).mono ?_
  rintro r w1 ⟨v, rfl, ho, hb⟩
  have ho' := ho.ext (G := sh e (p * 128)) (fun i hi => k3 p hp i hi)
  obtain ⟨a, c, rfl, hf, _⟩ := ho'.fst
  obtain ⟨g, c', ev, _, _, hc, _⟩ := Own.open128 (k := 127) ho'
  cases ev
  exact ⟨g, c, rfl, ho', hc, hf.2.1, hb⟩
theorem sxWrite (X p n M : Nat) (F : Nat → Prop) (e : Nat → Int) (g off c : Nat) (f : Nat → Int) (w : World) (h : Sx w X F n M e) (hp : p < n) (hM : M ≤ 549755813887) (hf : From w (some ⟨g, off, none⟩) 128 f) (hby : ∀ j, 0 ≤ f j ∧ f j ≤ 255) :
    Calls Tryd.prog 74 #[.pointer (some ⟨X, 0, none⟩), .int .i64 (p : Int), .slice (some ⟨g, off, none⟩) 128 c] w fun r w' => r = .returned (.int .i64 0) ∧ Sx w' X (fun k => F k ∨ (w.heap.size ≤ k ∧ k < w'.heap.size)) n (M + 1) (ovs e p f) ∧ Part F w w' := by
  obtain ⟨dur, m, tf, ld, k1, k2, k3, k4⟩ := h
  refine (rkWrite X p n m F dur tf ld (some ⟨g, off, none⟩) c f w k1 hp (by omega) hf (fun h => by cases h) hby).mono ?_
  rintro r w1 ⟨rfl, hd, hb⟩
  refine ⟨rfl, ⟨dur, m + 1, _, _, hd, by omega, fun q hq i hi => ?_, ov_by k4 hby _ _⟩, hb⟩
  rw [seen_write _ _ _ _ _ _ _ _ hi]
  unfold ovs ov
  by_cases e1 : q = p
  · rw [if_pos e1, if_pos (by omega), e1, show p * 128 + i - p * 128 = i by omega]
  · rw [if_neg e1, if_neg (by omega), k3 q hq i hi]
theorem sxFlush (X n M : Nat) (F : Nat → Prop) (e : Nat → Int) (w : World) (h : Sx w X F n M e) (hM : M ≤ 549755813887) :
    Calls Tryd.prog 76 #[.pointer (some ⟨X, 0, none⟩)] w fun r w' => r = .returned (.int .i64 0) ∧ Sx w' X (fun k => F k ∨ (w.heap.size ≤ k ∧ k < w'.heap.size)) n 0 e ∧ Part F w w' := by
  obtain ⟨dur, m, tf, ld, k1, k2, k3, k4⟩ := h
  refine (rkFlush X n m F dur tf ld w k1 (by omega)).mono ?_
  rintro r w1 ⟨rfl, hd, hb⟩
  refine ⟨rfl, ⟨_, 0, tf, ld, hd, Nat.le_refl _, fun p hp i hi => ?_, k4⟩, hb⟩
  rw [seen0]
  show setl dur tf ld (fun _ => true) m (p * 128 + i) = _
  rw [setl_seen _ _ _ _ _ hi, k3 p hp i hi]

/-- A log of the document's in memory. -/
def Zl (w : World) (M X from_ sectors first last forced : Nat) (vs : Value) (done : Nat) : Prop := w.heap[M]? = some (.cells #[.pointer (some ⟨X, 0, none⟩), .int .i64 (from_ : Int), .int .i64 (sectors : Int), .int .i64 (first : Int), .int .i64 (last : Int), .int .i64 (forced : Int), vs, .int .i64 (done : Int)] 113 (0, 0))
theorem Zl.below {w w' : World} {M X from_ sectors first last forced : Nat} {vs : Value} {done : Nat} (h : Zl w M X from_ sectors first last forced vs done) (hb : Below w.heap.size w w') : Zl w' M X from_ sectors first last forced vs done := (hb.block M (Array.getElem?_eq_some_iff.1 h).1).trans h
theorem Zl.part {w w' : World} {F : Nat → Prop} {M X from_ sectors first last forced : Nat} {vs : Value} {done : Nat} (h : Zl w M X from_ sectors first last forced vs done) (hb : Part F w w') (h1 : ¬ F M) : Zl w' M X from_ sectors first last forced vs done := (hb.block M (Array.getElem?_eq_some_iff.1 h).1 h1).trans h
theorem zget {w : World} {M X from_ sectors first last forced : Nat} {vs : Value} {done : Nat} (h : Zl w M X from_ sectors first last forced vs done) : w.cell? ⟨M, 0, none⟩ = some (.pointer (some ⟨X, 0, none⟩)) ∧ w.cell? ⟨M, 1, none⟩ = some (.int .i64 (from_ : Int)) ∧ w.cell? ⟨M, 2, none⟩ = some (.int .i64 (sectors : Int)) ∧ w.cell? ⟨M, 3, none⟩ = some (.int .i64 (first : Int)) ∧ w.cell? ⟨M, 4, none⟩ = some (.int .i64 (last : Int)) ∧ w.cell? ⟨M, 5, none⟩ = some (.int .i64 (forced : Int)) ∧ w.cell? ⟨M, 6, none⟩ = some vs ∧ w.cell? ⟨M, 7, none⟩ = some (.int .i64 (done : Int)) :=
  ⟨by rw [cells_at h 0]; rfl, by rw [cells_at h 1]; rfl, by rw [cells_at h 2]; rfl, by rw [cells_at h 3]; rfl, by rw [cells_at h 4]; rfl, by rw [cells_at h 5]; rfl, by rw [cells_at h 6]; rfl, by rw [cells_at h 7]; rfl⟩

set_option maxHeartbeats 400000 in
theorem zFirst {w : World} {M X from_ sectors first last forced : Nat} {vs : Value} {done : Nat} (h : Zl w M X from_ sectors first last forced vs done) : Calls Tryd.prog 39 #[.pointer (some ⟨M, 0, none⟩)] w fun r w' => r = .returned (.int .i64 (first : Int)) ∧ w' = w := by
  obtain ⟨_, _, _, c3, _⟩ := zget h
  clear h
  go_enter Tryd.func39, Tryd.ntmps39
  go_wp2
  go_ret
  exact ⟨rfl, rfl⟩
set_option maxHeartbeats 400000 in
theorem zLast {w : World} {M X from_ sectors first last forced : Nat} {vs : Value} {done : Nat} (h : Zl w M X from_ sectors first last forced vs done) : Calls Tryd.prog 40 #[.pointer (some ⟨M, 0, none⟩)] w fun r w' => r = .returned (.int .i64 (last : Int)) ∧ w' = w := by
  obtain ⟨_, _, _, _, c3, _⟩ := zget h
  clear h
  go_enter Tryd.func40, Tryd.ntmps40
  go_wp2
  go_ret
  exact ⟨rfl, rfl⟩
set_option maxHeartbeats 400000 in
theorem zForced {w : World} {M X from_ sectors first last forced : Nat} {vs : Value} {done : Nat} (h : Zl w M X from_ sectors first last forced vs done) : Calls Tryd.prog 41 #[.pointer (some ⟨M, 0, none⟩)] w fun r w' => r = .returned (.int .i64 (forced : Int)) ∧ w' = w := by
  obtain ⟨_, _, _, _, _, c3, _⟩ := zget h
  clear h
  go_enter Tryd.func41, Tryd.ntmps41
  go_wp2
  go_ret
  exact ⟨rfl, rfl⟩
set_option maxRecDepth 100000 in
set_option maxHeartbeats 1000000 in
theorem zRoom {w : World} {M X from_ sectors first last forced : Nat} {a : Option Addr} {tot c : Nat} {done : Nat} (h : Zl w M X from_ sectors first last forced (.slice a tot c) done) (hs : sectors ≤ 4096) (ht : tot ≤ sectors * 112) : Calls Tryd.prog 42 #[.pointer (some ⟨M, 0, none⟩)] w fun r w' => r = .returned (.int .i64 ((sectors * 112 - tot : Nat) : Int)) ∧ ∃ q, w' = w.drewN q := by
  obtain ⟨_, _, c2, _, _, _, c6, _⟩ := zget h
  have q1 : (sectors : Int) ≤ 4096 := by omega
  have q2 : (0 : Int) ≤ (sectors : Int) := by omega
  have q3 : (tot : Int) ≤ 458752 := by omega
  have q4 : (0 : Int) ≤ (tot : Int) := by omega
  have HR : Hid ((sectors : Int) * 112 - (tot : Int) = ((sectors * 112 - tot : Nat) : Int)) := (by omega : (sectors : Int) * 112 - (tot : Int) = ((sectors * 112 - tot : Nat) : Int))
  clear h ht hs
  go_enter Tryd.func42, Tryd.ntmps42
  go_wp2_with fail
  go_quiet (fail)
  go_wp2
  go_ret
  exact ⟨by rw [← HR.out]; first | rfl | simp, _, rfl⟩
end Go.Proofs.YtmjoklppibfdmaaDoor
