/-
  AriesLocks: its calls, one behind the other.
-/
import Derived.Test.YthfokciijcmhbaaGreatDoorGbt
namespace Go.Proofs.YthfokciijcmhbaaGreatDoor
open Go.RowKit
set_option linter.unusedVariables false

variable {w w0 w' w1 w2 : World} {m : Pm} {K : Nat → Prop} {u M la lt N p o k : Nat} {lo : Nat → Nat → Int} {T : Nat → Tr} {c : Bool} {E : Option Nat}
/-- The slice handed in is one to write. -/
def Okm (m : Pm) (p o : Nat) : Prop := p < 6 ∧ 0 < m.nb ∧ o + m.nb ≤ 112 ∧ ∀ j, 0 ≤ m.fb j ∧ m.fb j ≤ 255
theorem sole2 (h0 : (T 0).no = 1) (h1 : (T 1).no = 2) : Sole T 2 := fun a b ha hb e => by
  have ha : a = 0 ∨ a = 1 := by omega
  have hb : b = 0 ∨ b = 1 := by omega
  rcases ha with rfl | rfl <;> rcases hb with rfl | rfl <;> first | rfl | omega
theorem sole1 : Sole T 1 := fun a b ha hb e => by omega
theorem free0 {p : Nat} (h : (T 1).ps = []) : ¬ Lkd T 2 0 (p : Int) := fun ⟨j, h1, h2, h3⟩ => by
  obtain rfl : j = 1 := by omega
  rw [h] at h3
  cases h3
theorem free1 {p : Nat} (h : (T 0).ps = []) : ¬ Lkd T 2 1 (p : Int) := fun ⟨j, h1, h2, h3⟩ => by
  obtain rfl : j = 0 := by omega
  rw [h] at h3
  cases h3
theorem held1 {p : Nat} (h : (T 0).ps = [p]) : Lkd T 2 1 (p : Int) := ⟨0, by decide, by decide, by rw [h]; unfold Ci; simp⟩
theorem freeN {p : Nat} : ¬ Lkd T 1 0 (p : Int) := fun ⟨j, h1, h2, h3⟩ => by omega
/-- One transaction began; two. -/
def S1 (w0 : World) (m : Pm) (w : World) : Prop := ∃ K q, Sg w0 m 0 0 0 0 1 (fun _ _ => 0) (updT T0 0 (freshTr q 1)) K w
def S2 (w0 : World) (m : Pm) (w : World) : Prop := ∃ K q1 q2, Sg w0 m 0 0 0 0 2 (fun _ _ => 0) (updT (updT T0 0 (freshTr q1 1)) 1 (freshTr q2 2)) K w
theorem S2.below (h : S2 w0 m w) (hb : Below w.heap.size w w') : S2 w0 m w' := by
  obtain ⟨K, q1, q2, h⟩ := h
  exact ⟨K, q1, q2, h.below hb⟩
theorem S2.cell (h : S2 w0 m w) : w.cell? ⟨m.B, 1, none⟩ = some (.pointer (some ⟨m.Q, 0, none⟩)) := by
  obtain ⟨K, q1, q2, h⟩ := h
  exact h.cell
/-- The first one has written; c: whether that changed something. E: the slice that it read. -/
def Sw (w0 : World) (m : Pm) (p o : Nat) (c : Bool) (k : Nat) (E : Option Nat) (w : World) : Prop := ∃ K u M la lt lo T, Sg w0 m u M la lt 2 lo T K w ∧ ((T 0).no = 1 ∧ (T 1).no = 2 ∧ (T 1).ps = []) ∧ (u ≤ 400 ∧ M ≤ k ∧ la ≤ 50) ∧ (∀ j, j < m.nb → lo p (o + j) = m.fb j) ∧ ((c = true ∧ (T 0).ps = [p] ∧ ∃ ah be, (T 0).us = [⟨1, p, o, ah, be⟩] ∧ ah.size = m.nb ∧ ∀ j, j < m.nb → fn (strL ah) j = 0) ∨ (c = false ∧ (T 0).ps = [] ∧ ∀ j, j < m.nb → m.fb j = 0)) ∧ ∀ g, E = some g → K g ∧ From w (some ⟨g, o, none⟩) m.nb m.fb
theorem Sw.below (h : Sw w0 m p o c k E w) (hb : Below w.heap.size w w') : Sw w0 m p o c k E w' := by
  obtain ⟨K, u, M, la, lt, lo, T, h1, h2, h3, h4, h5, h6⟩ := h
  exact ⟨K, u, M, la, lt, lo, T, h1.below hb, h2, h3, h4, h5, fun g hg => ⟨(h6 g hg).1, (h6 g hg).2.below hb (Nat.le_refl _)⟩⟩
theorem Sw.cell (h : Sw w0 m p o c k E w) : w.cell? ⟨m.B, 1, none⟩ = some (.pointer (some ⟨m.Q, 0, none⟩)) := by
  obtain ⟨K, u, M, la, lt, lo, T, h1, _⟩ := h
  exact h1.cell
theorem Sw.given (h : Sw w0 m p o c k E w) : From w (some ⟨m.gb, m.ob, none⟩) m.nb m.fb := by
  obtain ⟨K, u, M, la, lt, lo, T, h1, _⟩ := h
  exact h1.2.2.2.2.1
theorem Sw.seen {g : Nat} (h : Sw w0 m p o c k (some g) w) : From w (some ⟨g, o, none⟩) m.nb m.fb := by
  obtain ⟨K, u, M, la, lt, lo, T, _, _, _, _, _, h6⟩ := h
  exact (h6 g rfl).2
/-- The first one is over; b: committed. E: the slice that the second one read then. -/
def Sf (w0 : World) (m : Pm) (p o : Nat) (b : Bool) (k : Nat) (E : Option Nat) (w : World) : Prop := ∃ K u M la lt lo T, Sg w0 m u M la lt 1 lo T K w ∧ ((T 0).no = 2 ∧ (T 0).ps = []) ∧ M ≤ k ∧ (∀ j, j < m.nb → lo p (o + j) = if b then m.fb j else 0) ∧ ∀ g, E = some g → From w (some ⟨g, o, none⟩) m.nb (fun j => if b then m.fb j else 0)
theorem Sf.below {b : Bool} (h : Sf w0 m p o b k E w) (hb : Below w.heap.size w w') : Sf w0 m p o b k E w' := by
  obtain ⟨K, u, M, la, lt, lo, T, h1, h2, h3, h4, h5⟩ := h
  exact ⟨K, u, M, la, lt, lo, T, h1.below hb, h2, h3, h4, fun g hg => (h5 g hg).below hb (Nat.le_refl _)⟩
theorem Sf.cell {b : Bool} (h : Sf w0 m p o b k E w) : w.cell? ⟨m.B, 1, none⟩ = some (.pointer (some ⟨m.Q, 0, none⟩)) := by
  obtain ⟨K, u, M, la, lt, lo, T, h1, _⟩ := h
  exact h1.cell
theorem Sf.given {b : Bool} (h : Sf w0 m p o b k E w) : From w (some ⟨m.gb, m.ob, none⟩) m.nb m.fb := by
  obtain ⟨K, u, M, la, lt, lo, T, h1, _⟩ := h
  exact h1.2.2.2.2.1
theorem Sf.seen {b : Bool} {g : Nat} (h : Sf w0 m p o b k (some g) w) : From w (some ⟨g, o, none⟩) m.nb (fun j => if b then m.fb j else 0) := by
  obtain ⟨K, u, M, la, lt, lo, T, _, _, _, _, h5⟩ := h
  exact h5 g rfl
theorem s_begin1 (h : Sg w0 m 0 0 0 0 0 (fun _ _ => 0) T0 K w) : Calls Tryz.prog 14 #[.pointer (some ⟨m.Q, 0, none⟩)] w fun r w' => r = .returned (.tuple #[.int .i64 1, .int .i64 0]) ∧ w'.cell? ⟨m.B, 1, none⟩ = some (.pointer (some ⟨m.Q, 0, none⟩)) ∧ Hid (S1 w0 m w') :=
  (G_begin h (by decide) (by decide) 1 rfl 1 rfl).mono fun r w' ⟨a1, a2, a3⟩ => ⟨a1, a2, by obtain ⟨q, h1⟩ := a3.out; exact ⟨K, q, h1⟩⟩
theorem s_begin2 (h : S1 w0 m w) : Calls Tryz.prog 14 #[.pointer (some ⟨m.Q, 0, none⟩)] w fun r w' => r = .returned (.tuple #[.int .i64 2, .int .i64 0]) ∧ w'.cell? ⟨m.B, 1, none⟩ = some (.pointer (some ⟨m.Q, 0, none⟩)) ∧ Hid (S2 w0 m w') := by
  obtain ⟨K, q, h⟩ := h
  have hm : mxT 0 (updT T0 0 (freshTr q 1)) 1 = 1 := by
    show max (mxT 0 _ 0) (updT T0 0 (freshTr q 1) 0).no = 1
    rw [updT_same]
    rfl
  exact (G_begin h (by decide) (by rw [hm]; decide) 2 (by rw [hm]) 2 rfl).mono fun r w' ⟨a1, a2, a3⟩ => ⟨a1, a2, by obtain ⟨q2, h1⟩ := a3.out; exact ⟨K, q, q2, h1⟩⟩
theorem two_0 (q1 q2 : Nat) : updT (updT T0 0 (freshTr q1 1)) 1 (freshTr q2 2) 0 = freshTr q1 1 := by rw [updT_other _ _ (by decide), updT_same]
theorem two_1 (q1 q2 : Nat) : updT (updT T0 0 (freshTr q1 1)) 1 (freshTr q2 2) 1 = freshTr q2 2 := updT_same _ _ _
theorem strL_strF {f : Nat → Int} (h : ∀ i, 0 ≤ f i ∧ f i ≤ 255) (m : Nat) : strL (strF f m) = lst f m := by
  unfold strL strF
  rw [strOfNums_data]
  simp only [List.map_map]
  conv => rhs; rw [← List.map_id (lst f m)]
  apply List.map_congr_left
  intro x hx
  unfold lst at hx
  obtain ⟨i, _, rfl⟩ := List.mem_map.1 hx
  have := h i
  simp
  omega
theorem zero_strF (n j : Nat) (hj : j < n) : fn (strL (strF (fun _ => 0) n)) j = 0 := by
  rw [strL_strF (fun _ => ⟨by decide, by decide⟩), fn_lst _ _ _ hj]
set_option maxRecDepth 100000 in
theorem s_write_c (h : S2 w0 m w) (hm : Okm m p o) (hc : ¬ ∀ j, j < m.nb → m.fb j = 0) (cb : Nat) : Calls Tryz.prog 15 #[.pointer (some ⟨m.Q, 0, none⟩), .int .i64 1, .int .i64 (p : Int), .int .i64 (o : Int), .slice (some ⟨m.gb, m.ob, none⟩) m.nb cb] w fun r w' => r = .returned (.int .i64 0) ∧ w'.cell? ⟨m.B, 1, none⟩ = some (.pointer (some ⟨m.Q, 0, none⟩)) ∧ Hid (Sw w0 m p o true 2 none w') := by
  obtain ⟨K, q1, q2, h⟩ := h
  obtain ⟨hp, hnb, ho, hby⟩ := hm
  obtain ⟨T, hT⟩ : ∃ T, updT (updT T0 0 (freshTr q1 1)) 1 (freshTr q2 2) = T := ⟨_, rfl⟩
  have e0 := two_0 q1 q2
  have e1 := two_1 q1 q2
  rw [hT] at h e0 e1
  obtain ⟨ah, hah⟩ : ∃ ah, strF (fun _ => (0 : Int)) m.nb = ah := ⟨_, rfl⟩
  obtain ⟨be, hbe⟩ : ∃ be, strF m.fb m.nb = be := ⟨_, rfl⟩
  have za : ah.size = m.nb := by rw [← hah]; exact strF_len _ _
  have zb : be.size = m.nb := by rw [← hbe]; exact strF_len _ _
  have hne : ah ≠ be := fun e => hc (fun j hj => by
    rw [← hah, ← hbe] at e
    have := strF_inj (fun _ => ⟨by decide, by decide⟩) hby e
    have h2 := congrArg (fun l => fn l j) this
    simp only [fn_lst _ _ _ hj] at h2
    exact h2.symm)
  have hl := encB_len (k := 1) (t := 1) (p := p) (o := o) (ah := ah) (be := be) (nm := 0) (by decide) (by decide) (by omega) (by omega) (by omega) (by omega) (by decide)
  rw [if_pos rfl] at hl
  have hpb := putB_len 1 (encB 1 1 p o ah be 0).length (by have h9 : (128 : Nat) ^ (1 + 1) = 16384 := (by decide); omega)
  have hr : rsv T 2 = 32 := by
    show 0 + (160 * (T 0).us.length + 16) + (160 * (T 1).us.length + 16) = 32
    rw [e0, e1]
    rfl
  refine (G_write h (sole2 (by rw [e0]; rfl) (by rw [e1]; rfl)) 0 (by decide) p hp (by decide) (by decide) (free0 (by rw [e1]; rfl)) o hnb ho cb hby ah be hah hbe hne (by rw [e0]; show 0 < 1000; decide) (by rw [e0]; show 0 < 1000; decide) (encB 1 1 p o ah be 0) (by rw [e0]; rfl) (by rw [hr]; omega) 1 (by rw [e0]; rfl)).mono fun r w' ⟨a1, a2, a3⟩ => ⟨a1, a2, ?_⟩
  obtain ⟨pv, uv, h1⟩ := a3.out
  rw [e0] at h1
  refine ⟨K, _, _, _, _, _, _, h1, ⟨by rw [updT_same]; rfl, by rw [updT_other _ _ (by decide), e1]; rfl, by rw [updT_other _ _ (by decide), e1]; rfl⟩, ⟨by omega, by omega, by omega⟩, fun j hj => ?_, .inl ⟨rfl, ?_, ah, be, ?_, za, fun j hj => ?_⟩, fun g hg => by cases hg⟩
  · unfold upd
    rw [if_pos rfl]
    unfold ov
    rw [if_pos ⟨by omega, by omega⟩, Nat.add_sub_cancel_left, ← hbe, strL_strF hby, fn_lst _ _ _ hj]
  · rw [updT_same]; rfl
  · rw [updT_same]; rfl
  · rw [← hah]; exact zero_strF _ _ hj
set_option maxRecDepth 100000 in
theorem s_write_u (h : S2 w0 m w) (hm : Okm m p o) (hc : ∀ j, j < m.nb → m.fb j = 0) (cb : Nat) : Calls Tryz.prog 15 #[.pointer (some ⟨m.Q, 0, none⟩), .int .i64 1, .int .i64 (p : Int), .int .i64 (o : Int), .slice (some ⟨m.gb, m.ob, none⟩) m.nb cb] w fun r w' => r = .returned (.int .i64 0) ∧ w'.cell? ⟨m.B, 1, none⟩ = some (.pointer (some ⟨m.Q, 0, none⟩)) ∧ Hid (Sw w0 m p o false 2 none w') := by
  obtain ⟨K, q1, q2, h⟩ := h
  obtain ⟨hp, hnb, ho, hby⟩ := hm
  obtain ⟨T, hT⟩ : ∃ T, updT (updT T0 0 (freshTr q1 1)) 1 (freshTr q2 2) = T := ⟨_, rfl⟩
  have e0 := two_0 q1 q2
  have e1 := two_1 q1 q2
  rw [hT] at h e0 e1
  have heq : strF (fun _ => (0 : Int)) m.nb = strF m.fb m.nb := by
    unfold strF
    rw [lst_ext (fun j hj => (hc j hj).symm)]
  refine (G_write_same h (sole2 (by rw [e0]; rfl) (by rw [e1]; rfl)) 0 (by decide) p hp (by decide) (by decide) (free0 (by rw [e1]; rfl)) o hnb ho cb hby _ _ rfl rfl heq 1 (by rw [e0]; rfl)).mono fun r w' ⟨a1, a2, a3⟩ => ⟨a1, a2, ?_⟩
  exact ⟨K, _, _, _, _, _, _, a3.out, ⟨by rw [e0]; rfl, by rw [e1]; rfl, by rw [e1]; rfl⟩, ⟨by omega, by omega, by omega⟩, fun j hj => (hc j hj).symm, .inr ⟨rfl, by rw [e0]; rfl, hc⟩, fun g hg => by cases hg⟩
theorem from_off {g o n N : Nat} {f h : Nat → Int} (hf : From w (some ⟨g, 0, none⟩) N f) (ho : o + n ≤ N) (he : ∀ j, j < n → f (o + j) = h j) : From w (some ⟨g, o, none⟩) n h := by
  rcases hf with ⟨e, _⟩ | ⟨y, e, h2⟩
  · cases e
  · injection e with e
    subst e
    refine .inr ⟨_, rfl, fun j hj => ?_⟩
    have := h2 (o + j) (by omega)
    rw [Addr.add_lit, Nat.zero_add] at this
    rw [Addr.add_lit, this, he j hj]
theorem s_read1 (h : Sw w0 m p o c k none w) (hm : Okm m p o) (hk : k ≤ 1000) : Calls Tryz.prog 18 #[.pointer (some ⟨m.Q, 0, none⟩), .int .i64 1, .int .i64 (p : Int)] w fun r w' => ∃ a n9 c9, r = .returned (.tuple #[.slice a n9 c9, .int .i64 0]) ∧ w'.cell? ⟨m.B, 1, none⟩ = some (.pointer (some ⟨m.Q, 0, none⟩)) ∧ Hid (∃ gl, .slice a n9 c9 = Value.slice (some ⟨gl, 0, none⟩) 112 c9 ∧ 112 ≤ c9 ∧ c9 ≤ 9223372036854775807 ∧ Sw w0 m p o c (k + 1) (some gl) w') := by
  obtain ⟨K, u, M, la, lt, lo, T, h1, h2, h3, h4, h5, h6⟩ := h
  refine (G_read h1 (sole2 h2.1 h2.2.1) 0 (by decide) p hm.1 (by omega) (free0 h2.2.2) 1 (by rw [h2.1]; rfl)).mono fun r w' ⟨a, n9, c9, a1, a2, a3⟩ => ⟨a, n9, c9, a1, a2, ?_⟩
  obtain ⟨gl, b1, b2, b3, b4, b5, b6⟩ := a3.out
  exact ⟨gl, b1, b2, b3, _, u, M + 1, la, lt, lo, T, b4, h2, ⟨h3.1, by omega, h3.2.2⟩, h4, h5, fun g hg => by injection hg with hg; subst hg; exact ⟨.inr rfl, from_off b6 hm.2.2.1 h4⟩⟩
theorem s_read2c (h : Sw w0 m p o true k E w) (hm : Okm m p o) : Calls Tryz.prog 18 #[.pointer (some ⟨m.Q, 0, none⟩), .int .i64 2, .int .i64 (p : Int)] w fun r w' => ∃ a n9 c9, r = .returned (.tuple #[.slice a n9 c9, .int .i64 61]) ∧ w'.cell? ⟨m.B, 1, none⟩ = some (.pointer (some ⟨m.Q, 0, none⟩)) ∧ Hid (Sw w0 m p o true k E w') := by
  obtain ⟨K, u, M, la, lt, lo, T, h1, h2, h3, h4, h5, h6⟩ := h
  have hl : (T 0).ps = [p] := by
    rcases h5 with ⟨_, h, _⟩ | ⟨h, _⟩
    · exact h
    · cases h
  refine (G_read_no h1 (sole2 h2.1 h2.2.1) 1 (by decide) p hm.1 (held1 hl) 2 (by rw [h2.2.1]; rfl)).mono fun r w' ⟨a, n9, c9, a1, a2, a3⟩ => ⟨a, n9, c9, a1, a2, ?_⟩
  exact ⟨K, u, M, la, lt, lo, T, a3.out.1, h2, h3, h4, h5, fun g hg => ⟨(h6 g hg).1, a3.out.2.from (h6 g hg).2 (fun hn => hn (h6 g hg).1)⟩⟩
theorem s_read2u (h : Sw w0 m p o false k E w) (hm : Okm m p o) (hk : k ≤ 1000) : Calls Tryz.prog 18 #[.pointer (some ⟨m.Q, 0, none⟩), .int .i64 2, .int .i64 (p : Int)] w fun r w' => ∃ a n9 c9, r = .returned (.tuple #[.slice a n9 c9, .int .i64 0]) ∧ w'.cell? ⟨m.B, 1, none⟩ = some (.pointer (some ⟨m.Q, 0, none⟩)) ∧ Hid (Sw w0 m p o false (k + 1) E w') := by
  obtain ⟨K, u, M, la, lt, lo, T, h1, h2, h3, h4, h5, h6⟩ := h
  have hl : (T 0).ps = [] := by
    rcases h5 with ⟨h, _⟩ | ⟨_, h, _⟩
    · cases h
    · exact h
  refine (G_read h1 (sole2 h2.1 h2.2.1) 1 (by decide) p hm.1 (by omega) (free1 hl) 2 (by rw [h2.2.1]; rfl)).mono fun r w' ⟨a, n9, c9, a1, a2, a3⟩ => ⟨a, n9, c9, a1, a2, ?_⟩
  obtain ⟨gl, b1, b2, b3, b4, b5, b6⟩ := a3.out
  exact ⟨_, u, M + 1, la, lt, lo, T, b4, h2, ⟨h3.1, by omega, h3.2.2⟩, h4, h5, fun g hg => ⟨.inl (h6 g hg).1, b5.from (h6 g hg).2 (fun hn => hn (h6 g hg).1)⟩⟩
theorem s_write2 (h : Sw w0 m p o true k E w) (hm : Okm m p o) (cb : Nat) : Calls Tryz.prog 15 #[.pointer (some ⟨m.Q, 0, none⟩), .int .i64 2, .int .i64 (p : Int), .int .i64 (o : Int), .slice (some ⟨m.gb, m.ob, none⟩) m.nb cb] w fun r w' => r = .returned (.int .i64 61) ∧ w'.cell? ⟨m.B, 1, none⟩ = some (.pointer (some ⟨m.Q, 0, none⟩)) ∧ Hid (Sw w0 m p o true k E w') := by
  obtain ⟨K, u, M, la, lt, lo, T, h1, h2, h3, h4, h5, h6⟩ := h
  have hl : (T 0).ps = [p] := by
    rcases h5 with ⟨_, h, _⟩ | ⟨h, _⟩
    · exact h
    · cases h
  refine (G_write_no h1 (sole2 h2.1 h2.2.1) 1 (by decide) p hm.1 (held1 hl) o cb 2 (by rw [h2.2.1]; rfl)).mono fun r w' ⟨a1, a2, a3⟩ => ⟨a1, a2, ?_⟩
  exact ⟨K, u, M, la, lt, lo, T, a3.out.1, h2, h3, h4, h5, fun g hg => ⟨(h6 g hg).1, a3.out.2.from (h6 g hg).2 (fun hn => hn (h6 g hg).1)⟩⟩
theorem drop_0 : dropT T 0 0 = T 1 := rfl
set_option maxRecDepth 100000 in
theorem s_commit (h : Sw w0 m p o c k E w) (hm : Okm m p o) (hk : k ≤ 1000) : Calls Tryz.prog 20 #[.pointer (some ⟨m.Q, 0, none⟩), .int .i64 1] w fun r w' => r = .returned (.int .i64 0) ∧ w'.cell? ⟨m.B, 1, none⟩ = some (.pointer (some ⟨m.Q, 0, none⟩)) ∧ Hid (Sf w0 m p o true 2000 none w') := by
  obtain ⟨K, u, M, la, lt, lo, T, h1, h2, h3, h4, h5, h6⟩ := h
  have hs := sole2 h2.1 h2.2.1
  rcases h5 with ⟨_, hl, _⟩ | ⟨_, hl, _⟩
  · refine (G_commit h1 hs 0 (by decide) (by rw [hl]; exact Nat.zero_lt_one) (by omega) (by omega) (by omega) _ rfl 1 (by rw [h2.1]; rfl)).mono fun r w' ⟨a1, a2, a3⟩ => ⟨a1, a2, ?_⟩
    exact ⟨K, _, M, _, _, lo, _, a3.out, ⟨by rw [drop_0]; exact h2.2.1, by rw [drop_0]; exact h2.2.2⟩, by omega, fun j hj => by rw [if_pos rfl]; exact h4 j hj, fun g hg => by cases hg⟩
  · refine (G_commit_none h1 hs 0 (by decide) hl 1 (by rw [h2.1]; rfl)).mono fun r w' ⟨a1, a2, a3⟩ => ⟨a1, a2, ?_⟩
    exact ⟨K, _, M, _, _, lo, _, a3.out, ⟨by rw [drop_0]; exact h2.2.1, by rw [drop_0]; exact h2.2.2⟩, by omega, fun j hj => by rw [if_pos rfl]; exact h4 j hj, fun g hg => by cases hg⟩
set_option maxRecDepth 100000 in
theorem s_abort (h : Sw w0 m p o c k E w) (hm : Okm m p o) (hk : k ≤ 1000) : Calls Tryz.prog 16 #[.pointer (some ⟨m.Q, 0, none⟩), .int .i64 1] w fun r w' => r = .returned (.int .i64 0) ∧ w'.cell? ⟨m.B, 1, none⟩ = some (.pointer (some ⟨m.Q, 0, none⟩)) ∧ Hid (Sf w0 m p o false 2000 none w') := by
  obtain ⟨K, u, M, la, lt, lo, T, h1, h2, h3, h4, h5, h6⟩ := h
  have hs := sole2 h2.1 h2.2.1
  rcases h5 with ⟨_, hl, ah, be, hus, hz, hz2⟩ | ⟨_, hl, hz⟩
  · have hul : (T 0).us.length = 1 := by rw [hus]; rfl
    refine (G_abort h1 hs 0 (by decide) (by rw [hl]; exact Nat.zero_lt_one) (fun x hx => ?_) (by omega) (by omega) (by omega) 1 (by rw [h2.1]; rfl)).mono fun r w' ⟨a1, a2, a3⟩ => ⟨a1, a2, ?_⟩
    · rw [hus] at hx
      obtain rfl := List.mem_singleton.1 hx
      exact ⟨hm.1, by show o + ah.size ≤ 112; rw [hz]; exact hm.2.2.1, by show 0 < ah.size; rw [hz]; exact hm.2.1, by show 1 ≤ 1000000; decide⟩
    · obtain ⟨F, ⟨ln, hF⟩, h7⟩ := a3.out
      rw [hus] at hF
      have hF : Ts.step (T 0).no ⟨1, p, o, ah, be⟩ ⟨u, M, la, ln, lo, lt⟩ = F := hF
      subst hF
      refine ⟨K, _, M + 2, _, _, _, _, h7, ⟨by rw [drop_0]; exact h2.2.1, by rw [drop_0]; exact h2.2.2⟩, by omega, fun j hj => ?_, fun g hg => by cases hg⟩
      show upd lo p (ov (lo p) o ah.size (fn (strL ah))) p (o + j) = _
      unfold upd
      rw [if_pos rfl]
      unfold ov
      rw [if_pos ⟨by omega, by omega⟩, Nat.add_sub_cancel_left, hz2 j hj]
      rfl
  · refine (G_abort_none h1 hs 0 (by decide) hl 1 (by rw [h2.1]; rfl)).mono fun r w' ⟨a1, a2, a3⟩ => ⟨a1, a2, ?_⟩
    exact ⟨K, _, M, _, _, lo, _, a3.out, ⟨by rw [drop_0]; exact h2.2.1, by rw [drop_0]; exact h2.2.2⟩, by omega, fun j hj => by rw [h4 j hj, hz j hj]; rfl, fun g hg => by cases hg⟩
theorem s_read3 {b : Bool} (h : Sf w0 m p o b k none w) (hm : Okm m p o) (hk : k ≤ 10000) : Calls Tryz.prog 18 #[.pointer (some ⟨m.Q, 0, none⟩), .int .i64 2, .int .i64 (p : Int)] w fun r w' => ∃ a n9 c9, r = .returned (.tuple #[.slice a n9 c9, .int .i64 0]) ∧ w'.cell? ⟨m.B, 1, none⟩ = some (.pointer (some ⟨m.Q, 0, none⟩)) ∧ Hid (∃ gl, .slice a n9 c9 = Value.slice (some ⟨gl, 0, none⟩) 112 c9 ∧ 112 ≤ c9 ∧ c9 ≤ 9223372036854775807 ∧ Sf w0 m p o b (k + 1) (some gl) w') := by
  obtain ⟨K, u, M, la, lt, lo, T, h1, h2, h3, h4, h5⟩ := h
  refine (G_read h1 sole1 0 (by decide) p hm.1 (by omega) freeN 2 (by rw [h2.1]; rfl)).mono fun r w' ⟨a, n9, c9, a1, a2, a3⟩ => ⟨a, n9, c9, a1, a2, ?_⟩
  obtain ⟨gl, b1, b2, b3, b4, b5, b6⟩ := a3.out
  exact ⟨gl, b1, b2, b3, _, u, M + 1, la, lt, lo, T, b4, h2, by omega, h4, fun g hg => by injection hg with hg; subst hg; exact from_off b6 hm.2.2.1 h4⟩
/-- All is over. -/
def Sz (w0 : World) (m : Pm) (w : World) : Prop := ∃ K u M la lt lo T, Sg w0 m u M la lt 0 lo T K w
theorem Sz.below (h : Sz w0 m w) (hb : Below w.heap.size w w') : Sz w0 m w' := by
  obtain ⟨K, u, M, la, lt, lo, T, h⟩ := h
  exact ⟨K, u, M, la, lt, lo, T, h.below hb⟩
theorem Sz.bel (h : Sz w0 m w) : Below w0.heap.size w0 w := by
  obtain ⟨K, u, M, la, lt, lo, T, h⟩ := h
  exact h.2.2.2.2.2.2
theorem s_commit2 {b : Bool} (h : Sf w0 m p o b k E w) : Calls Tryz.prog 20 #[.pointer (some ⟨m.Q, 0, none⟩), .int .i64 2] w fun r w' => r = .returned (.int .i64 0) ∧ w'.cell? ⟨m.B, 1, none⟩ = some (.pointer (some ⟨m.Q, 0, none⟩)) ∧ Hid (Sz w0 m w') := by
  obtain ⟨K, u, M, la, lt, lo, T, h1, h2, h3, h4, h5⟩ := h
  refine (G_commit_none h1 sole1 0 (by decide) h2.2 2 (by rw [h2.1]; rfl)).mono fun r w' ⟨a1, a2, a3⟩ => ⟨a1, a2, ?_⟩
  exact ⟨K, u, M, la, lt, lo, _, a3.out⟩
theorem s_commit3 (h : Sz w0 m w) : Calls Tryz.prog 20 #[.pointer (some ⟨m.Q, 0, none⟩), .int .i64 2] w fun r w' => r = .returned (.int .i64 60) ∧ w'.cell? ⟨m.B, 1, none⟩ = some (.pointer (some ⟨m.Q, 0, none⟩)) ∧ Hid (Sz w0 m w') := by
  obtain ⟨K, u, M, la, lt, lo, T, h⟩ := h
  exact (G_commit_no h 2 (fun j hj => absurd hj (by omega))).mono fun r w' ⟨a1, a2, a3⟩ => ⟨a1, a2, K, u, M, la, lt, lo, T, a3.out⟩
end Go.Proofs.YthfokciijcmhbaaGreatDoor
