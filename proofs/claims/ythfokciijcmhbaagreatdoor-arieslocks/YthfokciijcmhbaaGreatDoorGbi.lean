/-
  A manager's change: a record, and its page as the record says.
  Get, for a manager: the load is a copy that lies in no block of the pool's; state.read.
  A manager's change, with what it writes told since any world.
-/
import Derived.Test.YthfokciijcmhbaaGreatDoorGbh
import Derived.Lib.LazyBuf
namespace Go.Proofs.YthfokciijcmhbaaGreatDoor
open Go.RowKit
set_option linter.unusedVariables false

theorem own_setCells {B g n cap : Nat} : ∀ (ys : List Int) (o : Nat) (F : Nat → Int) (w : World), Own w B (.slice (some ⟨g, 0, none⟩) n cap) (lst F n) → o + ys.length ≤ n → Own (w.setCells g o (ys.map (Value.int .u8))) B (.slice (some ⟨g, 0, none⟩) n cap) (lst (ov F o ys.length (fn ys)) n) ∧ Part (fun b => b = g) w (w.setCells g o (ys.map (Value.int .u8)))
  | [], o, F, w, h, _ => by
    have e : ov F o 0 (fn []) = F := by
      funext i
      unfold ov
      rw [if_neg (by omega)]
    exact ⟨by rw [show ([] : List Int).length = 0 from rfl, e]; exact h, Part.refl _ _⟩
  | y :: r, o, F, w, h, hn => by
    have hn' : o + (r.length + 1) ≤ n := hn
    obtain ⟨h1, h2⟩ := own_setCells r (o + 1) _ _ (h.set o (by omega) y) (by omega)
    have e : ov (fun i => if i = o then y else F i) (o + 1) r.length (fn r) = ov F o (y :: r).length (fn (y :: r)) := by
      funext i
      unfold ov
      have hl : (y :: r).length = r.length + 1 := rfl
      rw [hl]
      by_cases h1 : o + 1 ≤ i ∧ i < o + 1 + r.length
      · rw [if_pos h1, if_pos (by omega)]
        obtain ⟨j, hj⟩ : ∃ j, i - o = j + 1 := ⟨i - o - 1, by omega⟩
        rw [hj, show i - (o + 1) = j by omega]
        rfl
      · rw [if_neg h1]
        show (if i = o then y else F i) = _
        by_cases h2 : i = o
        · rw [if_pos h2, if_pos (by omega), h2, Nat.sub_self]
          rfl
        · rw [if_neg h2, if_neg (by omega)]
    rw [e] at h1
    exact ⟨h1, ((Part.refl (fun b => b = g) w).setCell (p := ⟨g, o, none⟩) (fun _ => rfl) _).trans h2 (fun _ _ h => h)⟩
theorem strL_map (s : ByteArray) : (strL s).map (Value.int .u8) = s.data.toList.map (fun x => Value.int .u8 (x.toNat : Int)) := by
  unfold strL
  rw [List.map_map]
  rfl
variable {B0 : Nat} {A : Ax} {P P' : Nat → Prop} {w w' w1 w2 : World} {Z S D L bf n M la fo lt N : Nat} {g : Int} {X : Nat → Bf} {e : Nat → Int} {ln : Nat → Nat} {lo : Nat → Nat → Int} {T : Nat → Tr}
/-- Bytes of one's own that lie in none of the pool's blocks are written by no manager's call. -/
theorem free5 {b : Nat} {cs : Array Value} {t : TypeId} (hP : ¬ P b) (he : w.heap[b]? = some (.cells cs t (0, 0))) (ht : t ≠ 166 ∧ t ≠ 170 ∧ t ≠ 88 ∧ t ≠ 95 ∧ t ≠ 92 ∧ t ≠ 3 ∧ t ≠ 163) : ¬ Fm B0 P w b := fun hf => by
  rcases hf with (hf | ⟨_, cs', t', fz, e, h⟩) | ⟨_, _, cs', t', e, h⟩
  · exact hP hf
  · rw [he] at e
    injection e with e
    injection e with _ e
    subst e
    rcases h with h | h
    · exact ht.1 h
    · exact ht.2.1 h
  · rw [he] at e
    injection e with e
    injection e with _ e
    subst e
    rcases h with h | h | h | h | h
    · exact ht.2.2.1 h
    · exact ht.2.2.2.1 h
    · exact ht.2.2.2.2.1 h
    · exact ht.2.2.2.2.2.1 h
    · exact ht.2.2.2.2.2.2 h
/-- What a call leaves that changed a page. -/
def Chg (B0 : Nat) (A : Ax) (w : World) (P : Nat → Prop) (Z S : Nat) (g : Int) (D L bf M la fo : Nat) (ln : Nat → Nat) (lo : Nat → Nat → Int) (lt N : Nat) (T : Nat → Tr) (w' : World) : Prop := ∃ n' X' e' fo', Ntd B0 A w P Z S g D L bf n' X' M e' la fo' ln lo lt N T w' ∧ fo ≤ fo'
theorem p_putM (k : Mg B0 A w P Z S g D L bf n X M e la fo ln lo lt N T) (p gl c : Nat) (f : Nat → Int) (hp : p < 6) (hl : 1 ≤ la ∧ la ≤ 4611686018427387904) (ho : Own w 0 (.slice (some ⟨gl, 0, none⟩) 112 c) (lst f 112)) (hgP : ¬ P gl) (hby : ∀ i, 0 ≤ f i ∧ f i ≤ 255) (hM : M ≤ 1000000) (hbf : 0 < bf) (x : Int) (hx : x = (la : Int)) : Calls Tryz.prog 85 #[.pointer (some ⟨S + 1, 0, none⟩), .int .i64 (p : Int), .int .i64 x, .slice (some ⟨gl, 0, none⟩) 112 c] w fun r w' => r = .returned (.int .i64 0) ∧ Hid (Chg B0 A w P Z S g D L bf (M + 1) la fo (upd ln p la) (upd lo p f) lt N T w') := by
  subst hx
  obtain ⟨cur, he⟩ := row_block ho (k := gl) rfl
  refine (p_putW k.pw p la hp hl (fun _ => Nat.le_refl _) (some ⟨gl, 0, none⟩) c f (.inr ⟨_, rfl, fun j hj => World.ownsRow.cells (g := gl) ho rfl j (.int .u8 (f j)) (by rw [List.getElem?_map, lst_get _ 112 j hj]; rfl)⟩) (fun y hy => by
    injection hy with hy
    rw [← hy]
    exact fun hf => free5 (B0 := B0) hgP he ⟨by decide, by decide, by decide, by decide, by decide, by decide, by decide⟩ (.inl hf)) hby hM hbf (fun wr h0 kr => s_saveG kr 0 h0 hM)).mono fun r w' ⟨hr, HE⟩ => ?_
  obtain ⟨n', X', P', e', fo', j1, j2, j3, j4, _⟩ := HE.out
  exact ⟨hr, n', X', e', fo', ⟨P', ⟨j1, k.mt.called j3 j4⟩, Fm.pool j3, j4⟩, j2⟩
theorem Chg.of {v : World} {ln' : Nat → Nat} {lo' : Nat → Nat → Int} (h : Ntd B0 A w P Z S g D L bf n X M e la fo ln lo lt N T v) (h2 : ∀ P', Mg B0 A v P' Z S g D L bf n X M e la fo ln lo lt N T → (∀ b, P' b → P b ∨ w.heap.size ≤ b) → Chg B0 A v P' Z S g D L bf (M + 1) la fo ln' lo' lt N T w') : Chg B0 A w P Z S g D L bf (M + 1) la fo ln' lo' lt N T w' := by
  obtain ⟨P', k1, k2, k3⟩ := h
  obtain ⟨n', X', e', fo', ⟨P2, j1, j2, j3⟩, j4⟩ := h2 P' k1 k3
  have := k2.size
  exact ⟨n', X', e', fo', ⟨P2, j1, Fm.trans k2 k3 j2, fun b hb => by
    rcases j3 b hb with h | h
    · exact k3 b h
    · exact .inr (by omega)⟩, j4⟩
theorem size5w (w : World) : (Go.sizeOf 5).run Tryz.prog w = .ok 1 w := by kernel_rfl
/-- A manager under way since a world w0; Q: blocks that are none of the pool's. -/
def Rn (B0 : Nat) (A : Ax) (w0 : World) (P0 Q : Nat → Prop) (Z S : Nat) (g : Int) (D L bf n : Nat) (X : Nat → Bf) (M : Nat) (e : Nat → Int) (la fo : Nat) (ln : Nat → Nat) (lo : Nat → Nat → Int) (lt N : Nat) (T : Nat → Tr) (w : World) : Prop := ∃ P', Mg B0 A w P' Z S g D L bf n X M e la fo ln lo lt N T ∧ Part (Fm B0 P0 w0) w0 w ∧ (∀ b, P' b → P0 b ∨ w0.heap.size ≤ b) ∧ ∀ b, Q b → ¬ P' b
/-- What writes just the slice's block leaves the manager. -/
theorem Rn.written {w0 : World} {P0 Q : Nat → Prop} {gl c : Nat} {f : Nat → Int} (h : Rn B0 A w0 P0 Q Z S g D L bf n X M e la fo ln lo lt N T w) (hg : w0.heap.size ≤ gl) (ho : Own w 0 (.slice (some ⟨gl, 0, none⟩) 112 c) (lst f 112)) (hX : ∀ j, j < n → (X j).ld.ownBlock ≠ some gl) (hQ : Q gl) (hp : Part (fun b => b = gl) w w') : Rn B0 A w0 P0 Q Z S g D L bf n X M e la fo ln lo lt N T w' := by
  obtain ⟨P', j1, j2, j3, j4⟩ := h
  obtain ⟨cq, hqe⟩ := row_block ho (k := gl) rfl
  have tyg : ∀ b cs ty, w.heap[b]? = some (.cells cs ty (0, 0)) → b = gl → ty = 5 := fun b cs ty e9 e8 => by
    rw [e8, hqe] at e9
    injection e9 with e9
    injection e9 with _ e9
    exact e9.symm
  obtain ⟨T0, F0, vt0, _, s2, _⟩ := j1.pw.lay
  obtain ⟨q9, place, tl, f9, g1, _⟩ := s2.lay
  have htb : ¬ (0 = gl) := fun e8 => by
    have t0 := (congrArg (fun b => w.cell? ⟨b, 0, none⟩) e8).symm.trans (j1.pw.tab 0 (by decide))
    have h0 := World.ownsRow.cells (g := gl) ho rfl 0 (.int .u8 (f 0)) (by rw [List.getElem?_map, lst_get _ 112 0 (by decide)]; rfl)
    rw [Addr.add_lit, Nat.zero_add] at h0
    have t1 := h0.symm.trans t0
    injection t1 with t1
    injection t1 with t1
    exact absurd t1 (by decide)
  refine ⟨P', ⟨j1.pw.part hp (fun b hb e8 => j4 gl hQ (by have e8 : b = gl := e8; rw [← e8]; exact hb)) ⟨htb, fun e8 => absurd (tyg _ _ _ j1.pw.pl e8) (by decide), fun e8 => absurd (tyg _ _ _ g1.hL e8) (by decide)⟩ (fun b cs ty hb e9 => by rw [tyg b cs ty e9 hb]; exact ⟨by decide, by decide⟩) (fun j b hj hb e8 => hX j hj (by have e8 : b = gl := e8; rw [← e8]; exact hb)), j1.mt.part hp (fun b ⟨_, _, cs, ty, e9, h9⟩ e8 => by
    have := tyg b cs ty e9 e8
    subst this
    rcases h9 with h | h | h | h | h <;> exact absurd h (by decide)) (fun b h => .inl h)⟩, j2.trans hp (fun b hb e8 => by have e8 : b = gl := e8; omega), j3, j4⟩
theorem Rn.below {w0 : World} {P0 Q : Nat → Prop} (h : Rn B0 A w0 P0 Q Z S g D L bf n X M e la fo ln lo lt N T w) (hb : Below w.heap.size w w') : Rn B0 A w0 P0 Q Z S g D L bf n X M e la fo ln lo lt N T w' := by
  obtain ⟨P', j1, j2, j3, j4⟩ := h
  exact ⟨P', j1.below hb, Fm.trans j2 j3 (Part.ofBelow hb), j3, j4⟩
set_option maxRecDepth 100000 in
set_option maxHeartbeats 4000000 in
theorem m_change {w0 : World} {P0 : Nat → Prop} {gl : Nat} (hR : Rn B0 A w0 P0 (fun b => b = gl) Z S g D L bf n X M e la fo ln lo lt N T w) (hg0 : w0.heap.size ≤ gl) (hX : ∀ j, j < n → (X j).ld.ownBlock ≠ some gl) (hla : la ≤ 1000000) (hM : M ≤ 1000000) (hbf : 0 < bf) (K nm : Int) (t p o : Nat) (ah be : ByteArray) (ht : t ≤ 1099511627776) (hp : p < 6) (hob : o + be.size ≤ 112) (hbe : 0 < be.size) (xs : List Int) (hx1 : 0 < xs.length) (hx2 : xs.length ≤ 2000) (hxb : ∀ x ∈ xs, 0 ≤ x ∧ x ≤ 255) (hu : A.u + (putB xs.length).length + xs.length ≤ 4480) (c : Nat) (f : Nat → Int) (ho : Own w 0 (.slice (some ⟨gl, 0, none⟩) 112 c) (lst f 112)) (hby : ∀ i, 0 ≤ f i ∧ f i ≤ 255)
    (hE : ∀ wq, Calls Tryz.prog 84 #[.agg #[.int .i64 K, .int .i64 (t : Int), .int .i64 (p : Int), .int .i64 (o : Int), .string ah, .string be, .int .i64 nm]] wq fun r w' => ∃ a n c, r = .returned (.slice a n c) ∧ Below wq.heap.size wq w' ∧ Hid (Bs wq.heap.size w' (.slice a n c) xs)) :
    Calls Tryz.prog 54 #[.pointer (some ⟨Z, 0, none⟩), .slice (some ⟨gl, 0, none⟩) 112 c, .agg #[.int .i64 K, .int .i64 (t : Int), .int .i64 (p : Int), .int .i64 (o : Int), .string ah, .string be, .int .i64 nm]] w fun r w' => r = .returned (.tuple #[.int .i64 ((la + 1 : Nat) : Int), .int .i64 0]) ∧ Hid (Chg B0 ⟨A.al, A.u + (putB xs.length).length + xs.length⟩ w0 P0 Z S g D L bf (M + 1) (la + 1) fo (upd ln p (la + 1)) (upd lo p (ov f o be.size (fn (strL be)))) (max lt t) N T w') := by
  obtain ⟨ob, hO⟩ : ∃ ob, Obj.cells #[.int .i64 K, .int .i64 (t : Int), .int .i64 (p : Int), .int .i64 (o : Int), .string ah, .string be, .int .i64 nm] 114 = ob := ⟨_, rfl⟩
  obtain ⟨W0, hW⟩ : ∃ W0, w.alloc ob = W0 := ⟨_, rfl⟩
  obtain ⟨B, hB⟩ : ∃ B, w.heap.size = B := ⟨_, rfl⟩
  have hb0 : Below w.heap.size w W0 := by rw [← hW]; exact (Below.refl _ w).alloc (Nat.le_refl _) ob
  have h00 : W0.heap[B]? = some (.cells #[.int .i64 K, .int .i64 (t : Int), .int .i64 (p : Int), .int .i64 (o : Int), .string ah, .string be, .int .i64 nm] 114 (0, 0)) := by rw [← hW, ← hO]; exact heap_alloc_at _ _ _ hB.symm
  obtain ⟨cg, hge⟩ := row_block ho (k := gl) rfl
  have hgl := (Array.getElem?_eq_some_iff.1 hge).1
  have hc112 : 112 ≤ c ∧ c ≤ 9223372036854775807 := by
    obtain ⟨g9, c9, e9, _, _, _, h1, h2⟩ := own_some ho (by decide)
    injection e9 with _ _ e9
    subst e9
    exact ⟨h1, h2⟩
  have hs0 := hb0.size
  have hL : (strL be).length = be.size := strL_length be
  -- behind the note
  have HN : Hid (Calls Tryz.prog 62 #[.pointer (some ⟨Z, 0, none⟩), .agg #[.int .i64 K, .int .i64 (t : Int), .int .i64 (p : Int), .int .i64 (o : Int), .string ah, .string be, .int .i64 nm]] W0 fun r w' => r = .returned (.tuple #[.int .i64 ((la + 1 : Nat) : Int), .int .i64 0]) ∧ Hid (w'.heap[B]? = some (.cells #[.int .i64 K, .int .i64 (t : Int), .int .i64 (p : Int), .int .i64 (o : Int), .string ah, .string be, .int .i64 nm] 114 (0, 0)) ∧ Own w' 0 (.slice (some ⟨gl, 0, none⟩) 112 c) (lst f 112) ∧ Rn B0 ⟨A.al, A.u + (putB xs.length).length + xs.length⟩ w0 P0 (fun b => b = gl ∨ b = B) Z S g D L bf n X M e (la + 1) fo ln lo (max lt t) N T w')) := by
    obtain ⟨P, k, r2, r3, r4⟩ := hR
    have hlt := k.pw.lt
    have k0 := k.below hb0
    refine (m_note k0 hla K p o nm t ah be ht xs hx1 hx2 hxb hu hE).mono fun r w' ⟨hr, HE⟩ => ?_
    obtain ⟨P', j1, j2, j3⟩ := HE.out
    have nB : ¬ Fm B0 P W0 B := free5 (fun h => by have := hlt B h; omega) h00 ⟨by decide, by decide, by decide, by decide, by decide, by decide, by decide⟩
    have h1 := ho.below hb0 (Nat.le_refl _)
    have ng : ¬ Fm B0 P W0 gl := free5 (r4 _ rfl) ((hb0.block gl hgl).trans hge) ⟨by decide, by decide, by decide, by decide, by decide, by decide, by decide⟩
    have h2s := r2.size
    exact ⟨hr, (j2.block B (Array.getElem?_eq_some_iff.1 h00).1 nB).trans h00, j2.row h1 (fun b hb => by injection hb with hb; rw [← hb]; exact ng), P', j1, Fm.trans (Fm.trans r2 r3 (Part.ofBelow (F := Fm B0 P w) hb0)) r3 j2, fun b hb => by
      rcases j3 b hb with h | h
      · exact r3 b h
      · exact .inr (by omega), fun b hb h => by
      have hBW : B < W0.heap.size := (Array.getElem?_eq_some_iff.1 h00).1
      rcases j3 b h with h | h
      · rcases hb with rfl | rfl
        · exact r4 _ rfl h
        · have := hlt _ h; omega
      · rcases hb with rfl | rfl <;> omega⟩
  have HCp : Hid (∀ v, (v.heap[B]? = some (.cells #[.int .i64 K, .int .i64 (t : Int), .int .i64 (p : Int), .int .i64 (o : Int), .string ah, .string be, .int .i64 nm] 114 (0, 0)) ∧ Own v 0 (.slice (some ⟨gl, 0, none⟩) 112 c) (lst f 112) ∧ Rn B0 ⟨A.al, A.u + (putB xs.length).length + xs.length⟩ w0 P0 (fun b => b = gl ∨ b = B) Z S g D L bf n X M e (la + 1) fo ln lo (max lt t) N T v) → ∀ wq, Below v.heap.size v wq → (∀ j, j < be.size → (wq.cell? ⟨gl, o + j, none⟩).isSome = true) ∧ (∀ j, j < be.size → wq.frozen? ⟨gl, o + j, none⟩ = false) ∧ ∀ v3, wq.setCells gl o (be.data.toList.map fun x => Value.int .u8 (x.toNat : Int)) = v3 → (v3.cell? ⟨B, 3, none⟩ = some (.int .i64 (o : Int)) ∧ v3.cell? ⟨B, 5, none⟩ = some (.string be)) ∧ Hid (v3.heap[B]? = some (.cells #[.int .i64 K, .int .i64 (t : Int), .int .i64 (p : Int), .int .i64 (o : Int), .string ah, .string be, .int .i64 nm] 114 (0, 0)) ∧ Own v3 0 (.slice (some ⟨gl, 0, none⟩) 112 c) (lst (ov f o be.size (fn (strL be))) 112) ∧ Rn B0 ⟨A.al, A.u + (putB xs.length).length + xs.length⟩ w0 P0 (fun b => b = gl ∨ b = B) Z S g D L bf n X M e (la + 1) fo ln lo (max lt t) N T v3)) := fun v ⟨hvB, hvo, hvN⟩ wq hq => by
    have hBl := (Array.getElem?_eq_some_iff.1 hvB).1
    have hqB := (hq.block B hBl).trans hvB
    have hqo := hvo.below hq (Nat.le_refl _)
    have hqN := hvN.below hq
    obtain ⟨cq, hqe⟩ := row_block hqo (k := gl) rfl
    refine ⟨fun j hj => ?_, fun j hj => cells_free hqe _, fun v3 h3 => ?_⟩
    · have := World.ownsRow.cells (g := gl) hqo rfl (o + j) (.int .u8 (f (o + j))) (by rw [List.getElem?_map, lst_get _ 112 (o + j) (by omega)]; rfl)
      rw [Addr.add_lit, Nat.zero_add] at this
      rw [this]
      rfl
    · rw [← strL_map] at h3
      obtain ⟨q1, q2⟩ := own_setCells (strL be) o f wq hqo (by omega)
      rw [h3, hL] at q1
      rw [h3] at q2
      have nB : B ≠ gl := fun e9 => by
        rw [e9, hqe] at hqB
        injection hqB with hqB
        injection hqB with _ hqB
        exact absurd hqB (by decide)
      have e3 := (q2.block B (by have := hq.size; omega) nB).trans hqB
      exact ⟨⟨by rw [cells_at e3 3]; rfl, by rw [cells_at e3 5]; rfl⟩, e3, q1, hqN.written hg0 hqo hX (.inl rfl) q2⟩
  have HBx : Hid (∀ v, v.heap[B]? = some (.cells #[.int .i64 K, .int .i64 (t : Int), .int .i64 (p : Int), .int .i64 (o : Int), .string ah, .string be, .int .i64 nm] 114 (0, 0)) → ∀ wq, Below v.heap.size v wq → wq.cell? ⟨B, 3, none⟩ = some (.int .i64 (o : Int)) ∧ wq.cell? ⟨B, 5, none⟩ = some (.string be)) := fun v hv wq hq => by
    have e3 := (hq.block B (Array.getElem?_eq_some_iff.1 hv).1).trans hv
    exact ⟨by rw [cells_at e3 3]; rfl, by rw [cells_at e3 5]; rfl⟩
  have HP : Hid (∀ v, (v.heap[B]? = some (.cells #[.int .i64 K, .int .i64 (t : Int), .int .i64 (p : Int), .int .i64 (o : Int), .string ah, .string be, .int .i64 nm] 114 (0, 0)) ∧ Own v 0 (.slice (some ⟨gl, 0, none⟩) 112 c) (lst (ov f o be.size (fn (strL be))) 112) ∧ Rn B0 ⟨A.al, A.u + (putB xs.length).length + xs.length⟩ w0 P0 (fun b => b = gl ∨ b = B) Z S g D L bf n X M e (la + 1) fo ln lo (max lt t) N T v) → ∀ wq, Below v.heap.size v wq → (wq.cell? ⟨Z, 2, none⟩ = some (.pointer (some ⟨S + 1, 0, none⟩)) ∧ wq.cell? ⟨B, 2, none⟩ = some (.int .i64 (p : Int))) ∧ Hid (∀ x, x = ((la + 1 : Nat) : Int) → Calls Tryz.prog 85 #[.pointer (some ⟨S + 1, 0, none⟩), .int .i64 (p : Int), .int .i64 x, .slice (some ⟨gl, 0, none⟩) 112 c] wq fun r w' => r = .returned (.int .i64 0) ∧ (w'.cell? ⟨Z, 2, none⟩ = some (.pointer (some ⟨S + 1, 0, none⟩)) ∧ w'.cell? ⟨B, 2, none⟩ = some (.int .i64 (p : Int))) ∧ Hid (Chg B0 ⟨A.al, A.u + (putB xs.length).length + xs.length⟩ w0 P0 Z S g D L bf (M + 1) (la + 1) fo (upd ln p (la + 1)) (upd lo p (ov f o be.size (fn (strL be)))) (max lt t) N T w'))) := fun v ⟨hvB, hvo, hvN⟩ wq hq => by
    have hBl := (Array.getElem?_eq_some_iff.1 hvB).1
    have hqB := (hq.block B hBl).trans hvB
    have hqo := hvo.below hq (Nat.le_refl _)
    obtain ⟨P', j1, j2, j3, j4⟩ := hvN.below hq
    obtain ⟨a9, c9, ⟨_, z2, _⟩, _⟩ := j1.mt.cells
    have hPB : ¬ P' B := j4 B (.inr rfl)
    refine ⟨⟨z2, by rw [cells_at hqB 2]; rfl⟩, fun x hx => (p_putM j1 p gl c _ hp ⟨by omega, by omega⟩ hqo (j4 gl (.inl rfl)) (ov_by hby (fn_by (strL_by be)) _ _) hM hbf x hx).mono fun r w' ⟨hr, HE⟩ => ?_⟩
    obtain ⟨n', X', e', fo', ⟨P2, i1, i2, i3⟩, i4⟩ := HE.out
    obtain ⟨a8, c8, ⟨_, y2, _⟩, _⟩ := i1.mt.cells
    have nB : ¬ Fm B0 P' wq B := free5 hPB hqB ⟨by decide, by decide, by decide, by decide, by decide, by decide, by decide⟩
    have e3 := (i2.block B (Array.getElem?_eq_some_iff.1 hqB).1 nB).trans hqB
    have h2s := j2.size
    exact ⟨hr, ⟨y2, by rw [cells_at e3 2]; rfl⟩, n', X', e', fo', ⟨P2, i1, Fm.trans j2 j3 i2, fun b hb => by
      rcases i3 b hb with h | h
      · exact j3 b h
      · exact .inr (by omega)⟩, i4⟩
  have hsz5 := size5w
  have h112 : (0 : Int) ≤ (o : Int) := by omega
  have h113 : (o : Int) ≤ 112 := by omega
  have h114 : (112 : Int) ≤ (c : Int) := by omega
  have e115 : (112 : Int) - (o : Int) = ((112 - o : Nat) : Int) := by omega
  have hbs : be.size ≤ 112 - o := by omega
  have hco : (c = o) = False := eq_false (by omega)
  have HW0 : Hid (W0.heap[B]? = some (.cells #[.int .i64 K, .int .i64 (t : Int), .int .i64 (p : Int), .int .i64 (o : Int), .string ah, .string be, .int .i64 nm] 114 (0, 0))) := h00
  have HLa : Hid (∀ v : World, v.heap[B]? = some (.cells #[.int .i64 K, .int .i64 (t : Int), .int .i64 (p : Int), .int .i64 (o : Int), .string ah, .string be, .int .i64 nm] 114 (0, 0)) → v.cell? ⟨B, 0, none⟩ = some (.int .i64 K) ∧ v.cell? ⟨B, 1, none⟩ = some (.int .i64 (t : Int)) ∧ v.cell? ⟨B, 2, none⟩ = some (.int .i64 (p : Int)) ∧ v.cell? ⟨B, 3, none⟩ = some (.int .i64 (o : Int)) ∧ v.cell? ⟨B, 4, none⟩ = some (.string ah) ∧ v.cell? ⟨B, 5, none⟩ = some (.string be) ∧ v.cell? ⟨B, 6, none⟩ = some (.int .i64 nm)) := fun v e => ⟨by rw [cells_at e 0]; rfl, by rw [cells_at e 1]; rfl, by rw [cells_at e 2]; rfl, by rw [cells_at e 3]; rfl, by rw [cells_at e 4]; rfl, by rw [cells_at e 5]; rfl, by rw [cells_at e 6]; rfl⟩
  obtain ⟨y0, y1, y2, y3, y4, y5, y6⟩ := HLa.out W0 HW0.out
  clear hR hX hg0 hE hxb hu hby ho h00 hge hgl hb0 hs0 hL hc112 HLa HW0
  go_enter Tryz.func54, Tryz.ntmps54
  go_wp2_with fail
  try rw [hO]
  try rw [hW]
  try rw [hB]
  refine HN.out.mono ?_
  rintro r v1 ⟨rfl, HV⟩
  clear y0 y1 y2 y3 y4 y5 y6 HN
  have b1 : Below v1.heap.size v1 v1 := Below.refl _ _
  have HS1 : Hid (∀ wq, Below v1.heap.size v1 wq → wq.cell? ⟨B, 3, none⟩ = some (.int .i64 (o : Int)) ∧ wq.cell? ⟨B, 5, none⟩ = some (.string be)) := HBx.out v1 HV.out.1
  have HC1 : Hid (∀ wq, Below v1.heap.size v1 wq → (∀ j, j < be.size → (wq.cell? ⟨gl, o + j, none⟩).isSome = true) ∧ (∀ j, j < be.size → wq.frozen? ⟨gl, o + j, none⟩ = false) ∧ ∀ v3, wq.setCells gl o (be.data.toList.map fun x => Value.int .u8 (x.toNat : Int)) = v3 → (v3.cell? ⟨B, 3, none⟩ = some (.int .i64 (o : Int)) ∧ v3.cell? ⟨B, 5, none⟩ = some (.string be)) ∧ Hid (v3.heap[B]? = some (.cells #[.int .i64 K, .int .i64 (t : Int), .int .i64 (p : Int), .int .i64 (o : Int), .string ah, .string be, .int .i64 nm] 114 (0, 0)) ∧ Own v3 0 (.slice (some ⟨gl, 0, none⟩) 112 c) (lst (ov f o be.size (fn (strL be))) 112) ∧ Rn B0 ⟨A.al, A.u + (putB xs.length).length + xs.length⟩ w0 P0 (fun b => b = gl ∨ b = B) Z S g D L bf n X M e (la + 1) fo ln lo (max lt t) N T v3)) := HCp.out v1 HV.out
  obtain ⟨x3, x5⟩ := HS1.out v1 b1
  clear HCp HBx HV
  go_wp2_with fail
  go_region_held2 (fun wq => wq.cell? ⟨B, 3, none⟩ = some (.int .i64 (o : Int)) ∧ wq.cell? ⟨B, 5, none⟩ = some (.string be))
    (first | assumption | exact HS1.out _ (by assumption) | exact HS1.out _ (blw_drewN 1 (by assumption)) | go_keep)
    (first
      | (refine step_copy_string rfl _ _ 47 9 rfl 5 Tryz.underlying47 hsz5 gl o (112 - o) (c - o) (by go_simp) be (by go_simp) hbs (HC1.out _ (by first | exact b1 | exact blw_drewN 1 b1)).1 (HC1.out _ (by first | exact b1 | exact blw_drewN 1 b1)).2.1 ?_; generalize hv3 : World.setCells _ gl o _ = v3; obtain ⟨hS3, HV3⟩ := (HC1.out _ (by first | exact b1 | exact blw_drewN 1 b1)).2.2 v3 hv3; clear hv3))
  have HP3 : Hid (∀ wq, Below v3.heap.size v3 wq → (wq.cell? ⟨Z, 2, none⟩ = some (.pointer (some ⟨S + 1, 0, none⟩)) ∧ wq.cell? ⟨B, 2, none⟩ = some (.int .i64 (p : Int))) ∧ Hid (∀ x, x = ((la + 1 : Nat) : Int) → Calls Tryz.prog 85 #[.pointer (some ⟨S + 1, 0, none⟩), .int .i64 (p : Int), .int .i64 x, .slice (some ⟨gl, 0, none⟩) 112 c] wq fun r w' => r = .returned (.int .i64 0) ∧ (w'.cell? ⟨Z, 2, none⟩ = some (.pointer (some ⟨S + 1, 0, none⟩)) ∧ w'.cell? ⟨B, 2, none⟩ = some (.int .i64 (p : Int))) ∧ Hid (Chg B0 ⟨A.al, A.u + (putB xs.length).length + xs.length⟩ w0 P0 Z S g D L bf (M + 1) (la + 1) fo (upd ln p (la + 1)) (upd lo p (ov f o be.size (fn (strL be)))) (max lt t) N T w'))) := HP.out v3 HV3.out
  have b3 : Below v3.heap.size v3 v3 := Below.refl _ _
  obtain ⟨z2, y2⟩ := (HP3.out v3 b3).1
  have HZ : Hid (∀ wq, Below v3.heap.size v3 wq → wq.cell? ⟨Z, 2, none⟩ = some (.pointer (some ⟨S + 1, 0, none⟩)) ∧ wq.cell? ⟨B, 2, none⟩ = some (.int .i64 (p : Int))) := fun wq hq => (HP3.out wq hq).1
  clear HC1 HS1 HP HV3 hS3 x3 x5 b1 hco
  have hp1 : (p : Int) < 6 := by omega
  have hp0 : (0 : Int) ≤ (p : Int) := by omega
  go_wp2_with fail
  go_region_held2 (fun wq => wq.cell? ⟨Z, 2, none⟩ = some (.pointer (some ⟨S + 1, 0, none⟩)) ∧ wq.cell? ⟨B, 2, none⟩ = some (.int .i64 (p : Int)))
    (first | assumption | exact HZ.out _ (by assumption) | exact HZ.out _ (blw_drewN 1 (by assumption)) | go_keep)
    (first
      | (go_at_call 85; refine ((HP3.out _ (by first | exact b3 | exact blw_drewN 1 b3)).2.out _ (by first | rfl | omega)).mono ?_; rintro e' v4 ⟨rfl, hS4, HG⟩))
  clear HP3 HZ z2 y2 hS4
  go_wp2
  go_ret2
  exact ⟨rfl, HG⟩
end Go.Proofs.YthfokciijcmhbaaGreatDoor

namespace Go.Proofs.YthfokciijcmhbaaGreatDoor
open Go.RowKit
set_option linter.unusedVariables false

section
variable {B0 : Nat} {A : Ax} {w w1 : World} {P : Nat → Prop} {S D L bf n M last forced : Nat} {m : Int} {X : Nat → Bf} {e : Nat → Int} {ln : Nat → Nat} {lo : Nat → Nat → Int}
/-- What Get leaves. -/
def Gtd (B0 : Nat) (A : Ax) (w : World) (P : Nat → Prop) (S : Nat) (m : Int) (D L bf M last forced : Nat) (ln : Nat → Nat) (lo : Nat → Nat → Int) (z g c : Nat) (w' : World) : Prop := ∃ n' X' P' e' fo', Pw B0 A w' P' S m D L bf n' X' M e' last fo' ln lo ∧ forced ≤ fo' ∧ Part (Fw B0 P w) w w' ∧ (∀ b, P' b → P b ∨ w.heap.size ≤ b) ∧ w.heap.size ≤ g ∧ ¬ P' g ∧ Own w' 0 (.slice (some ⟨g, 0, none⟩) 112 c) (lst (lo z) 112) ∧ ∀ j, j < n' → (X' j).ld.ownBlock ≠ some g
set_option maxRecDepth 100000 in
set_option maxHeartbeats 2000000 in
theorem p_getF (k : Pw B0 A w P S 0 D L bf n X M e last forced ln lo) (z : Nat) (hz : z < 6) (hM : M ≤ 1000000) (hbf : 0 < bf) : Calls Tryz.prog 61 #[.pointer (some ⟨S + 1, 0, none⟩), .int .i64 (z : Int)] w fun r w' => ∃ g c, r = .returned (.tuple #[.slice (some ⟨g, 0, none⟩) 112 c, .int .i64 (ln z : Int), .int .i64 0]) ∧ Hid (Gtd B0 A w P S 0 D L bf (M + 1) last forced ln lo z g c w') := by
  have HM : Hid (Calls Tryz.prog 89 #[.pointer (some ⟨S + 1, 0, none⟩)] w fun r w' => r = .returned (.bool false) ∧ w' = w) := pw_missing k
  have HL : Hid (Calls Tryz.prog 31 #[.pointer (some ⟨S, 0, none⟩)] w fun r w' => r = .returned (.tuple #[]) ∧ Hid (Pw B0 A w' P S 1 D L bf n X M e last forced ln lo ∧ Part (fun b => b = S) w w')) := pw_lock k
  have c0 := k.cells
  have hSl := k.ps.lt
  have HC : Hid (∀ wq, Pw B0 A wq P S 1 D L bf n X M e last forced ln lo ∧ Part (fun b => b = S) w wq → wq.cell? ⟨S + 1, 0, none⟩ = some (.pointer (some ⟨S, 0, none⟩)) ∧ Hid (Calls Tryz.prog 90 #[.pointer (some ⟨S, 0, none⟩), .int .i64 (z : Int)] wq fun r w' => r = .returned (.bool true) ∧ w' = wq)) := fun wq kq => ⟨kq.1.cells, pw_has kq.1 z hz⟩
  have HB : Hid (∀ wq, Pw B0 A wq P S 1 D L bf n X M e last forced ln lo ∧ Part (fun b => b = S) w wq → Calls Tryz.prog 91 #[.pointer (some ⟨S, 0, none⟩), .int .i64 (z : Int)] wq fun r w' => ∃ b g c, r = .returned (.tuple #[.pointer (some ⟨b, 0, none⟩), .int .i64 0]) ∧ Hid (∀ wq, Below w'.heap.size w' wq → wq.cell? ⟨b, 2, none⟩ = some (.slice (some ⟨g, 0, none⟩) 112 c) ∧ wq.cell? ⟨b, 1, none⟩ = some (.int .i64 (ln z : Int))) ∧ Hid (∀ wq, Below w'.heap.size w' wq → Calls Tryz.prog 23 #[.slice (some ⟨g, 0, none⟩) 112 c] wq fun r w'' => ∃ g c, r = .returned (.slice (some ⟨g, 0, none⟩) 112 c) ∧ Below w'.heap.size w' w'' ∧ Hid (∀ w3, Below w''.heap.size w'' w3 → Gtd B0 A w P S 1 D L bf (M + 1) last forced ln lo z g c w3))) := fun wq ⟨kq, pq⟩ => (s_bringW kq z hz hM hbf (fun wr h0 kr => s_saveG kr 0 h0 hM)).mono fun r w' ⟨b, hr, HE⟩ => by
    obtain ⟨n', X', e1, e2, P', e', fo', j1, j2, j3, j4, _⟩ := HE.out
    have hl := Nat.lt_succ_self n'
    have ho := j1.ld n' hl
    rw [e2] at ho
    obtain ⟨g, c, hv, ho2, _⟩ := own_some ho (by decide)
    have hls := (j1.cl n' hl).2.2.1
    rw [e2] at hls
    have hpq := pq.size
    have p1 : Part (Fw B0 P w) w w' := Fw.trans (P' := P) (Fw.locks (w2 := wq) pq kq.pS) (fun b h => .inl h) j3
    have hP : ∀ b, P' b → P b ∨ w.heap.size ≤ b := fun b hb => (j4 b hb).imp id (fun h => by omega)
    refine ⟨b, g, c, hr, fun wr hb => ?_, fun wr hb => ?_⟩
    · have h := (hb.block _ (Array.getElem?_eq_some_iff.1 (j1.ps.buf n' hl)).1).trans (j1.ps.buf n' hl)
      rw [e1] at h
      exact ⟨by rw [cells_at h 2, ← hv]; rfl, by rw [cells_at h 1, ← hls]; rfl⟩
    · have hf : From wr (some ⟨g, 0, none⟩) 112 (lo z) := From.below (B := w'.heap.size) (.inr ⟨_, rfl, fun j hj => World.ownsRow.cells (g := g) ho2 rfl j (.int .u8 (lo z j)) (by rw [List.getElem?_map, lst_get _ 112 j hj]; rfl)⟩) hb (Nat.le_refl _)
      refine (clone (some ⟨g, 0, none⟩) 112 c (lo z) wr (by decide) hf).mono fun r w'' ⟨v', hr', ho', hb'⟩ => ?_
      obtain ⟨g2, c2, rfl, ho3, hg2, _⟩ := own_some ho' (by decide)
      have hbs := hb.size
      have hps := p1.size
      have b2 : Below w'.heap.size w' w'' := hb.trans (hb'.mono hbs)
      refine ⟨g2, c2, hr', b2, fun w3 hb3 => ?_⟩
      have b3 : Below w'.heap.size w' w3 := b2.trans (hb3.mono b2.size)
      exact ⟨n' + 1, X', P', e', fo', j1.below b3, j2, Fw.trans p1 hP (Part.ofBelow b3), hP, by omega, fun h => by have := j1.lt _ h; omega, (ho3.below hb3 (Nat.le_refl _)).mono (Nat.zero_le _), fun j hj e9 => by have := (World.ownsRow.lt (j1.ld j hj) _ e9).2; omega⟩
  have HU : Hid (∀ g c wq, Gtd B0 A w P S 1 D L bf (M + 1) last forced ln lo z g c wq → CallsD Tryz.prog 32 #[.pointer (some ⟨S, 0, none⟩)] .returning wq fun e u' w' => u' = .returning ∧ (e = .returned (.tuple #[]) ∧ Hid (Gtd B0 A w P S 0 D L bf (M + 1) last forced ln lo z g c w'))) := fun g c wq ⟨n', X', P', e', fo', j1, j2, j3, j4, j5, j6, j7, j8⟩ => (pw_unlock j1 .returning).mono fun e u' w' ⟨h1, h2, h3⟩ => ⟨h1, h2, n', X', P', e', fo', h3.out.1, j2, Fw.trans j3 j4 (Fw.locks (w2 := wq) h3.out.2 j1.pS), j4, j5, j6, h3.out.2.row j7 (fun b hb e9 => by
    have hb : some g = some b := hb
    injection hb with hb
    have e9 : b = S := e9
    omega), j8⟩
  have hz' : (z : Int) < 6 := by omega
  have hz0 : (0 : Int) ≤ (z : Int) := by omega
  clear k hM
  go_enter_defers Tryz.func61, Tryz.ntmps61
  go_wp2_with fail
  refine HM.out.mono ?_
  rintro r w1 ⟨rfl, hw⟩
  obtain rfl : w = w1 := hw.symm
  clear hw
  go_wp2_with fail
  refine HL.out.mono ?_
  rintro r w1 ⟨rfl, k1⟩
  obtain ⟨c1, HH⟩ := HC.out _ k1.out
  clear c0 HM HL
  go_wp2_with fail
  refine HH.out.mono ?_
  rintro r w2 ⟨rfl, hw⟩
  obtain rfl : w1 = w2 := hw.symm
  clear hw
  go_wp2_with fail
  refine (HB.out _ k1.out).mono ?_
  rintro r w2 ⟨b, g, c, rfl, HS, HR⟩
  obtain ⟨x1, x2⟩ := HS.out _ (Below.refl _ _)
  have q1 : Below w2.heap.size w2 w2 := Below.refl _ _
  clear HB HC HH c1 k1 hSl
  go_wp2_with fail
  go_region_held3 (fun wq => wq.cell? ⟨b, 2, none⟩ = some (.slice (some ⟨g, 0, none⟩) 112 c) ∧ wq.cell? ⟨b, 1, none⟩ = some (.int .i64 (ln z : Int)))
    (first | exact HS.out _ (by assumption) | exact HS.out _ (blw_drewN 1 (by assumption)) | go_keep)
    (first
      | (go_at_call 23; refine (HR.out _ (by first | exact q1 | exact blw_drewN 1 q1)).mono ?_; rintro e' w3 ⟨g3, c3, rfl, k3, HG⟩))
  go_wp2
  refine leaves_cons (f := 32) (args := #[.pointer (some ⟨S, 0, none⟩)]) (by simp) (by simp [go_sem]) ?_
  refine (HU.out _ _ _ (HG.out _ (Below.refl _ _))).mono ?_
  rintro e u' w9 ⟨rfl, rfl, HZ⟩
  exact ⟨_, results_tmp3 rfl _ _ _, g3, c3, rfl, HZ⟩
end
variable {B0 : Nat} {A : Ax} {P P' : Nat → Prop} {w w' : World} {Z S D L bf n M la fo lt N : Nat} {g : Int} {X : Nat → Bf} {e : Nat → Int} {ln : Nat → Nat} {lo : Nat → Nat → Int} {T : Nat → Tr}
/-- What a page that is read comes with: the manager, and the page's bytes in a slice of one's own. -/
def Rdd (B0 : Nat) (A : Ax) (w : World) (P : Nat → Prop) (Z S : Nat) (g : Int) (D L bf M la fo : Nat) (ln : Nat → Nat) (lo : Nat → Nat → Int) (lt N : Nat) (T : Nat → Tr) (z gl c : Nat) (w' : World) : Prop := ∃ n' X' e' fo', Rn B0 A w P (fun b => b = gl) Z S g D L bf n' X' M e' la fo' ln lo lt N T w' ∧ fo ≤ fo' ∧ w.heap.size ≤ gl ∧ Own w' 0 (.slice (some ⟨gl, 0, none⟩) 112 c) (lst (lo z) 112) ∧ ∀ j, j < n' → (X' j).ld.ownBlock ≠ some gl
theorem p_getM (k : Mg B0 A w P Z S g D L bf n X M e la fo ln lo lt N T) (z : Nat) (hz : z < 6) (hM : M ≤ 1000000) (hbf : 0 < bf) : Calls Tryz.prog 61 #[.pointer (some ⟨S + 1, 0, none⟩), .int .i64 (z : Int)] w fun r w' => ∃ gl c, r = .returned (.tuple #[.slice (some ⟨gl, 0, none⟩) 112 c, .int .i64 (ln z : Int), .int .i64 0]) ∧ Hid (Rdd B0 A w P Z S g D L bf (M + 1) la fo ln lo lt N T z gl c w') := (p_getF k.pw z hz hM hbf).mono fun r w' ⟨gl, c, hr, HE⟩ => by
  obtain ⟨n', X', P', e', fo', j1, j2, j3, j4, j5, j6, j7, j8⟩ := HE.out
  exact ⟨gl, c, hr, n', X', e', fo', ⟨P', ⟨j1, k.mt.called j3 j4⟩, Fm.pool j3, j4, fun b hb => by rw [hb]; exact j6⟩, j2, j5, j7, j8⟩
set_option maxRecDepth 100000 in
set_option maxHeartbeats 2000000 in
/-- state.read of a page that no other transaction changed. -/
theorem m_read (k : Mg B0 A w P Z S g D L bf n X M e la fo ln lo lt N T) (i : Nat) (hi : i < N) (z : Nat) (hz : z < 6) (hM : M ≤ 1000000) (hbf : 0 < bf) (hL : ¬ Lkd T N i (z : Int)) : Calls Tryz.prog 38 #[.pointer (some ⟨Z, 0, none⟩), .pointer (some ⟨(T i).b, 0, none⟩), .int .i64 (z : Int)] w fun r w' => ∃ gl c, r = .returned (.tuple #[.slice (some ⟨gl, 0, none⟩) 112 c, .int .i64 0]) ∧ Hid (Rdd B0 A w P Z S g D L bf (M + 1) la fo ln lo lt N T z gl c w') := by
  obtain ⟨a, c, ⟨_, c2, _, c4, _⟩, _, _⟩ := k.mt.cells
  obtain ⟨q, hq⟩ : ∃ q, (T i).b = q := ⟨_, rfl⟩
  have HK : Hid (Calls Tryz.prog 60 #[.pointer (some ⟨Z, 0, none⟩), .pointer (some ⟨q, 0, none⟩), .int .i64 (z : Int)] w fun r w' => r = .returned (.bool false) ∧ w' = w) := by
    rw [← hq]
    refine (m_locked k.mt i hi (z : Int)).mono fun r w' ⟨d, hr, hd, hw⟩ => ⟨?_, hw⟩
    cases d
    · exact hr
    · exact absurd (hd.1 rfl) hL
  have HG : Hid (Calls Tryz.prog 61 #[.pointer (some ⟨S + 1, 0, none⟩), .int .i64 (z : Int)] w fun r w' => ∃ gl c, r = .returned (.tuple #[.slice (some ⟨gl, 0, none⟩) 112 c, .int .i64 (ln z : Int), .int .i64 0]) ∧ Hid (Rdd B0 A w P Z S g D L bf (M + 1) la fo ln lo lt N T z gl c w')) := p_getM k z hz hM hbf
  have l1 : (z : Int) < 6 := by omega
  have l2 : (0 : Int) ≤ (z : Int) := by omega
  have l3 : ¬ (z : Int) < 0 := by omega
  have l4 : ¬ (6 : Int) ≤ (z : Int) := by omega
  have l5 : decide ((z : Int) < 0) = false := decide_eq_false l3
  have l6 : decide ((6 : Int) ≤ (z : Int)) = false := decide_eq_false l4
  rw [hq]
  clear k hq hL l3 l4
  go_enter Tryz.func38, Tryz.ntmps38
  go_wp2_with fail
  refine HK.out.mono ?_
  rintro r w1 ⟨rfl, hw⟩
  obtain rfl : w = w1 := hw.symm
  clear hw HK
  go_wp2_with fail
  refine HG.out.mono ?_
  rintro r w1 ⟨gl, c9, rfl, HE⟩
  go_wp2
  go_ret2
  exact ⟨gl, c9, rfl, HE⟩
set_option maxRecDepth 100000 in
set_option maxHeartbeats 2000000 in
/-- state.read of a page that another transaction changed. -/
theorem m_read_no (k : Mt B0 P w Z S L g lt N T) (i : Nat) (hi : i < N) (z : Nat) (hz : z < 6) (hL : Lkd T N i (z : Int)) : Calls Tryz.prog 38 #[.pointer (some ⟨Z, 0, none⟩), .pointer (some ⟨(T i).b, 0, none⟩), .int .i64 (z : Int)] w fun r w' => r = .returned (.tuple #[.slice none 0 0, .int .i64 61]) ∧ w' = w := by
  obtain ⟨a, c, ⟨_, c2, _, c4, _⟩, _, _⟩ := k.cells
  obtain ⟨q, hq⟩ : ∃ q, (T i).b = q := ⟨_, rfl⟩
  have HK : Hid (Calls Tryz.prog 60 #[.pointer (some ⟨Z, 0, none⟩), .pointer (some ⟨q, 0, none⟩), .int .i64 (z : Int)] w fun r w' => r = .returned (.bool true) ∧ w' = w) := by
    rw [← hq]
    refine (m_locked k i hi (z : Int)).mono fun r w' ⟨d, hr, hd, hw⟩ => ⟨?_, hw⟩
    rw [hr, hd.2 hL]
  have l1 : (z : Int) < 6 := by omega
  have l2 : (0 : Int) ≤ (z : Int) := by omega
  have l5 : decide ((z : Int) < 0) = false := decide_eq_false (by omega)
  have l6 : decide ((6 : Int) ≤ (z : Int)) = false := decide_eq_false (by omega)
  rw [hq]
  clear k hq hL
  go_enter Tryz.func38, Tryz.ntmps38
  go_wp2_with fail
  refine HK.out.mono ?_
  rintro r w1 ⟨rfl, hw⟩
  obtain rfl : w = w1 := hw.symm
  clear hw HK
  go_wp2
  go_ret2
  exact ⟨rfl, rfl⟩
end Go.Proofs.YthfokciijcmhbaaGreatDoor

namespace Go.Proofs.YthfokciijcmhbaaGreatDoor
open Go.RowKit
set_option linter.unusedVariables false

variable {B0 : Nat} {A : Ax} {P P' : Nat → Prop} {w w' w1 w2 : World} {Z S D L bf n M la fo lt N : Nat} {g : Int} {X : Nat → Bf} {e : Nat → Int} {ln : Nat → Nat} {lo : Nat → Nat → Int} {T : Nat → Tr}
def FmG (B0 : Nat) (P : Nat → Prop) (gl : Nat) (w : World) (b : Nat) : Prop := Fm B0 P w b ∨ b = gl
theorem FmG.back {gl : Nat} (h : Part (FmG B0 P gl w) w w1) (hP : ∀ b, P' b → P b ∨ w.heap.size ≤ b) : ∀ i, i < w.heap.size → Fm B0 P' w1 i → FmG B0 P gl w i := fun i hi hf => by
  by_cases hq : FmG B0 P gl w i
  · exact hq
  · have hb := h.block i hi hq
    rcases hf with (hf | ⟨hB, cs, t, fz, e, ht⟩) | ⟨hB, _, cs, t, e, ht⟩
    · exact .inl (.inl (.inl ((hP i hf).resolve_right (by omega))))
    · rw [hb] at e
      exact .inl (.inl (.inr ⟨hB, cs, t, fz, e, ht⟩))
    · rw [hb] at e
      exact .inl (.inr ⟨hB, fun hPi => hq (.inl (.inl (.inl hPi))), cs, t, e, ht⟩)
theorem FmG.trans {gl : Nat} (h : Part (FmG B0 P gl w) w w1) (hP : ∀ b, P' b → P b ∨ w.heap.size ≤ b) (h' : Part (Fm B0 P' w1) w1 w2) : Part (FmG B0 P gl w) w w2 := h.trans h' (FmG.back h hP)
def ChgG (B0 : Nat) (A : Ax) (w : World) (P : Nat → Prop) (gl : Nat) (Z S : Nat) (g : Int) (D L bf M la fo : Nat) (ln : Nat → Nat) (lo : Nat → Nat → Int) (lt N : Nat) (T : Nat → Tr) (w' : World) : Prop := ∃ n' X' e' fo', (∃ P', Mg B0 A w' P' Z S g D L bf n' X' M e' la fo' ln lo lt N T ∧ Part (FmG B0 P gl w) w w' ∧ ∀ b, P' b → P b ∨ w.heap.size ≤ b) ∧ fo ≤ fo'
/-- A manager under way since a world w0; Q: blocks that are none of the pool's. -/
def Rg (B0 : Nat) (A : Ax) (w0 : World) (P0 : Nat → Prop) (gl : Nat) (Q : Nat → Prop) (Z S : Nat) (g : Int) (D L bf n : Nat) (X : Nat → Bf) (M : Nat) (e : Nat → Int) (la fo : Nat) (ln : Nat → Nat) (lo : Nat → Nat → Int) (lt N : Nat) (T : Nat → Tr) (w : World) : Prop := ∃ P', Mg B0 A w P' Z S g D L bf n X M e la fo ln lo lt N T ∧ Part (FmG B0 P0 gl w0) w0 w ∧ (∀ b, P' b → P0 b ∨ w0.heap.size ≤ b) ∧ ∀ b, Q b → ¬ P' b
/-- What writes just the slice's block leaves the manager. -/
theorem Rg.written {w0 : World} {P0 Q : Nat → Prop} {gl c : Nat} {f : Nat → Int} (h : Rg B0 A w0 P0 gl Q Z S g D L bf n X M e la fo ln lo lt N T w) (ho : Own w 0 (.slice (some ⟨gl, 0, none⟩) 112 c) (lst f 112)) (hX : ∀ j, j < n → (X j).ld.ownBlock ≠ some gl) (hQ : Q gl) (hp : Part (fun b => b = gl) w w') : Rg B0 A w0 P0 gl Q Z S g D L bf n X M e la fo ln lo lt N T w' := by
  obtain ⟨P', j1, j2, j3, j4⟩ := h
  obtain ⟨cq, hqe⟩ := row_block ho (k := gl) rfl
  have tyg : ∀ b cs ty, w.heap[b]? = some (.cells cs ty (0, 0)) → b = gl → ty = 5 := fun b cs ty e9 e8 => by
    rw [e8, hqe] at e9
    injection e9 with e9
    injection e9 with _ e9
    exact e9.symm
  obtain ⟨T0, F0, vt0, _, s2, _⟩ := j1.pw.lay
  obtain ⟨q9, place, tl, f9, g1, _⟩ := s2.lay
  have htb : ¬ (0 = gl) := fun e8 => by
    have t0 := (congrArg (fun b => w.cell? ⟨b, 0, none⟩) e8).symm.trans (j1.pw.tab 0 (by decide))
    have h0 := World.ownsRow.cells (g := gl) ho rfl 0 (.int .u8 (f 0)) (by rw [List.getElem?_map, lst_get _ 112 0 (by decide)]; rfl)
    rw [Addr.add_lit, Nat.zero_add] at h0
    have t1 := h0.symm.trans t0
    injection t1 with t1
    injection t1 with t1
    exact absurd t1 (by decide)
  refine ⟨P', ⟨j1.pw.part hp (fun b hb e8 => j4 gl hQ (by have e8 : b = gl := e8; rw [← e8]; exact hb)) ⟨htb, fun e8 => absurd (tyg _ _ _ j1.pw.pl e8) (by decide), fun e8 => absurd (tyg _ _ _ g1.hL e8) (by decide)⟩ (fun b cs ty hb e9 => by rw [tyg b cs ty e9 hb]; exact ⟨by decide, by decide⟩) (fun j b hj hb e8 => hX j hj (by have e8 : b = gl := e8; rw [← e8]; exact hb)), j1.mt.part hp (fun b ⟨_, _, cs, ty, e9, h9⟩ e8 => by
    have := tyg b cs ty e9 e8
    subst this
    rcases h9 with h | h | h | h | h <;> exact absurd h (by decide)) (fun b h => .inl h)⟩, j2.trans hp (fun b hb e8 => .inr e8), j3, j4⟩
theorem Rg.below {w0 : World} {gl : Nat} {P0 Q : Nat → Prop} (h : Rg B0 A w0 P0 gl Q Z S g D L bf n X M e la fo ln lo lt N T w) (hb : Below w.heap.size w w') : Rg B0 A w0 P0 gl Q Z S g D L bf n X M e la fo ln lo lt N T w' := by
  obtain ⟨P', j1, j2, j3, j4⟩ := h
  exact ⟨P', j1.below hb, FmG.trans j2 j3 (Part.ofBelow hb), j3, j4⟩
set_option maxRecDepth 100000 in
set_option maxHeartbeats 4000000 in
theorem m_changeG {w0 : World} {P0 : Nat → Prop} {gl : Nat} (hR : Rg B0 A w0 P0 gl (fun b => b = gl) Z S g D L bf n X M e la fo ln lo lt N T w) (hX : ∀ j, j < n → (X j).ld.ownBlock ≠ some gl) (hla : la ≤ 1000000) (hM : M ≤ 1000000) (hbf : 0 < bf) (K nm : Int) (t p o : Nat) (ah be : ByteArray) (ht : t ≤ 1099511627776) (hp : p < 6) (hob : o + be.size ≤ 112) (hbe : 0 < be.size) (xs : List Int) (hx1 : 0 < xs.length) (hx2 : xs.length ≤ 2000) (hxb : ∀ x ∈ xs, 0 ≤ x ∧ x ≤ 255) (hu : A.u + (putB xs.length).length + xs.length ≤ 4480) (c : Nat) (f : Nat → Int) (ho : Own w 0 (.slice (some ⟨gl, 0, none⟩) 112 c) (lst f 112)) (hby : ∀ i, 0 ≤ f i ∧ f i ≤ 255)
    (hE : ∀ wq, Calls Tryz.prog 84 #[.agg #[.int .i64 K, .int .i64 (t : Int), .int .i64 (p : Int), .int .i64 (o : Int), .string ah, .string be, .int .i64 nm]] wq fun r w' => ∃ a n c, r = .returned (.slice a n c) ∧ Below wq.heap.size wq w' ∧ Hid (Bs wq.heap.size w' (.slice a n c) xs)) :
    Calls Tryz.prog 54 #[.pointer (some ⟨Z, 0, none⟩), .slice (some ⟨gl, 0, none⟩) 112 c, .agg #[.int .i64 K, .int .i64 (t : Int), .int .i64 (p : Int), .int .i64 (o : Int), .string ah, .string be, .int .i64 nm]] w fun r w' => r = .returned (.tuple #[.int .i64 ((la + 1 : Nat) : Int), .int .i64 0]) ∧ Hid (ChgG B0 ⟨A.al, A.u + (putB xs.length).length + xs.length⟩ w0 P0 gl Z S g D L bf (M + 1) (la + 1) fo (upd ln p (la + 1)) (upd lo p (ov f o be.size (fn (strL be)))) (max lt t) N T w') := by
  obtain ⟨ob, hO⟩ : ∃ ob, Obj.cells #[.int .i64 K, .int .i64 (t : Int), .int .i64 (p : Int), .int .i64 (o : Int), .string ah, .string be, .int .i64 nm] 114 = ob := ⟨_, rfl⟩
  obtain ⟨W0, hW⟩ : ∃ W0, w.alloc ob = W0 := ⟨_, rfl⟩
  obtain ⟨B, hB⟩ : ∃ B, w.heap.size = B := ⟨_, rfl⟩
  have hb0 : Below w.heap.size w W0 := by rw [← hW]; exact (Below.refl _ w).alloc (Nat.le_refl _) ob
  have h00 : W0.heap[B]? = some (.cells #[.int .i64 K, .int .i64 (t : Int), .int .i64 (p : Int), .int .i64 (o : Int), .string ah, .string be, .int .i64 nm] 114 (0, 0)) := by rw [← hW, ← hO]; exact heap_alloc_at _ _ _ hB.symm
  obtain ⟨cg, hge⟩ := row_block ho (k := gl) rfl
  have hgl := (Array.getElem?_eq_some_iff.1 hge).1
  have hc112 : 112 ≤ c ∧ c ≤ 9223372036854775807 := by
    obtain ⟨g9, c9, e9, _, _, _, h1, h2⟩ := own_some ho (by decide)
    injection e9 with _ _ e9
    subst e9
    exact ⟨h1, h2⟩
  have hs0 := hb0.size
  have hL : (strL be).length = be.size := strL_length be
  -- behind the note
  have HN : Hid (Calls Tryz.prog 62 #[.pointer (some ⟨Z, 0, none⟩), .agg #[.int .i64 K, .int .i64 (t : Int), .int .i64 (p : Int), .int .i64 (o : Int), .string ah, .string be, .int .i64 nm]] W0 fun r w' => r = .returned (.tuple #[.int .i64 ((la + 1 : Nat) : Int), .int .i64 0]) ∧ Hid (w'.heap[B]? = some (.cells #[.int .i64 K, .int .i64 (t : Int), .int .i64 (p : Int), .int .i64 (o : Int), .string ah, .string be, .int .i64 nm] 114 (0, 0)) ∧ Own w' 0 (.slice (some ⟨gl, 0, none⟩) 112 c) (lst f 112) ∧ Rg B0 ⟨A.al, A.u + (putB xs.length).length + xs.length⟩ w0 P0 gl (fun b => b = gl ∨ b = B) Z S g D L bf n X M e (la + 1) fo ln lo (max lt t) N T w')) := by
    obtain ⟨P, k, r2, r3, r4⟩ := hR
    have hlt := k.pw.lt
    have k0 := k.below hb0
    refine (m_note k0 hla K p o nm t ah be ht xs hx1 hx2 hxb hu hE).mono fun r w' ⟨hr, HE⟩ => ?_
    obtain ⟨P', j1, j2, j3⟩ := HE.out
    have nB : ¬ Fm B0 P W0 B := free5 (fun h => by have := hlt B h; omega) h00 ⟨by decide, by decide, by decide, by decide, by decide, by decide, by decide⟩
    have h1 := ho.below hb0 (Nat.le_refl _)
    have ng : ¬ Fm B0 P W0 gl := free5 (r4 _ rfl) ((hb0.block gl hgl).trans hge) ⟨by decide, by decide, by decide, by decide, by decide, by decide, by decide⟩
    have h2s := r2.size
    exact ⟨hr, (j2.block B (Array.getElem?_eq_some_iff.1 h00).1 nB).trans h00, j2.row h1 (fun b hb => by injection hb with hb; rw [← hb]; exact ng), P', j1, FmG.trans (FmG.trans r2 r3 (Part.ofBelow (F := Fm B0 P w) hb0)) r3 j2, fun b hb => by
      rcases j3 b hb with h | h
      · exact r3 b h
      · exact .inr (by omega), fun b hb h => by
      have hBW : B < W0.heap.size := (Array.getElem?_eq_some_iff.1 h00).1
      rcases j3 b h with h | h
      · rcases hb with rfl | rfl
        · exact r4 _ rfl h
        · have := hlt _ h; omega
      · rcases hb with rfl | rfl <;> omega⟩
  have HCp : Hid (∀ v, (v.heap[B]? = some (.cells #[.int .i64 K, .int .i64 (t : Int), .int .i64 (p : Int), .int .i64 (o : Int), .string ah, .string be, .int .i64 nm] 114 (0, 0)) ∧ Own v 0 (.slice (some ⟨gl, 0, none⟩) 112 c) (lst f 112) ∧ Rg B0 ⟨A.al, A.u + (putB xs.length).length + xs.length⟩ w0 P0 gl (fun b => b = gl ∨ b = B) Z S g D L bf n X M e (la + 1) fo ln lo (max lt t) N T v) → ∀ wq, Below v.heap.size v wq → (∀ j, j < be.size → (wq.cell? ⟨gl, o + j, none⟩).isSome = true) ∧ (∀ j, j < be.size → wq.frozen? ⟨gl, o + j, none⟩ = false) ∧ ∀ v3, wq.setCells gl o (be.data.toList.map fun x => Value.int .u8 (x.toNat : Int)) = v3 → (v3.cell? ⟨B, 3, none⟩ = some (.int .i64 (o : Int)) ∧ v3.cell? ⟨B, 5, none⟩ = some (.string be)) ∧ Hid (v3.heap[B]? = some (.cells #[.int .i64 K, .int .i64 (t : Int), .int .i64 (p : Int), .int .i64 (o : Int), .string ah, .string be, .int .i64 nm] 114 (0, 0)) ∧ Own v3 0 (.slice (some ⟨gl, 0, none⟩) 112 c) (lst (ov f o be.size (fn (strL be))) 112) ∧ Rg B0 ⟨A.al, A.u + (putB xs.length).length + xs.length⟩ w0 P0 gl (fun b => b = gl ∨ b = B) Z S g D L bf n X M e (la + 1) fo ln lo (max lt t) N T v3)) := fun v ⟨hvB, hvo, hvN⟩ wq hq => by
    have hBl := (Array.getElem?_eq_some_iff.1 hvB).1
    have hqB := (hq.block B hBl).trans hvB
    have hqo := hvo.below hq (Nat.le_refl _)
    have hqN := hvN.below hq
    obtain ⟨cq, hqe⟩ := row_block hqo (k := gl) rfl
    refine ⟨fun j hj => ?_, fun j hj => cells_free hqe _, fun v3 h3 => ?_⟩
    · have := World.ownsRow.cells (g := gl) hqo rfl (o + j) (.int .u8 (f (o + j))) (by rw [List.getElem?_map, lst_get _ 112 (o + j) (by omega)]; rfl)
      rw [Addr.add_lit, Nat.zero_add] at this
      rw [this]
      rfl
    · rw [← strL_map] at h3
      obtain ⟨q1, q2⟩ := own_setCells (strL be) o f wq hqo (by omega)
      rw [h3, hL] at q1
      rw [h3] at q2
      have nB : B ≠ gl := fun e9 => by
        rw [e9, hqe] at hqB
        injection hqB with hqB
        injection hqB with _ hqB
        exact absurd hqB (by decide)
      have e3 := (q2.block B (by have := hq.size; omega) nB).trans hqB
      exact ⟨⟨by rw [cells_at e3 3]; rfl, by rw [cells_at e3 5]; rfl⟩, e3, q1, hqN.written hqo hX (.inl rfl) q2⟩
  have HBx : Hid (∀ v, v.heap[B]? = some (.cells #[.int .i64 K, .int .i64 (t : Int), .int .i64 (p : Int), .int .i64 (o : Int), .string ah, .string be, .int .i64 nm] 114 (0, 0)) → ∀ wq, Below v.heap.size v wq → wq.cell? ⟨B, 3, none⟩ = some (.int .i64 (o : Int)) ∧ wq.cell? ⟨B, 5, none⟩ = some (.string be)) := fun v hv wq hq => by
    have e3 := (hq.block B (Array.getElem?_eq_some_iff.1 hv).1).trans hv
    exact ⟨by rw [cells_at e3 3]; rfl, by rw [cells_at e3 5]; rfl⟩
  have HP : Hid (∀ v, (v.heap[B]? = some (.cells #[.int .i64 K, .int .i64 (t : Int), .int .i64 (p : Int), .int .i64 (o : Int), .string ah, .string be, .int .i64 nm] 114 (0, 0)) ∧ Own v 0 (.slice (some ⟨gl, 0, none⟩) 112 c) (lst (ov f o be.size (fn (strL be))) 112) ∧ Rg B0 ⟨A.al, A.u + (putB xs.length).length + xs.length⟩ w0 P0 gl (fun b => b = gl ∨ b = B) Z S g D L bf n X M e (la + 1) fo ln lo (max lt t) N T v) → ∀ wq, Below v.heap.size v wq → (wq.cell? ⟨Z, 2, none⟩ = some (.pointer (some ⟨S + 1, 0, none⟩)) ∧ wq.cell? ⟨B, 2, none⟩ = some (.int .i64 (p : Int))) ∧ Hid (∀ x, x = ((la + 1 : Nat) : Int) → Calls Tryz.prog 85 #[.pointer (some ⟨S + 1, 0, none⟩), .int .i64 (p : Int), .int .i64 x, .slice (some ⟨gl, 0, none⟩) 112 c] wq fun r w' => r = .returned (.int .i64 0) ∧ (w'.cell? ⟨Z, 2, none⟩ = some (.pointer (some ⟨S + 1, 0, none⟩)) ∧ w'.cell? ⟨B, 2, none⟩ = some (.int .i64 (p : Int))) ∧ Hid (ChgG B0 ⟨A.al, A.u + (putB xs.length).length + xs.length⟩ w0 P0 gl Z S g D L bf (M + 1) (la + 1) fo (upd ln p (la + 1)) (upd lo p (ov f o be.size (fn (strL be)))) (max lt t) N T w'))) := fun v ⟨hvB, hvo, hvN⟩ wq hq => by
    have hBl := (Array.getElem?_eq_some_iff.1 hvB).1
    have hqB := (hq.block B hBl).trans hvB
    have hqo := hvo.below hq (Nat.le_refl _)
    obtain ⟨P', j1, j2, j3, j4⟩ := hvN.below hq
    obtain ⟨a9, c9, ⟨_, z2, _⟩, _⟩ := j1.mt.cells
    have hPB : ¬ P' B := j4 B (.inr rfl)
    refine ⟨⟨z2, by rw [cells_at hqB 2]; rfl⟩, fun x hx => (p_putM j1 p gl c _ hp ⟨by omega, by omega⟩ hqo (j4 gl (.inl rfl)) (ov_by hby (fn_by (strL_by be)) _ _) hM hbf x hx).mono fun r w' ⟨hr, HE⟩ => ?_⟩
    obtain ⟨n', X', e', fo', ⟨P2, i1, i2, i3⟩, i4⟩ := HE.out
    obtain ⟨a8, c8, ⟨_, y2, _⟩, _⟩ := i1.mt.cells
    have nB : ¬ Fm B0 P' wq B := free5 hPB hqB ⟨by decide, by decide, by decide, by decide, by decide, by decide, by decide⟩
    have e3 := (i2.block B (Array.getElem?_eq_some_iff.1 hqB).1 nB).trans hqB
    have h2s := j2.size
    exact ⟨hr, ⟨y2, by rw [cells_at e3 2]; rfl⟩, n', X', e', fo', ⟨P2, i1, FmG.trans j2 j3 i2, fun b hb => by
      rcases i3 b hb with h | h
      · exact j3 b h
      · exact .inr (by omega)⟩, i4⟩
  have hsz5 := size5w
  have h112 : (0 : Int) ≤ (o : Int) := by omega
  have h113 : (o : Int) ≤ 112 := by omega
  have h114 : (112 : Int) ≤ (c : Int) := by omega
  have e115 : (112 : Int) - (o : Int) = ((112 - o : Nat) : Int) := by omega
  have hbs : be.size ≤ 112 - o := by omega
  have hco : (c = o) = False := eq_false (by omega)
  have HW0 : Hid (W0.heap[B]? = some (.cells #[.int .i64 K, .int .i64 (t : Int), .int .i64 (p : Int), .int .i64 (o : Int), .string ah, .string be, .int .i64 nm] 114 (0, 0))) := h00
  have HLa : Hid (∀ v : World, v.heap[B]? = some (.cells #[.int .i64 K, .int .i64 (t : Int), .int .i64 (p : Int), .int .i64 (o : Int), .string ah, .string be, .int .i64 nm] 114 (0, 0)) → v.cell? ⟨B, 0, none⟩ = some (.int .i64 K) ∧ v.cell? ⟨B, 1, none⟩ = some (.int .i64 (t : Int)) ∧ v.cell? ⟨B, 2, none⟩ = some (.int .i64 (p : Int)) ∧ v.cell? ⟨B, 3, none⟩ = some (.int .i64 (o : Int)) ∧ v.cell? ⟨B, 4, none⟩ = some (.string ah) ∧ v.cell? ⟨B, 5, none⟩ = some (.string be) ∧ v.cell? ⟨B, 6, none⟩ = some (.int .i64 nm)) := fun v e => ⟨by rw [cells_at e 0]; rfl, by rw [cells_at e 1]; rfl, by rw [cells_at e 2]; rfl, by rw [cells_at e 3]; rfl, by rw [cells_at e 4]; rfl, by rw [cells_at e 5]; rfl, by rw [cells_at e 6]; rfl⟩
  obtain ⟨y0, y1, y2, y3, y4, y5, y6⟩ := HLa.out W0 HW0.out
  clear hR hX hE hxb hu hby ho h00 hge hgl hb0 hs0 hL hc112 HLa HW0
  go_enter Tryz.func54, Tryz.ntmps54
  go_wp2_with fail
  try rw [hO]
  try rw [hW]
  try rw [hB]
  refine HN.out.mono ?_
  rintro r v1 ⟨rfl, HV⟩
  clear y0 y1 y2 y3 y4 y5 y6 HN
  have b1 : Below v1.heap.size v1 v1 := Below.refl _ _
  have HS1 : Hid (∀ wq, Below v1.heap.size v1 wq → wq.cell? ⟨B, 3, none⟩ = some (.int .i64 (o : Int)) ∧ wq.cell? ⟨B, 5, none⟩ = some (.string be)) := HBx.out v1 HV.out.1
  have HC1 : Hid (∀ wq, Below v1.heap.size v1 wq → (∀ j, j < be.size → (wq.cell? ⟨gl, o + j, none⟩).isSome = true) ∧ (∀ j, j < be.size → wq.frozen? ⟨gl, o + j, none⟩ = false) ∧ ∀ v3, wq.setCells gl o (be.data.toList.map fun x => Value.int .u8 (x.toNat : Int)) = v3 → (v3.cell? ⟨B, 3, none⟩ = some (.int .i64 (o : Int)) ∧ v3.cell? ⟨B, 5, none⟩ = some (.string be)) ∧ Hid (v3.heap[B]? = some (.cells #[.int .i64 K, .int .i64 (t : Int), .int .i64 (p : Int), .int .i64 (o : Int), .string ah, .string be, .int .i64 nm] 114 (0, 0)) ∧ Own v3 0 (.slice (some ⟨gl, 0, none⟩) 112 c) (lst (ov f o be.size (fn (strL be))) 112) ∧ Rg B0 ⟨A.al, A.u + (putB xs.length).length + xs.length⟩ w0 P0 gl (fun b => b = gl ∨ b = B) Z S g D L bf n X M e (la + 1) fo ln lo (max lt t) N T v3)) := HCp.out v1 HV.out
  obtain ⟨x3, x5⟩ := HS1.out v1 b1
  clear HCp HBx HV
  go_wp2_with fail
  go_region_held2 (fun wq => wq.cell? ⟨B, 3, none⟩ = some (.int .i64 (o : Int)) ∧ wq.cell? ⟨B, 5, none⟩ = some (.string be))
    (first | assumption | exact HS1.out _ (by assumption) | exact HS1.out _ (blw_drewN 1 (by assumption)) | go_keep)
    (first
      | (refine step_copy_string rfl _ _ 47 9 rfl 5 Tryz.underlying47 hsz5 gl o (112 - o) (c - o) (by go_simp) be (by go_simp) hbs (HC1.out _ (by first | exact b1 | exact blw_drewN 1 b1)).1 (HC1.out _ (by first | exact b1 | exact blw_drewN 1 b1)).2.1 ?_; generalize hv3 : World.setCells _ gl o _ = v3; obtain ⟨hS3, HV3⟩ := (HC1.out _ (by first | exact b1 | exact blw_drewN 1 b1)).2.2 v3 hv3; clear hv3))
  have HP3 : Hid (∀ wq, Below v3.heap.size v3 wq → (wq.cell? ⟨Z, 2, none⟩ = some (.pointer (some ⟨S + 1, 0, none⟩)) ∧ wq.cell? ⟨B, 2, none⟩ = some (.int .i64 (p : Int))) ∧ Hid (∀ x, x = ((la + 1 : Nat) : Int) → Calls Tryz.prog 85 #[.pointer (some ⟨S + 1, 0, none⟩), .int .i64 (p : Int), .int .i64 x, .slice (some ⟨gl, 0, none⟩) 112 c] wq fun r w' => r = .returned (.int .i64 0) ∧ (w'.cell? ⟨Z, 2, none⟩ = some (.pointer (some ⟨S + 1, 0, none⟩)) ∧ w'.cell? ⟨B, 2, none⟩ = some (.int .i64 (p : Int))) ∧ Hid (ChgG B0 ⟨A.al, A.u + (putB xs.length).length + xs.length⟩ w0 P0 gl Z S g D L bf (M + 1) (la + 1) fo (upd ln p (la + 1)) (upd lo p (ov f o be.size (fn (strL be)))) (max lt t) N T w'))) := HP.out v3 HV3.out
  have b3 : Below v3.heap.size v3 v3 := Below.refl _ _
  obtain ⟨z2, y2⟩ := (HP3.out v3 b3).1
  have HZ : Hid (∀ wq, Below v3.heap.size v3 wq → wq.cell? ⟨Z, 2, none⟩ = some (.pointer (some ⟨S + 1, 0, none⟩)) ∧ wq.cell? ⟨B, 2, none⟩ = some (.int .i64 (p : Int))) := fun wq hq => (HP3.out wq hq).1
  clear HC1 HS1 HP HV3 hS3 x3 x5 b1 hco
  have hp1 : (p : Int) < 6 := by omega
  have hp0 : (0 : Int) ≤ (p : Int) := by omega
  go_wp2_with fail
  go_region_held2 (fun wq => wq.cell? ⟨Z, 2, none⟩ = some (.pointer (some ⟨S + 1, 0, none⟩)) ∧ wq.cell? ⟨B, 2, none⟩ = some (.int .i64 (p : Int)))
    (first | assumption | exact HZ.out _ (by assumption) | exact HZ.out _ (blw_drewN 1 (by assumption)) | go_keep)
    (first
      | (go_at_call 85; refine ((HP3.out _ (by first | exact b3 | exact blw_drewN 1 b3)).2.out _ (by first | rfl | omega)).mono ?_; rintro e' v4 ⟨rfl, hS4, HG⟩))
  clear HP3 HZ z2 y2 hS4
  go_wp2
  go_ret2
  exact ⟨rfl, HG⟩
end Go.Proofs.YthfokciijcmhbaaGreatDoor
