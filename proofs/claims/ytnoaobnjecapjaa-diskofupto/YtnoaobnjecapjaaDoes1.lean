/-
  Two disks, the program's and the document's, while calls go on (Mid); a call on both, one behind the other, of each kind.
-/
import Derived.Test.YtnoaobnjecapjaaBoth
import Derived.Test.YtnoaobnjecapjaaIntsF
import Derived.Test.YtnoaobnjecapjaaRkErr
import Derived.Test.YtnoaobnjecapjaaRkCrash
import Derived.Test.YtnoaobnjecapjaaRkFlush
import Derived.Test.YtnoaobnjecapjaaRkRead
import Derived.Test.YtnoaobnjecapjaaSpoilF
import Derived.Test.YtnoaobnjecapjaaDkWrite2
import Derived.Test.YtnoaobnjecapjaaDkSees
namespace Go.Proofs.Ytnoaobnjecapjaa
open Go.RowKit
set_option linter.unusedVariables false

/-- Since w2 only P's blocks changed; the two disks have the same, at most M writes pending, in P's blocks and new ones, none in common. -/
def Mid (w2 : World) (P : Nat → Prop) (D X n M : Nat) (wq : World) : Prop :=
  Part P w2 wq ∧ ∃ F G dur m tf ld, Dk wq D F n dur m tf ld ∧ Rk wq X G n dur m tf ld ∧ (∀ k, F k → ¬ G k) ∧ (∀ k, F k ∨ G k → P k ∨ w2.heap.size ≤ k) ∧ m ≤ M
theorem Dk.lt {w : World} {D : Nat} {F : Nat → Prop} {n : Nat} {dur : Nat → Int} {m : Nat} {tf : Nat → Nat} {ld : Nat → Int} (h : Dk w D F n dur m tf ld) : ∀ k, F k → k < w.heap.size := by
  obtain ⟨S, Bd, Bl, cD, cL, vT, vL, h⟩ := h
  exact h.lt
theorem Rk.lt {w : World} {X : Nat} {F : Nat → Prop} {n : Nat} {dur : Nat → Int} {m : Nat} {tf : Nat → Nat} {ld : Nat → Int} (h : Rk w X F n dur m tf ld) : ∀ k, F k → k < w.heap.size := by
  obtain ⟨gB, cB, vP, rb, rc, pb, pc, h⟩ := h
  exact h.lt
theorem Mid.below {w2 wq w' : World} {P : Nat → Prop} {D X n M : Nat} (h : Mid w2 P D X n M wq) (hb : Below wq.heap.size wq w') : Mid w2 P D X n M w' := by
  obtain ⟨hp, F, G, dur, m, tf, ld, h1, h2, h3⟩ := h
  exact ⟨hp.trans (Part.ofBelow (F := fun _ => False) hb) (fun _ _ h => h.elim), F, G, dur, m, tf, ld, h1.below hb, h2.below hb, h3⟩
theorem Mid.le {w2 wq : World} {P : Nat → Prop} {D X n M M' : Nat} (h : Mid w2 P D X n M wq) (hM : M ≤ M') : Mid w2 P D X n M' wq := by
  obtain ⟨hp, F, G, dur, m, tf, ld, h1, h2, h3, h4, h5⟩ := h
  exact ⟨hp, F, G, dur, m, tf, ld, h1, h2, h3, h4, Nat.le_trans h5 hM⟩
/-- What comes later, told from an earlier world. -/
theorem Mid.later {w0 w2 wq : World} {P P' : Nat → Prop} {D X n M : Nat} (h : Mid w2 P' D X n M wq) (h0 : Part P w0 w2) (hP : ∀ k, P' k → P k ∨ w0.heap.size ≤ k) : Mid w0 P D X n M wq := by
  obtain ⟨hp, F, G, dur, m, tf, ld, h1, h2, h3, h4, h5⟩ := h
  refine ⟨h0.trans hp (fun i hi hk => ?_), F, G, dur, m, tf, ld, h1, h2, h3, fun k hk => ?_, h5⟩
  · rcases hP i hk with a | a
    · exact a
    · omega
  · rcases h4 k hk with a | a
    · exact hP k a
    · exact .inr (Nat.le_trans h0.size a)
/-- The same, told from now on. -/
theorem Mid.now {w0 wq : World} {P : Nat → Prop} {D X n M : Nat} (h : Mid w0 P D X n M wq) : ∃ P' : Nat → Prop, (∀ k, P' k → k < wq.heap.size) ∧ (∀ k, P' k → P k ∨ w0.heap.size ≤ k) ∧ Mid wq P' D X n M wq := by
  obtain ⟨hp, F, G, dur, m, tf, ld, h1, h2, h3, h4, h5⟩ := h
  refine ⟨fun k => F k ∨ G k, fun k hk => ?_, h4, Part.refl _ _, F, G, dur, m, tf, ld, h1, h2, h3, fun k hk => .inl hk, h5⟩
  rcases hk with a | a
  · exact h1.lt k a
  · exact h2.lt k a

theorem add_block (x : Addr) (i : Nat) : (x.add i).block = x.block := by
  unfold Addr.add; split <;> rfl
theorem Part.fromG {F : Nat → Prop} {w w' : World} {a : Option Addr} {n : Nat} {f : Nat → Int} (h : Part F w w') (hf : From w a n f) (hn : ∀ x, a = some x → 0 < n → ¬ F x.block) : From w' a n f := by
  rcases hf with h1 | ⟨x, h1, h2⟩
  · exact .inl h1
  · exact .inr ⟨x, h1, fun i hi => h.cell (p := x.add i) (by rw [add_block]; exact hn x h1 (by omega)) (h2 i hi)⟩
theorem Part.fromI {F : Nat → Prop} {w w' : World} {a : Option Addr} {n : Nat} {f : Nat → Int} (h : Part F w w') (hf : FromI w a n f) (hn : ∀ x, a = some x → 0 < n → ¬ F x.block) : FromI w' a n f := fun i hi => by
  obtain ⟨b, off, e, hc⟩ := hf i hi
  exact ⟨b, off, e, h.cell (p := ⟨b, off + i, none⟩) (hn ⟨b, off, none⟩ e (by omega)) hc⟩

/-- Write on both. -/
theorem armWrite {w2 : World} {P : Nat → Prop} {D X n M : Nat} {I : Int} {ag a : Option Addr} {l cg c : Nat} {f : Nat → Int} (hM : M ≤ 549755813886)
    (g1 : ∀ wq, Part P w2 wq → From wq ag l f) (a1 : ∀ wq, Part P w2 wq → From wq a l f) (nb : a = none → c = 0) (hby : ∀ j, 0 ≤ f j ∧ f j ≤ 255)
    (gb : ∀ x, ag = some x → x.spot = none ∧ ¬ P x.block ∧ x.block < w2.heap.size) (wq : World) (h : Mid w2 P D X n M wq) :
    Calls Try.prog 15 #[.pointer (some ⟨D, 0, none⟩), .int .i64 I, .slice ag l cg] wq fun e w' => ∃ r, e = .returned (.int .i64 r) ∧ Part P w2 w' ∧
      Hid (Calls Try.prog 16 #[.pointer (some ⟨X, 0, none⟩), .int .i64 I, .slice a l c] w' fun e w'' => e = .returned (.int .i64 r) ∧ Hid (Mid w2 P D X n (M + 1) w'')) := by
  obtain ⟨hp, F, G, dur, m, tf, ld, h1, h2, h3, h4, h5⟩ := h
  have hs := hp.size
  have lF := h1.lt
  have lG := h2.lt
  by_cases hno : I < 0 ∨ (n : Int) ≤ I ∨ l ≠ 128
  · refine (dkWrite_no D n m I F dur tf ld ag l cg wq h1 hno).mono ?_
    rintro e w' ⟨rfl, hb⟩
    refine ⟨1, rfl, hp.trans (Part.ofBelow (F := fun _ => False) hb) (fun _ _ h => h.elim), ?_⟩
    refine (rkWrite_no X n m I G dur tf ld a l c w' (h2.below hb) hno).mono ?_
    rintro e w'' ⟨rfl, hb2⟩
    have hm : Mid w2 P D X n (M + 1) wq := ⟨hp, F, G, dur, m, tf, ld, h1, h2, h3, h4, by omega⟩
    exact ⟨rfl, (hm.below hb).below hb2⟩
  · obtain ⟨i, rfl⟩ := Int.eq_ofNat_of_zero_le (show 0 ≤ I by omega)
    have hi : i < n := by omega
    obtain rfl : l = 128 := by omega
    obtain ⟨x, rfl⟩ : ∃ x, ag = some x := by
      rcases g1 wq hp with ⟨_, e⟩ | ⟨x, e, _⟩
      · omega
      · exact ⟨x, e⟩
    obtain ⟨xb, xo, xf⟩ := x
    obtain ⟨rfl, gP, gT⟩ : xf = none ∧ ¬ P xb ∧ xb < w2.heap.size := gb _ rfl
    have nF : ¬ F xb := fun hF => by
      rcases h4 xb (.inl hF) with a | a
      · exact gP a
      · omega
    refine (dkWrite D i n m F dur tf ld xb xo cg f wq h1 hi (by omega) (g1 wq hp) hby nF).mono ?_
    rintro e w' ⟨rfl, hd, hpF⟩
    have hp' : Part P w2 w' := hp.trans hpF (fun k hk hF => by
      rcases h4 k (.inl hF) with a | a
      · exact a
      · omega)
    have hx : Rk w' X G n dur m tf ld := h2.part hpF (fun k hG hF => h3 k hF hG)
    have s1 := hpF.size
    refine ⟨0, rfl, hp', ?_⟩
    refine (rkWrite X i n m G dur tf ld a c f w' hx hi (by omega) (a1 w' hp') nb hby).mono ?_
    rintro e w'' ⟨rfl, hx2, hpG⟩
    have s2 := hpG.size
    refine ⟨rfl, hp'.trans hpG (fun k hk hG => ?_), (fun k => F k ∨ (wq.heap.size ≤ k ∧ k < w'.heap.size)), (fun k => G k ∨ (w'.heap.size ≤ k ∧ k < w''.heap.size)), _, _, _, _, hd.part hpG ?_, hx2, ?_, ?_, by omega⟩
    · rcases h4 k (.inr hG) with a | a
      · exact a
      · omega
    · rintro k (a | a) b
      · exact h3 k a b
      · have := lG k b; omega
    · rintro k (a | a) (b | b)
      · exact h3 k a b
      · have := lF k a; omega
      · have := lG k b; omega
      · omega
    · rintro k ((a | a) | (a | a))
      · exact h4 k (.inl a)
      · exact .inr (by omega)
      · exact h4 k (.inr a)
      · exact .inr (by omega)

/-- Flush on both. -/
theorem armFlush {w2 : World} {P : Nat → Prop} {D X n M : Nat} (hM : M ≤ 549755813886) (wq : World) (h : Mid w2 P D X n M wq) :
    Calls Try.prog 21 #[.pointer (some ⟨D, 0, none⟩)] wq fun e w' => ∃ r, e = .returned (.int .i64 r) ∧ Part P w2 w' ∧
      Hid (Calls Try.prog 22 #[.pointer (some ⟨X, 0, none⟩)] w' fun e w'' => e = .returned (.int .i64 r) ∧ Hid (Mid w2 P D X n (M + 1) w'')) := by
  obtain ⟨hp, F, G, dur, m, tf, ld, h1, h2, h3, h4, h5⟩ := h
  have hs := hp.size
  have lF := h1.lt
  have lG := h2.lt
  refine (dkFlush D n m F dur tf ld wq h1 (by omega)).mono ?_
  rintro e w' ⟨rfl, hd, hpF⟩
  have hp' : Part P w2 w' := hp.trans hpF (fun k hk hF => by
    rcases h4 k (.inl hF) with a | a
    · exact a
    · omega)
  have hx : Rk w' X G n dur m tf ld := h2.part hpF (fun k hG hF => h3 k hF hG)
  have s1 := hpF.size
  refine ⟨0, rfl, hp', ?_⟩
  refine (rkFlush X n m G dur tf ld w' hx (by omega)).mono ?_
  rintro e w'' ⟨rfl, hx2, hpG⟩
  have s2 := hpG.size
  refine ⟨rfl, hp'.trans hpG (fun k hk hG => ?_), F, (fun k => G k ∨ (w'.heap.size ≤ k ∧ k < w''.heap.size)), _, _, _, _, hd.part hpG h3, hx2, ?_, ?_, by omega⟩
  · rcases h4 k (.inr hG) with a | a
    · exact a
    · omega
  · rintro k a (b | b)
    · exact h3 k a b
    · have := lF k a; omega
  · rintro k (a | (a | a))
    · exact h4 k (.inl a)
    · exact h4 k (.inr a)
    · exact .inr (by omega)

/-- Crash on both. -/
theorem armCrash {w2 : World} {P : Nat → Prop} {D X n M : Nat} {ae ak : Option Addr} {K ce ck : Nat} {kf : Nat → Int} (hM : M ≤ 549755813886) (hK : K ≤ 9223372036854775807)
    (g1 : ∀ wq, Part P w2 wq → FromI wq ae K kf) (a1 : ∀ wq, Part P w2 wq → FromI wq ak K kf) (hr : ∀ j, j < K → -9223372036854775808 ≤ kf j ∧ kf j ≤ 9223372036854775807)
    (wq : World) (h : Mid w2 P D X n M wq) :
    Calls Try.prog 23 #[.pointer (some ⟨D, 0, none⟩), .slice ae K ce] wq fun e w' => ∃ r, e = .returned (.int .i64 r) ∧ Part P w2 w' ∧
      Hid (Calls Try.prog 24 #[.pointer (some ⟨X, 0, none⟩), .slice ak K ck] w' fun e w'' => e = .returned (.int .i64 r) ∧ Hid (Mid w2 P D X n (M + 1) w'')) := by
  obtain ⟨hp, F, G, dur, m, tf, ld, h1, h2, h3, h4, h5⟩ := h
  have hs := hp.size
  have lF := h1.lt
  have lG := h2.lt
  by_cases hg : Good kf m K
  · refine (dkCrash_ok D n m F dur tf ld ae K ce kf wq h1 (by omega) hK (g1 wq hp) hr hg).mono ?_
    rintro e w' ⟨rfl, hd, hpF⟩
    have hp' : Part P w2 w' := hp.trans hpF (fun k hk hF => by
      rcases h4 k (.inl hF) with a | a
      · exact a
      · omega)
    have hx : Rk w' X G n dur m tf ld := h2.part hpF (fun k hG hF => h3 k hF hG)
    have s1 := hpF.size
    refine ⟨0, rfl, hp', ?_⟩
    refine (rkCrash X n m G dur tf ld ak K ck kf w' hx (by omega) hK (a1 w' hp') hr).mono ?_
    rintro e w'' (⟨_, rfl, hx2, hpG⟩ | ⟨hng, _⟩)
    · have s2 := hpG.size
      refine ⟨rfl, hp'.trans hpG (fun k hk hG => ?_), F, (fun k => G k ∨ (w'.heap.size ≤ k ∧ k < w''.heap.size)), _, _, _, _, hd.part hpG h3, hx2, ?_, ?_, by omega⟩
      · rcases h4 k (.inr hG) with a | a
        · exact a
        · omega
      · rintro k a (b | b)
        · exact h3 k a b
        · have := lF k a; omega
      · rintro k (a | (a | a))
        · exact h4 k (.inl a)
        · exact h4 k (.inr a)
        · exact .inr (by omega)
    · exact absurd hg hng
  · refine (dkCrash_no D n m F dur tf ld ae K ce kf wq h1 (by omega) hK (g1 wq hp) hr hg).mono ?_
    rintro e w' ⟨rfl, hb⟩
    have hp' : Part P w2 w' := hp.trans (Part.ofBelow (F := fun _ => False) hb) (fun _ _ h => h.elim)
    refine ⟨20, rfl, hp', ?_⟩
    refine (rkCrash X n m G dur tf ld ak K ck kf w' (h2.below hb) (by omega) hK (a1 w' hp') hr).mono ?_
    rintro e w'' (⟨hg2, _⟩ | ⟨_, rfl, hb2⟩)
    · exact absurd hg2 hg
    · have hm : Mid w2 P D X n (M + 1) wq := ⟨hp, F, G, dur, m, tf, ld, h1, h2, h3, h4, by omega⟩
      exact ⟨rfl, (hm.below hb).below hb2⟩

/-- Read on both. -/
theorem armRead {w2 : World} {P : Nat → Prop} {D X n M : Nat} {I : Int} (hM : M ≤ 549755813886) (wq : World) (h : Mid w2 P D X n M wq) :
    Calls Try.prog 17 #[.pointer (some ⟨D, 0, none⟩), .int .i64 I] wq fun e w' => ∃ ar N cr g r, e = .returned (.tuple #[.slice ar N cr, .int .i64 r]) ∧ N ≤ 128 ∧ Part P w2 w' ∧
      Hid (Calls Try.prog 18 #[.pointer (some ⟨X, 0, none⟩), .int .i64 I] w' fun e w'' => ∃ at_ cs, e = .returned (.tuple #[.slice at_ N cs, .int .i64 r]) ∧
        Hid (Part P w2 w'' ∧ From w'' at_ N g ∧ Own w'' wq.heap.size (.slice ar N cr) (lst g N) ∧ From w'' ar N g ∧ ∀ w3, Part (fun q => (Value.slice ar N cr).ownBlock = some q) w'' w3 → Mid w2 P D X n (M + 1) w3)) := by
  have HM := h
  obtain ⟨hp, F, G, dur, m, tf, ld, h1, h2, h3, h4, h5⟩ := h
  have hs := hp.size
  have lF := h1.lt
  have lG := h2.lt
  have fin : ∀ (ar : Option Addr) (N cr : Nat) (g : Nat → Int) (w'' : World), Below wq.heap.size wq w'' → Own w'' wq.heap.size (.slice ar N cr) (lst g N) → ∀ w3, Part (fun q => (Value.slice ar N cr).ownBlock = some q) w'' w3 → Mid w2 P D X n (M + 1) w3 := fun ar N cr g w'' hb ho w3 h9 => by
    have hk : ∀ q, (Value.slice ar N cr).ownBlock = some q → wq.heap.size ≤ q := fun q hq => (World.ownsRow.lt ho q hq).1
    exact (Mid.below HM (hb.trans (h9.below hk hb.size))).le (by omega)
  by_cases hno : I < 0 ∨ (n : Int) ≤ I
  · refine (dkRead_no D n m I F dur tf ld wq h1 hno).mono ?_
    rintro e w' ⟨rfl, hb⟩
    have hp' : Part P w2 w' := hp.trans (Part.ofBelow (F := fun _ => False) hb) (fun _ _ h => h.elim)
    refine ⟨none, 0, 0, fun _ => 0, 1, rfl, by omega, hp', ?_⟩
    refine (rkRead_no X n m I G dur tf ld w' (h2.below hb) hno).mono ?_
    rintro e w'' ⟨rfl, hb2⟩
    have ho : Own w'' wq.heap.size (.slice none 0 0) (lst (fun _ => (0 : Int)) 0) := World.ownsRow_nil _ _ _ _
    have hbb : Below wq.heap.size wq w'' := hb.trans (hb2.mono hb.size)
    exact ⟨none, 0, rfl, hp'.trans (Part.ofBelow (F := fun _ => False) hb2) (fun _ _ h => h.elim), .inl ⟨rfl, rfl⟩, ho, .inl ⟨rfl, rfl⟩, fin _ _ _ _ _ hbb ho⟩
  · obtain ⟨i, rfl⟩ := Int.eq_ofNat_of_zero_le (show 0 ≤ I by omega)
    have hi : i < n := by omega
    refine (dkRead D i n m F dur tf ld wq h1 hi (by omega)).mono ?_
    rintro e w' ⟨v, rfl, ho, hb⟩
    obtain ⟨ar, cr, rfl, hfr, _⟩ := own_any ho
    have hp' : Part P w2 w' := hp.trans (Part.ofBelow (F := fun _ => False) hb) (fun _ _ h => h.elim)
    refine ⟨ar, 128, cr, seen dur m tf ld i, 0, rfl, by omega, hp', ?_⟩
    refine (rkRead X i n m G dur tf ld w' (h2.below hb) hi (by omega)).mono ?_
    rintro e w'' ⟨v2, rfl, ho2, hb2⟩
    obtain ⟨at_, cs, rfl, hfs, _⟩ := own_any ho2
    have hbb : Below wq.heap.size wq w'' := hb.trans (hb2.mono hb.size)
    have ho' := ho.below hb2 (Nat.le_refl _)
    exact ⟨at_, cs, rfl, hp'.trans (Part.ofBelow (F := fun _ => False) hb2) (fun _ _ h => h.elim), hfs, ho', hfr.below hb2 (Nat.le_refl _), fin _ _ _ _ _ hbb ho'⟩
end Go.Proofs.Ytnoaobnjecapjaa
