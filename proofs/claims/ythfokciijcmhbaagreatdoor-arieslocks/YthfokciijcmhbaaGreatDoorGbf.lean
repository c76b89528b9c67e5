/-
  A log of a manager's: Append of any record, Room; what they leave of the pool.
  A record's bytes: encode, size.
  A record's bytes: encode, for each kind of record.
-/
import Derived.Test.YthfokciijcmhbaaGreatDoorGbe
import Derived.Test.YthfokciijcmhbaaGreatDoorGav
import Derived.Deep.RegionHeld2
import Derived.Test.YthfokciijcmhbaaGreatDoorGad
namespace Go.Proofs.YthfokciijcmhbaaGreatDoor
open Go.RowKit
set_option linter.unusedVariables false

variable {B0 : Nat} {A : Ax} {w w' : World} {P : Nat → Prop} {S D L bf n M last forced : Nat} {m : Int} {X : Nat → Bf} {e : Nat → Int} {ln : Nat → Nat} {lo : Nat → Nat → Int}
/-- Append of a record for which there is room. -/
theorem pw_appendN (k : Pw B0 A w P S m D L bf n X M e last forced ln lo) (hl : last ≤ 1000000) (a0 : Option Addr) (nb c : Nat) (f : Nat → Int) (hF : From w a0 nb f) (hPg : ∀ y, a0 = some y → ¬ P y.block) (h1 : 0 < nb) (h2 : nb ≤ 2000) (hby : ∀ i, 0 ≤ f i ∧ f i ≤ 255) (hu : A.u + (putB nb).length + nb ≤ 4480) (hc0 : a0 = none → c = 0) :
    Calls Tryz.prog 92 #[.pointer (some ⟨L, 0, none⟩), .slice a0 nb c] w fun r w' => r = .returned (.tuple #[.int .i64 ((last + 1 : Nat) : Int), .int .i64 0]) ∧ ∃ P', Pw B0 ⟨A.al, A.u + (putB nb).length + nb⟩ w' P' S m D L bf n X M e (last + 1) forced ln lo ∧ Part (Fq B0 P w) w w' ∧ ∀ b, P' b → P b ∨ w.heap.size ≤ b := by
  obtain ⟨T, F, vt, s1, s2, s3, s4, s5⟩ := k.lay
  have s2' := s2.less (F' := fun b => F b ∧ Dt w b) (fun b h => h.1)
  obtain ⟨q0, place, tl, f0, g1, g2, g3, g4, g4', g5⟩ := s2'.lay
  have xl : (lst f0 tl).length = tl := lst_length f0 tl
  obtain ⟨pn, hpn⟩ : ∃ pn, (putB nb).length = pn := ⟨_, rfl⟩
  have pb : ∀ i, 0 ≤ fn (putB nb) i ∧ fn (putB nb) i ≤ 255 := fn_by (putB_by 9 nb (by have h9 : (128 : Nat) ^ (9 + 1) = 1180591620717411303424 := (by decide); omega))
  have pl : lst (fn (putB nb)) pn = putB nb := by rw [← hpn]; exact lst_fn _
  refine (appL_ok L T D 0 40 1 last forced place 0 nb c vt _ a0 f w g1 s2.ne (g2.mono (Nat.zero_le _)) (Nat.zero_le _) (by decide) h1 h2 (by omega) (by omega) (fun w5 hp => ?_) hc0).mono fun r w' ⟨hr, v', n1, n2, n3, n4⟩ => ⟨hr, ?_⟩
  · rcases hF with h | ⟨y, h, h3⟩
    · exact .inl h
    · exact .inr ⟨y, h, fun j hj => hp.cell (fun e => hPg y h (by rw [← add_block y j]; exact s5 _ e.symm)) (h3 j hj)⟩
  · rw [hpn] at hu ⊢
    rw [← pl, lst_app, lst_app] at n2
    have hsz := n3.size
    have sd1 := s1.typed.part n3 (fun b hb h => by
      rcases h with h | h
      · exact s2'.nT (h ▸ hb)
      · exact s2'.nV b h.symm hb)
    have lp : Lp ⟨A.al, A.u + pn + nb⟩ w' L T D (fun b => F b ∧ Dt w b) (last + 1) forced v' := ⟨⟨0, place, tl + pn + nb, _, n1, n2, fun i => by
      show 0 ≤ (if i < tl + pn then (if i < tl then f0 i else fn (putB nb) (i - tl)) else f (i - (tl + pn))) ∧ (if i < tl + pn then (if i < tl then f0 i else fn (putB nb) (i - tl)) else f (i - (tl + pn))) ≤ 255
      split
      · split
        · exact g3 i
        · exact pb _
      · exact hby _, by show place * 112 + (tl + pn + nb) ≤ A.u + pn + nb; omega, hu, fun _ => by omega⟩, s2.ne, s2'.nL, s2'.nT, fun b hb h => by
      rcases n4 b hb with h1 | h1
      · exact s2'.nV b h1.symm h
      · have := s1.lt b h.1; omega, by have := s2.fl; omega⟩
    obtain ⟨j1, j2⟩ := k.relog (A' := ⟨A.al, A.u + pn + nb⟩) s2' (fun b h => s3 b h.1) s4 s5 s1_typedF n3 (fun b h => .inr (h.imp id (fun h => h.symm))) sd1 (fun h => h) lp (fun b h => .inl h) (fun b hb => (n4 b hb).imp (fun h => h.symm) id) (fun p l f hp h => h) (Nat.le_refl _) (Nat.le_succ _)
    exact ⟨_, j1, j2, fun b hb => hb.imp id (fun h => h.1)⟩
end Go.Proofs.YthfokciijcmhbaaGreatDoor

namespace Go.Proofs.YthfokciijcmhbaaGreatDoor
open Go.RowKit
set_option linter.unusedVariables false

/-- A slice that tells just these bytes, and lies past B. -/
def Bs (B : Nat) (w : World) (v : Value) (xs : List Int) : Prop := ∃ a c, v = .slice a xs.length c ∧ From w a xs.length (fn xs) ∧ (a = none → c = 0) ∧ ∀ y, a = some y → B ≤ y.block
theorem Bs.below {B : Nat} {w w' : World} {v : Value} {xs : List Int} (h : Bs B w v xs) (hb : Below w.heap.size w w') : Bs B w' v xs := by
  obtain ⟨a, c, h1, h2, h3, h4⟩ := h
  exact ⟨a, c, h1, h2.below hb (Nat.le_refl _), h3, h4⟩
theorem Bs.mono {B B' : Nat} {w : World} {v : Value} {xs : List Int} (h : Bs B w v xs) (hB : B' ≤ B) : Bs B' w v xs := by
  obtain ⟨a, c, h1, h2, h3, h4⟩ := h
  exact ⟨a, c, h1, h2, h3, fun y hy => Nat.le_trans hB (h4 y hy)⟩
theorem Bs.nil (B : Nat) (w : World) : Bs B w (.slice none 0 0) [] := ⟨none, 0, rfl, .inl ⟨rfl, rfl⟩, fun _ => rfl, fun _ h => by cases h⟩
theorem Own.bs {w : World} {B : Nat} {v : Value} {xs : List Int} (h : Own w B v xs) : Bs B w v xs := by
  obtain ⟨a, c, h1, h2, h3, _, _, h4⟩ := h.open
  exact ⟨a, c, h1, h2, h3, fun y hy => by obtain ⟨k, rfl, hk, _⟩ := h4 y hy; exact hk⟩
def txB (s : ByteArray) : List Int := putB s.size ++ strL s
theorem c_put {B : Nat} {w : World} {a : Option Addr} {n c : Nat} {xs : List Int} (h : Bs B w (.slice a n c) xs) (hB : B ≤ w.heap.size) (hl : xs.length ≤ 1000000) (z : Nat) (hz : z ≤ 9223372036854775807) : Calls Tryz.prog 122 #[.slice a n c, .int .i64 (z : Int)] w fun r w' => ∃ a n c, r = .returned (.slice a n c) ∧ Below w.heap.size w w' ∧ Hid (Bs B w' (.slice a n c) (xs ++ putB z)) := by
  obtain ⟨a', c', e, hf, hc, _⟩ := h
  injection e with e1 e2 e3
  subst e1 e2 e3
  refine (wPut a xs.length c (fn xs) (z : Int) w (by omega) hf hc (by omega)).mono fun r w' ⟨v, hr, ho, hb⟩ => ?_
  rw [Int.toNat_natCast, lst_fn] at ho
  obtain ⟨a2, c2, rfl, _⟩ := ho.open
  exact ⟨a2, _, c2, hr, hb, ho.bs.mono hB⟩
theorem c_text {B : Nat} {w : World} {a : Option Addr} {n c : Nat} {xs : List Int} (h : Bs B w (.slice a n c) xs) (hB : B ≤ w.heap.size) (hl : xs.length ≤ 1000000) (s : ByteArray) (hs : s.size ≤ 1000000) : Calls Tryz.prog 83 #[.slice a n c, .string s] w fun r w' => ∃ a n c, r = .returned (.slice a n c) ∧ Below w.heap.size w w' ∧ Hid (Bs B w' (.slice a n c) (xs ++ txB s)) := by
  obtain ⟨a', c', e, hf, hc, _⟩ := h
  injection e with e1 e2 e3
  subst e1 e2 e3
  refine (wText2 a xs.length c (fn xs) s w (by omega) hf hc).mono fun r w' ⟨v, hr, ho, hb⟩ => ?_
  rw [lst_fn, List.append_assoc] at ho
  obtain ⟨a2, c2, rfl, _⟩ := ho.open
  exact ⟨a2, _, c2, hr, hb, ho.bs.mono hB⟩
theorem txB_len (s : ByteArray) (h : s.size ≤ 1000) : (txB s).length ≤ s.size + 2 := by
  unfold txB
  have : (putB s.size).length ≤ 2 := putB_len 1 s.size (by have h9 : (128 : Nat) ^ (1 + 1) = 16384 := (by decide); omega)
  rw [List.length_append, strL_length]
  omega
theorem putB_len6 (n : Nat) (h : n ≤ 1099511627776) : (putB n).length ≤ 6 := putB_len 5 n (by have h9 : (128 : Nat) ^ (5 + 1) = 4398046511104 := (by decide); omega)
theorem strL_by (s : ByteArray) : ∀ x ∈ strL s, 0 ≤ x ∧ x ≤ 255 := fun x hx => by
  obtain ⟨b, _, rfl⟩ := List.mem_map.1 hx
  have := b.toNat_lt
  omega
theorem putB_in (n : Nat) (h : n ≤ 9223372036854775807) : ∀ x ∈ putB n, 0 ≤ x ∧ x ≤ 255 := putB_by 9 n (by have h9 : (128 : Nat) ^ (9 + 1) = 1180591620717411303424 := (by decide); omega)
/-- A record's bytes. -/
def encB (k t p o : Nat) (ah be : ByteArray) (nm : Nat) : List Int :=
  putB k ++ putB t ++ (if k = 1 ∨ k = 2 then putB p ++ putB o else []) ++ (if k = 1 then txB ah ++ txB be else if k = 2 then txB be ++ putB nm else [])
theorem encB_by {k t p o nm : Nat} {ah be : ByteArray} (h1 : k ≤ 4) (h2 : t ≤ 1099511627776) (h3 : p ≤ 1000) (h4 : o ≤ 1000) (h5 : ah.size ≤ 1000) (h6 : be.size ≤ 1000) (h7 : nm ≤ 1099511627776) : ∀ x ∈ encB k t p o ah be nm, 0 ≤ x ∧ x ≤ 255 := by
  intro x hx
  unfold encB txB at hx
  have key : x ∈ putB k ∨ x ∈ putB t ∨ x ∈ putB p ∨ x ∈ putB o ∨ x ∈ putB ah.size ∨ x ∈ strL ah ∨ x ∈ putB be.size ∨ x ∈ strL be ∨ x ∈ putB nm := by
    rcases List.mem_append.1 hx with hx | hx
    · rcases List.mem_append.1 hx with hx | hx
      · rcases List.mem_append.1 hx with hx | hx
        · exact .inl hx
        · exact .inr (.inl hx)
      · split at hx
        · rcases List.mem_append.1 hx with hx | hx
          · exact .inr (.inr (.inl hx))
          · exact .inr (.inr (.inr (.inl hx)))
        · cases hx
    · split at hx
      · rcases List.mem_append.1 hx with hx | hx
        · rcases List.mem_append.1 hx with hx | hx
          · exact .inr (.inr (.inr (.inr (.inl hx))))
          · exact .inr (.inr (.inr (.inr (.inr (.inl hx)))))
        · rcases List.mem_append.1 hx with hx | hx
          · exact .inr (.inr (.inr (.inr (.inr (.inr (.inl hx))))))
          · exact .inr (.inr (.inr (.inr (.inr (.inr (.inr (.inl hx)))))))
      · split at hx
        · rcases List.mem_append.1 hx with hx | hx
          · rcases List.mem_append.1 hx with hx | hx
            · exact .inr (.inr (.inr (.inr (.inr (.inr (.inl hx))))))
            · exact .inr (.inr (.inr (.inr (.inr (.inr (.inr (.inl hx)))))))
          · exact .inr (.inr (.inr (.inr (.inr (.inr (.inr (.inr hx)))))))
        · cases hx
  rcases key with h | h | h | h | h | h | h | h | h
  · exact putB_in k (by omega) x h
  · exact putB_in t (by omega) x h
  · exact putB_in p (by omega) x h
  · exact putB_in o (by omega) x h
  · exact putB_in _ (by omega) x h
  · exact strL_by _ x h
  · exact putB_in _ (by omega) x h
  · exact strL_by _ x h
  · exact putB_in nm (by omega) x h
theorem encB_len {k t p o nm : Nat} {ah be : ByteArray} (h1 : k ≤ 4) (h2 : t ≤ 1099511627776) (h3 : p ≤ 100) (h4 : o ≤ 112) (h5 : ah.size ≤ 112) (h6 : be.size ≤ 112) (h7 : nm ≤ 1099511627776) : 0 < (encB k t p o ah be nm).length ∧ (encB k t p o ah be nm).length ≤ 9 + (if k = 1 then ah.size + be.size + 4 else if k = 2 then be.size + 8 else 0) := by
  have a1 : (putB k).length = 1 := by rw [putB_small k (by omega)]; rfl
  have a2 := putB_len6 t h2
  have a3 : (putB p).length = 1 := by rw [putB_small p (by omega)]; rfl
  have a4 : (putB o).length = 1 := by rw [putB_small o (by omega)]; rfl
  have a5 := txB_len ah (by omega)
  have a6 := txB_len be (by omega)
  have a7 := putB_len6 nm h7
  unfold encB
  simp only [List.length_append, a1]
  split <;> split <;> (try split) <;> simp only [List.length_append, List.length_nil, a3, a4] <;> omega
def recV (k t p o : Nat) (ah be : ByteArray) (nm : Nat) : Value := .agg #[.int .i64 (k : Int), .int .i64 (t : Int), .int .i64 (p : Int), .int .i64 (o : Int), .string ah, .string be, .int .i64 (nm : Int)]
set_option maxRecDepth 100000 in
set_option maxHeartbeats 1000000 in
theorem c_changes (k t p o : Nat) (ah be : ByteArray) (nm : Nat) (w : World) (hk : k ≤ 4) : Calls Tryz.prog 108 #[.agg #[.int .i64 (k : Int), .int .i64 (t : Int), .int .i64 (p : Int), .int .i64 (o : Int), .string ah, .string be, .int .i64 (nm : Int)]] w fun r w' => r = .returned (.bool (decide (k = 1 ∨ k = 2))) ∧ Below w.heap.size w w' := by
  have HB : Hid (∀ o q, Below w.heap.size w ((w.alloc o).drewN q)) := fun o q => blw_drewN q ((Below.refl _ w).alloc (Nat.le_refl _) o)
  have hr : k = 0 ∨ k = 1 ∨ k = 2 ∨ k = 3 ∨ k = 4 := by omega
  rcases hr with rfl | rfl | rfl | rfl | rfl
  all_goals
    go_enter Tryz.func108, Tryz.ntmps108
    go_wp2
    try go_quiet (fail)
    try go_wp2
    go_ret
    exact ⟨rfl, HB.out _ 0⟩
end Go.Proofs.YthfokciijcmhbaaGreatDoor

namespace Go.Proofs.YthfokciijcmhbaaGreatDoor
open Go.RowKit
set_option linter.unusedVariables false

theorem pp_pp {W0 W : World} {a : Option Addr} {n c : Nat} {xs : List Int} (h : Bs W0.heap.size W (.slice a n c) xs) (hl : xs.length ≤ 1000) (hB : Below W0.heap.size W0 W) (z1 z2 : Nat) (hz : z1 ≤ 9223372036854775807 ∧ z2 ≤ 9223372036854775807) : ∀ wq, Below W.heap.size W wq → Calls Tryz.prog 122 #[.slice a n c, .int .i64 (z1 : Int)] wq fun r w' => ∃ a n c, r = .returned (.slice a n c) ∧ Below W0.heap.size W0 w' ∧ Hid (∀ wq2, Below w'.heap.size w' wq2 → Calls Tryz.prog 122 #[.slice a n c, .int .i64 (z2 : Int)] wq2 fun r w'' => ∃ a n c, r = .returned (.slice a n c) ∧ Below W0.heap.size W0 w'' ∧ Hid (Bs W0.heap.size w'' (.slice a n c) (xs ++ putB z1 ++ putB z2))) := fun wq hq => (c_put (h.below hq) (by have := hB.size; have := hq.size; omega) (by omega) z1 (by omega)).mono fun r w' ⟨a2, n2, c2, hr, hb, hs⟩ => ⟨a2, n2, c2, hr, (hB.trans (hq.mono hB.size)).trans (hb.mono (by have := hB.size; have := hq.size; omega)), fun wq2 hq2 => (c_put (hs.out.below hq2) (by have := hB.size; have := hq.size; have := hb.size; have := hq2.size; omega) (by rw [List.length_append]; have := putB_le z1 (by omega); omega) z2 (by omega)).mono fun r w'' ⟨a3, n3, c3, hr3, hb3, hs3⟩ => ⟨a3, n3, c3, hr3, by
    have := hB.size
    have := hq.size
    have := hb.size
    have := hq2.size
    exact (((hB.trans (hq.mono hB.size)).trans (hb.mono (by omega))).trans (hq2.mono (by omega))).trans (hb3.mono (by omega)), hs3⟩⟩
theorem pp_tt {W0 W : World} {a : Option Addr} {n c : Nat} {xs : List Int} (h : Bs W0.heap.size W (.slice a n c) xs) (hl : xs.length ≤ 1000) (hB : Below W0.heap.size W0 W) (s1 s2 : ByteArray) (hz : s1.size ≤ 1000 ∧ s2.size ≤ 1000) : ∀ wq, Below W.heap.size W wq → Calls Tryz.prog 83 #[.slice a n c, .string s1] wq fun r w' => ∃ a n c, r = .returned (.slice a n c) ∧ Below W0.heap.size W0 w' ∧ Hid (∀ wq2, Below w'.heap.size w' wq2 → Calls Tryz.prog 83 #[.slice a n c, .string s2] wq2 fun r w'' => ∃ a n c, r = .returned (.slice a n c) ∧ Below W0.heap.size W0 w'' ∧ Hid (Bs W0.heap.size w'' (.slice a n c) (xs ++ txB s1 ++ txB s2))) := fun wq hq => (c_text (h.below hq) (by have := hB.size; have := hq.size; omega) (by omega) s1 (by omega)).mono fun r w' ⟨a2, n2, c2, hr, hb, hs⟩ => ⟨a2, n2, c2, hr, (hB.trans (hq.mono hB.size)).trans (hb.mono (by have := hB.size; have := hq.size; omega)), fun wq2 hq2 => (c_text (hs.out.below hq2) (by have := hB.size; have := hq.size; have := hb.size; have := hq2.size; omega) (by rw [List.length_append]; have := txB_len s1 (by omega); omega) s2 (by omega)).mono fun r w'' ⟨a3, n3, c3, hr3, hb3, hs3⟩ => ⟨a3, n3, c3, hr3, by
    have := hB.size
    have := hq.size
    have := hb.size
    have := hq2.size
    exact (((hB.trans (hq.mono hB.size)).trans (hb.mono (by omega))).trans (hq2.mono (by omega))).trans (hb3.mono (by omega)), hs3⟩⟩
theorem pp_tp {W0 W : World} {a : Option Addr} {n c : Nat} {xs : List Int} (h : Bs W0.heap.size W (.slice a n c) xs) (hl : xs.length ≤ 1000) (hB : Below W0.heap.size W0 W) (s1 : ByteArray) (z2 : Nat) (hz : s1.size ≤ 1000 ∧ z2 ≤ 9223372036854775807) : ∀ wq, Below W.heap.size W wq → Calls Tryz.prog 83 #[.slice a n c, .string s1] wq fun r w' => ∃ a n c, r = .returned (.slice a n c) ∧ Below W0.heap.size W0 w' ∧ Hid (∀ wq2, Below w'.heap.size w' wq2 → Calls Tryz.prog 122 #[.slice a n c, .int .i64 (z2 : Int)] wq2 fun r w'' => ∃ a n c, r = .returned (.slice a n c) ∧ Below W0.heap.size W0 w'' ∧ Hid (Bs W0.heap.size w'' (.slice a n c) (xs ++ txB s1 ++ putB z2))) := fun wq hq => (c_text (h.below hq) (by have := hB.size; have := hq.size; omega) (by omega) s1 (by omega)).mono fun r w' ⟨a2, n2, c2, hr, hb, hs⟩ => ⟨a2, n2, c2, hr, (hB.trans (hq.mono hB.size)).trans (hb.mono (by have := hB.size; have := hq.size; omega)), fun wq2 hq2 => (c_put (hs.out.below hq2) (by have := hB.size; have := hq.size; have := hb.size; have := hq2.size; omega) (by rw [List.length_append]; have := txB_len s1 (by omega); omega) z2 (by omega)).mono fun r w'' ⟨a3, n3, c3, hr3, hb3, hs3⟩ => ⟨a3, n3, c3, hr3, by
    have := hB.size
    have := hq.size
    have := hb.size
    have := hq2.size
    exact (((hB.trans (hq.mono hB.size)).trans (hb.mono (by omega))).trans (hq2.mono (by omega))).trans (hb3.mono (by omega)), hs3⟩⟩
set_option maxRecDepth 100000 in
set_option maxHeartbeats 4000000 in
theorem c_enc1 (t p o nm : Nat) (ah be : ByteArray) (w : World) (h2 : t ≤ 1099511627776) (h3 : p ≤ 100) (h4 : o ≤ 112) (h5 : ah.size ≤ 112) (h6 : be.size ≤ 112) (h7 : nm ≤ 1099511627776) : Calls Tryz.prog 84 #[.agg #[.int .i64 1, .int .i64 (t : Int), .int .i64 (p : Int), .int .i64 (o : Int), .string ah, .string be, .int .i64 (nm : Int)]] w fun r w' => ∃ a n c, r = .returned (.slice a n c) ∧ Below w.heap.size w w' ∧ Hid (Bs w.heap.size w' (.slice a n c) (encB 1 t p o ah be nm)) := by
  obtain ⟨ob, hO⟩ : ∃ ob, Obj.cells #[.int .i64 1, .int .i64 (t : Int), .int .i64 (p : Int), .int .i64 (o : Int), .string ah, .string be, .int .i64 (nm : Int)] 114 = ob := ⟨_, rfl⟩
  obtain ⟨W0, hW⟩ : ∃ W0, w.alloc ob = W0 := ⟨_, rfl⟩
  obtain ⟨B, hB⟩ : ∃ B, w.heap.size = B := ⟨_, rfl⟩
  have hsz : W0.heap.size = B + 1 := by rw [← hW, ← hB]; simp
  have hb0 : Below B w W0 := by rw [← hW, ← hB]; exact (Below.refl _ w).alloc (Nat.le_refl _) ob
  have h00 : W0.heap[B]? = some (.cells #[.int .i64 1, .int .i64 (t : Int), .int .i64 (p : Int), .int .i64 (o : Int), .string ah, .string be, .int .i64 (nm : Int)] 114 (0, 0)) := by rw [← hW, ← hO]; exact heap_alloc_at _ _ _ hB.symm
  have HA : Hid (∀ wq, Below W0.heap.size W0 wq → wq.cell? ⟨B, 0, none⟩ = some (.int .i64 1) ∧ wq.cell? ⟨B, 1, none⟩ = some (.int .i64 (t : Int)) ∧ wq.cell? ⟨B, 2, none⟩ = some (.int .i64 (p : Int)) ∧ wq.cell? ⟨B, 3, none⟩ = some (.int .i64 (o : Int)) ∧ wq.cell? ⟨B, 4, none⟩ = some (.string ah) ∧ wq.cell? ⟨B, 5, none⟩ = some (.string be) ∧ wq.cell? ⟨B, 6, none⟩ = some (.int .i64 (nm : Int))) := fun wq hq => by
    have e := (hq.block B (by omega)).trans h00
    exact ⟨by rw [cells_at e 0]; rfl, by rw [cells_at e 1]; rfl, by rw [cells_at e 2]; rfl, by rw [cells_at e 3]; rfl, by rw [cells_at e 4]; rfl, by rw [cells_at e 5]; rfl, by rw [cells_at e 6]; rfl⟩
  have HI1 : Hid (∀ wq, Below W0.heap.size W0 wq → wq.cell? ⟨B, 0, none⟩ = some (.int .i64 1) ∧ wq.cell? ⟨B, 1, none⟩ = some (.int .i64 (t : Int))) := fun wq hq => ⟨(HA.out wq hq).1, (HA.out wq hq).2.1⟩
  have HC1 : Hid (∀ wq, Below W0.heap.size W0 wq → Calls Tryz.prog 122 #[.slice none 0 0, .int .i64 1] wq fun r w' => ∃ a n c, r = .returned (.slice a n c) ∧ Below W0.heap.size W0 w' ∧ Hid (∀ wq2, Below w'.heap.size w' wq2 → Calls Tryz.prog 122 #[.slice a n c, .int .i64 (t : Int)] wq2 fun r w'' => ∃ a n c, r = .returned (.slice a n c) ∧ Below W0.heap.size W0 w'' ∧ Hid (Bs W0.heap.size w'' (.slice a n c) ([] ++ putB 1 ++ putB t)))) := pp_pp (Bs.nil _ W0) (by decide) (Below.refl _ W0) 1 t ⟨by omega, by omega⟩
  have HD : Hid (∀ (wq : World) a n c, Below W0.heap.size W0 wq → ∀ xs, Bs W0.heap.size wq (.slice a n c) xs → Below w.heap.size w wq ∧ Bs w.heap.size wq (.slice a n c) xs) := fun wq a n c hq xs hs => ⟨by rw [hB]; exact hb0.trans (hq.mono (by omega)), hs.mono (by omega)⟩
  have f1 : ([] ++ putB 1 ++ putB t).length ≤ 100 := by
    have := putB_len6 t h2
    have e1 : (putB 1).length = 1 := by rw [putB_small 1 (by omega)]; rfl
    rw [List.length_append, List.length_append, e1]
    simp only [List.length_nil]
    omega
  have HC3 : Hid (∀ (v1 : World) a n c, Below W0.heap.size W0 v1 → Bs W0.heap.size v1 (.slice a n c) ([] ++ putB 1 ++ putB t) → ∀ wq, Below v1.heap.size v1 wq → Calls Tryz.prog 122 #[.slice a n c, .int .i64 (p : Int)] wq fun r w' => ∃ a n c, r = .returned (.slice a n c) ∧ Below W0.heap.size W0 w' ∧ Hid (∀ wq2, Below w'.heap.size w' wq2 → Calls Tryz.prog 122 #[.slice a n c, .int .i64 (o : Int)] wq2 fun r w'' => ∃ a n c, r = .returned (.slice a n c) ∧ Below W0.heap.size W0 w'' ∧ Hid (Bs W0.heap.size w'' (.slice a n c) ([] ++ putB 1 ++ putB t ++ putB p ++ putB o)))) := fun v1 a n c hb hs => pp_pp hs (by omega) hb p o ⟨by omega, by omega⟩
  have f3 : ([] ++ putB 1 ++ putB t ++ putB p ++ putB o).length ≤ 100 := by
    have e1 : (putB p).length = 1 := by rw [putB_small p (by omega)]; rfl
    have e2 : (putB o).length = 1 := by rw [putB_small o (by omega)]; rfl
    have e3 := putB_len6 t h2
    have e4 : (putB 1).length = 1 := by rw [putB_small 1 (by omega)]; rfl
    simp only [List.length_append, List.length_nil, e1, e2, e4]
    omega
  have HC6 : Hid (∀ (v3 : World) a n c, Below W0.heap.size W0 v3 → Bs W0.heap.size v3 (.slice a n c) ([] ++ putB 1 ++ putB t ++ putB p ++ putB o) → ∀ wq, Below v3.heap.size v3 wq → Calls Tryz.prog 83 #[.slice a n c, .string ah] wq fun r w' => ∃ a n c, r = .returned (.slice a n c) ∧ Below W0.heap.size W0 w' ∧ Hid (∀ wq2, Below w'.heap.size w' wq2 → Calls Tryz.prog 83 #[.slice a n c, .string be] wq2 fun r w'' => ∃ a n c, r = .returned (.slice a n c) ∧ Below W0.heap.size W0 w'' ∧ Hid (Bs W0.heap.size w'' (.slice a n c) ([] ++ putB 1 ++ putB t ++ putB p ++ putB o ++ txB ah ++ txB be)))) := fun v1 a n c hb hs => pp_tt hs (by omega) hb ah be ⟨by omega, by omega⟩
  have HF : Hid (encB 1 t p o ah be nm = [] ++ putB 1 ++ putB t ++ putB p ++ putB o ++ txB ah ++ txB be) := by
    show encB 1 t p o ah be nm = _
    unfold encB
    rw [if_pos (.inl rfl), if_pos rfl]
    simp only [List.nil_append, List.append_assoc]
  have HCh : Hid (∀ wq, Below W0.heap.size W0 wq → Calls Tryz.prog 108 #[.agg #[.int .i64 1, .int .i64 (t : Int), .int .i64 (p : Int), .int .i64 (o : Int), .string ah, .string be, .int .i64 (nm : Int)]] wq fun r w' => r = .returned (.bool true) ∧ Below W0.heap.size W0 w' ∧ Below wq.heap.size wq w') := fun wq hq => (c_changes 1 t p o ah be nm wq (by omega)).mono fun r w' ⟨hr, hb⟩ => ⟨by rw [hr]; rfl, hq.trans (hb.mono hq.size), hb⟩
  have b0 : Below W0.heap.size W0 W0 := Below.refl _ _
  obtain ⟨x0, x1, _⟩ := HA.out W0 b0
  clear hb0 h00 hsz h2 h3 h4 h5 h6 h7
  go_enter Tryz.func84, Tryz.ntmps84
  go_wp2_with fail
  try rw [hO]
  try rw [hW]
  try rw [hB]
  go_region_held2 (fun wq => wq.cell? ⟨B, 0, none⟩ = some (.int .i64 1) ∧ wq.cell? ⟨B, 1, none⟩ = some (.int .i64 (t : Int)))
    (first | exact HI1.out _ (by assumption) | exact HI1.out _ (blw_drewN 1 (by assumption)) | go_keep)
    (first
      | (go_at_call 122; refine (HC1b.out _ (by first | exact Below.refl _ _ | exact blw_drewN 1 (Below.refl _ _))).mono ?_; rintro e' v1 ⟨a1, n1, c1, rfl, k1, HE1⟩)
      | (go_at_call 122; refine (HC1.out _ (by first | exact Below.refl _ _ | exact blw_drewN 1 (Below.refl _ _))).mono ?_; rintro e' u1 ⟨a1b, n1b, c1b, rfl, k1b, HC1b⟩))
  clear x0 x1 HC1 HC1b k1b
  obtain ⟨x0, x1, x2, x3, x4, x5, x6⟩ := HA.out v1 k1
  go_wp2_with fail
  refine (HCh.out v1 k1).mono ?_
  rintro r w2 ⟨rfl, kw2, bw2⟩
  clear x0 x1 x2 x3 x4 x5 x6
  obtain ⟨x0, x1, x2, x3, x4, x5, x6⟩ := HA.out w2 kw2
  have HI3 : Hid (∀ wq, Below W0.heap.size W0 wq → wq.cell? ⟨B, 2, none⟩ = some (.int .i64 (p : Int)) ∧ wq.cell? ⟨B, 3, none⟩ = some (.int .i64 (o : Int))) := fun wq hq => ⟨(HA.out wq hq).2.2.1, (HA.out wq hq).2.2.2.1⟩
  have HS3 : Hid (Bs W0.heap.size w2 (.slice a1 n1 c1) ([] ++ putB 1 ++ putB t)) := HE1.out.below bw2
  clear HE1 HI1 k1
  go_wp2_with fail
  go_region_held2 (fun wq => wq.cell? ⟨B, 2, none⟩ = some (.int .i64 (p : Int)) ∧ wq.cell? ⟨B, 3, none⟩ = some (.int .i64 (o : Int)))
    (first | exact HI3.out _ (by assumption) | exact HI3.out _ (blw_drewN 1 (by assumption)) | go_keep)
    (first
      | (go_at_call 122; refine (HC3b.out _ (by first | exact Below.refl _ _ | exact blw_drewN 1 (Below.refl _ _))).mono ?_; rintro e' v3 ⟨a3, n3, c3, rfl, k3, HE3⟩)
      | (go_at_call 122; refine (HC3.out w2 a1 n1 c1 kw2 HS3.out _ (by first | exact Below.refl _ _ | exact blw_drewN 1 (Below.refl _ _))).mono ?_; rintro e' u3 ⟨a3b, n3b, c3b, rfl, k3b, HC3b⟩))
  clear x0 x1 x2 x3 x4 x5 x6 HC3 HC3b k3b
  obtain ⟨x0, x1, x2, x3, x4, x5, x6⟩ := HA.out v3 k3
  clear HI3 HS3
  have HI6 : Hid (∀ wq, Below W0.heap.size W0 wq → wq.cell? ⟨B, 4, none⟩ = some (.string ah) ∧ wq.cell? ⟨B, 5, none⟩ = some (.string be)) := fun wq hq => ⟨(HA.out wq hq).2.2.2.2.1, (HA.out wq hq).2.2.2.2.2.1⟩
  go_wp2_with fail
  go_region_held2 (fun wq => wq.cell? ⟨B, 4, none⟩ = some (.string ah) ∧ wq.cell? ⟨B, 5, none⟩ = some (.string be))
    (first | exact HI6.out _ (by assumption) | exact HI6.out _ (blw_drewN 1 (by assumption)) | go_keep)
    (first
      | (go_at_call 83; refine (HC6b.out _ (by first | exact Below.refl _ _ | exact blw_drewN 1 (Below.refl _ _))).mono ?_; rintro e' v6 ⟨a6, n6, c6, rfl, k6, HE6⟩)
      | (go_at_call 83; refine (HC6.out v3 a3 n3 c3 k3 HE3.out _ (by first | exact Below.refl _ _ | exact blw_drewN 1 (Below.refl _ _))).mono ?_; rintro e' u6 ⟨a6b, n6b, c6b, rfl, k6b, HC6b⟩))
  clear x0 x1 x2 x3 x4 x5 x6
  go_wp2
  go_ret
  exact ⟨a6, n6, c6, rfl, (HD.out v6 a6 n6 c6 k6 _ HE6.out).1, by rw [HF.out]; exact (HD.out v6 a6 n6 c6 k6 _ HE6.out).2⟩
set_option maxRecDepth 100000 in
set_option maxHeartbeats 4000000 in
theorem c_enc2 (t p o nm : Nat) (ah be : ByteArray) (w : World) (h2 : t ≤ 1099511627776) (h3 : p ≤ 100) (h4 : o ≤ 112) (h5 : ah.size ≤ 112) (h6 : be.size ≤ 112) (h7 : nm ≤ 1099511627776) : Calls Tryz.prog 84 #[.agg #[.int .i64 2, .int .i64 (t : Int), .int .i64 (p : Int), .int .i64 (o : Int), .string ah, .string be, .int .i64 (nm : Int)]] w fun r w' => ∃ a n c, r = .returned (.slice a n c) ∧ Below w.heap.size w w' ∧ Hid (Bs w.heap.size w' (.slice a n c) (encB 2 t p o ah be nm)) := by
  obtain ⟨ob, hO⟩ : ∃ ob, Obj.cells #[.int .i64 2, .int .i64 (t : Int), .int .i64 (p : Int), .int .i64 (o : Int), .string ah, .string be, .int .i64 (nm : Int)] 114 = ob := ⟨_, rfl⟩
  obtain ⟨W0, hW⟩ : ∃ W0, w.alloc ob = W0 := ⟨_, rfl⟩
  obtain ⟨B, hB⟩ : ∃ B, w.heap.size = B := ⟨_, rfl⟩
  have hsz : W0.heap.size = B + 1 := by rw [← hW, ← hB]; simp
  have hb0 : Below B w W0 := by rw [← hW, ← hB]; exact (Below.refl _ w).alloc (Nat.le_refl _) ob
  have h00 : W0.heap[B]? = some (.cells #[.int .i64 2, .int .i64 (t : Int), .int .i64 (p : Int), .int .i64 (o : Int), .string ah, .string be, .int .i64 (nm : Int)] 114 (0, 0)) := by rw [← hW, ← hO]; exact heap_alloc_at _ _ _ hB.symm
  have HA : Hid (∀ wq, Below W0.heap.size W0 wq → wq.cell? ⟨B, 0, none⟩ = some (.int .i64 2) ∧ wq.cell? ⟨B, 1, none⟩ = some (.int .i64 (t : Int)) ∧ wq.cell? ⟨B, 2, none⟩ = some (.int .i64 (p : Int)) ∧ wq.cell? ⟨B, 3, none⟩ = some (.int .i64 (o : Int)) ∧ wq.cell? ⟨B, 4, none⟩ = some (.string ah) ∧ wq.cell? ⟨B, 5, none⟩ = some (.string be) ∧ wq.cell? ⟨B, 6, none⟩ = some (.int .i64 (nm : Int))) := fun wq hq => by
    have e := (hq.block B (by omega)).trans h00
    exact ⟨by rw [cells_at e 0]; rfl, by rw [cells_at e 1]; rfl, by rw [cells_at e 2]; rfl, by rw [cells_at e 3]; rfl, by rw [cells_at e 4]; rfl, by rw [cells_at e 5]; rfl, by rw [cells_at e 6]; rfl⟩
  have HI1 : Hid (∀ wq, Below W0.heap.size W0 wq → wq.cell? ⟨B, 0, none⟩ = some (.int .i64 2) ∧ wq.cell? ⟨B, 1, none⟩ = some (.int .i64 (t : Int))) := fun wq hq => ⟨(HA.out wq hq).1, (HA.out wq hq).2.1⟩
  have HC1 : Hid (∀ wq, Below W0.heap.size W0 wq → Calls Tryz.prog 122 #[.slice none 0 0, .int .i64 2] wq fun r w' => ∃ a n c, r = .returned (.slice a n c) ∧ Below W0.heap.size W0 w' ∧ Hid (∀ wq2, Below w'.heap.size w' wq2 → Calls Tryz.prog 122 #[.slice a n c, .int .i64 (t : Int)] wq2 fun r w'' => ∃ a n c, r = .returned (.slice a n c) ∧ Below W0.heap.size W0 w'' ∧ Hid (Bs W0.heap.size w'' (.slice a n c) ([] ++ putB 2 ++ putB t)))) := pp_pp (Bs.nil _ W0) (by decide) (Below.refl _ W0) 2 t ⟨by omega, by omega⟩
  have HD : Hid (∀ (wq : World) a n c, Below W0.heap.size W0 wq → ∀ xs, Bs W0.heap.size wq (.slice a n c) xs → Below w.heap.size w wq ∧ Bs w.heap.size wq (.slice a n c) xs) := fun wq a n c hq xs hs => ⟨by rw [hB]; exact hb0.trans (hq.mono (by omega)), hs.mono (by omega)⟩
  have f1 : ([] ++ putB 2 ++ putB t).length ≤ 100 := by
    have := putB_len6 t h2
    have e1 : (putB 2).length = 1 := by rw [putB_small 2 (by omega)]; rfl
    rw [List.length_append, List.length_append, e1]
    simp only [List.length_nil]
    omega
  have HC3 : Hid (∀ (v1 : World) a n c, Below W0.heap.size W0 v1 → Bs W0.heap.size v1 (.slice a n c) ([] ++ putB 2 ++ putB t) → ∀ wq, Below v1.heap.size v1 wq → Calls Tryz.prog 122 #[.slice a n c, .int .i64 (p : Int)] wq fun r w' => ∃ a n c, r = .returned (.slice a n c) ∧ Below W0.heap.size W0 w' ∧ Hid (∀ wq2, Below w'.heap.size w' wq2 → Calls Tryz.prog 122 #[.slice a n c, .int .i64 (o : Int)] wq2 fun r w'' => ∃ a n c, r = .returned (.slice a n c) ∧ Below W0.heap.size W0 w'' ∧ Hid (Bs W0.heap.size w'' (.slice a n c) ([] ++ putB 2 ++ putB t ++ putB p ++ putB o)))) := fun v1 a n c hb hs => pp_pp hs (by omega) hb p o ⟨by omega, by omega⟩
  have f3 : ([] ++ putB 2 ++ putB t ++ putB p ++ putB o).length ≤ 100 := by
    have e1 : (putB p).length = 1 := by rw [putB_small p (by omega)]; rfl
    have e2 : (putB o).length = 1 := by rw [putB_small o (by omega)]; rfl
    have e3 := putB_len6 t h2
    have e4 : (putB 2).length = 1 := by rw [putB_small 2 (by omega)]; rfl
    simp only [List.length_append, List.length_nil, e1, e2, e4]
    omega
  have HC6 : Hid (∀ (v3 : World) a n c, Below W0.heap.size W0 v3 → Bs W0.heap.size v3 (.slice a n c) ([] ++ putB 2 ++ putB t ++ putB p ++ putB o) → ∀ wq, Below v3.heap.size v3 wq → Calls Tryz.prog 83 #[.slice a n c, .string be] wq fun r w' => ∃ a n c, r = .returned (.slice a n c) ∧ Below W0.heap.size W0 w' ∧ Hid (∀ wq2, Below w'.heap.size w' wq2 → Calls Tryz.prog 122 #[.slice a n c, .int .i64 (nm : Int)] wq2 fun r w'' => ∃ a n c, r = .returned (.slice a n c) ∧ Below W0.heap.size W0 w'' ∧ Hid (Bs W0.heap.size w'' (.slice a n c) ([] ++ putB 2 ++ putB t ++ putB p ++ putB o ++ txB be ++ putB nm)))) := fun v1 a n c hb hs => pp_tp hs (by omega) hb be nm ⟨by omega, by omega⟩
  have HF : Hid (encB 2 t p o ah be nm = [] ++ putB 2 ++ putB t ++ putB p ++ putB o ++ txB be ++ putB nm) := by
    show encB 2 t p o ah be nm = _
    unfold encB
    rw [if_pos (.inr rfl), if_neg (by decide), if_pos rfl]
    simp only [List.nil_append, List.append_assoc]
  have HCh : Hid (∀ wq, Below W0.heap.size W0 wq → Calls Tryz.prog 108 #[.agg #[.int .i64 2, .int .i64 (t : Int), .int .i64 (p : Int), .int .i64 (o : Int), .string ah, .string be, .int .i64 (nm : Int)]] wq fun r w' => r = .returned (.bool true) ∧ Below W0.heap.size W0 w' ∧ Below wq.heap.size wq w') := fun wq hq => (c_changes 2 t p o ah be nm wq (by omega)).mono fun r w' ⟨hr, hb⟩ => ⟨by rw [hr]; rfl, hq.trans (hb.mono hq.size), hb⟩
  have b0 : Below W0.heap.size W0 W0 := Below.refl _ _
  obtain ⟨x0, x1, _⟩ := HA.out W0 b0
  clear hb0 h00 hsz h2 h3 h4 h5 h6 h7
  go_enter Tryz.func84, Tryz.ntmps84
  go_wp2_with fail
  try rw [hO]
  try rw [hW]
  try rw [hB]
  go_region_held2 (fun wq => wq.cell? ⟨B, 0, none⟩ = some (.int .i64 2) ∧ wq.cell? ⟨B, 1, none⟩ = some (.int .i64 (t : Int)))
    (first | exact HI1.out _ (by assumption) | exact HI1.out _ (blw_drewN 1 (by assumption)) | go_keep)
    (first
      | (go_at_call 122; refine (HC1b.out _ (by first | exact Below.refl _ _ | exact blw_drewN 1 (Below.refl _ _))).mono ?_; rintro e' v1 ⟨a1, n1, c1, rfl, k1, HE1⟩)
      | (go_at_call 122; refine (HC1.out _ (by first | exact Below.refl _ _ | exact blw_drewN 1 (Below.refl _ _))).mono ?_; rintro e' u1 ⟨a1b, n1b, c1b, rfl, k1b, HC1b⟩))
  clear x0 x1 HC1 HC1b k1b
  obtain ⟨x0, x1, x2, x3, x4, x5, x6⟩ := HA.out v1 k1
  go_wp2_with fail
  refine (HCh.out v1 k1).mono ?_
  rintro r w2 ⟨rfl, kw2, bw2⟩
  clear x0 x1 x2 x3 x4 x5 x6
  obtain ⟨x0, x1, x2, x3, x4, x5, x6⟩ := HA.out w2 kw2
  have HI3 : Hid (∀ wq, Below W0.heap.size W0 wq → wq.cell? ⟨B, 2, none⟩ = some (.int .i64 (p : Int)) ∧ wq.cell? ⟨B, 3, none⟩ = some (.int .i64 (o : Int))) := fun wq hq => ⟨(HA.out wq hq).2.2.1, (HA.out wq hq).2.2.2.1⟩
  have HS3 : Hid (Bs W0.heap.size w2 (.slice a1 n1 c1) ([] ++ putB 2 ++ putB t)) := HE1.out.below bw2
  clear HE1 HI1 k1
  go_wp2_with fail
  go_region_held2 (fun wq => wq.cell? ⟨B, 2, none⟩ = some (.int .i64 (p : Int)) ∧ wq.cell? ⟨B, 3, none⟩ = some (.int .i64 (o : Int)))
    (first | exact HI3.out _ (by assumption) | exact HI3.out _ (blw_drewN 1 (by assumption)) | go_keep)
    (first
      | (go_at_call 122; refine (HC3b.out _ (by first | exact Below.refl _ _ | exact blw_drewN 1 (Below.refl _ _))).mono ?_; rintro e' v3 ⟨a3, n3, c3, rfl, k3, HE3⟩)
      | (go_at_call 122; refine (HC3.out w2 a1 n1 c1 kw2 HS3.out _ (by first | exact Below.refl _ _ | exact blw_drewN 1 (Below.refl _ _))).mono ?_; rintro e' u3 ⟨a3b, n3b, c3b, rfl, k3b, HC3b⟩))
  clear x0 x1 x2 x3 x4 x5 x6 HC3 HC3b k3b
  obtain ⟨x0, x1, x2, x3, x4, x5, x6⟩ := HA.out v3 k3
  clear HI3 HS3
  have HI6 : Hid (∀ wq, Below W0.heap.size W0 wq → wq.cell? ⟨B, 5, none⟩ = some (.string be) ∧ wq.cell? ⟨B, 6, none⟩ = some (.int .i64 (nm : Int))) := fun wq hq => ⟨(HA.out wq hq).2.2.2.2.2.1, (HA.out wq hq).2.2.2.2.2.2⟩
  go_wp2_with fail
  go_region_held2 (fun wq => wq.cell? ⟨B, 5, none⟩ = some (.string be) ∧ wq.cell? ⟨B, 6, none⟩ = some (.int .i64 (nm : Int)))
    (first | exact HI6.out _ (by assumption) | exact HI6.out _ (blw_drewN 1 (by assumption)) | go_keep)
    (first
      | (go_at_call 122; refine (HC6b.out _ (by first | exact Below.refl _ _ | exact blw_drewN 1 (Below.refl _ _))).mono ?_; rintro e' v6 ⟨a6, n6, c6, rfl, k6, HE6⟩)
      | (go_at_call 83; refine (HC6.out v3 a3 n3 c3 k3 HE3.out _ (by first | exact Below.refl _ _ | exact blw_drewN 1 (Below.refl _ _))).mono ?_; rintro e' u6 ⟨a6b, n6b, c6b, rfl, k6b, HC6b⟩))
  clear x0 x1 x2 x3 x4 x5 x6
  go_wp2
  go_ret
  exact ⟨a6, n6, c6, rfl, (HD.out v6 a6 n6 c6 k6 _ HE6.out).1, by rw [HF.out]; exact (HD.out v6 a6 n6 c6 k6 _ HE6.out).2⟩
set_option maxRecDepth 100000 in
set_option maxHeartbeats 4000000 in
theorem c_enc3 ( k t p o nm : Nat) (ah be : ByteArray) (w : World) (hk : k = 3 ∨ k = 4) (h2 : t ≤ 1099511627776) (h3 : p ≤ 100) (h4 : o ≤ 112) (h5 : ah.size ≤ 112) (h6 : be.size ≤ 112) (h7 : nm ≤ 1099511627776) : Calls Tryz.prog 84 #[.agg #[.int .i64 (k : Int), .int .i64 (t : Int), .int .i64 (p : Int), .int .i64 (o : Int), .string ah, .string be, .int .i64 (nm : Int)]] w fun r w' => ∃ a n c, r = .returned (.slice a n c) ∧ Below w.heap.size w w' ∧ Hid (Bs w.heap.size w' (.slice a n c) (encB k t p o ah be nm)) := by
  obtain ⟨ob, hO⟩ : ∃ ob, Obj.cells #[.int .i64 (k : Int), .int .i64 (t : Int), .int .i64 (p : Int), .int .i64 (o : Int), .string ah, .string be, .int .i64 (nm : Int)] 114 = ob := ⟨_, rfl⟩
  obtain ⟨W0, hW⟩ : ∃ W0, w.alloc ob = W0 := ⟨_, rfl⟩
  obtain ⟨B, hB⟩ : ∃ B, w.heap.size = B := ⟨_, rfl⟩
  have hsz : W0.heap.size = B + 1 := by rw [← hW, ← hB]; simp
  have hb0 : Below B w W0 := by rw [← hW, ← hB]; exact (Below.refl _ w).alloc (Nat.le_refl _) ob
  have h00 : W0.heap[B]? = some (.cells #[.int .i64 (k : Int), .int .i64 (t : Int), .int .i64 (p : Int), .int .i64 (o : Int), .string ah, .string be, .int .i64 (nm : Int)] 114 (0, 0)) := by rw [← hW, ← hO]; exact heap_alloc_at _ _ _ hB.symm
  have HA : Hid (∀ wq, Below W0.heap.size W0 wq → wq.cell? ⟨B, 0, none⟩ = some (.int .i64 (k : Int)) ∧ wq.cell? ⟨B, 1, none⟩ = some (.int .i64 (t : Int)) ∧ wq.cell? ⟨B, 2, none⟩ = some (.int .i64 (p : Int)) ∧ wq.cell? ⟨B, 3, none⟩ = some (.int .i64 (o : Int)) ∧ wq.cell? ⟨B, 4, none⟩ = some (.string ah) ∧ wq.cell? ⟨B, 5, none⟩ = some (.string be) ∧ wq.cell? ⟨B, 6, none⟩ = some (.int .i64 (nm : Int))) := fun wq hq => by
    have e := (hq.block B (by omega)).trans h00
    exact ⟨by rw [cells_at e 0]; rfl, by rw [cells_at e 1]; rfl, by rw [cells_at e 2]; rfl, by rw [cells_at e 3]; rfl, by rw [cells_at e 4]; rfl, by rw [cells_at e 5]; rfl, by rw [cells_at e 6]; rfl⟩
  have HI1 : Hid (∀ wq, Below W0.heap.size W0 wq → wq.cell? ⟨B, 0, none⟩ = some (.int .i64 (k : Int)) ∧ wq.cell? ⟨B, 1, none⟩ = some (.int .i64 (t : Int))) := fun wq hq => ⟨(HA.out wq hq).1, (HA.out wq hq).2.1⟩
  have HC1 : Hid (∀ wq, Below W0.heap.size W0 wq → Calls Tryz.prog 122 #[.slice none 0 0, .int .i64 (k : Int)] wq fun r w' => ∃ a n c, r = .returned (.slice a n c) ∧ Below W0.heap.size W0 w' ∧ Hid (∀ wq2, Below w'.heap.size w' wq2 → Calls Tryz.prog 122 #[.slice a n c, .int .i64 (t : Int)] wq2 fun r w'' => ∃ a n c, r = .returned (.slice a n c) ∧ Below W0.heap.size W0 w'' ∧ Hid (Bs W0.heap.size w'' (.slice a n c) ([] ++ putB k ++ putB t)))) := pp_pp (Bs.nil _ W0) (by decide) (Below.refl _ W0) k t ⟨by omega, by omega⟩
  have HD : Hid (∀ (wq : World) a n c, Below W0.heap.size W0 wq → ∀ xs, Bs W0.heap.size wq (.slice a n c) xs → Below w.heap.size w wq ∧ Bs w.heap.size wq (.slice a n c) xs) := fun wq a n c hq xs hs => ⟨by rw [hB]; exact hb0.trans (hq.mono (by omega)), hs.mono (by omega)⟩
  have f1 : ([] ++ putB k ++ putB t).length ≤ 100 := by
    have := putB_len6 t h2
    have e1 : (putB k).length = 1 := by rw [putB_small k (by omega)]; rfl
    rw [List.length_append, List.length_append, e1]
    simp only [List.length_nil]
    omega
  have HF : Hid (encB k t p o ah be nm = [] ++ putB k ++ putB t) := by
    show encB k t p o ah be nm = _
    unfold encB
    rw [if_neg (by omega), if_neg (by omega), if_neg (by omega)]
    simp only [List.nil_append, List.append_nil]
  have HCh : Hid (∀ wq, Below W0.heap.size W0 wq → Calls Tryz.prog 108 #[.agg #[.int .i64 (k : Int), .int .i64 (t : Int), .int .i64 (p : Int), .int .i64 (o : Int), .string ah, .string be, .int .i64 (nm : Int)]] wq fun r w' => r = .returned (.bool false) ∧ Below W0.heap.size W0 w' ∧ Below wq.heap.size wq w') := fun wq hq => (c_changes k t p o ah be nm wq (by omega)).mono fun r w' ⟨hr, hb⟩ => ⟨by rw [hr]; rw [decide_eq_false (by omega)], hq.trans (hb.mono hq.size), hb⟩
  have hk1 : ((k : Int) == 1) = false := by rw [beq_eq_false_iff_ne]; omega
  have hk2 : ((k : Int) == 2) = false := by rw [beq_eq_false_iff_ne]; omega
  have hk3 : (k == 1) = false := by rw [beq_eq_false_iff_ne]; omega
  have hk4 : (k == 2) = false := by rw [beq_eq_false_iff_ne]; omega
  have b0 : Below W0.heap.size W0 W0 := Below.refl _ _
  obtain ⟨x0, x1, _⟩ := HA.out W0 b0
  clear hb0 h00 hsz h2 h3 h4 h5 h6 h7 hk
  go_enter Tryz.func84, Tryz.ntmps84
  go_wp2_with fail
  try rw [hO]
  try rw [hW]
  try rw [hB]
  go_region_held2 (fun wq => wq.cell? ⟨B, 0, none⟩ = some (.int .i64 (k : Int)) ∧ wq.cell? ⟨B, 1, none⟩ = some (.int .i64 (t : Int)))
    (first | exact HI1.out _ (by assumption) | exact HI1.out _ (blw_drewN 1 (by assumption)) | go_keep)
    (first
      | (go_at_call 122; refine (HC1b.out _ (by first | exact Below.refl _ _ | exact blw_drewN 1 (Below.refl _ _))).mono ?_; rintro e' v1 ⟨a1, n1, c1, rfl, k1, HE1⟩)
      | (go_at_call 122; refine (HC1.out _ (by first | exact Below.refl _ _ | exact blw_drewN 1 (Below.refl _ _))).mono ?_; rintro e' u1 ⟨a1b, n1b, c1b, rfl, k1b, HC1b⟩))
  clear x0 x1 HC1 HC1b k1b
  obtain ⟨x0, x1, x2, x3, x4, x5, x6⟩ := HA.out v1 k1
  go_wp2_with fail
  refine (HCh.out v1 k1).mono ?_
  rintro r w2 ⟨rfl, kw2, bw2⟩
  clear x0 x1 x2 x3 x4 x5 x6
  obtain ⟨x0, x1, x2, x3, x4, x5, x6⟩ := HA.out w2 kw2
  go_wp2
  go_ret
  exact ⟨a1, n1, c1, rfl, (HD.out w2 a1 n1 c1 kw2 _ (HE1.out.below bw2)).1, by rw [HF.out]; exact (HD.out w2 a1 n1 c1 kw2 _ (HE1.out.below bw2)).2⟩
end Go.Proofs.YthfokciijcmhbaaGreatDoor
