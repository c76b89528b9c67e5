/-
  Contracts of the document's own Reader (rostrumref01): Uint, Byte, Text, on a reader that has read p of n bytes, which lie below block L.
-/
import Derived.Test.YtbpolfoagmehhaaDoorRdW
namespace Go.Proofs.YtbpolfoagmehhaaDoor
open Go.RowKit
set_option linter.unusedVariables false

/-- The document's reader at block X: it has read p of the n bytes f, which lie below block L. -/
structure RefInv (w : World) (X L : Nat) (f : Nat → Int) (n p : Nat) : Prop where
  hp : p ≤ n
  big : n ≤ 140737488355328
  by_ : ∀ i, 0 ≤ f i ∧ f i ≤ 255
  free : w.frozen? ⟨X, 0, none⟩ = false
  hL : L ≤ X
  lies : ∃ ao c, w.cell? ⟨X, 0, none⟩ = some (.slice ao (n - p) c) ∧ n - p ≤ c ∧ c ≤ 9223372036854775807 ∧ (n - p = 0 ∨ ∃ b off, ao = some ⟨b, off, none⟩ ∧ b < L ∧ ∀ i, i < n - p → w.cell? ⟨b, off + i, none⟩ = some (.int .u8 (sh f p i)))

theorem RefInv.lay {w : World} {L : Nat} {ao : Option Addr} {m : Nat} {f : Nat → Int} (h : m = 0 ∨ ∃ b off, ao = some ⟨b, off, none⟩ ∧ b < L ∧ ∀ i, i < m → w.cell? ⟨b, off + i, none⟩ = some (.int .u8 (f i))) : Lay w ao m f := by
  rcases h with h | ⟨b, off, h1, h2, h3⟩
  · exact .inl h
  · exact .inr ⟨b, off, h1, h3⟩

theorem RefInv.kept {w w' : World} {X L : Nat} {f : Nat → Int} {n p : Nat} (h : RefInv w X L f n p) (hX : w'.heap[X]? = w.heap[X]?) (hL : ∀ k, k < L → w'.heap[k]? = w.heap[k]?) : RefInv w' X L f n p := by
  obtain ⟨ao, c, h1, h2, h3, h4⟩ := h.lies
  refine ⟨h.hp, h.big, h.by_, (World.frozen?_of_block (w := w) hX).trans h.free, h.hL, ao, c, (World.cell?_of_block (w := w) hX).trans h1, h2, h3, ?_⟩
  rcases h4 with h4 | ⟨b, off, k1, k2, k3⟩
  · exact .inl h4
  · exact .inr ⟨b, off, k1, k2, fun i hi => (World.cell?_of_block (w := w) (hL b k2)).trans (k3 i hi)⟩

/-- The document's reader moved on by k bytes. -/
theorem RefInv.moved {w : World} {X L : Nat} {f : Nat → Int} {n p : Nat} (h : RefInv w X L f n p) (b off c k o' : Nat) (hb : b < L) (hcell : ∀ i, i < n - p → w.cell? ⟨b, off + i, none⟩ = some (.int .u8 (sh f p i))) (hk : k ≤ n - p)
    (hc : n - p ≤ c) (hc2 : c ≤ 9223372036854775807) (u : Value) (hu : w.cell? ⟨X, 0, none⟩ = some u) (ho : n - p - k = 0 ∨ o' = off + k) :
    RefInv (w.setCell ⟨X, 0, none⟩ (.slice (some ⟨b, o', none⟩) (n - p - k) (c - k))) X L f n (p + k) := by
  have hp := h.hp
  have hL := h.hL
  have hf := h.free
  refine ⟨by omega, h.big, h.by_, ?_, hL, some ⟨b, o', none⟩, c - k, ?_, by omega, by omega, ?_⟩
  · go_simp
  · rw [World.cell?_setCell_same _ _ _ hu, Nat.sub_sub]
  · rcases ho with ho | ho
    · exact .inl (by omega)
    · refine .inr ⟨b, o', rfl, hb, fun i hi => ?_⟩
      subst ho
      rw [World.cell?_setCell_other _ _ _ _ (fun e => by have : X = b := congrArg Addr.block e; omega), Nat.add_assoc, hcell (k + i) (by omega)]
      simp [sh, Nat.add_assoc]

/-- The world behind 'r.B = r.B[k:]'. -/
def Cuts (w w' : World) (X b off r c k : Nat) : Prop := ∃ o', (r - k = 0 ∨ o' = off + k) ∧ w' = w.setCell ⟨X, 0, none⟩ (.slice (some ⟨b, o', none⟩) (r - k) (c - k))
theorem Cuts.at_end {w w' : World} {X b off r : Nat} (h : w' = w.setCell ⟨X, 0, none⟩ (.slice (some ⟨b, off, none⟩) 0 0)) : Cuts w w' X b off r r r := ⟨off, .inl (Nat.sub_self _), by rw [h, Nat.sub_self]⟩
theorem Cuts.within {w w' : World} {X b off r c k : Nat} (h : w' = w.setCell ⟨X, 0, none⟩ (.slice (some ⟨b, off + k, none⟩) (r - k) (c - k))) : Cuts w w' X b off r c k := ⟨off + k, .inr rfl, h⟩

set_option maxHeartbeats 400000 in
theorem xUint_err {w : World} {X L : Nat} {f : Nat → Int} {n p : Nat} (h : RefInv w X L f n p) (a s e : Int) (hN : Hid (Wm.num (sh f p) (n - p) = (a, s, e))) (he : (e != 0) = true) :
    Calls Tryd.prog 26 #[.pointer (some ⟨X, 0, none⟩)] w fun e' w' => e' = .returned (.tuple #[.int .i64 0, .int .i64 e]) ∧ w' = w := by
  obtain ⟨ao, c, h1, h2, h3, h4⟩ := h.lies
  have hbig := h.big
  have hl := RefInv.lay h4
  go_enter Tryd.func26, Tryd.ntmps26
  go_wp2_with fail
  refine (uint_any ao (n - p) c (sh f p) w (by omega) (sh_by h.by_ p) hl).mono ?_
  rintro e' w' ⟨rfl, rfl⟩
  rw [hN.out]
  go_wp2
  go_ret2
  exact ⟨rfl, rfl⟩

set_option maxHeartbeats 400000 in
theorem xUint_step (X b off r c k : Nat) (F : Nat → Int) (w : World) (a : Int) (h1 : w.cell? ⟨X, 0, none⟩ = some (.slice (some ⟨b, off, none⟩) r c)) (hf : w.frozen? ⟨X, 0, none⟩ = false) (hN : Hid (Wm.num F r = (a, (k : Int), 0)))
    (hk : k ≤ r) (hr : r ≤ c) (hc : c ≤ 9223372036854775807) (hbig : r ≤ 140737488355328) (hby : ∀ i, 0 ≤ F i ∧ F i ≤ 255) (hl : Lay w (some ⟨b, off, none⟩) r F) :
    Calls Tryd.prog 26 #[.pointer (some ⟨X, 0, none⟩)] w fun e' w' => e' = .returned (.tuple #[.int .i64 a, .int .i64 0]) ∧ Cuts w w' X b off r c k := by
  by_cases hck : c = k
  · obtain rfl : r = k := by omega
    subst hck
    go_enter Tryd.func26, Tryd.ntmps26
    go_wp2_with fail
    refine (uint_any _ _ _ F w hbig hby hl).mono ?_
    rintro e' w' ⟨rfl, rfl⟩
    rw [hN.out]
    go_wp2
    go_ret2
    exact ⟨rfl, Cuts.at_end rfl⟩
  · have hck' : k < c := by omega
    clear hck
    go_enter Tryd.func26, Tryd.ntmps26
    go_wp2_with fail
    refine (uint_any _ _ _ F w hbig hby hl).mono ?_
    rintro e' w' ⟨rfl, rfl⟩
    rw [hN.out]
    go_wp2
    go_ret2
    exact ⟨rfl, Cuts.within rfl⟩

theorem xUint_ok {w : World} {X L : Nat} {f : Nat → Int} {n p : Nat} (h : RefInv w X L f n p) (a : Int) (k : Nat) (hN : Hid (Wm.num (sh f p) (n - p) = (a, (k : Int), 0))) (hk0 : 0 < k) (hk : k ≤ n - p) :
    Calls Tryd.prog 26 #[.pointer (some ⟨X, 0, none⟩)] w fun e' w' => e' = .returned (.tuple #[.int .i64 a, .int .i64 0]) ∧ RefInv w' X L f n (p + k) ∧ Only X w w' := by
  obtain ⟨ao, c, h1, h2, h3, h4⟩ := h.lies
  have hbig := h.big
  have hl := RefInv.lay h4
  obtain ⟨b, off, rfl, hb, hcell⟩ := h4.resolve_left (by omega)
  refine (xUint_step X b off (n - p) c k (sh f p) w a h1 h.free hN hk h2 h3 (by omega) (sh_by h.by_ p) hl).mono fun e' w' ⟨he, o', ho, hw⟩ => ⟨he, ?_, ?_⟩
  · rw [hw]; exact h.moved b off c k o' hb hcell hk h2 h3 _ h1 ho
  · rw [hw]; exact (Only.refl X w).setCell rfl _

theorem xUint {w : World} {X L : Nat} {f : Nat → Int} {n p : Nat} (h : RefInv w X L f n p) :
    Calls Tryd.prog 26 #[.pointer (some ⟨X, 0, none⟩)] w fun e w' => e = .returned (.tuple #[.int .i64 (Wm.num (sh f p) (n - p)).1, .int .i64 (Wm.num (sh f p) (n - p)).2.2]) ∧ RefInv w' X L f n (p + (Wm.num (sh f p) (n - p)).2.1.toNat) ∧ Only X w w' := by
  have HN := Wm.num_bd (sh f p) (n - p)
  have HP := Wm.num_pos (sh f p) (n - p)
  have hp := h.hp
  obtain ⟨N, hN⟩ : ∃ N, N = Wm.num (sh f p) (n - p) := ⟨_, rfl⟩
  rw [← hN] at HN HP ⊢
  obtain ⟨a, s, e⟩ := N
  obtain ⟨b1, b2, b3, b4, b5⟩ := HN
  by_cases he : e = 0
  · have hs0 := HP he
    subst he
    obtain ⟨k, hk⟩ := Int.eq_ofNat_of_zero_le b3
    simp only at hk b1 b2 b3 b4 hs0
    subst hk
    exact xUint_ok h a k hN.symm (by omega) (by omega)
  · obtain ⟨z1, z2⟩ := b5 he
    simp only at z1 z2
    subst z1 z2
    refine (xUint_err h 0 0 e hN.symm (by simpa using he)).mono fun e' w' ⟨h1, h2⟩ => ⟨h1, ?_, ?_⟩
    · rw [h2]; exact h
    · rw [h2]; exact Only.refl X w

set_option maxHeartbeats 400000 in
theorem xText_err {w : World} {X L : Nat} {f : Nat → Int} {n p : Nat} (h : RefInv w X L f n p) (most a s e : Int) (hN : Hid (Wm.num (sh f p) (n - p) = (a, s, e))) (he : (e != 0) = true) :
    Calls Tryd.prog 27 #[.pointer (some ⟨X, 0, none⟩), .int .i64 most] w fun e' w' => e' = .returned (.tuple #[.string ByteArray.empty, .int .i64 e]) ∧ w' = w := by
  obtain ⟨ao, c, h1, h2, h3, h4⟩ := h.lies
  have hbig := h.big
  have hl := RefInv.lay h4
  go_enter Tryd.func27, Tryd.ntmps27
  go_wp2_with fail
  refine (uint_any ao (n - p) c (sh f p) w (by omega) (sh_by h.by_ p) hl).mono ?_
  rintro e' w' ⟨rfl, rfl⟩
  rw [hN.out]
  go_wp2
  go_ret2
  exact ⟨rfl, rfl⟩

set_option maxHeartbeats 400000 in
theorem xText_long {w : World} {X L : Nat} {f : Nat → Int} {n p : Nat} (h : RefInv w X L f n p) (most a s : Int) (hN : Hid (Wm.num (sh f p) (n - p) = (a, s, 0))) (hm : max most 0 < a) :
    Calls Tryd.prog 27 #[.pointer (some ⟨X, 0, none⟩), .int .i64 most] w fun e' w' => e' = .returned (.tuple #[.string ByteArray.empty, .int .i64 12]) ∧ w' = w := by
  obtain ⟨ao, c, h1, h2, h3, h4⟩ := h.lies
  have hbig := h.big
  have hl := RefInv.lay h4
  go_enter Tryd.func27, Tryd.ntmps27
  go_wp2_with fail
  refine (uint_any ao (n - p) c (sh f p) w (by omega) (sh_by h.by_ p) hl).mono ?_
  rintro e' w' ⟨rfl, rfl⟩
  rw [hN.out]
  go_wp2
  all_goals
    go_ret2
    exact ⟨rfl, rfl⟩

set_option maxHeartbeats 400000 in
theorem xText_short (X b off r c k m : Nat) (F : Nat → Int) (w : World) (most : Int) (h1 : w.cell? ⟨X, 0, none⟩ = some (.slice (some ⟨b, off, none⟩) r c)) (hN : Hid (Wm.num F r = ((m : Int), (k : Int), 0)))
    (hk : k ≤ r) (hbig : r ≤ 140737488355328) (hby : ∀ i, 0 ≤ F i ∧ F i ≤ 255) (hl : Lay w (some ⟨b, off, none⟩) r F) (g1 : (m : Int) ≤ max most 0) (hs : (r : Int) - (k : Int) < (m : Int)) :
    Calls Tryd.prog 27 #[.pointer (some ⟨X, 0, none⟩), .int .i64 most] w fun e' w' => e' = .returned (.tuple #[.string ByteArray.empty, .int .i64 10]) ∧ w' = w := by
  go_enter Tryd.func27, Tryd.ntmps27
  go_wp2_with fail
  refine (uint_any _ _ _ F w hbig hby hl).mono ?_
  rintro e' w' ⟨rfl, rfl⟩
  rw [hN.out]
  go_wp2
  all_goals
    go_ret2
    exact ⟨rfl, rfl⟩

set_option maxHeartbeats 1000000 in
theorem xText_step (X b off r c k m : Nat) (F G : Nat → Int) (w : World) (most : Int) (h1 : w.cell? ⟨X, 0, none⟩ = some (.slice (some ⟨b, off, none⟩) r c)) (hf : w.frozen? ⟨X, 0, none⟩ = false) (hN : Hid (Wm.num F r = ((m : Int), (k : Int), 0)))
    (hr : r ≤ c) (hc : c ≤ 9223372036854775807) (hbig : r ≤ 140737488355328) (hby : ∀ i, 0 ≤ F i ∧ F i ≤ 255) (hl : Lay w (some ⟨b, off, none⟩) r F) (g1 : (m : Int) ≤ max most 0) (hs : k + m ≤ r)
    (hG : Hid (∀ i, i < m → w.cell? ⟨b, off + k + i, none⟩ = some (.int .u8 (G i)))) :
    Calls Tryd.prog 27 #[.pointer (some ⟨X, 0, none⟩), .int .i64 most] w fun e' w' => e' = .returned (.tuple #[.string (strF G m), .int .i64 0]) ∧ Cuts w w' X b off r c (k + m) := by
  have hs' : (m : Int) ≤ (r : Int) - (k : Int) := by omega
  have hs2 : (k : Int) + (m : Int) ≤ (r : Int) := by omega
  have hcv : ∀ c, (convert 24 9 (.slice (some ⟨b, off + k, none⟩) m c)).run Tryd.prog w = .ok (.string (strF G m)) w := fun c => conv_at b (off + k) m c G w hG.out
  by_cases hck : c = k
  · obtain rfl : m = 0 := by omega
    obtain rfl : r = k := by omega
    subst hck
    have hcv : ∀ c, (convert 24 9 (.slice (some ⟨b, off, none⟩) 0 c)).run Tryd.prog w = .ok (.string (strF G 0)) w := fun c => conv_at b off 0 c G w (fun i hi => absurd hi (by omega))
    go_enter Tryd.func27, Tryd.ntmps27
    go_wp2_with fail
    refine (uint_any _ _ _ F w hbig hby hl).mono ?_
    rintro e' w' ⟨rfl, rfl⟩
    rw [hN.out]
    go_wp2
    all_goals
      go_ret2
      exact ⟨rfl, Cuts.at_end rfl⟩
  · have hck' : k < c := by omega
    clear hck
    by_cases hkm : c = k + m
    · obtain rfl : r = k + m := by omega
      subst hkm
      go_enter Tryd.func27, Tryd.ntmps27
      go_wp2_with fail
      refine (uint_any _ _ _ F w hbig hby hl).mono ?_
      rintro e' w' ⟨rfl, rfl⟩
      rw [hN.out]
      go_wp2
      all_goals
        go_ret2
        exact ⟨rfl, Cuts.at_end rfl⟩
    · have hkm' : k + m < c := by omega
      clear hkm
      go_enter Tryd.func27, Tryd.ntmps27
      go_wp2_with fail
      refine (uint_any _ _ _ F w hbig hby hl).mono ?_
      rintro e' w' ⟨rfl, rfl⟩
      rw [hN.out]
      go_wp2
      all_goals
        go_ret2
        exact ⟨rfl, Cuts.within rfl⟩

theorem xText {w : World} {X L : Nat} {f : Nat → Int} {n p : Nat} (h : RefInv w X L f n p) (most : Int) :
    Calls Tryd.prog 27 #[.pointer (some ⟨X, 0, none⟩), .int .i64 most] w fun e w' => e = .returned (.tuple #[.string (txt f n p most).1, .int .i64 (txt f n p most).2.1]) ∧ RefInv w' X L f n (txt f n p most).2.2 ∧ Only X w w' := by
  have HN := Wm.num_bd (sh f p) (n - p)
  have HP := Wm.num_pos (sh f p) (n - p)
  have hp := h.hp
  have hbig := h.big
  unfold txt
  obtain ⟨N, hN⟩ : ∃ N, N = Wm.num (sh f p) (n - p) := ⟨_, rfl⟩
  rw [← hN] at HN HP ⊢
  obtain ⟨a, s, e⟩ := N
  obtain ⟨b1, b2, b3, b4, b5⟩ := HN
  have same : ∀ {E : Ending} {e' : Ending} {w' : World}, e' = E ∧ w' = w → e' = E ∧ RefInv w' X L f n p ∧ Only X w w' := by
    rintro E e' w' ⟨h1, h2⟩
    rw [h2]
    exact ⟨h1, h, Only.refl X w⟩
  by_cases he : e = 0
  · have hs0 := HP he
    subst he
    obtain ⟨m, hm⟩ := Int.eq_ofNat_of_zero_le b1
    obtain ⟨k, hk⟩ := Int.eq_ofNat_of_zero_le b3
    simp only at hm hk b1 b2 b3 b4 hs0
    subst hm hk
    rw [if_neg (by simp)]
    by_cases hmx : max most 0 < (m : Int)
    · rw [if_pos hmx]
      exact (xText_long h most m k hN.symm hmx).mono fun e' w' hh => same hh
    · rw [if_neg hmx]
      obtain ⟨ao, c, h1, h2, h3, h4⟩ := h.lies
      have hl := RefInv.lay h4
      obtain ⟨b, off, rfl, hb, hcell⟩ := h4.resolve_left (by omega)
      by_cases hsh : ((n - p : Nat) : Int) - (k : Int) < (m : Int)
      · rw [if_pos hsh]
        exact (xText_short X b off (n - p) c k m (sh f p) w most h1 hN.symm (by omega) (by omega) (sh_by h.by_ p) hl (by omega) hsh).mono fun e' w' hh => same hh
      · rw [if_neg hsh]
        refine (xText_step X b off (n - p) c k m (sh f p) (sh f (p + k)) w most h1 h.free hN.symm h2 h3 (by omega) (sh_by h.by_ p) hl (by omega) (by omega) ?_).mono fun e' w' ⟨he, o', ho, hw⟩ => ⟨he, ?_, ?_⟩
        · intro i hi
          rw [Nat.add_assoc off k i, hcell (k + i) (by omega)]
          simp [sh, Nat.add_assoc]
        · rw [hw]
          have := h.moved b off c (k + m) o' hb hcell (by omega) h2 h3 _ h1 ho
          rw [← Nat.add_assoc] at this
          exact this
        · rw [hw]; exact (Only.refl X w).setCell rfl _
  · rw [if_pos he]
    exact (xText_err h most a s e hN.symm (by simpa using he)).mono fun e' w' hh => same hh
end Go.Proofs.YtbpolfoagmehhaaDoor
