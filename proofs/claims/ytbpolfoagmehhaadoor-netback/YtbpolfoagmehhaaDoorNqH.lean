/-
  net's codecs: all parts are read, one behind the other.
-/
import Derived.Test.YtbpolfoagmehhaaDoorNqG
namespace Go.Proofs.YtbpolfoagmehhaaDoor
open Go.RowKit
set_option linter.unusedVariables false

/-- What a codec's reading answers, where the reader stands then, and what the request has. -/
def sE (f : Nat → Int) (n p : Nat) : Sp → Int
  | .mk m => mkE f n p m
  | .nm o => (Wm.num (sh f p) (n - p)).2.2
  | .tx o most => (txt f n p most).2.1
def sP (f : Nat → Int) (n p : Nat) : Sp → Nat
  | .mk m => bP n p
  | .nm o => p + (Wm.num (sh f p) (n - p)).2.1.toNat
  | .tx o most => (txt f n p most).2.2
def sC (f : Nat → Int) (n p : Nat) (cs : Array Value) : Sp → Array Value
  | .mk m => cs
  | .nm o => cs.setIfInBounds o (.int .i64 (Wm.num (sh f p) (n - p)).1)
  | .tx o most => cs.setIfInBounds o (.string (txt f n p most).1)
def Sp.ok (N : Nat) : Sp → Prop
  | .mk m => True
  | .nm o => o < N
  | .tx o most => o < N
theorem sC_size (f : Nat → Int) (n p : Nat) (cs : Array Value) (s : Sp) : (sC f n p cs s).size = cs.size := by cases s <;> simp [sC]
def spAll (f : Nat → Int) (n : Nat) : List Sp → Nat → Array Value → Option (Nat × Array Value)
  | [], p, cs => some (p, cs)
  | s :: ss, p, cs => if sE f n p s = 0 then spAll f n ss (sP f n p s) (sC f n p cs s) else none
set_option maxHeartbeats 4000000 in
theorem r_join {w : World} {L H q : Nat} {v : Value} {ss : List Sp} {vs : List (Value × Value)} {j g R : Nat} {ao : Option Addr} {cap : Nat} {f : Nat → Int} {n p : Nat} {cs : Array Value} {T : TypeId}
    (h : Jn w L H q v ss vs j g) (hr : RS w R ao cap f n p q cs T) (hH : H ≤ w.heap.size) (hq : q < L) (hR : H ≤ R) (hsm : ss.length ≤ 10) (hok : ∀ s ∈ ss, s.ok cs.size) :
    Calls Tryd.prog 45 #[.pointer (some ⟨R, 0, none⟩), .pointer (some ⟨j, 0, none⟩)] w fun e w' => ∃ x : Int, e = .returned (.int .i64 x) ∧ ((x = 0 ∧ ∃ p' cs', spAll f n ss p cs = some (p', cs') ∧ RS w' R ao cap f n p' q cs' T) ∨ (x ≠ 0 ∧ spAll f n ss p cs = none)) ∧ K2 R q w w' := by
  obtain ⟨N, hN⟩ : ∃ N, N = vs.length := ⟨_, rfl⟩
  have hc : w.cell? ⟨j, 0, none⟩ = some (.slice (some ⟨g, 0, none⟩) N N) := by rw [hN]; exact cell_of h.box 0
  have HL : Hid (N = ss.length ∧ N = vs.length) := ⟨hN.trans h.len, hN⟩
  have hN10 : N ≤ 10 := by have := h.len; omega
  clear hN
  go_enter Tryd.func45, Tryd.ntmps45
  go_wp2
  go_loopw [9] (fun i wr => ∃ (k pk : Nat) (ck : Array Value), k ≤ N ∧ i = .int .i64 (k : Int) ∧ Hid (RS wr R ao cap f n pk q ck T ∧ ck.size = cs.size ∧ spAll f n ss p cs = spAll f n (ss.drop k) pk ck ∧ K2 R q w wr)) (fun i _ => N - (intOf i).toNat)
  case atStart => exact ⟨0, p, cs, Nat.zero_le _, rfl, hr, rfl, rfl, K2.refl _ _ _⟩
  case round =>
    obtain ⟨k, pk, ck, hk, rfl, hI⟩ := hrel
    obtain ⟨hRS, hcz, hall, hK⟩ := hI.out
    clear hI
    by_cases hlt : k < N
    · obtain ⟨l1, l3⟩ := HL.out
      obtain ⟨x, hx⟩ : ∃ x, vs[k]? = some x := ⟨_, List.getElem?_eq_getElem (by omega)⟩
      obtain ⟨s, hs⟩ : ∃ s, ss[k]? = some s := ⟨_, List.getElem?_eq_getElem (by omega)⟩
      have hblk : ∀ b, L ≤ b → b < H → wr.heap[b]? = w.heap[b]? := fun b h1 h2 => hK.block b (by omega) (by omega) (by omega)
      have hrow : wr.heap[g]? = _ := (hblk g h.g0 h.g1).trans h.row
      have hcd : Cd wr L H q s x := (h.all k s x hs hx).kept (Nat.le_refl _) (Nat.le_refl _) hblk
      have hdr : ss.drop k = s :: ss.drop (k + 1) := by
        have := List.drop_eq_getElem_cons (l := ss) (i := k) (by omega)
        rw [this]
        rw [List.getElem?_eq_getElem (by omega)] at hs
        injection hs with hs
        rw [hs]
      have hso : s.ok ck.size := by rw [hcz]; exact hok s (List.mem_of_getElem? hs)
      have c0 : wr.cell? ⟨g, k * 2, none⟩ = some x.1 := by rw [cell_of hrow, List.getElem?_toArray, Nat.mul_comm]; exact (row_at hx).1
      have c1 : wr.cell? ⟨g, k * 2 + 1, none⟩ = some x.2 := by rw [cell_of hrow, List.getElem?_toArray, Nat.mul_comm]; exact (row_at hx).2
      have hsz : w.heap.size ≤ wr.heap.size := hK.size
      have hRS' : ∀ o, RS (wr.alloc o) R ao cap f n pk q ck T := fun o => hRS.alloc o
      have hbox : ∀ (o : Obj) b, b < H → (wr.alloc o).heap[b]? = wr.heap[b]? := fun o b hb => Below.heap_alloc _ _ _ (by omega)
      have li : (k : Int) < (N : Int) := by omega
      have l0 : (0 : Int) ≤ (k : Int) := by omega
      have HE : Hid (∀ o w2, RS w2 R ao cap f n (sP f n pk s) q (sC f n pk ck s) T → K2 R q (wr.alloc o) w2 → sE f n pk s = 0 → RS w2 R ao cap f n (sP f n pk s) q (sC f n pk ck s) T ∧ (sC f n pk ck s).size = cs.size ∧ spAll f n ss p cs = spAll f n (ss.drop (k + 1)) (sP f n pk s) (sC f n pk ck s) ∧ K2 R q w w2) := fun o w2 h1 h2 h3 => by
        refine ⟨h1, by rw [sC_size]; exact hcz, ?_, (hK.trans (K2.alloc R q wr o)).trans h2⟩
        rw [hall, hdr, spAll, if_pos h3]
      have HF : Hid (∀ o w2, K2 R q (wr.alloc o) w2 → sE f n pk s ≠ 0 → spAll f n ss p cs = none ∧ K2 R q w w2) := fun o w2 h2 h3 => by
        refine ⟨?_, (hK.trans (K2.alloc R q wr o)).trans h2⟩
        rw [hall, hdr, spAll, if_neg h3]
      clear hall hdr hK hRS hrow hx hs h HL l1 l3 hok hr hblk hcz
      cases s with
      | mk m =>
        obtain ⟨b, b1, b2, rfl, b4⟩ := hcd
        have HC : ∀ ob, Calls Tryd.prog 47 #[.pointer (some ⟨R, 0, none⟩), .pointer (some ⟨b, 0, none⟩)] (wr.alloc ob) fun e w' => e = .returned (.int .i64 (sE f n pk (.mk m))) ∧ RS w' R ao cap f n (sP f n pk (.mk m)) q (sC f n pk ck (.mk m)) T ∧ K2 R q (wr.alloc ob) w' := fun ob => r_mark (hRS' ob) b m ((hbox ob b b2).trans b4) (by omega)
        clear hRS' hbox hso b4
        generalize sE f n pk (.mk m) = z at HC HE HF
        generalize sP f n pk (.mk m) = P' at HC HE HF
        generalize sC f n pk ck (.mk m) = C' at HC HE HF
        simp only [ptr] at c0 c1
        by_cases hz : z = 0
        · subst hz
          clear HF
          go_wp2_with (go_at_call 47; refine (HC _).mono ?_; rintro e w2 ⟨rfl, k1, k2⟩)
          go_roundw
          case rel => exact ⟨k + 1, P', C', by omega, by go_num, HE.out _ w2 k1 k2 trivial⟩
          case measure => simp [intOf]; omega
        · have hne : (z != 0) = true := by simpa using hz
          have HZ : Hid (z ≠ 0) := hz
          clear HE hz
          go_wp2_with (go_at_call 47; refine (HC _).mono ?_; rintro e w2 ⟨rfl, k1, k2⟩)
          go_ret
          have hfin := HF.out _ w2 k2 HZ.out
          exact ⟨z, rfl, .inr ⟨HZ.out, hfin.1⟩, hfin.2⟩
      | nm o =>
        obtain ⟨b, b1, b2, rfl, b4⟩ := hcd
        have HC : ∀ ob, Calls Tryd.prog 51 #[.pointer (some ⟨R, 0, none⟩), .pointer (some ⟨b, 0, none⟩)] (wr.alloc ob) fun e w' => e = .returned (.int .i64 (sE f n pk (.nm o))) ∧ RS w' R ao cap f n (sP f n pk (.nm o)) q (sC f n pk ck (.nm o)) T ∧ K2 R q (wr.alloc ob) w' := fun ob => r_num (hRS' ob) b o ((hbox ob b b2).trans b4) (by omega) (by omega) hso
        clear hRS' hbox hso b4
        generalize sE f n pk (.nm o) = z at HC HE HF
        generalize sP f n pk (.nm o) = P' at HC HE HF
        generalize sC f n pk ck (.nm o) = C' at HC HE HF
        simp only [ptr] at c0 c1
        by_cases hz : z = 0
        · subst hz
          clear HF
          go_wp2_with (go_at_call 51; refine (HC _).mono ?_; rintro e w2 ⟨rfl, k1, k2⟩)
          go_roundw
          case rel => exact ⟨k + 1, P', C', by omega, by go_num, HE.out _ w2 k1 k2 trivial⟩
          case measure => simp [intOf]; omega
        · have hne : (z != 0) = true := by simpa using hz
          have HZ : Hid (z ≠ 0) := hz
          clear HE hz
          go_wp2_with (go_at_call 51; refine (HC _).mono ?_; rintro e w2 ⟨rfl, k1, k2⟩)
          go_ret
          have hfin := HF.out _ w2 k2 HZ.out
          exact ⟨z, rfl, .inr ⟨HZ.out, hfin.1⟩, hfin.2⟩
      | tx o m =>
        obtain ⟨b, c, b1, b2, b5, b6, rfl, b4, b7⟩ := hcd
        have HC : ∀ ob, Calls Tryd.prog 55 #[.pointer (some ⟨R, 0, none⟩), .pointer (some ⟨c, 0, none⟩), .pointer (some ⟨b, 0, none⟩)] (wr.alloc ob) fun e w' => e = .returned (.int .i64 (sE f n pk (.tx o m))) ∧ RS w' R ao cap f n (sP f n pk (.tx o m)) q (sC f n pk ck (.tx o m)) T ∧ K2 R q (wr.alloc ob) w' := fun ob => r_text (hRS' ob) b c o m ((hbox ob b b2).trans b4) ((hbox ob c b6).trans b7) (by omega) (by omega) (by omega) (by omega) hso
        clear hRS' hbox hso b4 b7
        generalize sE f n pk (.tx o m) = z at HC HE HF
        generalize sP f n pk (.tx o m) = P' at HC HE HF
        generalize sC f n pk ck (.tx o m) = C' at HC HE HF
        simp only [ptr] at c0 c1
        by_cases hz : z = 0
        · subst hz
          clear HF
          go_wp2_with (go_at_call 55; refine (HC _).mono ?_; rintro e w2 ⟨rfl, k1, k2⟩)
          go_roundw
          case rel => exact ⟨k + 1, P', C', by omega, by go_num, HE.out _ w2 k1 k2 trivial⟩
          case measure => simp [intOf]; omega
        · have hne : (z != 0) = true := by simpa using hz
          have HZ : Hid (z ≠ 0) := hz
          clear HE hz
          go_wp2_with (go_at_call 55; refine (HC _).mono ?_; rintro e w2 ⟨rfl, k1, k2⟩)
          go_ret
          have hfin := HF.out _ w2 k2 HZ.out
          exact ⟨z, rfl, .inr ⟨HZ.out, hfin.1⟩, hfin.2⟩
    · obtain rfl : k = N := by omega
      have hd : ss.drop k = [] := List.drop_eq_nil_of_le (by have := HL.out.1; omega)
      rw [hd, spAll] at hall
      have HO : Hid (RS wr R ao cap f n pk q ck T ∧ spAll f n ss p cs = some (pk, ck) ∧ K2 R q w wr) := ⟨hRS, hall, hK⟩
      clear h hr hok hRS hall hK hd hcz
      go_wp2
      go_ret
      exact ⟨0, rfl, .inl ⟨rfl, pk, ck, HO.out.2.1, HO.out.1⟩, HO.out.2.2⟩
end Go.Proofs.YtbpolfoagmehhaaDoor
