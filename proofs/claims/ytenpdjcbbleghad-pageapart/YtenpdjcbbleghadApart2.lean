/-
  Contracts of page.Apart and of the document's own Apart: both tell where two loads part first, and how many bytes there are to the last such place (Ends). Condition: at most 2^47 bytes each.
-/
import Derived.Test.YtenpdjcbbleghadApart
namespace Go.Proofs.Ytenpdjcbbleghad
open Go.RowKit
set_option linter.unusedVariables false

set_option maxHeartbeats 400000 in
theorem wApart_same (a0 b0 : Option Addr) (n c m d : Nat) (f g : Nat → Int) (w : World) (hf : From w a0 n f) (hg : From w b0 m g) (he : lst f n = lst g m) :
    Calls Try.prog 8 #[.slice a0 n c, .slice b0 m d] w fun e w' => e = .returned (.tuple #[.int .i64 0, .int .i64 0]) ∧ ∃ q, w' = w.drewN q := by
  go_enter Try.func8, Try.ntmps8
  go_wp2_with fail
  refine (equal_yes a0 b0 n c m d f g w hf hg he).mono ?_
  rintro e w1 ⟨rfl, hw⟩
  obtain rfl : w = w1 := hw.symm
  go_wp2
  go_ret2
  exact ⟨rfl, 0, rfl⟩

theorem drewN_drewN (w : World) (p q : Nat) : (w.drewN p).drewN q = w.drewN (p + q) := by
  first | rfl | exact World.drewN_drewN w p q | simp [World.drewN, Nat.add_assoc]

set_option maxRecDepth 100000 in
set_option maxHeartbeats 1000000 in
theorem wApart_other (a0 b0 : Option Addr) (n c m d : Nat) (f g : Nat → Int) (w : World) (hn : n ≤ 140737488355328) (hm : m ≤ 140737488355328) (hf : From w a0 n f) (hg : From w b0 m g) (h1 : ∀ i, 0 ≤ f i ∧ f i ≤ 255) (h2 : ∀ i, 0 ≤ g i ∧ g i ≤ 255) (he : lst f n ≠ lst g m) :
    Calls Try.prog 8 #[.slice a0 n c, .slice b0 m d] w fun e w' => ∃ k l, e = .returned (.tuple #[.int .i64 ((k : Nat) : Int), .int .i64 (((l - k + 1 : Nat)) : Int)]) ∧ Ends f n g m k l ∧ ∃ q, w' = w.drewN q := by
  obtain ⟨Q, hQ, hPQ⟩ := part_ex he
  have HPQ : Hid (Pt f n g m Q) := hPQ
  obtain ⟨M, hM⟩ : ∃ M, max n m = M := ⟨_, rfl⟩
  have hM1 : max (n : Int) (m : Int) = (M : Int) := by omega
  have HM : Hid (max n m = M) := hM
  have hMb : M ≤ 140737488355328 := by omega
  have hM0 : 1 ≤ M := by omega
  rw [hM] at hQ
  clear hM hPQ
  go_enter Try.func8, Try.ntmps8
  go_wp2_with fail
  refine (equal_no a0 b0 n c m d f g w hf hg h1 h2 he).mono ?_
  rintro e w1 ⟨rfl, hw⟩
  obtain rfl : w = w1 := hw.symm
  clear he h1 h2
  have HF : Hid (From w a0 n f) := hf
  have HG : Hid (From w b0 m g) := hg
  clear hf hg hw
  go_wp2
  go_loopw [6] (fun i wr => ∃ (k q : Nat), i = .int .i64 (k : Int) ∧ k ≤ Q ∧ Hid (∀ j, j < k → ¬ Pt f n g m j) ∧ wr = w.drewN q) (fun i _ => Q - (intOf i).toNat)
  case atStart => exact ⟨0, 0, rfl, Nat.zero_le _, fun j hj => absurd hj (by omega), rfl⟩
  case round =>
    obtain ⟨k, q, rfl, hk, hno, rfl⟩ := hrel
    by_cases hp : Pt f n g m k
    · have HP : Hid (Pt f n g m k) := hp
      clear hp
      go_wp2_with fail
      refine (parted_yes a0 b0 n c m d k f g _ (HF.out.drew q) (HG.out.drew q) (by omega) HP.out).mono ?_
      rintro e w2 ⟨rfl, q2, rfl⟩
      go_wp2
      all_goals
        go_loopw [7] (fun i wr => ∃ (l p : Nat), i = .int .i64 (l : Int) ∧ k ≤ l ∧ l < M ∧ Hid (∀ j, l < j → j < M → ¬ Pt f n g m j) ∧ wr = w.drewN p) (fun i _ => (intOf i).toNat)
        case atStart => exact ⟨M - 1, q + q2, by go_num, by omega, by omega, fun j a b => absurd b (by omega), by first | rfl | exact drewN_drewN _ _ _⟩
        case round =>
          obtain ⟨l, p, rfl, hl, hlM, hno2, rfl⟩ := hrel
          by_cases hp2 : Pt f n g m l
          · have HP2 : Hid (Pt f n g m l) := hp2
            clear hp2
            go_wp2_with fail
            refine (parted_yes a0 b0 n c m d l f g _ (HF.out.drew p) (HG.out.drew p) (by omega) HP2.out).mono ?_
            rintro e w3 ⟨rfl, q3, rfl⟩
            go_wp2
            go_ret2
            refine ⟨k, l, ?_, ⟨HP.out, hno.out, HP2.out, by rw [HM.out]; exact hno2.out, hl, by rw [HM.out]; exact hlM⟩, _, by first | rfl | exact drewN_drewN _ _ _⟩
            have : ((l - k + 1 : Nat) : Int) = (l : Int) - k + 1 := by omega
            rw [this]
            rfl
          · have HN : Hid (¬ Pt f n g m l) := hp2
            have hlk : k < l := by
              have : k ≠ l := fun e => HN.out (e ▸ HP.out)
              omega
            clear hp2
            go_wp2_with fail
            refine (parted_no a0 b0 n c m d l f g _ (HF.out.drew p) (HG.out.drew p) (by omega) HN.out).mono ?_
            rintro e w3 ⟨rfl, q3, rfl⟩
            go_wp2
            go_roundw
            case rel =>
              refine ⟨l - 1, p + q3, by go_num, by omega, by omega, fun j a b => ?_, by first | rfl | exact drewN_drewN _ _ _⟩
              by_cases e : j = l
              · rw [e]; exact HN.out
              · exact hno2.out j (by omega) b
            case measure => simp [intOf]; omega
    · have HN : Hid (¬ Pt f n g m k) := hp
      have hkQ : k < Q := by
        have : k ≠ Q := fun e => HN.out (e ▸ HPQ.out)
        omega
      clear hp
      go_wp2_with fail
      refine (parted_no a0 b0 n c m d k f g _ (HF.out.drew q) (HG.out.drew q) (by omega) HN.out).mono ?_
      rintro e w2 ⟨rfl, q2, rfl⟩
      go_wp2
      go_roundw
      case rel =>
        refine ⟨k + 1, q + q2, by go_num, by omega, fun j hj => ?_, by first | rfl | exact drewN_drewN _ _ _⟩
        by_cases e : j = k
        · rw [e]; exact HN.out
        · exact hno.out j (by omega)
      case measure => simp [intOf]; omega

def Told (f : Nat → Int) (n : Nat) (g : Nat → Int) (m : Nat) (e : Ending) : Prop :=
  (lst f n = lst g m ∧ e = .returned (.tuple #[.int .i64 0, .int .i64 0])) ∨ ∃ k l, Ends f n g m k l ∧ e = .returned (.tuple #[.int .i64 ((k : Nat) : Int), .int .i64 (((l - k + 1 : Nat)) : Int)])
theorem Told.same {f g : Nat → Int} {n m : Nat} {e e' : Ending} (h : Told f n g m e) (h' : Told f n g m e') : e = e' := by
  rcases h with ⟨h1, h2⟩ | ⟨k, l, h1, h2⟩ <;> rcases h' with ⟨h3, h4⟩ | ⟨k', l', h3, h4⟩
  · rw [h2, h4]
  · exact absurd h3.at2 (part_none h1 _ h3.lt)
  · exact absurd h1.at2 (part_none h3 _ h1.lt)
  · obtain ⟨rfl, rfl⟩ := h1.one h3
    rw [h2, h4]
theorem wApart (a0 b0 : Option Addr) (n c m d : Nat) (f g : Nat → Int) (w : World) (hn : n ≤ 140737488355328) (hm : m ≤ 140737488355328) (hf : From w a0 n f) (hg : From w b0 m g) (h1 : ∀ i, 0 ≤ f i ∧ f i ≤ 255) (h2 : ∀ i, 0 ≤ g i ∧ g i ≤ 255) :
    Calls Try.prog 8 #[.slice a0 n c, .slice b0 m d] w fun e w' => Told f n g m e ∧ ∃ q, w' = w.drewN q := by
  by_cases he : lst f n = lst g m
  · exact (wApart_same a0 b0 n c m d f g w hf hg he).mono fun e w' ⟨h3, h4⟩ => ⟨.inl ⟨he, h3⟩, h4⟩
  · exact (wApart_other a0 b0 n c m d f g w hn hm hf hg h1 h2 he).mono fun e w' ⟨k, l, h3, h4, h5⟩ => ⟨.inr ⟨k, l, h4, h3⟩, h5⟩

def atv (f : Nat → Int) (n i : Nat) : Int := if i < n then f i else -1
set_option maxHeartbeats 400000 in
theorem at_no (a0 : Option Addr) (n c i : Nat) (w : World) (h : n ≤ i) : Calls Try.prog 12 #[.slice a0 n c, .int .i64 (i : Int)] w fun e w' => e = .returned (.int .i64 (-1)) ∧ w' = w := by
  have h' : (n : Int) ≤ (i : Int) := by omega
  go_enter Try.func12, Try.ntmps12
  go_wp2
  go_ret
  exact ⟨rfl, rfl⟩
set_option maxHeartbeats 400000 in
theorem at_yes (b off n c i : Nat) (x : Int) (w : World) (h : i < n) (hx : w.cell? ⟨b, off + i, none⟩ = some (.int .u8 x)) (h0 : 0 ≤ x) (h1 : x ≤ 255) : Calls Try.prog 12 #[.slice (some ⟨b, off, none⟩) n c, .int .i64 (i : Int)] w fun e w' => e = .returned (.int .i64 x) ∧ w' = w := by
  have h' : (i : Int) < (n : Int) := by omega
  go_enter Try.func12, Try.ntmps12
  go_wp2
  go_ret
  exact ⟨rfl, rfl⟩
theorem at_is (a0 : Option Addr) (n c i : Nat) (f : Nat → Int) (w : World) (hf : From w a0 n f) (h1 : ∀ i, 0 ≤ f i ∧ f i ≤ 255) : Calls Try.prog 12 #[.slice a0 n c, .int .i64 (i : Int)] w fun e w' => e = .returned (.int .i64 (atv f n i)) ∧ w' = w := by
  unfold atv
  by_cases h : i < n
  · rw [if_pos h]
    obtain ⟨b, off, rfl, hc⟩ := hf.lay.resolve_left (by omega)
    exact at_yes b off n c i (f i) w h (hc i h) (h1 i).1 (h1 i).2
  · rw [if_neg h]
    exact at_no a0 n c i w (by omega)
theorem atv_pt {f g : Nat → Int} {n m i : Nat} (h1 : ∀ i, 0 ≤ f i ∧ f i ≤ 255) (h2 : ∀ i, 0 ≤ g i ∧ g i ≤ 255) (hi : i < max n m) : atv f n i ≠ atv g m i ↔ Pt f n g m i := by
  have a := h1 i
  have b := h2 i
  unfold atv Pt
  by_cases c1 : i < n <;> by_cases c2 : i < m
  · rw [if_pos c1, if_pos c2]
    constructor
    · intro h; exact .inr (.inr h)
    · rintro (h | h | h)
      · omega
      · omega
      · exact h
  · rw [if_pos c1, if_neg c2]; constructor
    · intro _; omega
    · intro _; omega
  · rw [if_neg c1, if_pos c2]; constructor
    · intro _; omega
    · intro _; omega
  · omega

/-- What the document's loop has behind k places. -/
def St (f : Nat → Int) (n : Nat) (g : Nat → Int) (m k : Nat) (x y : Int) : Prop :=
  (x = -1 ∧ y = -1 ∧ ∀ j, j < k → ¬ Pt f n g m j) ∨ ∃ p q : Nat, x = p ∧ y = q ∧ Pt f n g m p ∧ (∀ j, j < p → ¬ Pt f n g m j) ∧ Pt f n g m q ∧ p ≤ q ∧ q < k ∧ ∀ j, q < j → j < k → ¬ Pt f n g m j
theorem St.no {f g : Nat → Int} {n m k : Nat} {x y : Int} (h : St f n g m k x y) (hp : ¬ Pt f n g m k) : St f n g m (k + 1) x y := by
  rcases h with ⟨h1, h2, h3⟩ | ⟨p, q, h1, h2, h3, h4, h5, h6, h7, h8⟩
  · refine .inl ⟨h1, h2, fun j hj => ?_⟩
    by_cases e : j = k
    · rw [e]; exact hp
    · exact h3 j (by omega)
  · refine .inr ⟨p, q, h1, h2, h3, h4, h5, h6, by omega, fun j a b => ?_⟩
    by_cases e : j = k
    · rw [e]; exact hp
    · exact h8 j a (by omega)
theorem St.yes {f g : Nat → Int} {n m k : Nat} {x y : Int} (h : St f n g m k x y) (hp : Pt f n g m k) : St f n g m (k + 1) (if x < 0 then k else x) k := by
  rcases h with ⟨h1, h2, h3⟩ | ⟨p, q, h1, h2, h3, h4, h5, h6, h7, h8⟩
  · rw [if_pos (by omega)]
    exact .inr ⟨k, k, rfl, rfl, hp, h3, hp, Nat.le_refl _, by omega, fun j a b => absurd b (by omega)⟩
  · rw [if_neg (by omega)]
    exact .inr ⟨p, k, h1, rfl, h3, h4, hp, by omega, by omega, fun j a b => absurd b (by omega)⟩
theorem St.rng {f g : Nat → Int} {n m k : Nat} {x y : Int} (h : St f n g m k x y) : -1 ≤ x ∧ x ≤ y ∧ y ≤ k ∧ (x < 0 → x = -1) := by
  rcases h with ⟨h1, h2, h3⟩ | ⟨p, q, h1, h2, h3, h4, h5, h6, h7, h8⟩ <;> omega
theorem St.told {f g : Nat → Int} {n m : Nat} {x y : Int} (h : St f n g m (max n m) x y) : Told f n g m (.returned (if x < 0 then .tuple #[.int .i64 0, .int .i64 0] else .tuple #[.int .i64 x, .int .i64 (y - x + 1)])) := by
  rcases h with ⟨h1, h2, h3⟩ | ⟨p, q, h1, h2, h3, h4, h5, h6, h7, h8⟩
  · rw [if_pos (by omega)]
    refine .inl ⟨?_, rfl⟩
    apply Classical.byContradiction
    intro hn
    obtain ⟨q, hq, hp⟩ := part_ex hn
    exact h3 q hq hp
  · rw [if_neg (by omega)]
    refine .inr ⟨p, q, ⟨h3, h4, h5, h8, h6, h7⟩, ?_⟩
    have : ((q - p + 1 : Nat) : Int) = (q : Int) - p + 1 := by omega
    rw [this, h1, h2]

set_option maxRecDepth 100000 in
set_option maxHeartbeats 1000000 in
theorem xApart (a0 b0 : Option Addr) (n c m d : Nat) (f g : Nat → Int) (w : World) (hn : n ≤ 140737488355328) (hm : m ≤ 140737488355328) (hf : From w a0 n f) (hg : From w b0 m g) (h1 : ∀ i, 0 ≤ f i ∧ f i ≤ 255) (h2 : ∀ i, 0 ≤ g i ∧ g i ≤ 255) :
    Calls Try.prog 9 #[.slice a0 n c, .slice b0 m d] w fun e w' => Told f n g m e ∧ w' = w := by
  obtain ⟨M, hM⟩ : ∃ M, max n m = M := ⟨_, rfl⟩
  have hM1 : max (n : Int) (m : Int) = (M : Int) := by omega
  have HM : Hid (max n m = M) := hM
  have hMb : M ≤ 140737488355328 := by omega
  have HF : Hid (From w a0 n f) := hf
  have HG : Hid (From w b0 m g) := hg
  have H1 : Hid (∀ i, 0 ≤ f i ∧ f i ≤ 255) := h1
  have H2 : Hid (∀ i, 0 ≤ g i ∧ g i ≤ 255) := h2
  clear hf hg h1 h2
  go_enter Try.func9, Try.ntmps9
  go_wp2
  all_goals
    have hmx : ∃ M' : Nat, M' = M := ⟨_, rfl⟩
    go_loop [6, 7, 14] (fun x y i => ∃ (k : Nat) (X Y : Int), x = .int .i64 X ∧ y = .int .i64 Y ∧ i = .int .i64 (k : Int) ∧ k ≤ M ∧ Hid (St f n g m k X Y)) (fun _ _ i => M - (intOf i).toNat)
    case atStart => exact ⟨0, -1, -1, rfl, rfl, rfl, Nat.zero_le _, .inl ⟨rfl, rfl, fun j hj => absurd hj (by omega)⟩⟩
    case round =>
      obtain ⟨k, X, Y, rfl, rfl, rfl, hk, hst⟩ := hrel
      obtain ⟨r1, r2, r3, r4⟩ := hst.out.rng
      by_cases hlt : k < M
      · have hpt : Hid (atv f n k ≠ atv g m k ↔ Pt f n g m k) := atv_pt H1.out H2.out (by rw [HM.out]; exact hlt)
        go_wp2_with fail
        refine (at_is a0 n c k f w HF.out H1.out).mono ?_
        rintro e w1 ⟨rfl, hw⟩
        obtain rfl : w = w1 := hw.symm
        clear hw
        go_wp2_with fail
        refine (at_is b0 m d k g w HG.out H2.out).mono ?_
        rintro e w1 ⟨rfl, hw⟩
        obtain rfl : w = w1 := hw.symm
        clear hw
        by_cases he : atv f n k = atv g m k
        · have HS : Hid (St f n g m (k + 1) X Y) := hst.out.no (fun h => hpt.out.2 h he)
          rw [he]
          clear hpt he hst
          go_wp2
          go_round
          case rel => exact ⟨k + 1, X, Y, rfl, rfl, by go_num, by omega, HS⟩
          case measure => simp [intOf]; omega
        · have HS : Hid (St f n g m (k + 1) (if X < 0 then k else X) k) := hst.out.yes (hpt.out.1 he)
          have he' : (atv f n k == atv g m k) = false := by simpa using he
          clear hpt hst
          generalize atv f n k = A at *
          generalize atv g m k = A' at *
          by_cases hx : X < 0
          · rw [if_pos hx] at HS
            go_wp2
            go_round
            case rel => exact ⟨k + 1, k, k, rfl, rfl, by go_num, by omega, HS⟩
            case measure => simp [intOf]; omega
          · rw [if_neg hx] at HS
            go_wp2
            go_round
            case rel => exact ⟨k + 1, X, k, rfl, rfl, by go_num, by omega, HS⟩
            case measure => simp [intOf]; omega
      · obtain rfl : k = M := by omega
        have HT : Hid (Told f n g m (.returned (if X < 0 then .tuple #[.int .i64 0, .int .i64 0] else .tuple #[.int .i64 X, .int .i64 (Y - X + 1)]))) := St.told (by rw [HM.out]; exact hst.out)
        clear hst
        by_cases hx : X < 0
        · rw [if_pos hx] at HT
          go_wp2
          go_ret2
          exact ⟨HT.out, rfl⟩
        · rw [if_neg hx] at HT
          go_wp2
          go_ret2
          exact ⟨HT.out, rfl⟩
end Go.Proofs.Ytenpdjcbbleghad
