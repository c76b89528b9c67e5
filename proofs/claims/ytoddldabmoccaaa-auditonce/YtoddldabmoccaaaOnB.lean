/-
  audit.Once over entries that are handed in. No condition but that there are no more than a slice may have.
-/
import Derived.Test.YtoddldabmoccaaaOnA
namespace Go.Proofs.Ytoddldabmoccaaa
open Go.RowKit Go.Maps
set_option linter.unusedVariables false
set_option maxRecDepth 100000
set_option maxHeartbeats 2000000

theorem a_once {w : World} {a0 : Option Addr} {n c : Nat} {E : Nat → Ent} (hE : Ens w a0 n E) (hn : n ≤ 1759218604441) :
    Calls Try.prog 4 #[.slice a0 n c] w fun e w' => e = .returned (.int .i64 (res E n)) ∧ Below w.heap.size w w' := by
  have hmm := @run_makeMap Try.prog
  have hb0 : Below w.heap.size w (w.alloc (.map #[] 0)) := (Below.refl _ w).alloc (Nat.le_refl _) _
  have h0 : Hid ((∀ j, j < 0 → ¬ Bad E j) ∧ Dn (w.alloc (.map #[] 0)) w.heap.size E 0 ∧ Below w.heap.size w (w.alloc (.map #[] 0))) := ⟨fun j hj => by omega, Dn.made w E, hb0⟩
  clear hb0
  go_enter Try.func4, Try.ntmps4
  go_wp2
  go_loopw [11] (fun s wr => ∃ i : Nat, i ≤ n ∧ s = .int .i64 (i : Int) ∧ Hid ((∀ j, j < i → ¬ Bad E j) ∧ Dn wr w.heap.size E i ∧ Below w.heap.size w wr)) (fun s _ => n - (intOf s).toNat)
  case atStart => exact ⟨0, Nat.zero_le _, rfl, h0⟩
  case round =>
    obtain ⟨i, hi, rfl, HJ⟩ := hrel
    obtain ⟨hnb, hD, hB⟩ := HJ.out
    clear h0
    by_cases hlt : i < n
    · have l1 : (i : Int) < (n : Int) := by omega
      have l2 : (0 : Int) ≤ (i : Int) := by omega
      obtain ⟨b, off, rfl, hx⟩ := (hE.below hB) i hlt
      obtain ⟨c0, c1, c2, c3, c4, c5, c6, s1⟩ := hx
      generalize hxe : E i = x at *
      have hb1 : Below wr.heap.size wr (wr.alloc (.cells #[.int .i64 x.kd, .string x.id, .string x.rid, .int .i64 x.st, .int .i64 x.ss, .int .i64 x.wy, .string x.tx] 30)) := (Below.refl _ wr).alloc (Nat.le_refl _) _
      have hD1 := hD.below hb1
      have hB1 : Below w.heap.size w _ := hB.trans (hb1.mono hB.size)
      obtain ⟨W1, hW1⟩ : ∃ W1, W1 = wr.alloc (.cells #[.int .i64 x.kd, .string x.id, .string x.rid, .int .i64 x.st, .int .i64 x.ss, .int .i64 x.wy, .string x.tx] 30) := ⟨_, rfl⟩
      rw [← hW1] at hD1 hB1
      rcases hD1.look s1 with ⟨j, hj, hsm, hun, hl⟩ | ⟨hno, hl⟩
      · by_cases k1 : x.kd = 1
        · have HE : Hid (res E n = 240 ∧ ∀ o, Below w.heap.size w (W1.alloc o)) := ⟨res_bad hlt (.inl ⟨by rw [hxe]; exact k1, j, hj, by rw [hxe]; exact hsm⟩), fun o => hB1.alloc hB1.size o⟩
          unfold Ent.rep at hl
          rw [hW1] at hl HE
          rw [k1] at hl HE c0
          clear hD1 hB1 hD hB HJ hE hnb hsm hun hW1
          go_wp2
          go_ret
          exact ⟨by rw [HE.out.1]; rfl, HE.out.2 _⟩
        · have HNx : ¬ Bad E i → Hid (∀ o, (∀ j, j < i + 1 → ¬ Bad E j) ∧ Dn (W1.alloc o) w.heap.size E (i + 1) ∧ Below w.heap.size w (W1.alloc o)) := fun hb o =>
            ⟨fun j hj => if e : j = i then by rw [e]; exact hb else hnb j (by omega), ((hD1.below ((Below.refl _ W1).alloc (Nat.le_refl _) o)).skip (by rw [hxe]; exact k1)), hB1.alloc hB1.size o⟩
          by_cases k2 : x.kd = 2
          · have HR : Hid (¬ SameR x (E j) → x.wy ≠ 4 → res E n = 240 ∧ ∀ o, Below w.heap.size w (W1.alloc o)) := fun q1 q2 =>
              ⟨res_bad hlt (.inr ⟨by rw [hxe]; exact k2, fun ⟨k, hk, p1, p2⟩ => by rw [hxe] at p1 p2; exact q1 (p2.of (hun k hk p1)), by rw [hxe]; exact q2⟩), fun o => hB1.alloc hB1.size o⟩
            have HN : Hid ((SameR x (E j) ∨ x.wy = 4) → ∀ o, (∀ j, j < i + 1 → ¬ Bad E j) ∧ Dn (W1.alloc o) w.heap.size E (i + 1) ∧ Below w.heap.size w (W1.alloc o)) := fun q o => (HNx (fun hb => by
              rcases hb with ⟨p1, _⟩ | ⟨_, p2, p3⟩
              · rw [hxe] at p1; exact k1 p1
              · rw [hxe] at p2 p3
                rcases q with q | q
                · exact p2 ⟨j, hj, hsm, q⟩
                · exact p3 q)).out o
            unfold Ent.rep at hl
            rw [hW1] at hl HR HN
            rw [k2] at hl c0
            generalize E j = y at *
            have hkd := k2
            rw [hkd] at HR HN
            clear hD1 hB1 hD hB HJ hE hnb hsm hun hW1 HNx
            go_wp2
            all_goals first
              | (go_ret
                 obtain ⟨h1, h2⟩ := HR.out (fun ⟨q1, q2, q3, q4, q5⟩ => by contradiction) (by simpa using ‹(x.wy != 4) = true›)
                 exact ⟨by rw [h1]; rfl, h2 _⟩)
              | (go_roundw
                 case rel => exact ⟨i + 1, by omega, by go_num, HN.out (by first | exact .inl ⟨by assumption, by assumption, by assumption, by assumption, by assumption⟩ | exact .inr (by simpa using ‹(x.wy != 4) = false›)) _⟩
                 case measure => simp [intOf]; omega)
          · have HN := HNx (fun hb => by
              rcases hb with ⟨p1, _⟩ | ⟨p2, _⟩
              · rw [hxe] at p1; exact k1 p1
              · rw [hxe] at p2; exact k2 p2)
            unfold Ent.rep at hl
            rw [hW1] at hl HN
            clear hD1 hB1 hD hB HJ hE hnb hsm hun hW1 HNx
            go_wp2
            go_roundw
            case rel => exact ⟨i + 1, by omega, by go_num, HN.out _⟩
            case measure => simp [intOf]; omega
      · by_cases k1 : x.kd = 1
        · have hb2 : Below W1.heap.size W1 (W1.alloc (.cells #[.string ⟨#[]⟩, .int .i64 0, .int .i64 0, .int .i64 0, .string ⟨#[]⟩] 28)) := (Below.refl _ W1).alloc (Nat.le_refl _) _
          have hput := (hD1.below hb2).put (by omega) (by rw [hxe]; exact s1) (by rw [hxe]; exact k1) (by rw [hxe]; exact hno)
          rw [hxe] at hput
          obtain ⟨w2, hrun, hD2, hp2⟩ := hput
          have HN : Hid ((∀ j, j < i + 1 → ¬ Bad E j) ∧ Dn w2 w.heap.size E (i + 1) ∧ Below w.heap.size w w2) := by
            refine ⟨fun j hj => ?_, hD2, ?_⟩
            · by_cases e : j = i
              · rw [e]
                rintro (⟨_, k, hk, hs⟩ | ⟨p2, _⟩)
                · rw [hxe] at hs; exact hno k hk hs
                · rw [hxe, k1] at p2; cases p2
              · exact hnb j (by omega)
            · have h3 : Below w.heap.size w _ := hB1.trans (hb2.mono hB1.size)
              exact h3.trans (hp2.below (fun q hq => by have hq : q = w.heap.size := hq; omega) h3.size)
          unfold Ent.rep at hrun
          unfold zrep at hl
          rw [hW1] at hl hrun
          rw [k1] at hl hrun c0
          clear hD1 hB1 hD hB HJ hE hnb hW1 hb2 hD2 hp2 hno
          go_wp2
          go_roundw
          case rel => exact ⟨i + 1, by omega, by go_num, HN⟩
          case measure => simp [intOf]; omega
        · have HNx : ¬ Bad E i → Hid (∀ o, (∀ j, j < i + 1 → ¬ Bad E j) ∧ Dn (W1.alloc o) w.heap.size E (i + 1) ∧ Below w.heap.size w (W1.alloc o)) := fun hb o =>
            ⟨fun j hj => if e : j = i then by rw [e]; exact hb else hnb j (by omega), ((hD1.below ((Below.refl _ W1).alloc (Nat.le_refl _) o)).skip (by rw [hxe]; exact k1)), hB1.alloc hB1.size o⟩
          by_cases k2 : x.kd = 2
          · have HR : Hid (x.wy ≠ 4 → res E n = 240 ∧ ∀ o, Below w.heap.size w (W1.alloc o)) := fun q2 =>
              ⟨res_bad hlt (.inr ⟨by rw [hxe]; exact k2, fun ⟨k, hk, p1, p2⟩ => by rw [hxe] at p1; exact hno k hk p1, by rw [hxe]; exact q2⟩), fun o => hB1.alloc hB1.size o⟩
            have HN : Hid (x.wy = 4 → ∀ o, (∀ j, j < i + 1 → ¬ Bad E j) ∧ Dn (W1.alloc o) w.heap.size E (i + 1) ∧ Below w.heap.size w (W1.alloc o)) := fun q o => (HNx (fun hb => by
              rcases hb with ⟨p1, _⟩ | ⟨_, p2, p3⟩
              · rw [hxe] at p1; exact k1 p1
              · rw [hxe] at p3
                exact p3 q)).out o
            unfold zrep at hl
            rw [hW1] at hl HR HN
            rw [k2] at hl c0
            have hkd := k2
            rw [hkd] at HR HN
            clear hD1 hB1 hD hB HJ hE hnb hno hW1 HNx
            go_wp2
            all_goals first
              | (go_ret
                 obtain ⟨h1, h2⟩ := HR.out (by simpa using ‹(x.wy != 4) = true›)
                 exact ⟨by rw [h1]; rfl, h2 _⟩)
              | (go_roundw
                 case rel => exact ⟨i + 1, by omega, by go_num, HN.out (by simpa using ‹(x.wy != 4) = false›) _⟩
                 case measure => simp [intOf]; omega)
          · have HN := HNx (fun hb => by
              rcases hb with ⟨p1, _⟩ | ⟨p2, _⟩
              · rw [hxe] at p1; exact k1 p1
              · rw [hxe] at p2; exact k2 p2)
            unfold zrep at hl
            rw [hW1] at hl HN
            clear hD1 hB1 hD hB HJ hE hnb hno hW1 HNx
            go_wp2
            go_roundw
            case rel => exact ⟨i + 1, by omega, by go_num, HN.out _⟩
            case measure => simp [intOf]; omega
    · obtain rfl : i = n := by omega
      have HE : Hid (res E i = 0 ∧ Below w.heap.size w wr) := ⟨res_none hnb, hB⟩
      clear hnb hD hB HJ hE
      go_wp2
      go_ret
      exact ⟨by rw [HE.out.1]; rfl, HE.out.2⟩
end Go.Proofs.Ytoddldabmoccaaa
