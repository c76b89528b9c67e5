/-
  StmNobody's walk.
-/
import Derived.Test.YtdackomidfofgaaStQ
namespace Go.Proofs.Ytdackomidfofgaa
open Go.RowKit Go.Maps
set_option linter.unusedVariables false
set_option maxRecDepth 100000
set_option maxHeartbeats 4000000

theorem stm_nobody (s : ByteArray) (w : World) : Calls Try.prog 5 #[.string s] w fun e w' => e = .returned (.bool true) ∧ Below w.heap.size w w' := by
  obtain ⟨w1, hw1⟩ : ∃ w1, w1 = (w.alloc (.cells #[.int .i64 0, .map none, .map none] 63)).alloc (.cells #[.pointer none, .pointer (some ⟨w.heap.size, 0, none⟩)] 23) := ⟨_, rfl⟩
  have hB1 : Below w.heap.size w w1 := by rw [hw1]; exact ((Below.refl _ w).alloc (Nat.le_refl _) _).alloc (by simp) _
  have hs1 : w1.heap.size = w.heap.size + 2 := by rw [hw1]; simp
  have hz1 : w1.heap[w.heap.size]? = some (.cells #[.int .i64 0, .map none, .map none] 63 (0, 0)) := by rw [hw1, Below.heap_alloc _ _ _ (by simp)]; exact World.alloc_heap_new w _
  have hg1 : w1.heap[w.heap.size + 1]? = some (.cells #[.pointer none, .pointer (some ⟨w.heap.size, 0, none⟩)] 23 (0, 0)) := by
    have := World.alloc_heap_new (w.alloc (.cells #[.int .i64 0, .map none, .map none] 63)) (.cells #[.pointer none, .pointer (some ⟨w.heap.size, 0, none⟩)] 23)
    rw [World.size_alloc, ← hw1] at this
    exact this
  have HS : Hid (∀ wr, Below w1.heap.size w1 wr → wr.cell? ⟨w.heap.size + 1, 0, none⟩ = some (.pointer none) ∧ wr.cell? ⟨w.heap.size + 1, 1, none⟩ = some (.pointer (some ⟨w.heap.size, 0, none⟩)) ∧ NobS wr (.pointer none) ∧ NobS wr (.pointer (some ⟨w.heap.size, 0, none⟩))) := fun wr hb => by
    have h1 := (hb.block _ (by omega)).trans hg1
    have h2 := (hb.block _ (by omega)).trans hz1
    exact ⟨by rw [cells_at h1 0]; rfl, by rw [cells_at h1 1]; rfl, .inl rfl, .inr ⟨_, rfl, by rw [cells_at h2 1]; rfl⟩⟩
  have HB1 : Hid (Below w.heap.size w w1) := hB1
  clear hB1 hz1 hg1 hs1
  go_enter Try.func5, Try.ntmps5
  go_wp2
  rw [← hw1]
  clear hw1
  go_loopw [15] (fun s wr => ∃ k : Nat, k ≤ 2 ∧ s = .int .i64 (k : Int) ∧ Below w1.heap.size w1 wr) (fun k _ => 2 - (intOf k).toNat)
  case atStart => exact ⟨0, by omega, rfl, Below.refl _ _⟩
  case round =>
    obtain ⟨k, hk, rfl, hB⟩ := hrel
    obtain ⟨c0, c1, n0, n1⟩ := HS.out wr hB
    rcases (by omega : k = 0 ∨ k = 1 ∨ k = 2) with rfl | rfl | rfl
    · have HBe := n_begin n0
      have HC := n_clock n0
      have HSl := n_slots n0
      clear HS c1 n0 n1
      go_wp2_with (first
        | (go_at_call 8; refine HBe.mono ?_; rintro e w2 ⟨rfl, rfl⟩)
        | (go_at_call 24; refine HC.mono ?_; rintro e w2 ⟨rfl, rfl⟩)
        | (go_at_call 21; refine HSl.mono ?_; rintro e w2 ⟨rfl, rfl⟩))
      go_roundw
      case rel => exact ⟨1, by omega, by go_num, hB⟩
      case measure => simp [intOf]
    · have HBe := n_begin n1
      have HC := n_clock n1
      have HSl := n_slots n1
      clear HS c0 n0 n1
      go_wp2_with (first
        | (go_at_call 8; refine HBe.mono ?_; rintro e w2 ⟨rfl, rfl⟩)
        | (go_at_call 24; refine HC.mono ?_; rintro e w2 ⟨rfl, rfl⟩)
        | (go_at_call 21; refine HSl.mono ?_; rintro e w2 ⟨rfl, rfl⟩))
      go_roundw
      case rel => exact ⟨2, by omega, by go_num, hB⟩
      case measure => simp [intOf]
    · clear HS c0 c1 n0 n1
      rename World => wa
      have hBa : Hid (Below w.heap.size w wa) := HB1.out.trans (hB.mono HB1.out.size)
      clear hB HB1
      obtain ⟨w3, hw3⟩ : ∃ w3, w3 = (wa.alloc (.cells #[.pointer none, .int .i64 0, .map none, .map none, .int .i64 0] 67)).alloc (.cells #[.pointer none, .pointer (some ⟨wa.heap.size, 0, none⟩)] 33) := ⟨_, rfl⟩
      have hB3 : Below wa.heap.size wa w3 := by rw [hw3]; exact ((Below.refl _ wa).alloc (Nat.le_refl _) _).alloc (by simp) _
      have hs3 : w3.heap.size = wa.heap.size + 2 := by rw [hw3]; simp
      have hz3 : w3.heap[wa.heap.size]? = some (.cells #[.pointer none, .int .i64 0, .map none, .map none, .int .i64 0] 67 (0, 0)) := by rw [hw3, Below.heap_alloc _ _ _ (by simp)]; exact World.alloc_heap_new wa _
      have hg3 : w3.heap[wa.heap.size + 1]? = some (.cells #[.pointer none, .pointer (some ⟨wa.heap.size, 0, none⟩)] 33 (0, 0)) := by
        have := World.alloc_heap_new (wa.alloc (.cells #[.pointer none, .int .i64 0, .map none, .map none, .int .i64 0] 67)) (.cells #[.pointer none, .pointer (some ⟨wa.heap.size, 0, none⟩)] 33)
        rw [World.size_alloc, ← hw3] at this
        exact this
      have HT : Hid (∀ wr, Below w3.heap.size w3 wr → wr.cell? ⟨wa.heap.size + 1, 0, none⟩ = some (.pointer none) ∧ wr.cell? ⟨wa.heap.size + 1, 1, none⟩ = some (.pointer (some ⟨wa.heap.size, 0, none⟩)) ∧ NobT wr (.pointer none) ∧ NobT wr (.pointer (some ⟨wa.heap.size, 0, none⟩))) := fun wr hb => by
        have h1 := (hb.block _ (by omega)).trans hg3
        have h2 := (hb.block _ (by omega)).trans hz3
        exact ⟨by rw [cells_at h1 0]; rfl, by rw [cells_at h1 1]; rfl, .inl rfl, .inr ⟨_, rfl, by rw [cells_at h2 0]; rfl⟩⟩
      have HB3 : Hid (Below w.heap.size w w3) := hBa.out.trans (hB3.mono hBa.out.size)
      clear hB3 hz3 hg3 hs3 hBa
      rw [show (((2 : Nat) : Int)) = 2 from rfl]
      go_wp2
      rw [← hw3]
      clear hw3
      go_loopw [46] (fun s wr => ∃ k : Nat, k ≤ 2 ∧ s = .int .i64 (k : Int) ∧ Below w3.heap.size w3 wr) (fun k _ => 2 - (intOf k).toNat)
      case atStart => exact ⟨0, by omega, rfl, Below.refl _ _⟩
      case round =>
        obtain ⟨k, hk, rfl, hB⟩ := hrel
        have HV : ∀ v, NobT wr v → Hid (∀ w2, Below wr.heap.size wr w2 → NobT w2 v) := fun v hv w2 hb => hv.below hb
        have HBB : ∀ w2, Below wr.heap.size wr w2 → Below w3.heap.size w3 w2 := fun w2 h => hB.trans (h.mono hB.size)
        obtain ⟨c0, c1, n0, n1⟩ := HT.out wr hB
        rcases (by omega : k = 0 ∨ k = 1 ∨ k = 2) with rfl | rfl | rfl
        · have H := HV _ n0
          have HG := n_get n0 (.string s)
          clear HT c1 n0 n1 HV
          go_wp2_with (first
            | (go_at_call 14; refine HG.mono ?_; clear HG; rintro e w2 ⟨rfl, b2⟩; have HP := n_put (H.out _ b2) (.string s) (.slice none 0 0))
            | (go_at_call 16; refine HP.mono ?_; clear HP; rintro e w4 ⟨rfl, b4'⟩; have b4 := b2.trans (b4'.mono b2.size); clear b4'; have HL := n_lock (H.out _ b4))
            | (go_at_call 17; refine HL.mono ?_; clear HL; rintro e w5 ⟨rfl, b5'⟩; have b5 := b4.trans (b5'.mono b4.size); clear b5'; have HC := n_check (H.out _ b5))
            | (go_at_call 19; refine HC.mono ?_; clear HC; rintro e w6 ⟨rfl, b6'⟩; have b6 := b5.trans (b6'.mono b5.size); clear b6'; have HPb := n_publish (H.out _ b6))
            | (go_at_call 20; refine HPb.mono ?_; clear HPb; rintro e w7 ⟨rfl, b7'⟩; have b7 := b6.trans (b7'.mono b6.size); clear b7'; have HA := n_abort (H.out _ b7))
            | (go_at_call 25; refine HA.mono ?_; clear HA; rintro e w8 ⟨rfl, b8'⟩; have b8 := b7.trans (b8'.mono b7.size); clear b8'; have HD := n_drop (H.out _ b8))
            | (go_at_call 26; refine HD.mono ?_; clear HD; rintro e w9 ⟨rfl, b9'⟩; have b9 := b8.trans (b9'.mono b8.size); clear b9'; have HRd := n_reads (H.out _ b9); have HWr := n_writes (H.out _ b9); have HPh := n_phase (H.out _ b9))
            | (go_at_call 27; refine HRd.mono ?_; clear HRd; rintro e w10 ⟨rfl, rfl⟩)
            | (go_at_call 11; refine HWr.mono ?_; clear HWr; rintro e w10 ⟨rfl, rfl⟩)
            | (go_at_call 18; refine HPh.mono ?_; clear HPh; rintro e w10 ⟨rfl, rfl⟩))
          go_roundw
          case rel => exact ⟨1, by omega, by go_num, HBB _ b9⟩
          case measure => simp [intOf]
        · have H := HV _ n1
          have HG := n_get n1 (.string s)
          clear HT c0 n0 n1 HV
          go_wp2_with (first
            | (go_at_call 14; refine HG.mono ?_; clear HG; rintro e w2 ⟨rfl, b2⟩; have HP := n_put (H.out _ b2) (.string s) (.slice none 0 0))
            | (go_at_call 16; refine HP.mono ?_; clear HP; rintro e w4 ⟨rfl, b4'⟩; have b4 := b2.trans (b4'.mono b2.size); clear b4'; have HL := n_lock (H.out _ b4))
            | (go_at_call 17; refine HL.mono ?_; clear HL; rintro e w5 ⟨rfl, b5'⟩; have b5 := b4.trans (b5'.mono b4.size); clear b5'; have HC := n_check (H.out _ b5))
            | (go_at_call 19; refine HC.mono ?_; clear HC; rintro e w6 ⟨rfl, b6'⟩; have b6 := b5.trans (b6'.mono b5.size); clear b6'; have HPb := n_publish (H.out _ b6))
            | (go_at_call 20; refine HPb.mono ?_; clear HPb; rintro e w7 ⟨rfl, b7'⟩; have b7 := b6.trans (b7'.mono b6.size); clear b7'; have HA := n_abort (H.out _ b7))
            | (go_at_call 25; refine HA.mono ?_; clear HA; rintro e w8 ⟨rfl, b8'⟩; have b8 := b7.trans (b8'.mono b7.size); clear b8'; have HD := n_drop (H.out _ b8))
            | (go_at_call 26; refine HD.mono ?_; clear HD; rintro e w9 ⟨rfl, b9'⟩; have b9 := b8.trans (b9'.mono b8.size); clear b9'; have HRd := n_reads (H.out _ b9); have HWr := n_writes (H.out _ b9); have HPh := n_phase (H.out _ b9))
            | (go_at_call 27; refine HRd.mono ?_; clear HRd; rintro e w10 ⟨rfl, rfl⟩)
            | (go_at_call 11; refine HWr.mono ?_; clear HWr; rintro e w10 ⟨rfl, rfl⟩)
            | (go_at_call 18; refine HPh.mono ?_; clear HPh; rintro e w10 ⟨rfl, rfl⟩))
          go_roundw
          case rel => exact ⟨2, by omega, by go_num, HBB _ b9⟩
          case measure => simp [intOf]
        · clear HT c0 c1 n0 n1 HV HBB
          rename World => wb
          have hB4 : Below w.heap.size w (wb.alloc (.cells #[.int .u8 1] 5)) := (HB3.out.trans (hB.mono HB3.out.size)).alloc (HB3.out.trans (hB.mono HB3.out.size)).size _
          have hf4 : From (wb.alloc (.cells #[.int .u8 1] 5)) (some ⟨wb.heap.size, 0, none⟩) 1 (fun _ => 1) := .inr ⟨_, rfl, fun i hi => by
            obtain rfl : i = 0 := by omega
            rw [Addr.add_lit, cells_at (World.alloc_heap_new wb (.cells #[.int .u8 1] 5)) (0 + 0)]; rfl⟩
          have HAl := stm_alone (w := wb.alloc (.cells #[.int .u8 1] 5)) (a0 := none) (N := 0) (cap := 0) (sm := fun _ => ⟨#[]⟩) (bl := fun _ => 0) (fun r hr => by omega) (by omega) ⟨#[120]⟩ (some ⟨wb.heap.size, 0, none⟩) 1 1 (fun _ => 1) hf4 (by omega)
          have HB4 : Hid (Below w.heap.size w (wb.alloc (.cells #[.int .u8 1] 5))) := hB4
          clear hB hB4 hf4 HB3
          go_wp2_with (go_at_call 4; refine HAl.mono ?_; rintro e w5 ⟨rfl, b5⟩)
          go_ret
          exact ⟨rfl, HB4.out.trans (b5.mono HB4.out.size)⟩
end Go.Proofs.Ytdackomidfofgaa
