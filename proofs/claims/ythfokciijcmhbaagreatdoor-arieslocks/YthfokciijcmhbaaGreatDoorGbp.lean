/-
  state.takeBack: its walk.
-/
import Derived.Test.YthfokciijcmhbaaGreatDoorGbo
namespace Go.Proofs.YthfokciijcmhbaaGreatDoor
open Go.RowKit
set_option linter.unusedVariables false

variable {B0 : Nat} {A : Ax} {P P' : Nat → Prop} {w w' w1 w2 : World} {Z S D L bf n M la fo lt N Q : Nat} {g : Int} {X : Nat → Bf} {e : Nat → Int} {ln : Nat → Nat} {lo : Nat → Nat → Int} {T : Nat → Tr}
def lenAt (w : World) (q : Nat) : Nat := match w.cell? ⟨q, 2, none⟩ with | some (.slice _ n _) => n | _ => 0
/-- What the loop keeps. -/
def Tkl (B0 : Nat) (al : Prop) (w0 : World) (P0 : Nat → Prop) (Z S : Nat) (g : Int) (D L bf N : Nat) (T : Nat → Tr) (i : Nat) (F : Ts) (rs : List Up) (s : Ts) (w : World) : Prop := Tk B0 al w0 P0 Z S g D L bf N T i rs s w ∧ Ts.fin (T i).no rs s = F ∧ (∀ x ∈ rs, Okb x) ∧ s.la + rs.length ≤ 1000000 ∧ s.M + 2 * rs.length ≤ 900000 ∧ s.u + 160 * rs.length + 12 ≤ 4480
/-- What taking back leaves. -/
def Bak (B0 : Nat) (al : Prop) (w0 : World) (P0 : Nat → Prop) (Z S : Nat) (g : Int) (D L bf N : Nat) (T : Nat → Tr) (i : Nat) (F : Ts) (w : World) : Prop := ∃ T', T' = updT T i (T' i) ∧ (T' i).b = (T i).b ∧ (T' i).no = (T i).no ∧ (T' i).ps = (T i).ps ∧ (T' i).us = [] ∧ Sb B0 ⟨al, F.u + (putB (encB 4 (T i).no 0 0 ByteArray.empty ByteArray.empty 0).length).length + (encB 4 (T i).no 0 0 ByteArray.empty ByteArray.empty 0).length⟩ w0 P0 Z S g D L bf F.M (F.la + 1) F.ln F.lo (max F.lt (T i).no) N T' w
set_option maxRecDepth 100000 in
set_option maxHeartbeats 4000000 in
theorem m_takeBack {al : Prop} {w0 : World} {P0 : Nat → Prop} {i : Nat} {F : Ts} {rs0 : List Up} {s0 : Ts} (h : Tkl B0 al w0 P0 Z S g D L bf N T i F rs0 s0 w) (hi : i < N) (hbf : 0 < bf) (hno : (T i).no ≤ 1099511627776) : Calls Tryz.prog 56 #[.pointer (some ⟨Z, 0, none⟩), .pointer (some ⟨(T i).b, 0, none⟩)] w fun r w' => r = .returned (.int .i64 0) ∧ Hid (Bak B0 al w0 P0 Z S g D L bf N T i F w') := by
  obtain ⟨q, hq⟩ : ∃ q, (T i).b = q := ⟨_, rfl⟩
  obtain ⟨no, hn⟩ : ∃ no, (T i).no = no := ⟨_, rfl⟩
  have HE : Hid (∀ s wr, Tkl B0 al w0 P0 Z S g D L bf N T i F [] s wr → ∃ a c, wr.cell? ⟨q, 2, none⟩ = some (.slice a 0 c) ∧ wr.cell? ⟨q, 0, none⟩ = some (.int .i64 (no : Int)) ∧ Hid (∀ wq, Below wr.heap.size wr wq → Calls Tryz.prog 62 #[.pointer (some ⟨Z, 0, none⟩), .agg #[.int .i64 4, .int .i64 (no : Int), .int .i64 0, .int .i64 0, .string ByteArray.empty, .string ByteArray.empty, .int .i64 0]] wq fun r w' => r = .returned (.tuple #[.int .i64 ((s.la + 1 : Nat) : Int), .int .i64 0]) ∧ Hid (Bak B0 al w0 P0 Z S g D L bf N T i F w'))) := fun s wr h => by
    obtain ⟨ht, hf, ho, b1, b2, b3⟩ := h
    have hl0 : ([] : List Up).length = 0 := rfl
    rw [hl0] at b1 b2 b3
    obtain ⟨a, c, h1⟩ := ht.empty hi
    obtain ⟨h2, h3⟩ := h1 wr (Below.refl _ _)
    rw [hq] at h2 h3
    rw [hn] at h3
    refine ⟨a, c, h2, h3, fun wq hb => ?_⟩
    have hf : F = s := hf.symm
    subst hf
    obtain ⟨T', g1, g2, g3, g4, g5, n, e, fo, X, P, k, k2, k3⟩ := ht
    obtain ⟨E, hE⟩ : ∃ E, encB 4 (T i).no 0 0 ByteArray.empty ByteArray.empty 0 = E := ⟨_, rfl⟩
    have hl := encB_len (k := 4) (t := (T i).no) (p := 0) (o := 0) (ah := ByteArray.empty) (be := ByteArray.empty) (nm := 0) (by decide) hno (by decide) (by decide) (by decide) (by decide) (by decide)
    rw [hE, if_neg (by decide), if_neg (by decide)] at hl
    have hpl : (putB E.length).length = 1 := by rw [putB_small _ (by omega)]; rfl
    rw [← hn]
    refine (m_note (k.below hb) (by omega) 4 0 0 0 (T i).no ByteArray.empty ByteArray.empty hno E hl.1 (by omega) (by rw [← hE]; exact encB_by (by decide) hno (by decide) (by decide) (by decide) (by decide) (by decide)) (by show F.u + _ + _ ≤ 4480; omega) (fun wq => by
      have := c_enc3 4 (T i).no 0 0 0 ByteArray.empty ByteArray.empty wq (.inr rfl) hno (by decide) (by decide) (by decide) (by decide) (by decide)
      rw [hE] at this
      exact this)).mono fun r9 w' ⟨r1, r2⟩ => ⟨r1, ?_⟩
    obtain ⟨P1, j1, j2, j3⟩ := r2.out
    have f0 : Part (Fm B0 P0 w0) w0 wq := Fm.trans k2 k3 (Part.ofBelow hb)
    have hbs := hb.size
    have s2 := k2.size
    refine ⟨T', g1, g2, g3, g4, g5, n, e, fo, X, P1, ?_, Fm.trans f0 k3 j2, fun b h => ?_⟩
    · rw [hE]
      exact j1
    · rcases j3 b h with h | h
      · exact k3 b h
      · exact .inr (by omega)
  have HC : Hid (∀ x r s wr, Tkl B0 al w0 P0 Z S g D L bf N T i F (x :: r) s wr → ∃ gu c, r.length ≤ 1000 ∧ wr.cell? ⟨q, 2, none⟩ = some (.slice (some ⟨gu, 0, none⟩) (r.length + 1) c) ∧ (r.length + 1 ≤ c) ∧ wr.cell? ⟨gu, r.length * 8, none⟩ = some (.int .i64 (x.num : Int)) ∧ wr.cell? ⟨gu, r.length * 8 + 1, none⟩ = some (.int .i64 1) ∧ wr.cell? ⟨gu, r.length * 8 + 2, none⟩ = some (.int .i64 (no : Int)) ∧ wr.cell? ⟨gu, r.length * 8 + 3, none⟩ = some (.int .i64 (x.pg : Int)) ∧ wr.cell? ⟨gu, r.length * 8 + 4, none⟩ = some (.int .i64 (x.off : Int)) ∧ wr.cell? ⟨gu, r.length * 8 + 5, none⟩ = some (.string x.ah) ∧ wr.cell? ⟨gu, r.length * 8 + 6, none⟩ = some (.string x.be) ∧ wr.cell? ⟨gu, r.length * 8 + 7, none⟩ = some (.int .i64 0) ∧ lenAt wr q = r.length + 1 ∧ Hid (∀ V B, B = wr.heap.size → V.heap[B]? = some (.cells #[.int .i64 (x.num : Int), .int .i64 1, .int .i64 (no : Int), .int .i64 (x.pg : Int), .int .i64 (x.off : Int), .string x.ah, .string x.be, .int .i64 0] 163 (0, 0)) → Below wr.heap.size wr V → (∀ wq, Below V.heap.size V wq → wq.cell? ⟨Z, 2, none⟩ = some (.pointer (some ⟨S + 1, 0, none⟩)) ∧ wq.cell? ⟨B, 3, none⟩ = some (.int .i64 (x.pg : Int))) ∧ Hid (∀ wq, Below V.heap.size V wq → Calls Tryz.prog 61 #[.pointer (some ⟨S + 1, 0, none⟩), .int .i64 (x.pg : Int)] wq fun r9 w' => ∃ gl cl, r9 = .returned (.tuple #[.slice (some ⟨gl, 0, none⟩) 112 cl, .int .i64 (s.ln x.pg : Int), .int .i64 0]) ∧ (w'.cell? ⟨Z, 2, none⟩ = some (.pointer (some ⟨S + 1, 0, none⟩)) ∧ w'.cell? ⟨B, 3, none⟩ = some (.int .i64 (x.pg : Int))) ∧ Hid (∀ v, Below w'.heap.size w' v → (∀ wq, Below v.heap.size v wq → wq.cell? ⟨q, 0, none⟩ = some (.int .i64 (no : Int)) ∧ wq.cell? ⟨B, 0, none⟩ = some (.int .i64 (x.num : Int)) ∧ wq.cell? ⟨B, 3, none⟩ = some (.int .i64 (x.pg : Int)) ∧ wq.cell? ⟨B, 4, none⟩ = some (.int .i64 (x.off : Int)) ∧ wq.cell? ⟨B, 5, none⟩ = some (.string x.ah)) ∧ Hid (∀ V2, Below v.heap.size v V2 → Calls Tryz.prog 54 #[.pointer (some ⟨Z, 0, none⟩), .slice (some ⟨gl, 0, none⟩) 112 cl, .agg #[.int .i64 2, .int .i64 (no : Int), .int .i64 (x.pg : Int), .int .i64 (x.off : Int), .string ByteArray.empty, .string x.ah, .int .i64 (x.num : Int)]] V2 fun r9 w'' => r9 = .returned (.tuple #[.int .i64 ((s.la + 1 : Nat) : Int), .int .i64 0]) ∧ (w''.cell? ⟨q, 2, none⟩ = some (.slice (some ⟨gu, 0, none⟩) (r.length + 1) c) ∧ w''.frozen? ⟨q, 2, none⟩ = false) ∧ Hid (Tkl B0 al w0 P0 Z S g D L bf N T i F r (Ts.step no x s) (w''.setCell ⟨q, 2, none⟩ (.slice (some ⟨gu, 0, none⟩) r.length c)) ∧ lenAt (w''.setCell ⟨q, 2, none⟩ (.slice (some ⟨gu, 0, none⟩) r.length c)) q = r.length)))))) := fun x r s wr ⟨ht, hf, ho, b1, b2, b3⟩ => by
    have hl1 : (x :: r).length = r.length + 1 := rfl
    have hx := ho x List.mem_cons_self
    rw [hl1] at b1 b2 b3
    have hl := encB_len (k := 2) (t := (T i).no) (p := x.pg) (o := x.off) (ah := ByteArray.empty) (be := x.ah) (nm := x.num) (by decide) hno (by have := hx.1; omega) (by have := hx.2.1; omega) (by decide) (by have := hx.2.1; omega) (by have := hx.2.2.2; omega)
    rw [if_neg (by decide), if_pos rfl] at hl
    have hs := hx.2.1
    have hbl : (bkR (T i).no x).length ≤ 129 := by show (encB 2 (T i).no x.pg x.off ByteArray.empty x.ah x.num).length ≤ 129; omega
    have hpb : (putB (bkR (T i).no x).length).length ≤ 2 := by
      have := putB_len 1 (bkR (T i).no x).length (by have h9 : (128 : Nat) ^ (1 + 1) = 16384 := (by decide); omega)
      omega
    obtain ⟨gu, c, q1, q2⟩ := ht.round hi hx (by omega) (by omega) hbf (by omega)
    obtain ⟨c2, cs⟩ := q1 wr (Below.refl _ _)
    have hcr : r.length + 1 ≤ c := by
      obtain ⟨T', h1, h2, h3, h4, h5, n, e, fo, X, P, k, k2, k3⟩ := ht
      have hr := k.mt.ur i hi
      have ht2 := k.mt.tr i hi
      rw [h2] at ht2
      have hc2 := cells_at ht2 2
      rw [c2] at hc2
      have hv : (T' i).uv = .slice (some ⟨gu, 0, none⟩) (r.length + 1) c := by
        injection hc2 with hc2
        exact hc2.symm
      have hlen : (T' i).us.length = r.length + 1 := by rw [h5, List.length_reverse]; rfl
      rw [hv, hlen] at hr
      rcases hr.2 with ⟨_, e9⟩ | ⟨gg, cap, cur, e9, _, _, e10, _⟩
      · omega
      · injection e9 with _ _ e9
        omega
    rw [hq] at c2
    rw [hn] at cs
    refine ⟨gu, c, by omega, c2, hcr, ?_, ?_, ?_, ?_, ?_, ?_, ?_, ?_, ?_, ?_⟩
    · exact cs 0 _ rfl
    · exact cs 1 _ rfl
    · exact cs 2 _ rfl
    · exact cs 3 _ rfl
    · exact cs 4 _ rfl
    · exact cs 5 _ rfl
    · exact cs 6 _ rfl
    · exact cs 7 _ rfl
    · unfold lenAt; rw [c2]
    · intro V B hB hV hb
      obtain ⟨d1, d2⟩ := q2 V B _ hV hB hb
      have hBl := (Array.getElem?_eq_some_iff.1 hV).1
      have cB : ∀ wq : World, wq.heap[B]? = some (.cells #[.int .i64 (x.num : Int), .int .i64 1, .int .i64 (no : Int), .int .i64 (x.pg : Int), .int .i64 (x.off : Int), .string x.ah, .string x.be, .int .i64 0] 163 (0, 0)) → wq.cell? ⟨B, 0, none⟩ = some (.int .i64 (x.num : Int)) ∧ wq.cell? ⟨B, 3, none⟩ = some (.int .i64 (x.pg : Int)) ∧ wq.cell? ⟨B, 4, none⟩ = some (.int .i64 (x.off : Int)) ∧ wq.cell? ⟨B, 5, none⟩ = some (.string x.ah) := fun wq e => ⟨by rw [cells_at e 0]; rfl, by rw [cells_at e 3]; rfl, by rw [cells_at e 4]; rfl, by rw [cells_at e 5]; rfl⟩
      refine ⟨fun wq hq9 => ⟨d1 wq hq9, (cB wq ((hq9.block B hBl).trans hV)).2.1⟩, fun wq hq9 => (d2 wq hq9).mono fun r9 w' ⟨gl, cl, e1, e2⟩ => ⟨gl, cl, e1, ?_⟩⟩
      obtain ⟨e3, e4⟩ := e2.out
      rw [hq, hn] at e3
      rw [hq, hn] at e4
      obtain ⟨f1, f2, f3⟩ := e3 w' (Below.refl _ _)
      refine ⟨⟨f3, (cB w' f2).2.1⟩, fun v hv9 => ⟨fun wr9 hr9 => ?_, fun V2 hV2 => (e4 V2 (hv9.trans (hV2.mono hv9.size))).mono fun r8 w'' ⟨g1, g2, g3⟩ => ⟨g1, g2, ⟨g3.out, ?_, ?_, ?_, ?_, ?_⟩, ?_⟩⟩⟩
      · obtain ⟨g1, g2, g3⟩ := e3 wr9 (hv9.trans (hr9.mono hv9.size))
        obtain ⟨g4, g5, g6, g7⟩ := cB wr9 g2
        exact ⟨g1, g4, g5, g6, g7⟩
      · rw [← hf, ← hn]; rfl
      · exact fun y hy => ho y (List.mem_cons_of_mem _ hy)
      · show s.la + 1 + r.length ≤ 1000000; omega
      · show s.M + 2 + 2 * r.length ≤ 900000; omega
      · show s.u + (putB (bkR no x).length).length + (bkR no x).length + 160 * r.length + 12 ≤ 4480
        rw [← hn]
        omega
      · unfold lenAt
        rw [World.cell?_setCell_same _ _ _ g2.1]
  rw [hq]
  clear hq hn
  go_enter Tryz.func56, Tryz.ntmps56
  go_wp2
  go_loopw [4] (fun s4 wr => s4 = .int .i64 0 ∧ ∃ rs s, Hid (Tkl B0 al w0 P0 Z S g D L bf N T i F rs s wr)) (fun _ wr => lenAt wr q)
  case atStart => exact ⟨rfl, rs0, s0, h⟩
  case round =>
    obtain ⟨rfl, rs, s, HT⟩ := hrel
    cases rs with
    | nil =>
      obtain ⟨a, c, c2, c0, HN⟩ := HE.out s _ HT.out
      clear HC HE HT
      have b0 : Below wr.heap.size wr wr := Below.refl _ _
      go_wp2_with fail
      refine (HN.out _ (by first | exact b0 | exact blw_drewN 1 b0)).mono ?_
      rintro r9 v4 ⟨rfl, HB⟩
      go_wp2
      go_ret
      exact ⟨rfl, HB⟩
    | cons x r =>
      obtain ⟨gu, c, hr, c2, hc, e0, e1, e2, e3, e4, e5, e6, e7, hlen, HX⟩ := HC.out x r s _ HT.out
      have hm : (r.length : Int) ≤ 1000 := by omega
      obtain ⟨m, hmr⟩ : ∃ m, r.length = m := ⟨_, rfl⟩
      rw [hmr] at *
      have l1 : (0 : Int) < ((m + 1 : Nat) : Int) := by omega
      have l2 : (m : Int) < ((m + 1 : Nat) : Int) := by omega
      clear HC HE
      go_wp2_with fail
      obtain ⟨ob9, hO9⟩ : ∃ ob9, Obj.cells #[.int .i64 (x.num : Int), .int .i64 1, .int .i64 (no : Int), .int .i64 (x.pg : Int), .int .i64 (x.off : Int), .string x.ah, .string x.be, .int .i64 0] 163 = ob9 := ⟨_, rfl⟩
      have hVB : (wr.alloc ob9).heap[wr.heap.size]? = some (.cells #[.int .i64 (x.num : Int), .int .i64 1, .int .i64 (no : Int), .int .i64 (x.pg : Int), .int .i64 (x.off : Int), .string x.ah, .string x.be, .int .i64 0] 163 (0, 0)) := by rw [← hO9]; exact heap_alloc_at _ _ _ rfl
      have hVb : Below wr.heap.size wr (wr.alloc ob9) := (Below.refl _ wr).alloc (Nat.le_refl _) ob9
      rw [hO9]
      generalize (wr.alloc ob9) = V at hVB hVb ⊢
      obtain ⟨B, hB⟩ : ∃ B, wr.heap.size = B := ⟨_, rfl⟩
      obtain ⟨HS, HG⟩ := HX.out V B hB.symm (by rw [← hB]; exact hVB) hVb
      have HS : Hid (∀ wq, Below V.heap.size V wq → wq.cell? ⟨Z, 2, none⟩ = some (.pointer (some ⟨S + 1, 0, none⟩)) ∧ wq.cell? ⟨B, 3, none⟩ = some (.int .i64 (x.pg : Int))) := HS
      rw [hB]
      have b0 : Below V.heap.size V V := Below.refl _ _
      obtain ⟨z2, z3⟩ := HS.out V b0
      clear HX hVB hVb hO9 hB e0 e1 e2 e3 e4 e5 e6 e7 c2 HT
      go_region_held2 (fun wq => wq.cell? ⟨Z, 2, none⟩ = some (.pointer (some ⟨S + 1, 0, none⟩)) ∧ wq.cell? ⟨B, 3, none⟩ = some (.int .i64 (x.pg : Int)))
        (first | assumption | exact HS.out _ (by assumption) | exact HS.out _ (blw_drewN 1 (by assumption)) | go_keep)
        (first
          | (go_at_call 61; refine (HG.out _ (by first | exact b0 | exact blw_drewN 1 b0)).mono ?_; rintro e' v2 ⟨gl, cl, rfl, hS2, HA⟩))
      clear HG HS z2 z3 b0 hS2
      obtain ⟨HB, HCh⟩ := HA.out v2 (Below.refl _ _)
      have HB : Hid (∀ wq, Below v2.heap.size v2 wq → wq.cell? ⟨q, 0, none⟩ = some (.int .i64 (no : Int)) ∧ wq.cell? ⟨B, 0, none⟩ = some (.int .i64 (x.num : Int)) ∧ wq.cell? ⟨B, 3, none⟩ = some (.int .i64 (x.pg : Int)) ∧ wq.cell? ⟨B, 4, none⟩ = some (.int .i64 (x.off : Int)) ∧ wq.cell? ⟨B, 5, none⟩ = some (.string x.ah)) := HB
      have b2 : Below v2.heap.size v2 v2 := Below.refl _ _
      obtain ⟨y0, y1, y2, y3, y4⟩ := HB.out v2 b2
      have ad : ∀ o, (v2.alloc o).cell? ⟨q, 0, none⟩ = some (.int .i64 (no : Int)) ∧ (v2.alloc o).cell? ⟨B, 0, none⟩ = some (.int .i64 (x.num : Int)) ∧ (v2.alloc o).cell? ⟨B, 3, none⟩ = some (.int .i64 (x.pg : Int)) ∧ (v2.alloc o).cell? ⟨B, 4, none⟩ = some (.int .i64 (x.off : Int)) ∧ (v2.alloc o).cell? ⟨B, 5, none⟩ = some (.string x.ah) := fun o => HB.out _ (b2.alloc (Nat.le_refl _) o)
      have ad0 := fun o => (ad o).1
      have ad1 := fun o => (ad o).2.1
      have ad2 := fun o => (ad o).2.2.1
      have ad3 := fun o => (ad o).2.2.2.1
      have ad4 := fun o => (ad o).2.2.2.2
      clear ad
      go_wp2_with fail
      go_region
      all_goals
        go_wp2_with fail
        refine (HCh.out _ (by first | exact blw_drewN 1 (b2.alloc (Nat.le_refl _) _) | exact (blw_drewN 1 b2).alloc (Nat.le_refl _) _ | exact b2.alloc (Nat.le_refl _) _)).mono ?_
        rintro r9 v4 ⟨rfl, ⟨x1, x2⟩, HT4⟩
        go_wp2_with fail
        exact ⟨⟨rfl, r, _, HT4.out.1⟩, by rw [HT4.out.2, hlen]; omega⟩
end Go.Proofs.YthfokciijcmhbaaGreatDoor
