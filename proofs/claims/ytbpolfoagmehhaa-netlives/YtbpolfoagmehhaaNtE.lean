/-
  Contracts of List, of slices.EqualFunc and SameImage over rows of messages that are the same.
-/
import Derived.Test.YtbpolfoagmehhaaNtD
namespace Go.Proofs.Ytbpolfoagmehhaa
open Go.RowKit
set_option linter.unusedVariables false
set_option maxRecDepth 100000
set_option maxHeartbeats 2000000

theorem take_snocZ {α : Type} (l : List α) (k : Nat) (h : k < l.length) : l.take (k + 1) = l.take k ++ [l[k]] := by
  rw [List.take_succ_eq_append_getElem h]
theorem n_list {w : World} {B b : Nat} {v : Value} {zs : List Ms} (h : Nt w B true b v zs) : Calls Try.prog 21 #[.pointer (some ⟨b, 0, none⟩)] w fun e w' => ∃ u ys, e = .returned u ∧ Mq w' w.heap.size u ys ∧ ys.map Prod.snd = zs.map Prod.snd ∧ Below w.heap.size w w' := by
  obtain ⟨i0, hi0, hz0, hz1, hz2⟩ := info_parts infoB
  have hm := n_missing h
  obtain ⟨h0, _⟩ := h.cell0
  have hn := h.n
  obtain ⟨a, c, hv, _⟩ := row_slice h.q.row
  rw [hv] at h0
  have HR : Hid (∀ (wr : World), Below w.heap.size w wr → ∀ k, (hk : k < zs.length) → ∃ g ak ck, a = some ⟨g, 0, none⟩ ∧ wr.cell? ⟨g, k, none⟩ = some (.slice ak zs[k].2.length ck) ∧ From wr ak zs[k].2.length (fn zs[k].2) ∧ zs[k].2.length ≤ 4096) := fun wr hb k hk => by
    have h' := h.below hb
    obtain ⟨g, c', e, _⟩ := h'.q.some_ (by omega)
    have hat := h'.q
    rw [e] at hat
    have hat := hat.at_ k hk
    obtain ⟨ak, ck, hu, hf, _⟩ := (h'.q.own zs[k] (List.getElem_mem hk)).open
    rw [hu] at hat
    rw [hv] at e
    injection e with e
    exact ⟨g, ak, ck, e, hat, hf, h'.by_ zs[k] (List.getElem_mem hk)⟩
  clear h hv
  go_enter Try.func21, Try.ntmps21
  go_wp2_with (go_at_call 22; refine hm.mono ?_; rintro e w2 ⟨rfl, hw⟩; rw [hw]; clear hw)
  go_loopw [3, 13] (fun u i wr => ∃ (k : Nat) (ys : List Ms), k ≤ zs.length ∧ i = .int .i64 (k : Int) ∧ ys.length = k ∧ Mq wr w.heap.size u ys ∧ ys.map Prod.snd = (zs.take k).map Prod.snd ∧ Below w.heap.size w wr) (fun _ i _ => zs.length - (intOf i).toNat)
  case atStart => exact ⟨0, [], Nat.zero_le _, rfl, rfl, Mq.nil _ _, by simp, Below.refl _ _⟩
  case round =>
    obtain ⟨k, ys, hk, rfl, hyl, hq, hys, hb⟩ := hrel
    have HQ : Hid (Mq wr w.heap.size u3 ys) := hq
    have HB : Hid (Below w.heap.size w wr) := hb
    have HY : Hid (ys.map Prod.snd = (zs.take k).map Prod.snd) := hys
    obtain ⟨au, cu, hu, _⟩ := row_slice hq.row
    rw [hyl] at hu
    subst hu
    have HYL : Hid (ys.length = k) := hyl
    clear hq hb hys hyl
    by_cases hlt : k < zs.length
    · have hlt' : (k : Int) < (zs.length : Int) := by omega
      have hk0 : (0 : Int) ≤ (k : Int) := by omega
      obtain ⟨g, ak, ck, rfl, hat, hf, hby⟩ := HR.out wr HB.out k hlt
      have hcl := clone ak zs[k].2.length ck (fn zs[k].2) wr (by omega) hf
      rw [lst_fn] at hcl
      have HN : Hid (∀ m, (ys ++ [(m, zs[k].2)]).map Prod.snd = (zs.take (k + 1)).map Prod.snd) := fun m => by
        rw [take_snocZ _ _ hlt, List.map_append, List.map_append, HY.out]; rfl
      have HO : Hid (∀ (w1 w2 : World) (m : Value) (o : Obj) (v2 : Value), Own w1 wr.heap.size m zs[k].2 → Below wr.heap.size wr w1 → w2.ownsRow w.heap.size 29 1 v2 (k + 1) (ys.map Prod.fst ++ [m]) → (w1.alloc o).grownBy w2 (Value.slice au k cu).ownBlock → Mq w2 w.heap.size v2 (ys ++ [(m, zs[k].2)]) ∧ Below w.heap.size w w2 ∧ ∃ a c, v2 = .slice a (k + 1) c) := fun w1 w2 m o v2 ho hb1 h2 hg => by
        have hq := HQ.out
        have hs := HB.out.size
        have hB2 : Below w.heap.size w (w1.alloc o) := (HB.out.trans (hb1.mono hs)).alloc (by have := hb1.size; omega) o
        refine ⟨hq.more hs hb1 ho o (by rw [HYL.out]; exact h2) hg, hB2.grown hg (by have := hb1.size; simp; omega) (fun q e => (hq.vty e).1), ?_⟩
        obtain ⟨a, c, e, _⟩ := row_slice h2
        exact ⟨a, c, e⟩
      have HRow : Hid (∀ (w1 : World) (o : Obj), Below wr.heap.size wr w1 → (w1.alloc o).ownsRow w.heap.size 29 1 (.slice au k cu) k (ys.map Prod.fst) ∧ w.heap.size ≤ (w1.alloc o).heap.size) := fun w1 o hb1 => by
        have := (HQ.out.below hb1).row
        rw [HYL.out] at this
        exact ⟨World.ownsRow.alloc this o, by have := hb1.size; have := HB.out.size; simp; omega⟩
      have hkb : k < 64 := by omega
      generalize zs[k].2 = xs at *
      clear hf hm HR
      go_wp2_with (first
        | (go_at_call 7; refine hcl.mono ?_; rintro e w1 ⟨m, rfl, ho1, hb1⟩; obtain ⟨am, cm, hm'⟩ := ho1.slice; subst hm')
        | (at_builtin; refine wpList_append_own_at _ rfl _ _ 26 rfl w.heap.size 29 i0 (.slice none 0 0) 1 24 Try.underlying26 hi0 hz0 hz1 hz2 rfl (by decide) (.slice au k cu) k (ys.map Prod.fst) ?q1 ?q2 ⟨w1.heap.size, 0, none⟩ 1 1 [.slice am xs.length cm] rfl rfl ?q3 ?q4 ?q5 ?q6 ?q7 ?_))
      case q1 => rfl
      case q2 => exact (HRow.out w1 _ hb1).1
      case q3 => intro j u hj; rw [Addr.add_lit, Nat.zero_add, World.cell?_alloc_at _ _ _ _ rfl]; simpa using hj
      case q4 => intro u hu; simp at hu; subst hu; rfl
      case q5 => unfold maxLen; omega
      case q6 => omega
      case q7 => exact (HRow.out w1 _ hb1).2
      intro v2 w2 ho2 hg2 _ _
      obtain ⟨HM, HB2, a2, c2, hv2⟩ := HO.out w1 w2 _ _ v2 ho1 hb1 ho2 hg2
      subst hv2
      go_wp2
      go_roundw
      case rel => exact ⟨k + 1, _, by omega, by go_num, by simp [HYL.out], HM, HN.out _, HB2⟩
      case measure => simp [intOf]; omega
    · obtain rfl : k = zs.length := by omega
      go_wp2
      go_ret
      exact ⟨_, ys, rfl, HQ.out, by rw [HY.out, List.take_length], HB.out⟩
end Go.Proofs.Ytbpolfoagmehhaa
