/-
  LogLives' pair: does. Condition: the library's table of sums is as it starts.
-/
import Derived.Test.YtmjoklppibfdmaaDoorLogYc
import Derived.Test.YtmjoklppibfdmaaDoorLogLf
namespace Go.Proofs.YtmjoklppibfdmaaDoor
open Go.RowKit
set_option linter.unusedVariables false

theorem hid_of {p : Prop} (h : p) : Hid p := h
/-- What a call of the law leaves. -/
def After (w0 w : World) (b D X n from_ sectors : Nat) : Prop := ∃ L M e x PA PB, Bth w0 w b D X L M n from_ sectors e x PA PB
/-- The cells of the law's pair. -/
def Kb (b D X L M : Nat) (wq : World) : Prop := Prb wq b D X (.pointer (some ⟨L, 0, none⟩)) (.pointer (some ⟨M, 0, none⟩))

theorem arm_same {w0 w : World} {b D X L M n from_ sectors : Nat} {e : Nat → Int} {x : St} {PA PB : Nat → Prop} (h : Bth w0 w b D X L M n from_ sectors e x PA PB) :
    Calls Tryd.prog 10 #[.pointer (some ⟨b, 0, none⟩)] w fun r w' => r = .returned (.bool true) ∧ Kb b D X L M w' ∧ Hid (After w0 w' b D X n from_ sectors) :=
  (pr_same h).mono fun r w' ⟨hr, hb⟩ => ⟨hr, (h.below hb).hb, L, M, e, x, PA, PB, h.below hb⟩

theorem Bth.prog {w0 w w' : World} {b D X L M n from_ sectors : Nat} {e e' : Nat → Int} {x x' : St} {PA PB : Nat → Prop} (h : Bth w0 w b D X L M n from_ sectors e x PA PB) (hp : Part PA w w') : Dg w' PB X M n from_ sectors e x ∧ Prb w' b D X (.pointer (some ⟨L, 0, none⟩)) (.pointer (some ⟨M, 0, none⟩)) ∧ Below w0.heap.size w0 w' ∧ (∀ k, more PA w w' k → ¬ PB k) ∧ ¬ more PA w w' b ∧ ∀ k, more PA w w' k → w0.heap.size ≤ k := by
  have hbw : b < w.heap.size := (Array.getElem?_eq_some_iff.1 h.hb).1
  have hs0 := h.bl.size
  refine ⟨h.dg.part hp (fun k hk hk2 => h.dj k hk2 hk), h.hb.part hp h.na, part_below h.bl hp h.la, fun k hk hk2 => ?_, fun hk => ?_, fun k hk => ?_⟩
  · rcases hk with hk | hk
    · exact h.dj k hk hk2
    · have := h.dg.lt k hk2; omega
  · rcases hk with hk | hk
    · exact h.na hk
    · omega
  · rcases hk with hk | hk
    · exact h.la k hk
    · omega
/-- The document's call behind the program's. -/
theorem both {w0 w w1 w2 : World} {b D X L M n from_ sectors : Nat} {e e' : Nat → Int} {x x' : St} {PA PB PA' : Nat → Prop} (hpg : Pg w1 PA' D L n from_ sectors e' x') (ok : Okx from_ sectors n x') (hB : ∀ k, PB k → k < w1.heap.size) (dj : ∀ k, PA' k → ¬ PB k) (na : ¬ PA' b) (nb : ¬ PB b) (hb : Prb w1 b D X (.pointer (some ⟨L, 0, none⟩)) (.pointer (some ⟨M, 0, none⟩))) (b0 : w0.heap.size ≤ b) (la : ∀ k, PA' k → w0.heap.size ≤ k) (lb : ∀ k, PB k → w0.heap.size ≤ k) (bl : Below w0.heap.size w0 w1) (hdg : Dg w2 (more PB w1 w2) X M n from_ sectors e' x') (hp : Part PB w1 w2) : Bth w0 w2 b D X L M n from_ sectors e' x' PA' (more PB w1 w2) := by
  have hbw : b < w1.heap.size := (Array.getElem?_eq_some_iff.1 hb).1
  have hs0 := bl.size
  refine ⟨hpg.part hp (fun k hk hk2 => dj k hk hk2), hdg, ok, fun k hk hk2 => ?_, na, fun hk => ?_, hb.part hp nb, b0, la, fun k hk => ?_, part_below bl hp lb⟩
  · rcases hk2 with hk2 | hk2
    · exact dj k hk hk2
    · have := hpg.lt k hk; omega
  · rcases hk with hk | hk
    · exact nb hk
    · omega
  · rcases hk with hk | hk
    · exact lb k hk
    · omega

theorem arm_force {w0 w : World} {b D X L M n from_ sectors : Nat} {e : Nat → Int} {x : St} {PA PB : Nat → Prop} (h : Bth w0 w b D X L M n from_ sectors e x PA PB) (ht : Tab w0) (htb : 1 < w0.heap.size) :
    Calls Tryd.prog 14 #[.pointer (some ⟨L, 0, none⟩)] w fun r w1 => r = .returned (.int .i64 0) ∧ Kb b D X L M w1 ∧ Hid (Calls Tryd.prog 37 #[.pointer (some ⟨M, 0, none⟩)] w1 fun r w2 => r = .returned (.int .i64 0) ∧ Kb b D X L M w2 ∧ Hid (Calls Tryd.prog 10 #[.pointer (some ⟨b, 0, none⟩)] w2 fun r w' => r = .returned (.bool true) ∧ Kb b D X L M w' ∧ Hid (After w0 w' b D X n from_ sectors))) := by
  refine (pg_force h.pg h.ok (ht.below h.bl (Nat.le_refl _)) (fun hk => by have := h.la _ hk; omega)).mono ?_
  rintro r w1 ⟨rfl, HP⟩
  obtain ⟨hpg, p1⟩ := HP.out
  obtain ⟨d1, d2, d3, d4, d5, d6⟩ := h.prog (e' := e) (x' := x) p1
  refine ⟨rfl, d2, (dg_force d1 h.ok).mono ?_⟩
  rintro r w2 ⟨rfl, HD⟩
  obtain ⟨hdg, p2⟩ := HD.out
  have hB := both (w := w) (e := e) (x := x) (PA := PA) hpg h.ok.frc d1.lt d4 d5 h.nb d2 h.b0 d6 h.lb d3 hdg p2
  exact ⟨rfl, hB.hb, arm_same hB⟩
theorem arm_reset {w0 w : World} {b D X L M n from_ sectors : Nat} {e : Nat → Int} {x : St} {PA PB : Nat → Prop} (h : Bth w0 w b D X L M n from_ sectors e x PA PB) (ht : Tab w0) (htb : 1 < w0.heap.size) :
    Calls Tryd.prog 25 #[.pointer (some ⟨L, 0, none⟩)] w fun r w1 => r = .returned (.int .i64 (rstA x : Int)) ∧ Kb b D X L M w1 ∧ Hid (Calls Tryd.prog 38 #[.pointer (some ⟨M, 0, none⟩)] w1 fun r w2 => r = .returned (.int .i64 (rstA x : Int)) ∧ Kb b D X L M w2 ∧ Hid (Calls Tryd.prog 10 #[.pointer (some ⟨b, 0, none⟩)] w2 fun r w' => r = .returned (.bool true) ∧ Kb b D X L M w' ∧ Hid (After w0 w' b D X n from_ sectors))) := by
  refine (pg_reset h.pg h.ok (ht.below h.bl (Nat.le_refl _)) (fun hk => by have := h.la _ hk; omega)).mono ?_
  rintro r w1 ⟨rfl, HP⟩
  obtain ⟨hpg, p1⟩ := HP.out
  obtain ⟨d1, d2, d3, d4, d5, d6⟩ := h.prog (e' := e) (x' := x) p1
  refine ⟨rfl, d2, (dg_reset d1 h.ok).mono ?_⟩
  rintro r w2 ⟨rfl, HD⟩
  obtain ⟨hdg, p2⟩ := HD.out
  have hB := both (w := w) (e := e) (x := x) (PA := PA) hpg h.ok.rst d1.lt d4 d5 h.nb d2 h.b0 d6 h.lb d3 hdg p2
  exact ⟨rfl, hB.hb, arm_same hB⟩

/-- The cells of the law's pair, and of the box in which a call lies. -/
def Kc (b D X L M kb : Nat) (op : Int) (a : Option Addr) (l c : Nat) (wq : World) : Prop := Kb b D X L M wq ∧ wq.heap[kb]? = some (.cells #[.int .i64 op, .slice a l c] 36 (0, 0))
theorem Kc.cells {b D X L M kb : Nat} {op : Int} {a : Option Addr} {l c : Nat} {wq : World} (h : Kc b D X L M kb op a l c wq) : wq.cell? ⟨b, 2, none⟩ = some (.pointer (some ⟨L, 0, none⟩)) ∧ wq.cell? ⟨b, 3, none⟩ = some (.pointer (some ⟨M, 0, none⟩)) ∧ wq.cell? ⟨kb, 1, none⟩ = some (.slice a l c) := ⟨h.1.cells.2.2.1, h.1.cells.2.2.2, by rw [cells_at h.2 1]; rfl⟩

theorem arm_append {w0 w W0 : World} {b D X L M n from_ sectors kb : Nat} {op : Int} {e : Nat → Int} {x : St} {PA PB : Nat → Prop} (h : Bth w0 w b D X L M n from_ sectors e x PA PB) (hW : Below w.heap.size w W0) (hkb : w.heap.size ≤ kb) (a : Option Addr) (l c : Nat) (g : Nat → Int) (hF : From w0 a l g) (hg : ∀ i, 0 ≤ g i ∧ g i ≤ 255) (hc0 : a = none → c = 0) (hl : l ≤ 140737488355328)
    (hbox : W0.heap[kb]? = some (.cells #[.int .i64 op, .slice a l c] 36 (0, 0))) :
    Calls Tryd.prog 34 #[.slice a l c] W0 fun r w1 => ∃ ag cg, r = .returned (.slice ag l cg) ∧ Kc b D X L M kb op a l c w1 ∧
      Hid (Calls Tryd.prog 27 #[.pointer (some ⟨L, 0, none⟩), .slice ag l cg] w1 fun r w2 => r = .returned (.tuple #[.int .i64 (appN sectors l x : Int), .int .i64 (appE sectors l x : Int)]) ∧ Kc b D X L M kb op a l c w2 ∧
        Hid (∀ wq, Below w2.heap.size w2 wq → Kc b D X L M kb op a l c wq ∧ Calls Tryd.prog 35 #[.pointer (some ⟨M, 0, none⟩), .slice a l c] wq fun r w3 => r = .returned (.tuple #[.int .i64 (appN sectors l x : Int), .int .i64 (appE sectors l x : Int)]) ∧ Kc b D X L M kb op a l c w3 ∧
          Hid (Calls Tryd.prog 21 #[.slice ag l cg, .slice a l c] w3 fun r w' => r = .returned (.bool true) ∧ w' = w3) ∧
          Hid (Calls Tryd.prog 36 #[.slice ag l cg] w3 fun r w4 => r = .returned (.tuple #[]) ∧ Hid (Calls Tryd.prog 10 #[.pointer (some ⟨b, 0, none⟩)] w4 fun r w' => r = .returned (.bool true) ∧ Kb b D X L M w' ∧ Hid (After w0 w' b D X n from_ sectors))))) := by
  have h0 := h.below hW
  have sW := hW.size
  have fw : ∀ wq, Below w0.heap.size w0 wq → From wq a l g := fun wq hq => hF.partG (Part.ofBelow (F := fun _ => False) hq) (fun _ _ _ h => h)
  have hkl : kb < W0.heap.size := (Array.getElem?_eq_some_iff.1 hbox).1
  have hbw : b < w.heap.size := (Array.getElem?_eq_some_iff.1 h.hb).1
  refine (clone a l c g W0 hl (fw W0 h0.bl)).mono ?_
  rintro r w1 ⟨v1, rfl, ho1, b1⟩
  have s1 := b1.size
  obtain ⟨ag, cg, rfl, hf9, _⟩ := ho1.fst
  have h1 := h0.below b1
  have hx1 : w1.heap[kb]? = some (.cells #[.int .i64 op, .slice a l c] 36 (0, 0)) := (b1.block kb hkl).trans hbox
  have lo1 : ∀ q, (Value.slice ag l cg).ownBlock = some q → W0.heap.size ≤ q ∧ q < w1.heap.size := fun q hq => World.ownsRow.lt ho1 q hq
  have hag : ∀ y, ag = some y → W0.heap.size ≤ y.block := fun y hy => by
    rcases hf9.2.2 with ⟨e0, _⟩ | ⟨g1, e1, _⟩
    · rw [e0] at hy; cases hy
    · rw [e1] at hy; cases hy
      exact (lo1 g1 (by rw [e1]; rfl)).1
  have fag : From w1 ag l g := by
    rcases hf9.2.2 with ⟨e0, e1, _⟩ | ⟨g1, e1, e2⟩
    · exact .inl ⟨e0, e1⟩
    · exact .inr ⟨_, e1, fun i hi => by rw [Addr.add_lit, Nat.zero_add]; exact e2 i hi⟩
  refine ⟨ag, cg, rfl, ⟨h1.hb, hx1⟩, ?_⟩
  refine (pg_append h1.pg h1.ok ag l cg g fag (fun y hy _ hk => by have := hag y hy; have := h.pg.lt _ hk; omega) (fun e0 => by
    rcases hf9.2.2 with ⟨_, _, e2⟩ | ⟨g1, e1, _⟩
    · exact e2
    · rw [e0] at e1; cases e1)).mono ?_
  rintro r w2 ⟨rfl, HP⟩
  obtain ⟨hpg, p1⟩ := HP.out
  have s2 := p1.size
  obtain ⟨d1, d2, d3, d4, d5, d6⟩ := h1.prog (e' := e) (x' := x) p1
  have hx2 : w2.heap[kb]? = some (.cells #[.int .i64 op, .slice a l c] 36 (0, 0)) := (p1.block kb (by omega) (fun hk => by have := h.pg.lt _ hk; omega)).trans hx1
  have ho2 : Own w2 W0.heap.size (.slice ag l cg) (lst g l) := p1.row ho1 (fun q hq hk => by have := lo1 q hq; have := h.pg.lt _ hk; omega)
  refine ⟨rfl, ⟨d2, hx2⟩, fun wq hq => ?_⟩
  have sq := hq.size
  have hpq := hpg.below hq
  have dq := d1.below hq
  have bq := d2.part (Part.ofBelow (F := fun _ => False) hq) (fun h => h)
  have blq := d3.trans (hq.mono d3.size)
  have hxq : wq.heap[kb]? = some (.cells #[.int .i64 op, .slice a l c] 36 (0, 0)) := (hq.block kb (by omega)).trans hx2
  have hoq := ho2.below hq (by omega)
  refine ⟨⟨bq, hxq⟩, ?_⟩
  refine (dg_append dq h1.ok a l c g (fw wq blq) hg).mono ?_
  rintro r w3 ⟨rfl, HD⟩
  obtain ⟨hdg, p2⟩ := HD.out
  have s3 := p2.size
  have hB := both (w := w) (e := e) (x := x) (PA := PA) hpq (h1.ok.app l hg) dq.lt d4 d5 h.nb bq h.b0 d6 h.lb blq hdg p2
  have ho3 : Own w3 W0.heap.size (.slice ag l cg) (lst g l) := p2.row hoq (fun q hqq hk => by have := lo1 q hqq; have := h.dg.lt _ hk; omega)
  have fa3 : From w3 ag l g := by
    obtain ⟨a9, c9, e9, hf3, _⟩ := ho3.fst
    cases e9
    rcases hf3.2.2 with ⟨e0, e1, _⟩ | ⟨g1, e1, e2⟩
    · exact .inl ⟨e0, e1⟩
    · exact .inr ⟨_, e1, fun i hi => by rw [Addr.add_lit, Nat.zero_add]; exact e2 i hi⟩
  refine ⟨rfl, ⟨hB.hb, (p2.block kb (by omega) (fun hk => by have := h.dg.lt _ hk; omega)).trans hxq⟩, equal_yes ag a l cg l c g g w3 fa3 (fw w3 hB.bl) rfl, ?_⟩
  refine (spoilF (.slice ag l cg) _ l g w3 ho3 (by omega)).mono ?_
  rintro r w4 ⟨rfl, p3⟩
  have hnA : ∀ k, more PA w1 w2 k → ¬ (Value.slice ag l cg).ownBlock = some k := fun k hk hk2 => by
    have := lo1 k hk2
    rcases hk with hk | hk
    · have := h.pg.lt k hk; omega
    · omega
  have hnB : ∀ k, more PB wq w3 k → ¬ (Value.slice ag l cg).ownBlock = some k := fun k hk hk2 => by
    have := lo1 k hk2
    rcases hk with hk | hk
    · have := h.dg.lt k hk; omega
    · omega
  have hnb : ¬ (Value.slice ag l cg).ownBlock = some b := fun hk => by have := lo1 b hk; omega
  have hB4 : Bth w0 w4 b D X L M n from_ sectors e (appX sectors l x g) (more PA w1 w2) (more PB wq w3) := ⟨hB.pg.part p3 hnA, hB.dg.part p3 hnB, hB.ok, hB.dj, hB.na, hB.nb, hB.hb.part p3 hnb, hB.b0, hB.la, hB.lb, part_below hB.bl p3 (fun k hk => by have := lo1 k hk; have := h.bl.size; omega)⟩
  exact ⟨rfl, arm_same hB4⟩

set_option maxRecDepth 100000 in
set_option maxHeartbeats 4000000 in
theorem pr_does {w0 w : World} {b D X L M n from_ sectors : Nat} {e : Nat → Int} {x : St} {PA PB : Nat → Prop} (h : Bth w0 w b D X L M n from_ sectors e x PA PB) (op : Int) (a : Option Addr) (l c : Nat) (g : Nat → Int) (hF : From w0 a l g) (hg : ∀ i, 0 ≤ g i ∧ g i ≤ 255) (hc0 : a = none → c = 0) (hl : l ≤ 140737488355328) (ht : Tab w0) (htb : 1 < w0.heap.size) :
    Calls Tryd.prog 9 #[.pointer (some ⟨b, 0, none⟩), .agg #[.int .i64 op, .slice a l c], .int .i64 (from_ : Int), .int .i64 (sectors : Int)] w fun r w' => r = .returned (.bool true) ∧ Hid (After w0 w' b D X n from_ sectors) := by
  obtain ⟨ob, hO⟩ : ∃ ob, Obj.cells #[.int .i64 op, .slice a l c] 36 = ob := ⟨_, rfl⟩
  have hb0 : Below w.heap.size w (w.alloc ob) := (Below.refl _ w).alloc (Nat.le_refl _) ob
  have hbox : (w.alloc ob).heap[w.heap.size]? = some (.cells #[.int .i64 op, .slice a l c] 36 (0, 0)) := by rw [← hO]; exact heap_alloc_at _ _ _ rfl
  have x0 : (w.alloc ob).cell? ⟨w.heap.size, 0, none⟩ = some (.int .i64 op) := by rw [cells_at hbox 0]; rfl
  have x1 : (w.alloc ob).cell? ⟨w.heap.size, 1, none⟩ = some (.slice a l c) := by rw [cells_at hbox 1]; rfl
  have hB1 := h.below hb0
  obtain ⟨p0, p1, p2, p3⟩ := hB1.hb.cells
  obtain ⟨t, ht5, hte⟩ := mod5_ex op
  have HAp := hid_of (arm_append h hb0 (Nat.le_refl _) a l c g hF hg hc0 hl hbox)
  have HFo := hid_of (fun (wq : World) (hq : Below (w.alloc ob).heap.size (w.alloc ob) wq) => arm_force (hB1.below hq) ht htb)
  have HRe := hid_of (fun (wq : World) (hq : Below (w.alloc ob).heap.size (w.alloc ob) wq) => arm_reset (hB1.below hq) ht htb)
  have HKq : Hid (∀ wq, Below (w.alloc ob).heap.size (w.alloc ob) wq → Kb b D X L M wq) := fun wq hq => (hB1.below hq).hb
  have HOp : Hid (Calls Tryd.prog 8 #[.pointer (some ⟨b, 0, none⟩), .int .i64 (from_ : Int), .int .i64 (sectors : Int)] (w.alloc ob) fun r w1 => r = .returned (.bool true) ∧ Hid (Calls Tryd.prog 10 #[.pointer (some ⟨b, 0, none⟩)] w1 fun r w' => r = .returned (.bool true) ∧ Hid (After w0 w' b D X n from_ sectors))) := by
    refine (pr_open hB1.two from_ sectors h.ok.hp h.ok.hs ht htb).mono ?_
    rintro r w1 ⟨rfl, HZ⟩
    obtain ⟨L', M', e', x', PA', PB', hZ⟩ := HZ.out
    exact ⟨rfl, (arm_same hZ).mono fun r w' ⟨a1, _, a3⟩ => ⟨a1, a3⟩⟩
  have HKc : Hid (∀ wq, Kb b D X L M wq → wq.cell? ⟨b, 2, none⟩ = some (.pointer (some ⟨L, 0, none⟩)) ∧ wq.cell? ⟨b, 3, none⟩ = some (.pointer (some ⟨M, 0, none⟩))) := fun wq hq => ⟨hq.cells.2.2.1, hq.cells.2.2.2⟩
  have k00 : Below (w.alloc ob).heap.size (w.alloc ob) (w.alloc ob) := Below.refl _ _
  obtain ⟨NN, hNN⟩ : ∃ z : Int, (appN sectors l x : Int) = z := ⟨_, rfl⟩
  obtain ⟨EE, hEE⟩ : ∃ z : Int, (appE sectors l x : Int) = z := ⟨_, rfl⟩
  obtain ⟨RR, hRR⟩ : ∃ z : Int, (rstA x : Int) = z := ⟨_, rfl⟩
  rw [hNN, hEE] at HAp
  rw [hRR] at HRe
  clear h hB1 hbox hb0 hF hg hc0 hl ht htb hNN hEE hRR
  go_enter Tryd.func9, Tryd.ntmps9
  rcases (show t = 0 ∨ t = 1 ∨ t = 2 ∨ t = 3 ∨ t = 4 by omega) with rfl | rfl | rfl | rfl | rfl
  · go_wp2_with fail
    try rw [hO]
    refine HAp.out.mono ?_
    rintro r w1 ⟨ag, cg, rfl, k1, H2⟩
    have HC1 := k1.cells
    obtain ⟨y2, y3, y1⟩ := HC1
    clear HAp HFo HRe HOp HKq x0 x1 p0 p1 p2 p3 k00 k1
    go_wp2_with fail
    refine H2.out.mono ?_
    rintro r w2 ⟨rfl, k2, H3⟩
    have HS : Hid (∀ wq, Below w2.heap.size w2 wq → wq.cell? ⟨b, 3, none⟩ = some (.pointer (some ⟨M, 0, none⟩)) ∧ wq.cell? ⟨w.heap.size, 1, none⟩ = some (.slice a l c)) := fun wq hq => ⟨(H3.out wq hq).1.cells.2.1, (H3.out wq hq).1.cells.2.2⟩
    have HSc : Hid (∀ wq, Kc b D X L M w.heap.size op a l c wq → wq.cell? ⟨b, 3, none⟩ = some (.pointer (some ⟨M, 0, none⟩)) ∧ wq.cell? ⟨w.heap.size, 1, none⟩ = some (.slice a l c)) := fun wq hq => ⟨hq.cells.2.1, hq.cells.2.2⟩
    have k20 : Below w2.heap.size w2 w2 := Below.refl _ _
    clear H2 y1 y2 y3 k2
    go_wp2_with fail
    go_region_held2 (fun wq => wq.cell? ⟨b, 3, none⟩ = some (.pointer (some ⟨M, 0, none⟩)) ∧ wq.cell? ⟨w.heap.size, 1, none⟩ = some (.slice a l c))
      (first | exact HSc.out _ (by assumption) | exact HS.out _ (by assumption) | exact HS.out _ (Below.drew (by assumption)) | go_keep)
      (first | (go_at_call 35; refine ((H3.out _ (by first | exact k20 | exact k20.drew)).2).mono ?_; rintro e' w3 ⟨rfl, k3, H4, H5⟩))
    obtain ⟨z2, z3, z1⟩ := k3.cells
    clear H3 HS HSc k3 k20
    go_wp2_with fail
    refine H4.out.mono ?_
    rintro r w4 ⟨rfl, hw⟩
    obtain rfl : w3 = w4 := hw.symm
    clear hw H4
    go_wp2_with fail
    refine H5.out.mono ?_
    rintro r w5 ⟨rfl, H6⟩
    clear H5 z1 z2 z3
    go_wp2_with fail
    refine H6.out.mono ?_
    rintro r w6 ⟨rfl, _, H7⟩
    clear H6
    go_wp2
    go_ret
    exact ⟨rfl, H7⟩
  · go_wp2_with fail
    try rw [hO]
    refine HAp.out.mono ?_
    rintro r w1 ⟨ag, cg, rfl, k1, H2⟩
    have HC1 := k1.cells
    obtain ⟨y2, y3, y1⟩ := HC1
    clear HAp HFo HRe HOp HKq x0 x1 p0 p1 p2 p3 k00 k1
    go_wp2_with fail
    refine H2.out.mono ?_
    rintro r w2 ⟨rfl, k2, H3⟩
    have HS : Hid (∀ wq, Below w2.heap.size w2 wq → wq.cell? ⟨b, 3, none⟩ = some (.pointer (some ⟨M, 0, none⟩)) ∧ wq.cell? ⟨w.heap.size, 1, none⟩ = some (.slice a l c)) := fun wq hq => ⟨(H3.out wq hq).1.cells.2.1, (H3.out wq hq).1.cells.2.2⟩
    have HSc : Hid (∀ wq, Kc b D X L M w.heap.size op a l c wq → wq.cell? ⟨b, 3, none⟩ = some (.pointer (some ⟨M, 0, none⟩)) ∧ wq.cell? ⟨w.heap.size, 1, none⟩ = some (.slice a l c)) := fun wq hq => ⟨hq.cells.2.1, hq.cells.2.2⟩
    have k20 : Below w2.heap.size w2 w2 := Below.refl _ _
    clear H2 y1 y2 y3 k2
    go_wp2_with fail
    go_region_held2 (fun wq => wq.cell? ⟨b, 3, none⟩ = some (.pointer (some ⟨M, 0, none⟩)) ∧ wq.cell? ⟨w.heap.size, 1, none⟩ = some (.slice a l c))
      (first | exact HSc.out _ (by assumption) | exact HS.out _ (by assumption) | exact HS.out _ (Below.drew (by assumption)) | go_keep)
      (first | (go_at_call 35; refine ((H3.out _ (by first | exact k20 | exact k20.drew)).2).mono ?_; rintro e' w3 ⟨rfl, k3, H4, H5⟩))
    obtain ⟨z2, z3, z1⟩ := k3.cells
    clear H3 HS HSc k3 k20
    go_wp2_with fail
    refine H4.out.mono ?_
    rintro r w4 ⟨rfl, hw⟩
    obtain rfl : w3 = w4 := hw.symm
    clear hw H4
    go_wp2_with fail
    refine H5.out.mono ?_
    rintro r w5 ⟨rfl, H6⟩
    clear H5 z1 z2 z3
    go_wp2_with fail
    refine H6.out.mono ?_
    rintro r w6 ⟨rfl, _, H7⟩
    clear H6
    go_wp2
    go_ret
    exact ⟨rfl, H7⟩
  · go_wp2_with fail
    try rw [hO]
    clear HAp HOp x0 x1
    go_region_held2 (fun wq => wq.cell? ⟨b, 2, none⟩ = some (.pointer (some ⟨L, 0, none⟩)) ∧ wq.cell? ⟨b, 3, none⟩ = some (.pointer (some ⟨M, 0, none⟩)))
      (first | exact HKc.out _ (by assumption) | exact HKc.out _ (HKq.out _ (by assumption)) | exact HKc.out _ (HKq.out _ (Below.drew (by assumption))) | go_keep)
      (first
        | (go_at_call 14; refine (HFo.out _ (by first | exact k00 | exact k00.drew)).mono ?_; rintro e' w1 ⟨rfl, k1, H2⟩)
        | (go_at_call 37; refine H2.out.mono ?_; rintro e' w2 ⟨rfl, k2, H3⟩)
        | (go_at_call 10; refine H3.out.mono ?_; rintro e' w3 ⟨rfl, k3, H4⟩))
    go_wp2
    go_ret
    exact ⟨rfl, H4⟩
  · go_wp2_with fail
    try rw [hO]
    clear HAp HOp x0 x1
    go_region_held2 (fun wq => wq.cell? ⟨b, 2, none⟩ = some (.pointer (some ⟨L, 0, none⟩)) ∧ wq.cell? ⟨b, 3, none⟩ = some (.pointer (some ⟨M, 0, none⟩)))
      (first | exact HKc.out _ (by assumption) | exact HKc.out _ (HKq.out _ (by assumption)) | exact HKc.out _ (HKq.out _ (Below.drew (by assumption))) | go_keep)
      (first
        | (go_at_call 25; refine (HRe.out _ (by first | exact k00 | exact k00.drew)).mono ?_; rintro e' w1 ⟨rfl, k1, H2⟩)
        | (go_at_call 38; refine H2.out.mono ?_; rintro e' w2 ⟨rfl, k2, H3⟩)
        | (go_at_call 10; refine H3.out.mono ?_; rintro e' w3 ⟨rfl, k3, H4⟩))
    go_wp2
    go_ret
    exact ⟨rfl, H4⟩
  · go_wp2_with fail
    try rw [hO]
    refine HOp.out.mono ?_
    rintro r w1 ⟨rfl, H2⟩
    clear HAp HFo HRe HOp x0 x1 p0 p1 p2 p3
    go_wp2_with fail
    refine H2.out.mono ?_
    rintro r w2 ⟨rfl, H3⟩
    clear H2
    go_wp2
    go_ret
    exact ⟨rfl, H3⟩
end Go.Proofs.YtmjoklppibfdmaaDoor
