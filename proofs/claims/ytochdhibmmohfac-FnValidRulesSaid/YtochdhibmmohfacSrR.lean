/-
  The generator's one2 and someRules: some rules come back.
-/
import Derived.Test.YtochdhibmmohfacLrS
import Derived.Test.YtochdhibmmohfacLk
import Derived.Test.YtochdhibmmohfacPjAf
import Derived.Test.YtochdhibmmohfacPjAd
import Derived.Test.YtochdhibmmohfacPjAk
import Derived.Deep.CutRange
namespace Go.Proofs.Ytochdhibmmohfac
open Go.RowKit
set_option linter.unusedVariables false
set_option linter.unusedSimpArgs false

theorem OpsAt.grew {w w' : World} {rb : Nat} {A : Option Addr} {os : List Od} (h : OpsAt w w.heap.size A os) (hg : Grew rb w w') (hne : blockOf A ≠ some rb) : OpsAt w' w'.heap.size A os :=
  ⟨fun hx => by
    obtain ⟨b, off, rfl, hlt, hc⟩ := h.row hx
    have hb : b ≠ rb := fun e => hne (by rw [e]; rfl)
    exact ⟨b, off, rfl, Nat.lt_of_lt_of_le hlt hg.size, fun j x hj => ⟨(hg.cell hlt hb).trans (hc j x hj).1, (hg.cell hlt hb).trans (hc j x hj).2⟩⟩, h.wf, h.len⟩

theorem OwnI.litS (w : World) (xs : List Int) (h : xs.length ≤ maxLen) : OwnI (w.alloc (.cells (xs.map (fun x => Value.int .i64 x)).toArray 3)) w.heap.size (some ⟨w.heap.size, 0, none⟩) xs.length xs :=
  ⟨⟨by simp, .inr ⟨w.heap.size, xs.length, _, rfl, Nat.le_refl _, Lies.new _ _ _, Nat.le_refl _, h, by simp, by simp [List.take_of_length_le]⟩⟩⟩

theorem OwnI.ofS {w w' : World} {base : Nat} {A : Option Addr} {c : Nat} {xs : List Int} (h : OwnI w base A c xs) (hA : ∀ g, blockOf A = some g → w'.heap[g]? = w.heap[g]?) : OwnI w' base A c xs := by
  refine ⟨h.own.1, ?_⟩
  rcases h.own.2 with h2 | ⟨g, cap, cur, hv, hg, hh, r⟩
  · exact .inl h2
  · refine .inr ⟨g, cap, cur, hv, hg, ?_, r⟩
    rw [hA g (by injection hv with hv; rw [hv]; rfl)]
    exact hh

theorem Rd.keptS {w w' : World} {rb : Nat} {A : Option Addr} {n c p : Nat} (h : Rd w rb A n c p) (hr : Below (rb + 1) w w') : Rd w' rb A n c p :=
  ⟨h.box.below hr (by omega), h.bytes.later (hr.mono (by omega)), h.few⟩

/-- some numbers of the call's own come back -/
def Listed (rb : Nat) (A : Option Addr) (n c p : Nat) (w : World) (e : Ending) (w' : World) : Prop :=
  ∃ A2 c2 xs, e = .returned (.slice A2 xs.length c2) ∧ OwnI w' w.heap.size A2 c2 xs ∧ (∀ x ∈ xs, In64 x) ∧ xs.length ≤ 1000 ∧ Rd w' rb A n c (p + 1) ∧ Grew rb w w'

set_option maxRecDepth 100000 in
set_option maxHeartbeats 1000000 in
theorem one2_any (rb : Nat) (A : Option Addr) (n c p g : Nat) (w : World) (h : Rd w rb A n c p) (hp : p < 1000000) (hg : g ≠ rb)
    (hl : ∀ k, k < 4 → ∃ b xs, w.cell? ⟨g, k, none⟩ = some (.slice (some ⟨b, 0, none⟩) xs.length xs.length) ∧ IntsAt w w.heap.size (some ⟨b, 0, none⟩) xs ∧ xs.length ≤ 1000 ∧ b ≠ rb) :
    Calls Try.prog 16 #[.pointer (some ⟨rb, 0, none⟩), .slice (some ⟨g, 0, none⟩) 4 4] w (Listed rb A n c p w) := by
  have HL := hide hl
  clear hl
  go_enter Try.func16, Try.ntmps16
  go_wp2_with fail
  refine (pick_any rb A n c p 4 w h hp (by omega)).mono ?_
  rintro e w1 ⟨⟨x, rfl, hx, _⟩, hr, ht⟩
  have hx4 : x < 4 := by have := hx (by omega); omega
  obtain ⟨b, xs, hc, hI, hxl, hbr⟩ := HL.out x hx4
  have hc1 : w1.cell? ⟨g, x, none⟩ = some (.slice (some ⟨b, 0, none⟩) xs.length xs.length) := (World.cell?_of_block (w := w) (ht.block g hg)).trans hc
  have hG := Grew.of_turn ht
  have hI1 : IntsAt w1 w1.heap.size (some ⟨b, 0, none⟩) xs := ⟨fun hne => by
    obtain ⟨b', o', e, hlt, hcc⟩ := hI.row hne
    injection e with e
    injection e with e1 e2
    subst e1 e2
    exact ⟨b, 0, rfl, Nat.lt_of_lt_of_le hlt hG.size, fun j y hj => (hG.cell hlt hbr).trans (hcc j y hj)⟩, hI.wf, hI.len⟩
  have hx0 : (0 : Int) ≤ (x : Int) := by omega
  have hx5 : (x : Int) < 4 := by omega
  have HW := hide hI.wf
  have HI := hide hI1
  have HG := hide hG
  have HR := hide hr
  clear hx hc hI hI1 ht hr hG h
  go_wp2_with fail
  refine (copyInts_any _ xs _ w1 HI.out (fun e => by cases e) (by omega)).mono ?_
  rintro e w2 ⟨A2, c2, rfl, ho, hb⟩
  have H := hide (show Listed rb A n c p w (.returned (.slice A2 xs.length c2)) w2 from ⟨A2, c2, xs, rfl, ho.mono HG.out.size, HW.out, hxl, HR.out.below hb, HG.out.trans (Grew.of_below hb)⟩)
  clear ho hb hc1
  go_wp2
  go_ret
  exact H.out

/-- the memory ahead of the rules -/
structure Sr0 (w wr : World) (rb : Nat) (A : Option Addr) (nb cb P : Nat) : Prop where
  grew : Grew rb w wr
  rd : ∃ p, p ≤ P ∧ Rd wr rb A nb cb p
  l0 : Lies wr w.heap.size #[.int .i64 0, .int .i64 0, .int .i64 0, .slice none 0 0] 25
  lt : rb < w.heap.size

theorem Sr0.turn {w wr w' : World} {rb nb cb P P' p : Nat} {A : Option Addr} (h : Sr0 w wr rb A nb cb P) (hr : Rd w' rb A nb cb p) (ht : Turn rb wr w') (hp : p ≤ P') : Sr0 w w' rb A nb cb P' :=
  ⟨h.grew.trans (Grew.of_turn ht), ⟨p, hp, hr⟩, h.l0.grew (Grew.of_turn ht) (by have := h.lt; omega), h.lt⟩
theorem Sr0.below {w wr w' : World} {rb nb cb P : Nat} {A : Option Addr} (h : Sr0 w wr rb A nb cb P) (hb : Below wr.heap.size wr w') : Sr0 w w' rb A nb cb P := by
  obtain ⟨p, hp, hr⟩ := h.rd
  exact ⟨h.grew.trans (Grew.of_below hb), ⟨p, hp, hr.below hb⟩, h.l0.below hb h.l0.lt, h.lt⟩

/-- .. and with them -/
structure SrS (w wr : World) (rb : Nat) (A : Option Addr) (nb cb P q : Nat) (Ax : Option Addr) (cx : Nat) (r : Ru) : Prop where
  s0 : Sr0 w wr rb A nb cb P
  l5 : Lies wr q #[.int .i64 r.steps, .int .i64 r.nodes, .int .i64 r.deep, .slice Ax r.cls.length cx] 25
  own : OwnI wr (w.heap.size + 1) Ax cx r.cls
  off : blockOf Ax ≠ some q
  hq : w.heap.size < q
  c64 : ∀ x ∈ r.cls, In64 x
  few : r.cls.length ≤ 1000
  n64 : In64 r.steps ∧ In64 r.nodes ∧ In64 r.deep

theorem SrS.turn {w wr w' : World} {rb nb cb P P' p q cx : Nat} {A Ax : Option Addr} {r : Ru} (h : SrS w wr rb A nb cb P q Ax cx r) (hr : Rd w' rb A nb cb p) (ht : Turn rb wr w') (hp : p ≤ P') : SrS w w' rb A nb cb P' q Ax cx r := by
  have h1 := h.s0.lt
  have h2 := h.hq
  exact ⟨h.s0.turn hr ht hp, h.l5.grew (Grew.of_turn ht) (by omega), h.own.ofS (fun g hg => ht.block g (by have := (h.own.blocks g hg).1; omega)), h.off, h.hq, h.c64, h.few, h.n64⟩
theorem SrS.below {w wr w' : World} {rb nb cb P q cx : Nat} {A Ax : Option Addr} {r : Ru} (h : SrS w wr rb A nb cb P q Ax cx r) (hb : Below wr.heap.size wr w') : SrS w w' rb A nb cb P q Ax cx r :=
  ⟨h.s0.below hb, h.l5.below hb h.l5.lt, h.own.below hb, h.off, h.hq, h.c64, h.few, h.n64⟩
theorem SrS.more {w wr : World} {rb nb cb P P' q cx : Nat} {A Ax : Option Addr} {r : Ru} (h : SrS w wr rb A nb cb P q Ax cx r) (hP : P ≤ P') : SrS w wr rb A nb cb P' q Ax cx r := by
  obtain ⟨p, hp, hr⟩ := h.s0.rd
  exact ⟨⟨h.s0.grew, ⟨p, by omega, hr⟩, h.s0.l0, h.s0.lt⟩, h.l5, h.own, h.off, h.hq, h.c64, h.few, h.n64⟩

/-- the box holds other rules -/
theorem SrS.refill {w wr X : World} {rb nb cb P q cx cy : Nat} {A Ax Ay : Option Addr} {r t : Ru} (h : SrS w wr rb A nb cb P q Ax cx r) (hX : ∀ k, k ≠ q → X.heap[k]? = wr.heap[k]?) (hos : X.os = wr.os) (htp : X.tape = wr.tape) (hout : X.output = wr.output) (hsz : X.heap.size = wr.heap.size)
    (l : Lies X q #[.int .i64 t.steps, .int .i64 t.nodes, .int .i64 t.deep, .slice Ay t.cls.length cy] 25) (ho : OwnI wr (w.heap.size + 1) Ay cy t.cls) (hoff : blockOf Ay ≠ some q) (h64 : ∀ x ∈ t.cls, In64 x) (hfew : t.cls.length ≤ 1000) (hn : In64 t.steps ∧ In64 t.nodes ∧ In64 t.deep) : SrS w X rb A nb cb P q Ay cy t := by
  have h1 := h.s0.lt
  have h2 := h.hq
  obtain ⟨p, hp, hr⟩ := h.s0.rd
  have hs := h.s0.grew.size
  refine ⟨⟨⟨hos.trans h.s0.grew.os, htp.trans h.s0.grew.tape, hout.trans h.s0.grew.output, by rw [hsz]; exact hs, fun k hk hne => (hX k (by omega)).trans (h.s0.grew.block k hk hne)⟩, ⟨p, hp, hr.keptS ⟨hos, htp, hout, by rw [hsz]; exact Nat.le_refl _, fun k hk => hX k (by omega)⟩⟩, (hX _ (by omega)).trans h.s0.l0, h1⟩, l, ho.ofS (fun g hg => hX g (fun e => hoff (by rw [hg, e]))), hoff, h2, h64, hfew, hn⟩

/-- some rules come back, their classes in memory of the call's own -/
def DrawnRu (rb : Nat) (A : Option Addr) (nb cb P : Nat) (w : World) (e : Ending) (w' : World) : Prop :=
  ∃ (p : Nat) (Ax : Option Addr) (cx : Nat) (r : Ru), e = .returned (ruVal r Ax cx) ∧ p ≤ P ∧ Rd w' rb A nb cb p ∧ OwnI w' w.heap.size Ax cx r.cls ∧ (∀ x ∈ r.cls, In64 x) ∧ r.cls.length ≤ 1000 ∧ (In64 r.steps ∧ In64 r.nodes ∧ In64 r.deep) ∧ Grew rb w w'

theorem SrS.fin {w wr : World} {rb nb cb P q cx : Nat} {A Ax : Option Addr} {r : Ru} (h : SrS w wr rb A nb cb P q Ax cx r) :
    Put4 wr w.heap.size (.int .i64 0) (.int .i64 0) (.int .i64 0) (.slice none 0 0) (.int .i64 r.steps) (.int .i64 r.nodes) (.int .i64 r.deep) (.slice Ax r.cls.length cx) ∧
    DrawnRu rb A nb cb P w (.returned (ruVal r Ax cx)) ((((wr.setCell ⟨w.heap.size, 0, none⟩ (.int .i64 r.steps)).setCell ⟨w.heap.size, 1, none⟩ (.int .i64 r.nodes)).setCell ⟨w.heap.size, 2, none⟩ (.int .i64 r.deep)).setCell ⟨w.heap.size, 3, none⟩ (.slice Ax r.cls.length cx)) := by
  have h1 := h.s0.lt
  obtain ⟨p, hp, hr⟩ := h.s0.rd
  refine ⟨(h.s0.l0.put4 _ _ _ _).1, p, Ax, cx, r, rfl, hp, ?_, ?_, h.c64, h.few, h.n64, ?_⟩
  · exact hr.keptS ⟨rfl, rfl, rfl, by simp, fun k hk => put4_block (by omega)⟩
  · exact (h.own.ofS (fun g hg => put4_block (by have := (h.own.blocks g hg).1; omega))).mono (by omega)
  · exact ⟨h.s0.grew.os, h.s0.grew.tape, h.s0.grew.output, by simpa using h.s0.grew.size, fun k hk hne => (put4_block (by omega)).trans (h.s0.grew.block k hk hne)⟩

theorem lr_nn (os : List Od) : In64 (lrOf os).steps ∧ In64 (lrOf os).nodes ∧ In64 (lrOf os).deep ∧ (∀ x ∈ (lrOf os).cls, In64 x) ∧ (lrOf os).cls.length ≤ 1000 ∧ 0 ≤ (lrOf os).steps ∧ 0 ≤ (lrOf os).nodes ∧ 0 ≤ (lrOf os).deep := by
  by_cases h : LrOk os
  · rw [lr_yes h]
    have h1 := run_kinds_few h.1
    have h2 := h.1.1
    have h3 := classesIn_few (os := os)
    refine ⟨?_, ?_, maxL_64 depthsOf_64, classesIn_64, by show (classesIn os).length ≤ 1000; omega, ?_, ?_, ?_⟩
    · show In64 (os.length : Int)
      constructor <;> omega
    · show In64 ((runShp Shp.new os).1.kinds.length : Int)
      constructor <;> omega
    · show (0 : Int) ≤ (os.length : Int)
      omega
    · show (0 : Int) ≤ ((runShp Shp.new os).1.kinds.length : Int)
      omega
    · show 0 ≤ maxL (depthsOf os)
      unfold maxL
      have : ∀ (L : List Int) (z : Int), 0 ≤ z → 0 ≤ L.foldl max z := by
        intro L
        induction L with
        | nil => intro z hz; exact hz
        | cons y L ih => intro z hz; exact ih _ (by omega)
      exact this _ 0 (by omega)
  · rw [lr_no h]
    refine ⟨?_, ?_, ?_, by simp, by simp, by simp, by simp, by simp⟩ <;> (constructor <;> simp)

set_option maxRecDepth 100000 in
set_option maxHeartbeats 4000000 in
theorem someRules_any (rb : Nat) (A : Option Addr) (nb cb p : Nat) (A1 : Option Addr) (os : List Od) (c1 : Nat) (w : World) (h : Rd w rb A nb cb p) (hp : p < 600000) (ho : OpsAt w w.heap.size A1 os) (hc1 : os.length ≤ c1) (hne : blockOf A1 ≠ some rb) :
    Calls Try.prog 8 #[.pointer (some ⟨rb, 0, none⟩), .slice A1 os.length c1] w (DrawnRu rb A nb cb (p + 20) w) := by
  have hrlt := h.box.lt
  have hB : Below w.heap.size w (w.alloc (.cells #[.int .i64 0, .int .i64 0, .int .i64 0, .slice none 0 0] 25)) := (Below.refl _ w).alloc (Nat.le_refl _) _
  have HS := hide (show Sr0 w (w.alloc (.cells #[.int .i64 0, .int .i64 0, .int .i64 0, .slice none 0 0] 25)) rb A nb cb p from ⟨Grew.of_below hB, ⟨p, Nat.le_refl _, h.below hB⟩, Lies.new _ _ _, hrlt⟩)
  have HO := hide ho
  have hol := ho.len
  clear h hB ho
  go_enter Try.func8, Try.ntmps8
  go_wp2_with fail
  generalize w.alloc (.cells #[.int .i64 0, .int .i64 0, .int .i64 0, .slice none 0 0] 25) = W at HS ⊢
  obtain ⟨p1, hp1, hr1⟩ := HS.out.rd
  refine (pick_any rb A nb cb p1 40 W hr1 (by omega) (by omega)).mono ?_
  rintro e w1 ⟨⟨j1, rfl, hj1, _⟩, hr2, ht2⟩
  have hj140 : j1 < 1000 := by have := hj1 (by omega); omega
  have HS1 := hide (HS.out.turn hr2 ht2 (P' := p + 1) (by omega))
  have hbl1 := (Below.refl w1.heap.size w1).alloc (Nat.le_refl _) (.cells #[.int .i64 300, .int .i64 20, .int .i64 (j1 : Int), .int .i64 0] 3)
  have HT1 := hide (HS1.out.below hbl1)
  have hl1 := Lies.new w1 #[.int .i64 300, .int .i64 20, .int .i64 (j1 : Int), .int .i64 0] 3
  have hg1 : w1.heap.size ≠ rb := by have := HS1.out.l0.lt; have := HS1.out.lt; omega
  clear hr2 ht2 hj1 hbl1
  go_wp2_with fail
  generalize w1.alloc (.cells #[.int .i64 300, .int .i64 20, .int .i64 (j1 : Int), .int .i64 0] 3) = u1X at HT1 hl1 ⊢
  generalize w1.heap.size = gl1 at hl1 hg1 ⊢
  obtain ⟨q1, hq1, hrq1⟩ := HT1.out.rd
  refine (one_any rb A nb cb q1 gl1 4 4 [300, 20, (j1 : Int), 0] u1X hrq1 (by omega) rfl (by omega) (by omega) hg1 (fun k y hk => ?_)).mono ?_
  · rw [hl1.cell]
    match k, hk with
    | 0, hk => simp at hk; subst hk; rfl
    | 1, hk => simp at hk; subst hk; rfl
    | 2, hk => simp at hk; subst hk; rfl
    | 3, hk => simp at hk; subst hk; rfl
    | k + 4, hk => simp at hk
  rintro e w2 ⟨⟨z1, hz1, rfl⟩, hr3, ht3⟩
  have HS2 := hide (HT1.out.turn hr3 ht3 (P' := p + 2) (by omega))
  have hz10 : 0 ≤ z1 ∧ z1 ≤ 1000 := by
    simp at hz1
    rcases hz1 with rfl | rfl | rfl | rfl <;> omega
  clear hl1 hrq1 hq1 hz1 hr3 ht3 hg1 HT1 hj140
  clear HS1
  go_wp2_with fail
  obtain ⟨pp1, hpp1, hrr1⟩ := HS2.out.rd
  refine (pick_any rb A nb cb pp1 20 w2 hrr1 (by omega) (by omega)).mono ?_
  rintro e w3 ⟨⟨j2, rfl, hj2, _⟩, hr4, ht4⟩
  have hj240 : j2 < 1000 := by have := hj2 (by omega); omega
  have HS3 := hide (HS2.out.turn hr4 ht4 (P' := p + 3) (by omega))
  have hbl2 := (Below.refl w3.heap.size w3).alloc (Nat.le_refl _) (.cells #[.int .i64 100, .int .i64 8, .int .i64 (j2 : Int), .int .i64 0] 3)
  have HT2 := hide (HS3.out.below hbl2)
  have hl2 := Lies.new w3 #[.int .i64 100, .int .i64 8, .int .i64 (j2 : Int), .int .i64 0] 3
  have hg2 : w3.heap.size ≠ rb := by have := HS3.out.l0.lt; have := HS3.out.lt; omega
  clear hr4 ht4 hj2 hbl2
  go_wp2_with fail
  generalize w3.alloc (.cells #[.int .i64 100, .int .i64 8, .int .i64 (j2 : Int), .int .i64 0] 3) = u2X at HT2 hl2 ⊢
  generalize w3.heap.size = gl2 at hl2 hg2 ⊢
  obtain ⟨q2, hq2, hrq2⟩ := HT2.out.rd
  refine (one_any rb A nb cb q2 gl2 4 4 [100, 8, (j2 : Int), 0] u2X hrq2 (by omega) rfl (by omega) (by omega) hg2 (fun k y hk => ?_)).mono ?_
  · rw [hl2.cell]
    match k, hk with
    | 0, hk => simp at hk; subst hk; rfl
    | 1, hk => simp at hk; subst hk; rfl
    | 2, hk => simp at hk; subst hk; rfl
    | 3, hk => simp at hk; subst hk; rfl
    | k + 4, hk => simp at hk
  rintro e w4 ⟨⟨z2, hz2, rfl⟩, hr5, ht5⟩
  have HS4 := hide (HT2.out.turn hr5 ht5 (P' := p + 4) (by omega))
  have hz20 : 0 ≤ z2 ∧ z2 ≤ 1000 := by
    simp at hz2
    rcases hz2 with rfl | rfl | rfl | rfl <;> omega
  clear hl2 hrq2 hq2 hz2 hr5 ht5 hg2 HT2 hj240
  clear HS3
  go_wp2_with fail
  obtain ⟨pp2, hpp2, hrr2⟩ := HS4.out.rd
  refine (pick_any rb A nb cb pp2 10 w4 hrr2 (by omega) (by omega)).mono ?_
  rintro e w5 ⟨⟨j3, rfl, hj3, _⟩, hr6, ht6⟩
  have hj340 : j3 < 1000 := by have := hj3 (by omega); omega
  have HS5 := hide (HS4.out.turn hr6 ht6 (P' := p + 5) (by omega))
  have hbl3 := (Below.refl w5.heap.size w5).alloc (Nat.le_refl _) (.cells #[.int .i64 60, .int .i64 4, .int .i64 (j3 : Int), .int .i64 0] 3)
  have HT3 := hide (HS5.out.below hbl3)
  have hl3 := Lies.new w5 #[.int .i64 60, .int .i64 4, .int .i64 (j3 : Int), .int .i64 0] 3
  have hg3 : w5.heap.size ≠ rb := by have := HS5.out.l0.lt; have := HS5.out.lt; omega
  clear hr6 ht6 hj3 hbl3
  go_wp2_with fail
  generalize w5.alloc (.cells #[.int .i64 60, .int .i64 4, .int .i64 (j3 : Int), .int .i64 0] 3) = u3X at HT3 hl3 ⊢
  generalize w5.heap.size = gl3 at hl3 hg3 ⊢
  obtain ⟨q3, hq3, hrq3⟩ := HT3.out.rd
  refine (one_any rb A nb cb q3 gl3 4 4 [60, 4, (j3 : Int), 0] u3X hrq3 (by omega) rfl (by omega) (by omega) hg3 (fun k y hk => ?_)).mono ?_
  · rw [hl3.cell]
    match k, hk with
    | 0, hk => simp at hk; subst hk; rfl
    | 1, hk => simp at hk; subst hk; rfl
    | 2, hk => simp at hk; subst hk; rfl
    | 3, hk => simp at hk; subst hk; rfl
    | k + 4, hk => simp at hk
  rintro e w6 ⟨⟨z3, hz3, rfl⟩, hr7, ht7⟩
  have HS6 := hide (HT3.out.turn hr7 ht7 (P' := p + 6) (by omega))
  have hz30 : 0 ≤ z3 ∧ z3 ≤ 1000 := by
    simp at hz3
    rcases hz3 with rfl | rfl | rfl | rfl <;> omega
  clear hl3 hrq3 hq3 hz3 hr7 ht7 hg3 HT3 hj340
  clear HS5
  have hbc := (Below.refl w6.heap.size w6).alloc (Nat.le_refl _) (.cells #[.int .i64 0, .int .i64 1, .int .i64 2] 3)
  have hoc := OwnI.litS w6 [0, 1, 2] (by unfold maxLen; simp)
  simp only [List.map_cons, List.map_nil, List.length_cons, List.length_nil] at hoc
  have hbx := (Below.refl (w6.alloc (.cells #[.int .i64 0, .int .i64 1, .int .i64 2] 3)).heap.size _).alloc (Nat.le_refl _) (.cells #[.int .i64 z1, .int .i64 z2, .int .i64 z3, .slice (some ⟨w6.heap.size, 0, none⟩) 3 3] 25)
  have hx5 := Lies.new (w6.alloc (.cells #[.int .i64 0, .int .i64 1, .int .i64 2] 3)) #[.int .i64 z1, .int .i64 z2, .int .i64 z3, .slice (some ⟨w6.heap.size, 0, none⟩) 3 3] 25
  have h6l : w.heap.size < w6.heap.size := HS6.out.l0.lt
  have HQ := hide (show SrS w ((w6.alloc (.cells #[.int .i64 0, .int .i64 1, .int .i64 2] 3)).alloc (.cells #[.int .i64 z1, .int .i64 z2, .int .i64 z3, .slice (some ⟨w6.heap.size, 0, none⟩) 3 3] 25)) rb A nb cb (p + 6) (w6.heap.size + 1) (some ⟨w6.heap.size, 0, none⟩) 3 ⟨z1, z2, z3, [0, 1, 2]⟩ from
    ⟨(HS6.out.below hbc).below hbx, by simpa using hx5, (hoc.below hbx).mono (by omega), (fun e => absurd (Option.some.inj e) (by show ¬ (w6.heap.size = w6.heap.size + 1); omega)), (by omega), (fun x hx => by simp at hx; rcases hx with rfl | rfl | rfl <;> constructor <;> omega), (by simp), ⟨⟨by show _ ≤ z1; omega, by show z1 ≤ _; omega⟩, ⟨by show _ ≤ z2; omega, by show z2 ≤ _; omega⟩, ⟨by show _ ≤ z3; omega, by show z3 ≤ _; omega⟩⟩⟩)
  clear hbc hoc hbx hx5 HS6
  go_upto_region 2 with fail
  generalize (w6.alloc (.cells #[.int .i64 0, .int .i64 1, .int .i64 2] 3)).alloc (.cells #[.int .i64 z1, .int .i64 z2, .int .i64 z3, .slice (some ⟨w6.heap.size, 0, none⟩) 3 3] 25) = X at HQ ⊢
  generalize hAd : (some ⟨w6.heap.size, 0, none⟩ : Option Addr) = Ac at HQ ⊢
  clear hAd
  have hqd : w.heap.size < w6.heap.size + 1 := by omega
  generalize hqq : w6.heap.size + 1 = q at HQ hqd ⊢
  clear hqq h6l
  obtain ⟨r0, hr0⟩ : ∃ r0 : Ru, r0 = ⟨z1, z2, z3, [0, 1, 2]⟩ := ⟨_, rfl⟩
  have hnn : 0 ≤ r0.steps ∧ 0 ≤ r0.nodes ∧ 0 ≤ r0.deep := by rw [hr0]; exact ⟨hz10.1, hz20.1, hz30.1⟩
  rw [← hr0] at HQ
  clear hr0 hz10 hz20 hz30
  go_wp2_with fail
  obtain ⟨q7, hq7, hr7⟩ := HQ.out.s0.rd
  refine (pick_any rb A nb cb q7 3 X hr7 (by omega) (by omega)).mono ?_
  rintro e w7 ⟨⟨x7, rfl, hx7, _⟩, hr8, ht8⟩
  have HQ7 := hide (HQ.out.turn hr8 ht8 (P' := p + 7) (by omega))
  clear HQ hr7 hr8 ht8 hx7 hq7
  go_upto_if 27 with (fail)
  go_cut [6, 7] from 28 to 34 (fun _ _ wx => ∃ (Ax : Option Addr) (cx : Nat) (r : Ru), SrS w wx rb A nb cb (p + 7) q Ax cx r ∧ 0 ≤ r.steps ∧ 0 ≤ r.nodes ∧ 0 ≤ r.deep)
  case first =>
    by_cases hx0 : x7 = 0
    · subst hx0
      have hG7 := HQ7.out.s0.grew
      have hC := hide (specLeast_any A1 os c1 w7 (HO.out.grew hG7 hne) hc1)
      have Hnn := hide (lr_nn os)
      have hq7l := HQ7.out.l5.lt
      have hw7 := HQ7.out.s0.l0.lt
      clear hG7
      by_cases hok : LrOk os
      · have ht := hide (tf_true hok)
        clear hok
        go_wp2_with fail
        refine hC.out.mono ?_
        rintro e w8 ⟨Al, cl, rfl, hoL, hbL⟩
        rw [ht.out]
        simp only [ruVal, ruCells]
        generalize lrOf os = rl at Hnn hoL ⊢
        have hbx := (Below.refl w8.heap.size w8).alloc (Nat.le_refl _) (.cells #[.int .i64 rl.steps, .int .i64 rl.nodes, .int .i64 rl.deep, .slice Al rl.cls.length cl] 25)
        have hb78 := hbL.trans (hbx.mono hbL.size)
        have HQ8 := hide (HQ7.out.below hb78)
        have hx8 := Lies.new w8 #[.int .i64 rl.steps, .int .i64 rl.nodes, .int .i64 rl.deep, .slice Al rl.cls.length cl] 25
        have hoL8 := hide ((hoL.below hbx).mono (base' := w.heap.size + 1) (by omega))
        have hoff : blockOf Al ≠ some q := fun e => by have := (hoL.blocks q e).1; omega
        have x0 := hx8.cell 0
        have x1 := hx8.cell 1
        have x2 := hx8.cell 2
        have x3 := hx8.cell 3
        simp only [List.getElem?_toArray, List.getElem?_cons_zero, List.getElem?_cons_succ] at x0 x1 x2 x3
        obtain ⟨⟨r0c, r1c, r2c, r3c, f0, f1, f2, f3, s0, s1, s2, s3⟩, hl5⟩ := HQ8.out.l5.put4 (.int .i64 rl.steps) (.int .i64 rl.nodes) (.int .i64 rl.deep) (.slice Al rl.cls.length cl)
        have HF := hide (HQ8.out.refill (t := rl) (Ay := Al) (cy := cl) (fun k hk => put4_block hk) rfl rfl rfl (by simp) hl5 hoL8.out hoff Hnn.out.2.2.2.1 Hnn.out.2.2.2.2.1 ⟨Hnn.out.1, Hnn.out.2.1, Hnn.out.2.2.1⟩)
        clear hoL hbL hbx hb78 hx8 hl5 s0 s1 s2 s3 hC
        go_wp2_with fail
        go_meet
        exact ⟨Al, cl, rl, HF.out, Hnn.out.2.2.2.2.2.1, Hnn.out.2.2.2.2.2.2.1, Hnn.out.2.2.2.2.2.2.2⟩
      · have ht := hide (tf_false hok)
        clear hok
        go_wp2_with fail
        refine hC.out.mono ?_
        rintro e w8 ⟨Al, cl, rfl, hoL, hbL⟩
        rw [ht.out]
        simp only [ruVal, ruCells]
        generalize lrOf os = rl at Hnn hoL ⊢
        have hbx := (Below.refl w8.heap.size w8).alloc (Nat.le_refl _) (.cells #[.int .i64 rl.steps, .int .i64 rl.nodes, .int .i64 rl.deep, .slice Al rl.cls.length cl] 25)
        have HQ8 := hide (HQ7.out.below (hbL.trans (hbx.mono hbL.size)))
        clear hoL hbL hbx hC
        go_wp2_with fail
        go_meet
        exact ⟨Ac, 3, r0, HQ8.out, hnn.1, hnn.2.1, hnn.2.2⟩
    · have t : ((x7 : Int) == 0) = false := by simp; omega
      go_wp2_with fail
      go_meet
      exact ⟨Ac, 3, r0, HQ7.out, hnn.1, hnn.2.1, hnn.2.2⟩
  case rest =>
    clear HQ7 hnn HO
    obtain ⟨Ax, cx, r, hS, n1, n2, n3⟩ := hcut
    have HS7 := hide hS
    clear hS
    go_wp2_with fail
    obtain ⟨q9, hq9, hr9⟩ := HS7.out.s0.rd
    refine (pick_any rb A nb cb q9 10 wc hr9 (by omega) (by omega)).mono ?_
    rintro e w9 ⟨⟨x9, rfl, hx9, _⟩, hr10, ht10⟩
    have HS9 := hide (HS7.out.turn hr10 ht10 (P' := p + 8) (by omega))
    have hx9b : x9 < 10 := by have := hx9 (by omega); omega
    clear HS7 hr9 hr10 ht10 hx9 hq9
    have hN := HS9.out.n64
    have hw9 := HS9.out.s0.l0.lt
    have hq9l := HS9.out.l5.lt
    have HN := hide hN
    clear hN
    rcases (show x9 = 0 ∨ x9 = 1 ∨ x9 = 2 ∨ x9 = 3 ∨ x9 = 4 ∨ 5 ≤ x9 by omega) with hxx | hxx | hxx | hxx | hxx | hxx
    · have hx : x9 = 0 := hxx
      have t0 : ((x9 : Int) == 0) = true := by rw [hx]; rfl
      clear hx hxx
      go_wp2_with fail
      obtain ⟨qa, hqa, hra⟩ := HS9.out.s0.rd
      refine (pick_any rb A nb cb qa 3 w9 hra (by omega) (by omega)).mono ?_
      rintro e wa ⟨⟨ja, rfl, hja, _⟩, hrb, htb⟩
      have hja2 : ja < 1000 := by have := hja (by omega); omega
      have HSa := hide (HS9.out.turn hrb htb (P' := p + 10) (by omega))
      have hbx := (Below.refl wa.heap.size wa).alloc (Nat.le_refl _) (.cells #[.int .i64 (ja : Int)] 3)
      have hoj := OwnI.litS wa [(ja : Int)] (by unfold maxLen; simp)
      simp only [List.map_cons, List.map_nil, List.length_cons, List.length_nil] at hoj
      have hwa := HSa.out.s0.l0.lt
      have hqa2 := HSa.out.l5.lt
      have HSb := hide (HSa.out.below hbx)
      have l5 := HSb.out.l5
      have e3 := l5.cell 3
      simp only [List.getElem?_toArray, List.getElem?_cons_zero, List.getElem?_cons_succ] at e3
      have f3 := l5.frozen 3
      have l6 := l5.set 3 (.slice (some ⟨wa.heap.size, 0, none⟩) 1 1)
      simp only [List.setIfInBounds_toArray, List.set_cons_succ, List.set_cons_zero] at l6
      have HF := hide (HSb.out.refill (X := (wa.alloc (.cells #[.int .i64 (ja : Int)] 3)).setCell ⟨q, 3, none⟩ (.slice (some ⟨wa.heap.size, 0, none⟩) 1 1)) (t := ⟨r.steps, r.nodes, r.deep, [(ja : Int)]⟩) (Ay := some ⟨wa.heap.size, 0, none⟩) (cy := 1) (fun k hk => Below.heap_setCell _ _ _ _ hk) rfl rfl rfl (by simp) l6 (hoj.mono (by omega)) (fun e => absurd (Option.some.inj e) (by show ¬ (wa.heap.size = q); omega)) (fun x hx => by simp at hx; subst hx; constructor <;> omega) (by simp) HN.out)
      clear l5 l6 HS9 HSa HSb hrb htb hra hja hbx hoj n1 n2 n3 hqa
      go_upto_region 17 with fail
      clear e3 f3
      rw [World.setCell_alloc_past _ _ _ _ hqa2] at HF
      generalize (wa.setCell ⟨q, 3, none⟩ (.slice (some ⟨wa.heap.size, 0, none⟩) 1 1)).alloc (.cells #[.int .i64 (ja : Int)] 3) = X9 at HF ⊢
      generalize hAq : (some ⟨wa.heap.size, 0, none⟩ : Option Addr) = Aq at HF ⊢
      generalize hrn : (⟨r.steps, r.nodes, r.deep, [(ja : Int)]⟩ : Ru) = rn at HF
      clear hrn
      obtain ⟨⟨a0, a1, a2, a3, f0, f1, f2, f3, s0, s1, s2, s3⟩, hD⟩ := HF.out.fin
      have e0 := HF.out.l5.cell 0
      have e1 := HF.out.l5.cell 1
      have e2 := HF.out.l5.cell 2
      have e3 := HF.out.l5.cell 3
      simp only [List.getElem?_toArray, List.getElem?_cons_zero, List.getElem?_cons_succ] at e0 e1 e2 e3
      have HD := hide hD
      clear hD HF
      go_wp2
      refine bodyPost_ret (v := ruVal rn Aq 1) (by simp [ruVal, ruCells, results, Try.results8, go_sem, s0, s1, s2, s3]) rfl ?_
      obtain ⟨p', A', c', r', q1, q2, q3⟩ := HD.out
      exact ⟨p', A', c', r', q1, by omega, q3⟩
    · have hx : x9 = 1 := hxx
      have t0 : ((x9 : Int) == 0) = false := by simp; omega
      have t1 : ((x9 : Int) == 1) = true := by rw [hx]; rfl
      clear hx hxx
      have hm64 : In64 (r.steps - 1) := by
        have h1 := HN.out.1
        obtain ⟨h1a, h1b⟩ := h1
        constructor <;> omega
      have hwr : IntKind.i64.wrap (r.steps - 1) = r.steps - 1 := by
        have h1 := HN.out.1
        obtain ⟨h1a, h1b⟩ := h1
        rw [IntKind.wrap_i64]; omega
      have l5 := HS9.out.l5
      have e0 := l5.cell 0
      simp only [List.getElem?_toArray, List.getElem?_cons_zero, List.getElem?_cons_succ] at e0
      have f0 := l5.frozen 0
      have l6 := l5.set 0 (.int .i64 (r.steps - 1))
      simp only [List.setIfInBounds_toArray, List.set_cons_succ, List.set_cons_zero] at l6
      have HF := hide (HS9.out.refill (X := w9.setCell ⟨q, 0, none⟩ (.int .i64 (r.steps - 1))) (t := ⟨r.steps - 1, r.nodes, r.deep, r.cls⟩) (Ay := Ax) (cy := cx) (fun k hk => Below.heap_setCell _ _ _ _ hk) rfl rfl rfl (by simp) l6 HS9.out.own HS9.out.off HS9.out.c64 HS9.out.few ⟨hm64, HN.out.2.1, HN.out.2.2⟩)
      clear l5 l6 HS9 hm64 n1 n2 n3
      dsimp only
      go_upto_region 17 with fail
      clear e0 f0 hwr
      generalize w9.setCell ⟨q, 0, none⟩ (.int .i64 (r.steps - 1)) = X9 at HF ⊢
      generalize hrn : (⟨r.steps - 1, r.nodes, r.deep, r.cls⟩ : Ru) = rn at HF
      clear hrn
      obtain ⟨⟨a0, a1, a2, a3, f0, f1, f2, f3, s0, s1, s2, s3⟩, hD⟩ := HF.out.fin
      have e0 := HF.out.l5.cell 0
      have e1 := HF.out.l5.cell 1
      have e2 := HF.out.l5.cell 2
      have e3 := HF.out.l5.cell 3
      simp only [List.getElem?_toArray, List.getElem?_cons_zero, List.getElem?_cons_succ] at e0 e1 e2 e3
      have HD := hide hD
      clear hD HF
      go_wp2
      refine bodyPost_ret (v := ruVal rn Ax cx) (by simp [ruVal, ruCells, results, Try.results8, go_sem, s0, s1, s2, s3]) rfl ?_
      obtain ⟨p', A', c', r', q1, q2, q3⟩ := HD.out
      exact ⟨p', A', c', r', q1, by omega, q3⟩
    · have hx : x9 = 2 := hxx
      have t0 : ((x9 : Int) == 0) = false := by simp; omega
      have t1 : ((x9 : Int) == 1) = false := by simp; omega
      have t2 : ((x9 : Int) == 2) = true := by rw [hx]; rfl
      clear hx hxx
      have hm64 : In64 (r.deep - 1) := by
        have h1 := HN.out.2.2
        obtain ⟨h1a, h1b⟩ := h1
        constructor <;> omega
      have hwr : IntKind.i64.wrap (r.deep - 1) = r.deep - 1 := by
        have h1 := HN.out.2.2
        obtain ⟨h1a, h1b⟩ := h1
        rw [IntKind.wrap_i64]; omega
      have l5 := HS9.out.l5
      have e0 := l5.cell 2
      simp only [List.getElem?_toArray, List.getElem?_cons_zero, List.getElem?_cons_succ] at e0
      have f0 := l5.frozen 2
      have l6 := l5.set 2 (.int .i64 (r.deep - 1))
      simp only [List.setIfInBounds_toArray, List.set_cons_succ, List.set_cons_zero] at l6
      have HF := hide (HS9.out.refill (X := w9.setCell ⟨q, 2, none⟩ (.int .i64 (r.deep - 1))) (t := ⟨r.steps, r.nodes, r.deep - 1, r.cls⟩) (Ay := Ax) (cy := cx) (fun k hk => Below.heap_setCell _ _ _ _ hk) rfl rfl rfl (by simp) l6 HS9.out.own HS9.out.off HS9.out.c64 HS9.out.few ⟨HN.out.1, HN.out.2.1, hm64⟩)
      clear l5 l6 HS9 hm64 n1 n2 n3
      dsimp only
      go_upto_region 17 with fail
      clear e0 f0 hwr
      generalize w9.setCell ⟨q, 2, none⟩ (.int .i64 (r.deep - 1)) = X9 at HF ⊢
      generalize hrn : (⟨r.steps, r.nodes, r.deep - 1, r.cls⟩ : Ru) = rn at HF
      clear hrn
      obtain ⟨⟨a0, a1, a2, a3, f0, f1, f2, f3, s0, s1, s2, s3⟩, hD⟩ := HF.out.fin
      have e0 := HF.out.l5.cell 0
      have e1 := HF.out.l5.cell 1
      have e2 := HF.out.l5.cell 2
      have e3 := HF.out.l5.cell 3
      simp only [List.getElem?_toArray, List.getElem?_cons_zero, List.getElem?_cons_succ] at e0 e1 e2 e3
      have HD := hide hD
      clear hD HF
      go_wp2
      refine bodyPost_ret (v := ruVal rn Ax cx) (by simp [ruVal, ruCells, results, Try.results8, go_sem, s0, s1, s2, s3]) rfl ?_
      obtain ⟨p', A', c', r', q1, q2, q3⟩ := HD.out
      exact ⟨p', A', c', r', q1, by omega, q3⟩
    · have hx : x9 = 3 := hxx
      have t0 : ((x9 : Int) == 0) = false := by simp; omega
      have t1 : ((x9 : Int) == 1) = false := by simp; omega
      have t2 : ((x9 : Int) == 2) = false := by simp; omega
      have t3 : ((x9 : Int) == 3) = true := by rw [hx]; rfl
      clear hx hxx
      have hm64 : In64 (r.nodes - 1) := by
        have h1 := HN.out.2.1
        obtain ⟨h1a, h1b⟩ := h1
        constructor <;> omega
      have hwr : IntKind.i64.wrap (r.nodes - 1) = r.nodes - 1 := by
        have h1 := HN.out.2.1
        obtain ⟨h1a, h1b⟩ := h1
        rw [IntKind.wrap_i64]; omega
      have l5 := HS9.out.l5
      have e0 := l5.cell 1
      simp only [List.getElem?_toArray, List.getElem?_cons_zero, List.getElem?_cons_succ] at e0
      have f0 := l5.frozen 1
      have l6 := l5.set 1 (.int .i64 (r.nodes - 1))
      simp only [List.setIfInBounds_toArray, List.set_cons_succ, List.set_cons_zero] at l6
      have HF := hide (HS9.out.refill (X := w9.setCell ⟨q, 1, none⟩ (.int .i64 (r.nodes - 1))) (t := ⟨r.steps, r.nodes - 1, r.deep, r.cls⟩) (Ay := Ax) (cy := cx) (fun k hk => Below.heap_setCell _ _ _ _ hk) rfl rfl rfl (by simp) l6 HS9.out.own HS9.out.off HS9.out.c64 HS9.out.few ⟨HN.out.1, hm64, HN.out.2.2⟩)
      clear l5 l6 HS9 hm64 n1 n2 n3
      dsimp only
      go_upto_region 17 with fail
      clear e0 f0 hwr
      generalize w9.setCell ⟨q, 1, none⟩ (.int .i64 (r.nodes - 1)) = X9 at HF ⊢
      generalize hrn : (⟨r.steps, r.nodes - 1, r.deep, r.cls⟩ : Ru) = rn at HF
      clear hrn
      obtain ⟨⟨a0, a1, a2, a3, f0, f1, f2, f3, s0, s1, s2, s3⟩, hD⟩ := HF.out.fin
      have e0 := HF.out.l5.cell 0
      have e1 := HF.out.l5.cell 1
      have e2 := HF.out.l5.cell 2
      have e3 := HF.out.l5.cell 3
      simp only [List.getElem?_toArray, List.getElem?_cons_zero, List.getElem?_cons_succ] at e0 e1 e2 e3
      have HD := hide hD
      clear hD HF
      go_wp2
      refine bodyPost_ret (v := ruVal rn Ax cx) (by simp [ruVal, ruCells, results, Try.results8, go_sem, s0, s1, s2, s3]) rfl ?_
      obtain ⟨p', A', c', r', q1, q2, q3⟩ := HD.out
      exact ⟨p', A', c', r', q1, by omega, q3⟩
    · have hx : x9 = 4 := hxx
      have t0 : ((x9 : Int) == 0) = false := by simp; omega
      have t1 : ((x9 : Int) == 1) = false := by simp; omega
      have t2 : ((x9 : Int) == 2) = false := by simp; omega
      have t3 : ((x9 : Int) == 3) = false := by simp; omega
      have t4 : ((x9 : Int) == 4) = true := by rw [hx]; rfl
      clear hx hxx
      have a1 := Lies.new w9 #[.int .i64 1, .int .i64 1] 3
      have a2 := Lies.new (w9.alloc (.cells #[.int .i64 1, .int .i64 1] 3)) #[.int .i64 10] 3
      have a3 := Lies.new ((w9.alloc (.cells #[.int .i64 1, .int .i64 1] 3)).alloc (.cells #[.int .i64 10] 3)) #[.int .i64 (-1)] 3
      have a4 := Lies.new (((w9.alloc (.cells #[.int .i64 1, .int .i64 1] 3)).alloc (.cells #[.int .i64 10] 3)).alloc (.cells #[.int .i64 (-1)] 3)) #[] 3
      have a5 := Lies.new ((((w9.alloc (.cells #[.int .i64 1, .int .i64 1] 3)).alloc (.cells #[.int .i64 10] 3)).alloc (.cells #[.int .i64 (-1)] 3)).alloc (.cells #[] 3)) #[.slice (some ⟨w9.heap.size, 0, none⟩) 2 2, .slice (some ⟨w9.heap.size + 1, 0, none⟩) 1 1, .slice (some ⟨w9.heap.size + 1 + 1, 0, none⟩) 1 1, .slice (some ⟨w9.heap.size + 1 + 1 + 1, 0, none⟩) 0 0] 23
      have b1 := (((a1.alloc (.cells #[.int .i64 10] 3)).alloc (.cells #[.int .i64 (-1)] 3)).alloc (.cells #[] 3)).alloc (.cells #[.slice (some ⟨w9.heap.size, 0, none⟩) 2 2, .slice (some ⟨w9.heap.size + 1, 0, none⟩) 1 1, .slice (some ⟨w9.heap.size + 1 + 1, 0, none⟩) 1 1, .slice (some ⟨w9.heap.size + 1 + 1 + 1, 0, none⟩) 0 0] 23)
      have b2 := ((a2.alloc (.cells #[.int .i64 (-1)] 3)).alloc (.cells #[] 3)).alloc (.cells #[.slice (some ⟨w9.heap.size, 0, none⟩) 2 2, .slice (some ⟨w9.heap.size + 1, 0, none⟩) 1 1, .slice (some ⟨w9.heap.size + 1 + 1, 0, none⟩) 1 1, .slice (some ⟨w9.heap.size + 1 + 1 + 1, 0, none⟩) 0 0] 23)
      have b3 := (a3.alloc (.cells #[] 3)).alloc (.cells #[.slice (some ⟨w9.heap.size, 0, none⟩) 2 2, .slice (some ⟨w9.heap.size + 1, 0, none⟩) 1 1, .slice (some ⟨w9.heap.size + 1 + 1, 0, none⟩) 1 1, .slice (some ⟨w9.heap.size + 1 + 1 + 1, 0, none⟩) 0 0] 23)
      have b4 := a4.alloc (.cells #[.slice (some ⟨w9.heap.size, 0, none⟩) 2 2, .slice (some ⟨w9.heap.size + 1, 0, none⟩) 1 1, .slice (some ⟨w9.heap.size + 1 + 1, 0, none⟩) 1 1, .slice (some ⟨w9.heap.size + 1 + 1 + 1, 0, none⟩) 0 0] 23)
      simp only [World.size_alloc] at b2 b3 b4 a5
      have hbY := ((((((Below.refl w9.heap.size w9).alloc (Nat.le_refl _) (.cells #[.int .i64 1, .int .i64 1] 3)).alloc (by simp) (.cells #[.int .i64 10] 3)).alloc (by simp; omega) (.cells #[.int .i64 (-1)] 3)).alloc (by simp; omega) (.cells #[] 3)).alloc (by simp; omega) (.cells #[.slice (some ⟨w9.heap.size, 0, none⟩) 2 2, .slice (some ⟨w9.heap.size + 1, 0, none⟩) 1 1, .slice (some ⟨w9.heap.size + 1 + 1, 0, none⟩) 1 1, .slice (some ⟨w9.heap.size + 1 + 1 + 1, 0, none⟩) 0 0] 23))
      have HSb := hide (HS9.out.below hbY)
      clear a1 a2 a3 a4 hbY
      go_wp2_with fail
      generalize ((((w9.alloc (.cells #[.int .i64 1, .int .i64 1] 3)).alloc (.cells #[.int .i64 10] 3)).alloc (.cells #[.int .i64 (-1)] 3)).alloc (.cells #[] 3)).alloc (.cells #[.slice (some ⟨w9.heap.size, 0, none⟩) 2 2, .slice (some ⟨w9.heap.size + 1, 0, none⟩) 1 1, .slice (some ⟨w9.heap.size + 1 + 1, 0, none⟩) 1 1, .slice (some ⟨w9.heap.size + 1 + 1 + 1, 0, none⟩) 0 0] 23) = Y at HSb b1 b2 b3 b4 a5 ⊢
      obtain ⟨qa, hqa, hra⟩ := HSb.out.s0.rd
      have hrb9 : rb < w9.heap.size := by omega
      have h64s : ∀ y : Int, y = 1 ∨ y = 10 ∨ y = -1 → In64 y := fun y hy => by rcases hy with rfl | rfl | rfl <;> constructor <;> omega
      refine (one2_any rb A nb cb qa (w9.heap.size + 1 + 1 + 1 + 1) Y hra (by omega) (by omega) (fun k hk => ?_)).mono ?_
      · match k, hk with
        | 0, _ => exact ⟨w9.heap.size, [1, 1], by rw [a5.cell]; rfl, RowL.ints (show RowL Y _ [1, 1] from b1) (fun y hy => h64s y (by simp at hy; omega)) (by simp), by simp, by omega⟩
        | 1, _ => exact ⟨w9.heap.size + 1, [10], by rw [a5.cell]; rfl, RowL.ints (show RowL Y _ [10] from b2) (fun y hy => h64s y (by simp at hy; omega)) (by simp), by simp, by omega⟩
        | 2, _ => exact ⟨w9.heap.size + 1 + 1, [-1], by rw [a5.cell]; rfl, RowL.ints (show RowL Y _ [-1] from b3) (fun y hy => h64s y (by simp at hy; omega)) (by simp), by simp, by omega⟩
        | 3, _ => exact ⟨w9.heap.size + 1 + 1 + 1, [], by rw [a5.cell]; rfl, RowL.ints (show RowL Y _ [] from b4) (fun y hy => by cases hy) (by simp), by simp, by omega⟩
      rintro e wy ⟨A2, c2, zs, rfl, hoz, hz64, hzl, hry, hgy⟩
      have hYs := HSb.out.s0.grew.size
      have hqY := HSb.out.l5.lt
      have hrb0 := HSb.out.s0.lt
      have hSy : SrS w wy rb A nb cb (p + 10) q Ax cx r := by
        have h := HSb.out
        exact ⟨⟨h.s0.grew.trans hgy, ⟨_, by omega, hry⟩, h.s0.l0.grew hgy (by omega), h.s0.lt⟩, h.l5.grew hgy (by omega), h.own.ofS (fun g hg => hgy.block g (h.own.blocks g hg).2 (by have := (h.own.blocks g hg).1; omega)), h.off, h.hq, h.c64, h.few, h.n64⟩
      have l5 := hSy.l5
      have e3 := l5.cell 3
      simp only [List.getElem?_toArray, List.getElem?_cons_zero, List.getElem?_cons_succ] at e3
      have f3 := l5.frozen 3
      have l6 := l5.set 3 (.slice A2 zs.length c2)
      simp only [List.setIfInBounds_toArray, List.set_cons_succ, List.set_cons_zero] at l6
      have HF := hide (hSy.refill (X := wy.setCell ⟨q, 3, none⟩ (.slice A2 zs.length c2)) (t := ⟨r.steps, r.nodes, r.deep, zs⟩) (Ay := A2) (cy := c2) (fun k hk => Below.heap_setCell _ _ _ _ hk) rfl rfl rfl (by simp) l6 (hoz.mono (by omega)) (fun e => by have := (hoz.blocks q e).1; omega) hz64 hzl HN.out)
      clear l5 l6 HS9 HSb hSy hoz hz64 hzl hry hgy b1 b2 b3 b4 a5 n1 n2 n3 hra hqa
      go_upto_region 17 with fail
      clear e3 f3
      generalize wy.setCell ⟨q, 3, none⟩ (.slice A2 zs.length c2) = X9 at HF ⊢
      generalize hrn : (⟨r.steps, r.nodes, r.deep, zs⟩ : Ru) = rn at HF
      clear hrn
      obtain ⟨⟨a0, a1, a2, a3, f0, f1, f2, f3, s0, s1, s2, s3⟩, hD⟩ := HF.out.fin
      have e0 := HF.out.l5.cell 0
      have e1 := HF.out.l5.cell 1
      have e2 := HF.out.l5.cell 2
      have e3 := HF.out.l5.cell 3
      simp only [List.getElem?_toArray, List.getElem?_cons_zero, List.getElem?_cons_succ] at e0 e1 e2 e3
      have HD := hide hD
      clear hD HF
      go_wp2
      refine bodyPost_ret (v := ruVal rn A2 c2) (by simp [ruVal, ruCells, results, Try.results8, go_sem, s0, s1, s2, s3]) rfl ?_
      obtain ⟨p', A', c', r', q1, q2, q3⟩ := HD.out
      exact ⟨p', A', c', r', q1, by omega, q3⟩
    · have hx : 5 ≤ x9 := hxx
      have t0 : ((x9 : Int) == 0) = false := by simp; omega
      have t1 : ((x9 : Int) == 1) = false := by simp; omega
      have t2 : ((x9 : Int) == 2) = false := by simp; omega
      have t3 : ((x9 : Int) == 3) = false := by simp; omega
      have t4 : ((x9 : Int) == 4) = false := by simp; omega
      clear hx hxx
      have HF := HS9
      clear HS9 n1 n2 n3
      dsimp only
      go_upto_region 17 with fail
      obtain ⟨⟨a0, a1, a2, a3, f0, f1, f2, f3, s0, s1, s2, s3⟩, hD⟩ := HF.out.fin
      have e0 := HF.out.l5.cell 0
      have e1 := HF.out.l5.cell 1
      have e2 := HF.out.l5.cell 2
      have e3 := HF.out.l5.cell 3
      simp only [List.getElem?_toArray, List.getElem?_cons_zero, List.getElem?_cons_succ] at e0 e1 e2 e3
      have HD := hide hD
      clear hD HF
      go_wp2
      refine bodyPost_ret (v := ruVal r Ax cx) (by simp [ruVal, ruCells, results, Try.results8, go_sem, s0, s1, s2, s3]) rfl ?_
      obtain ⟨p', A', c', r', q1, q2, q3⟩ := HD.out
      exact ⟨p', A', c', r', q1, by omega, q3⟩

end Go.Proofs.Ytochdhibmmohfac
