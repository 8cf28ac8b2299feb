/-
  Lemmas, several texts in one: ChkJ, NewSh, Keep.
-/
import Derived.Test.YtgjokdfjngpmcaaDoorChkI
import Derived.Test.YtgjokdfjngpmcaaDoorPjAn
import Derived.Test.YtgjokdfjngpmcaaDoorSb
import Derived.Test.YtgjokdfjngpmcaaDoorPjAc
import Derived.Test.YtgjokdfjngpmcaaDoorPjAb
namespace Go.Proofs.YtgjokdfjngpmcaaDoor
open Go.RowKit
set_option linter.unusedVariables false
set_option linter.unusedSimpArgs false

/-- what a possible order finds -/
theorem stepFree_facts {s t : Shp} {o : Od} (h : s.Ok) (hd : s.done = false) (ho : 0 ≤ o.code ∧ o.code ≤ 19) (he : stepFree s o = some t) :
    (takesN o.code = -1 → ∃ a, above s.stack = a + 1) ∧ (takesN o.code ≠ -1 → 0 ≤ takesN o.code ∧ takesN o.code ≤ s.stack.length) ∧ (o.code = 14 → 0 ≤ (s.took o.code).thing 0) ∧ (o.code = 15 → 0 < s.stack.length) := by
  obtain ⟨cd, ar⟩ := o
  simp only at ho he ⊢
  have hk0 := h.kindAt 0
  have hk1 := h.kindAt 1
  have l0 : ¬ s.kindAt 0 < 0 → 0 < s.stack.length := fun hn => Shp.kind_lt hn
  have l1 : ¬ s.kindAt 1 < 0 → 1 < s.stack.length := fun hn => Shp.kind_lt hn
  have hma : above s.stack ≠ 0 → ∃ a, above s.stack = a + 1 := fun hn => ⟨above s.stack - 1, by omega⟩
  have h20 : cd = 0 ∨ cd = 1 ∨ cd = 2 ∨ cd = 3 ∨ cd = 4 ∨ cd = 5 ∨ cd = 6 ∨ cd = 7 ∨ cd = 8 ∨ cd = 9 ∨ cd = 10 ∨ cd = 11 ∨ cd = 12 ∨ cd = 13 ∨ cd = 14 ∨ cd = 15 ∨ cd = 16 ∨ cd = 17 ∨ cd = 18 ∨ cd = 19 := by omega
  rcases h20 with rfl | rfl | rfl | rfl | rfl | rfl | rfl | rfl | rfl | rfl | rfl | rfl | rfl | rfl | rfl | rfl | rfl | rfl | rfl | rfl
  case inr.inr.inr.inr.inr.inr.inr.inr.inr.inr.inr.inr.inr.inr.inl =>
    have hh : ¬ s.kindAt 0 < 0 ∧ s.kindAt 1 = 5 := by
      simp [stepFree, newK, hd, IsMarkOp, takeStep] at he
      omega
    have hl := l1 (by omega)
    refine ⟨fun hh => by simp [takesN] at hh, fun _ => by simp [takesN]; omega, fun _ => ?_, fun hh => by omega⟩
    have hth : 0 ≤ s.thing 1 := by have := hk1.2.2; omega
    have hlc : (s.cutTo (s.stack.length - 1)).stack.length = s.stack.length - 1 := by unfold Shp.cutTo; simp
    have e : (s.took 14).thing 0 = s.thing 1 := by
      have e0 : s.took 14 = s.cutTo (s.stack.length - 1) := by unfold Shp.took; simp [takesN]
      rw [e0]
      unfold Shp.thing
      rw [hlc, if_pos (by omega), if_pos (by omega)]
      unfold Shp.cutTo
      rw [List.getD_eq_getElem?_getD, List.getD_eq_getElem?_getD, List.getElem?_take, if_pos (by omega)]
      congr 2
    rw [e]
    exact hth
  all_goals
    simp [stepFree, newK, hd, IsMarkOp, takeStep, markStep] at he
    refine ⟨fun hh => ?_, fun hh => ?_, fun hh => by clear hma; omega, fun hh => ?_⟩
    · first | (simp [takesN] at hh; done) | (exact hma (by omega)) | (exact hma he.1)
    · clear hma; first | (simp [takesN] at hh; done) | (simp [takesN]; done) | (simp [takesN]; omega) | (have hky := he.2.1.1; unfold KeyK at hky; simp [takesN]; omega)
    · clear hma; first | omega | (exact l0 (by omega))

theorem took_small {s : Shp} (h : s.Small) (c : Int) : (s.took c).Small := by
  unfold Shp.took
  have : ∀ n, (s.cutTo n).Small := fun n => ⟨h.k, by have := h.t; unfold Shp.cutTo; simp; omega, h.ok.cut n⟩
  split <;> exact this _

theorem take_code (q base off : Nat) (p : ShPtr) (s : Shp) (c : Nat) (w : World) (h : SbAt w base q off p s) (hs : s.Small) (hc : c < 20) (h1 : takesN (c : Int) = -1 → ∃ a, above s.stack = a + 1) (h2 : takesN (c : Int) ≠ -1 → 0 ≤ takesN (c : Int) ∧ takesN (c : Int) ≤ s.stack.length) :
    Calls Tryd.prog 38 #[.pointer (some ⟨q, off, none⟩), .int .i64 (takesOf c)] w (TurnsSb w base q off p (s.took (c : Int))) := by
  rw [takes_same c hc]
  unfold Shp.took
  by_cases ht : takesN (c : Int) = -1
  · rw [if_pos ht, ht]
    obtain ⟨a, ha⟩ := h1 ht
    rw [show above s.stack - 1 = a by omega]
    exact take_all q base off p s a w h hs ha
  · rw [if_neg ht]
    obtain ⟨h3, h4⟩ := h2 ht
    exact take_any q base off p s (takesN (c : Int)) _ w h hs (by omega) ht (by omega) h3

theorem act_code (q base off : Nat) (p : ShPtr) (s : Shp) (c : Nat) (ar : Int) (w : World) (h : SbAt w base q off p s) (hs : s.Small) (hbase : base ≤ w.heap.size) (hc : c < 20) (ha : c = 15 ∨ c = 16 → 0 ≤ ar ∧ ar < 20) (h14 : c = 14 → 0 ≤ s.thing 0) (h15 : c = 15 → 0 < s.stack.length) :
    Calls Tryd.prog 39 #[.pointer (some ⟨q, off, none⟩), .agg #[.int .i64 (c : Int), .int .i64 ar]] w (TurnsSb w base q off p (s.acted ⟨(c : Int), ar⟩)) := by
  match c, hc, ha, h14, h15 with
  | 0, _, _, _, _ => exact act_new q base off p s 0 ar 0 w h hs hbase (by unfold IsNewOp; omega)
  | 1, _, _, _, _ => exact act_new q base off p s 1 ar 1 w h hs hbase (by unfold IsNewOp; omega)
  | 2, _, _, _, _ => exact act_mark q base off p s ar w h hs hbase
  | 3, _, _, _, _ => exact act_new q base off p s 3 ar 2 w h hs hbase (by unfold IsNewOp; omega)
  | 4, _, _, _, _ => exact act_new q base off p s 4 ar 2 w h hs hbase (by unfold IsNewOp; omega)
  | 5, _, _, _, _ => exact act_new q base off p s 5 ar 2 w h hs hbase (by unfold IsNewOp; omega)
  | 6, _, _, _, _ => exact act_new q base off p s 6 ar 2 w h hs hbase (by unfold IsNewOp; omega)
  | 7, _, _, _, _ => exact act_new q base off p s 7 ar 3 w h hs hbase (by unfold IsNewOp; omega)
  | 8, _, _, _, _ => exact act_idle q base off p s 8 ar w h hs hbase (by unfold IsIdleOp; omega)
  | 9, _, _, _, _ => exact act_idle q base off p s 9 ar w h hs hbase (by unfold IsIdleOp; omega)
  | 10, _, _, _, _ => exact act_new q base off p s 10 ar 4 w h hs hbase (by unfold IsNewOp; omega)
  | 11, _, _, _, _ => exact act_idle q base off p s 11 ar w h hs hbase (by unfold IsIdleOp; omega)
  | 12, _, _, _, _ => exact act_idle q base off p s 12 ar w h hs hbase (by unfold IsIdleOp; omega)
  | 13, _, _, _, _ => exact act_new q base off p s 13 ar 5 w h hs hbase (by unfold IsNewOp; omega)
  | 14, _, _, h14, _ => exact act_state q base off p s ar w h hs hbase (h14 rfl)
  | 15, _, ha, _, h15 =>
    obtain ⟨h1, h2⟩ := ha (.inl rfl)
    obtain ⟨j, rfl⟩ := Int.eq_ofNat_of_zero_le h1
    exact act_put q base off p s j w h hs hbase (by omega) (h15 rfl)
  | 16, _, ha, _, _ =>
    obtain ⟨h1, h2⟩ := ha (.inr rfl)
    obtain ⟨j, rfl⟩ := Int.eq_ofNat_of_zero_le h1
    exact act_get q base off p s j w h hs hbase (by omega)
  | 17, _, _, _, _ => exact act_idle q base off p s 17 ar w h hs hbase (by unfold IsIdleOp; omega)
  | 18, _, _, _, _ => exact act_idle q base off p s 18 ar w h hs hbase (by unfold IsIdleOp; omega)
  | 19, _, _, _, _ => exact act_stop q base off p s ar w h hs hbase
  | n + 20, hc, _, _, _ => omega

end Go.Proofs.YtgjokdfjngpmcaaDoor

namespace Go.Proofs.YtgjokdfjngpmcaaDoor
open Go.RowKit
set_option linter.unusedVariables false

set_option maxRecDepth 100000 in
set_option maxHeartbeats 1000000 in
theorem implNewShapes_any (w : World) : Calls Tryd.prog 31 #[] w (GivesSh w w.heap.size Shp.new) := by
  obtain ⟨R, hR⟩ : ∃ R, R = List.replicate 20 (-1 : Int) := ⟨_, rfl⟩
  rw [show Shp.new = ⟨[], [], [], R, false⟩ from by rw [hR]; rfl]
  have HR := hide hR
  clear hR
  have hB0 := (Below.refl w.heap.size w).alloc (Nat.le_refl _) (.cells zero5 34)
  have L0 := Lies.new w zero5 34
  have HB0 := hide hB0
  have HL0 := hide L0
  clear hB0 L0
  go_enter Tryd.func31, Tryd.ntmps31
  go_upto_region 1 with fail
  unfold zero5 at HB0 HL0
  generalize w.alloc (.cells #[.slice none 0 0, .slice none 0 0, .slice none 0 0, .slice none 0 0, .bool false] 34) = W at HB0 HL0 ⊢
  have hlt := HL0.out.lt
  have HC := hide (repeat_20 W.heap.size (-1) 1 (W.alloc (.cells #[.int .i64 (-1)] 3)) (by simp) (by simp) (by constructor <;> omega))
  have HA := hide ((Below.refl W.heap.size W).alloc (Nat.le_refl _) (.cells #[.int .i64 (-1)] 3))
  have hz : (W.alloc (.cells #[.int .i64 (-1)] 3)).heap.size = W.heap.size + 1 := by simp
  rw [← HR.out] at HC
  generalize hV : W.alloc (.cells #[.int .i64 (-1)] 3) = V at HC HA hz
  have HV := hide hV
  clear hV
  go_wp2_with (go_at_call 36; rw [HV.out]; refine HC.out.mono ?_; rintro e w2 ⟨A, c, rfl, ho, hb⟩; have hS := (show Lies w2 w.heap.size #[.slice none 0 0, .slice none 0 0, .slice none 0 0, .slice none 0 0, .bool false] 34 from (Lies.below (HL0.out.below HA.out hlt) hb (by omega))); obtain ⟨⟨r0, r1, r2, r3, r4, f0, f1, f2, f3, f4, s0, s1, s2, s3, s4⟩, hlf⟩ := Lies.set5 hS (.slice none 0 0) (.slice none 0 0) (.slice none 0 0) (.slice A R.length c) (.bool false); have HS := hide hS; clear hS; have HO := hide (And.intro ho hb); clear ho hb hlf)
  refine bodyPost_ret (v := shVal ⟨none, 0, none, 0, none, 0, A, c⟩ ⟨[], [], [], R, false⟩) (by simp [shVal, shCells, results, Tryd.results31, go_sem, s0, s1, s2, s3, s4]) rfl ?_
  obtain ⟨ho, hb⟩ := HO.out
  have hbw : Below w.heap.size w w2 := (HB0.out.trans (HA.out.mono (by omega))).trans (hb.mono (by omega))
  have hoff : ShPtr.Off ⟨none, 0, none, 0, none, 0, A, c⟩ w.heap.size := ⟨by simp [blockOf], by simp [blockOf], by simp [blockOf], fun e => by have := ho.blocks w.heap.size e; omega⟩
  refine ⟨⟨none, 0, none, 0, none, 0, A, c⟩, rfl, ?_, set5_below hbw (Nat.le_refl _)⟩
  refine ShOwn.set5 ⟨OwnI.empty _ _, OwnB.empty _ _, OwnI.empty _ _, ho.mono (by omega), ?_, ?_, ?_, ?_, ?_, ?_⟩ hoff <;> simp [blockOf]

end Go.Proofs.YtgjokdfjngpmcaaDoor

namespace Go.Proofs.YtgjokdfjngpmcaaDoor
open Go.RowKit
set_option linter.unusedVariables false

/-- the blocks from lo on and below hi are in b as they are in a -/
structure Keeps (lo hi : Nat) (a b : World) : Prop where
  os : b.os = a.os
  tape : b.tape = a.tape
  output : b.output = a.output
  size : a.heap.size ≤ b.heap.size
  top : hi ≤ a.heap.size
  block : ∀ q, lo ≤ q → q < hi → b.heap[q]? = a.heap[q]?

theorem Keeps.refl (lo hi : Nat) (a : World) (h : hi ≤ a.heap.size) : Keeps lo hi a a := ⟨rfl, rfl, rfl, Nat.le_refl _, h, fun _ _ _ => rfl⟩
theorem Keeps.at_ (lo : Nat) (a : World) : Keeps lo a.heap.size a a := Keeps.refl _ _ _ (Nat.le_refl _)
theorem Keeps.step {lo hi : Nat} {a b c : World} (h : Keeps lo hi a b) (hb : Below b.heap.size b c) : Keeps lo hi a c :=
  ⟨hb.os.trans h.os, hb.tape.trans h.tape, hb.output.trans h.output, Nat.le_trans h.size hb.size, h.top, fun q h1 h2 => (hb.block q (by have := h.size; have := h.top; omega)).trans (h.block q h1 h2)⟩
theorem Keeps.only {lo hi l u : Nat} {a b c : World} (h : Keeps lo hi a b) (ho : Only l u b c) (hd : hi ≤ l ∨ u ≤ lo) : Keeps lo hi a c :=
  ⟨ho.os.trans h.os, ho.tape.trans h.tape, ho.output.trans h.output, by rw [ho.size]; exact h.size, h.top, fun q h1 h2 => (ho.block q (by omega)).trans (h.block q h1 h2)⟩
theorem Keeps.save {lo hi l u : Nat} {a b c : World} (h : Keeps lo hi a b) (ho : Save l u b c) (hd : hi ≤ l ∨ u ≤ lo) : Keeps lo hi a c :=
  ⟨ho.os.trans h.os, ho.tape.trans h.tape, ho.output.trans h.output, Nat.le_trans h.size ho.size, h.top, fun q h1 h2 => (ho.block q (by have := h.size; have := h.top; omega) (by omega)).trans (h.block q h1 h2)⟩
theorem Keeps.mono {lo hi lo' hi' : Nat} {a b : World} (h : Keeps lo hi a b) (h1 : lo ≤ lo') (h2 : hi' ≤ hi) : Keeps lo' hi' a b :=
  ⟨h.os, h.tape, h.output, h.size, Nat.le_trans h2 h.top, fun q h3 h4 => h.block q (by omega) (by omega)⟩
theorem Keeps.bel {hi : Nat} {a b : World} (h : Keeps 0 hi a b) : Below hi a b := ⟨h.os, h.tape, h.output, h.size, fun q hq => h.block q (Nat.zero_le _) hq⟩
theorem Lies.keep {lo hi g : Nat} {a b : World} {cs : Array Value} {t : TypeId} (h : Lies a g cs t) (k : Keeps lo hi a b) (h1 : lo ≤ g) (h2 : g < hi) : Lies b g cs t := (k.block g h1 h2).trans h
theorem OwnI.keepK {lo hi base : Nat} {a b : World} {A : Option Addr} {c : Nat} {xs : List Int} (h : OwnI a base A c xs) (k : Keeps lo hi a b) (h1 : lo ≤ base) (h2 : hi = a.heap.size) : OwnI b base A c xs := by
  have hbl := h.blocks
  refine ⟨h.own.1, ?_⟩
  rcases h.own.2 with h3 | ⟨g, cap, cur, hv, hg, hh, r⟩
  · exact .inl h3
  · refine .inr ⟨g, cap, cur, hv, hg, ?_, r⟩
    injection hv with hv _ _
    have := hbl g (by rw [hv]; rfl)
    exact (k.block g (by omega) (by omega)).trans hh
theorem rowIs_keep {lo hi g n : Nat} {a b : World} {t : TypeId} {f : Nat → Value} (h : a.rowIs g t n f) (k : Keeps lo hi a b) (h1 : lo ≤ g) (h2 : g < hi) : b.rowIs g t n f := h.of_block (k.block g h1 h2)

end Go.Proofs.YtgjokdfjngpmcaaDoor
