/-
  Lemmas, several texts in one: EgM, EgI, ChkK.
-/
import Derived.Test.YtngohlegdjppeaaDoorPjAm
import Derived.Test.YtngohlegdjppeaaDoorSb
import Derived.Test.YtngohlegdjppeaaDoorPjAi
import Derived.Test.YtngohlegdjppeaaDoorPjAe
import Derived.Deep.Cut
namespace Go.Proofs.YtngohlegdjppeaaDoor
open Go.RowKit
set_option linter.unusedVariables false

structure EgS (w wr : World) (q : Nat) (p : ShPtr) (s : Shp) (Ae : Option Addr) (ce : Nat) (acc : List Od) : Prop where
  sb : SbAt wr w.heap.size q 0 p s
  own : OwnO wr w.heap.size Ae ce acc
  aq : blockOf Ae ≠ some q
  off : ∀ b, blockOf Ae = some b → p.Off b
  bel : Below w.heap.size w wr
  hq : w.heap.size ≤ q

theorem EgS.below {w wr w' : World} {q : Nat} {p : ShPtr} {s : Shp} {Ae : Option Addr} {ce : Nat} {acc : List Od} (h : EgS w wr q p s Ae ce acc) (hb : Below wr.heap.size wr w') : EgS w w' q p s Ae ce acc :=
  ⟨h.sb.below hb, h.own.below hb, h.aq, h.off, h.bel.trans (hb.mono h.bel.size), h.hq⟩

theorem EgS.step {w wr w' : World} {q : Nat} {p p' : ShPtr} {s t : Shp} {Ae : Option Addr} {ce : Nat} {acc : List Od} (h : EgS w wr q p s Ae ce acc) (hs : SbAt w' w.heap.size q 0 p' t) (hf : SbFr wr w' q 0 p p') : EgS w w' q p' t Ae ce acc := by
  have hbl := h.own.blocks
  refine ⟨hs, h.own.of_block (fun g hg => hf.blk g (hbl g hg).2 (fun e => h.aq (by rw [hg, e])) (h.off g hg)), h.aq, fun b hb => hf.offs b (hbl b hb).2 (h.off b hb), h.bel.trans (hf.below h.sb (Nat.le_refl _) h.hq), h.hq⟩

theorem EgS.push {w wr w1 : World} {q : Nat} {p : ShPtr} {s : Shp} {Ae A' : Option Addr} {ce c' : Nat} {acc zs : List Od} {lit : Obj} (h : EgS w wr q p s Ae ce acc) (ho : OwnO w1 w.heap.size A' c' zs) (hg : (wr.alloc lit).grownBy w1 (blockOf Ae)) (hat : blockOf A' = blockOf Ae ∨ blockOf A' = some (wr.alloc lit).heap.size) : EgS w w1 q p s A' c' zs := by
  have hlt := h.sb.lt
  have hbl := h.own.blocks
  have hs := hg.size
  simp at hs
  have ow := h.sb.own
  have hk : ∀ b, blockOf Ae = some b → blockOf p.K ≠ some b := fun b hb => (h.off b hb).k
  have hf : ∀ b, blockOf Ae = some b → blockOf p.F ≠ some b := fun b hb => (h.off b hb).f
  have ht : ∀ b, blockOf Ae = some b → blockOf p.S ≠ some b := fun b hb => (h.off b hb).t
  have hm : ∀ b, blockOf Ae = some b → blockOf p.M ≠ some b := fun b hb => (h.off b hb).m
  refine ⟨⟨h.sb.c.ofB (h.sb.grownB hg h.aq), ⟨ow.k.stays hg hk, ow.f.stays hg hf, ow.t.stays hg ht, ow.m.stays hg hm, ow.kf, ow.kt, ow.km, ow.ft, ow.fm, ow.tm⟩, h.sb.off_, by omega⟩, ho, ?_, fun b hb => ?_, ?_, h.hq⟩
  · rcases hat with e | e
    · rw [e]; exact h.aq
    · rw [e]; intro e2; injection e2 with e2; simp at e2; omega
  · rcases hat with e | e
    · exact h.off b (by rw [← e]; exact hb)
    · rw [e] at hb
      injection hb with hb
      simp at hb
      subst hb
      exact ⟨fun e2 => by have := (ow.k.blocks _ e2).2; omega, fun e2 => by have := (ow.f.blocks _ e2).2; omega, fun e2 => by have := (ow.t.blocks _ e2).2; omega, fun e2 => by have := (ow.m.blocks _ e2).2; omega⟩
  · exact below_grown (h.bel.alloc h.bel.size lit) hg (by have := h.bel.size; simp; omega) (fun b hb => (hbl b hb).1)

/-- how far the ending has come -/
structure Ended (n : Nat) (tail acc : List Od) (s : Shp) : Prop where
  ok : s.Ok
  kl : s.kinds.length ≤ n + acc.length
  tl : s.stack.length ≤ n + acc.length
  le : n + acc.length ≤ 300
  rest : (s.done = true ∧ tail = acc) ∨ (s.done = false ∧ tail = acc ++ tailOps s.stack)

theorem tailOps_ne (l : List Int) : 0 < (tailOps l).length := by
  rw [tailOps_is]
  simp only [List.length_append, List.length_cons, List.length_nil]
  omega

theorem Ended.small {n : Nat} {tail acc : List Od} {s : Shp} (h : Ended n tail acc s) : s.Small := ⟨by have := h.kl; have := h.le; omega, by have := h.tl; have := h.le; omega, h.ok⟩
/-- it is too long -/
theorem Ended.long {n : Nat} {tail acc : List Od} {s : Shp} (h : Ended n tail acc s) (hd : s.done = false) (hn : 300 ≤ n + acc.length) : ¬ n + tail.length ≤ 300 := by
  rcases h.rest with ⟨h1, _⟩ | ⟨_, h2⟩
  · rw [hd] at h1; cases h1
  · have := tailOps_ne s.stack
    rw [h2, List.length_append]
    omega
/-- it is whole -/
theorem Ended.fin {n : Nat} {tail acc : List Od} {s : Shp} (h : Ended n tail acc s) (hd : s.done = true) : tail = acc := by
  rcases h.rest with ⟨_, h1⟩ | ⟨h1, _⟩
  · exact h1
  · rw [hd] at h1; cases h1
/-- one order more -/
theorem Ended.next {n : Nat} {tail acc : List Od} {s : Shp} (h : Ended n tail acc s) (hd : s.done = false) (hn : n + acc.length < 300) : ∃ t, stepFree s (endOp s.stack) = some t ∧ Ended n tail (acc ++ [endOp s.stack]) t := by
  obtain ⟨t, h1, h2⟩ := end_step h.ok hd
  obtain ⟨o1, o2, o3, _⟩ := stepFree_ok h.ok h1 (endOp_ok _).get
  have hkl := h.kl
  have htl := h.tl
  have hl : (acc ++ [endOp s.stack]).length = acc.length + 1 := by simp
  refine ⟨t, h1, o1, by omega, by omega, by omega, ?_⟩
  rcases h.rest with ⟨h3, _⟩ | ⟨_, h3⟩
  · rw [hd] at h3; cases h3
  · rcases h2 with ⟨h4, h5⟩ | ⟨h4, h5⟩
    · exact .inl ⟨h4, by rw [h3, h5]⟩
    · exact .inr ⟨h4, by rw [h3, h5, List.append_assoc]; rfl⟩

end Go.Proofs.YtngohlegdjppeaaDoor

namespace Go.Proofs.YtngohlegdjppeaaDoor
open Go.RowKit
set_option linter.unusedVariables false

theorem marks_minus {s : Shp} (h : s.Ok) : (∃ x ∈ s.stack, x < 0) ↔ (-1 : Int) ∈ s.stack :=
  ⟨fun ⟨x, hx, hn⟩ => (by have := h.st x hx; have e : x = -1 := by omega
                          rw [← e]; exact hx), fun hm => ⟨-1, hm, by omega⟩⟩

theorem opBox {w : World} {g : Nat} {a b : Value} {t : TypeId} (h : Lies w g #[a, b] t) (v0 v1 : Value) :
    ((w.setCell ⟨g, 0, none⟩ v0).setCell ⟨g, 1, none⟩ v1).cell? ⟨g, 0, none⟩ = some v0 ∧ ((w.setCell ⟨g, 0, none⟩ v0).setCell ⟨g, 1, none⟩ v1).cell? ⟨g, 1, none⟩ = some v1 := by
  have h2 := (h.set 0 v0).set 1 v1
  simp only [List.setIfInBounds_toArray, List.set_cons_succ, List.set_cons_zero] at h2
  exact ⟨h2.cell 0, h2.cell 1⟩

set_option maxRecDepth 100000 in
set_option maxHeartbeats 1000000 in
theorem endingOp_any (q base off : Nat) (p : ShPtr) (s : Shp) (w : World) (h : SbAt w base q off p s) (hs : s.Small) (hok : s.Ok) :
    Calls Tryd.prog 15 #[.pointer (some ⟨q, off, none⟩)] w fun e w' => e = .returned (.agg #[.int .i64 (endOp s.stack).code, .int .i64 (endOp s.stack).arg]) ∧ Below w.heap.size w w' := by
  have hB0 := (Below.refl w.heap.size w).alloc (Nat.le_refl _) (.cells #[.int .i64 0, .int .i64 0] 39)
  have HB := hide hB0
  have L0 := hide (Lies.new w #[.int .i64 0, .int .i64 0] 39)
  have H2 := hide (h.alloc (.cells #[.int .i64 0, .int .i64 0] 39))
  obtain ⟨e0, e1, e2, e3, e4, f0, f1, f2, f3, f4⟩ := H2.out.c
  have hI := (H2.out.own.at_ hs).t
  have HC := hide (containsI_any p.S s.stack p.c3 (-1) _ hI)
  have hlen := hs.t
  obtain ⟨b, hb⟩ : ∃ b, tf ((-1 : Int) ∈ s.stack) = b := ⟨_, rfl⟩
  have hE : endOp s.stack = if b = true then ⟨3, 0⟩ else if 1 < s.stack.length then ⟨6, 0⟩ else if s.stack.length = 0 then ⟨4, 0⟩ else ⟨19, 0⟩ := by
    unfold endOp
    by_cases hm : ∃ x ∈ s.stack, x < 0
    · have hbt : b = true := by rw [← hb]; exact tf_true ((marks_minus hok).1 hm)
      rw [if_pos hm, if_pos hbt]
    · have hbf : ¬ b = true := by rw [← hb, tf_false (fun hh => hm ((marks_minus hok).2 hh))]; decide
      rw [if_neg hm, if_neg hbf]
  rw [hb] at HC
  have HE := hide hE
  clear h hs hok hB0 hI hb hE
  go_enter Tryd.func15, Tryd.ntmps15
  go_upto_region 1 with fail
  generalize w.alloc (.cells #[.int .i64 0, .int .i64 0] 39) = W at HB L0 H2 HC e0 e1 e2 e3 e4 f0 f1 f2 f3 f4 ⊢
  have b0 := L0.out.cell 0
  have b1 := L0.out.cell 1
  have g0 := L0.out.frozen 0
  have g1 := L0.out.frozen 1
  simp only [List.getElem?_toArray, List.getElem?_cons_zero, List.getElem?_cons_succ] at b0 b1
  have HX := fun (k : Int) => opBox L0.out (.int .i64 k) (.int .i64 0)
  have HY := fun (k : Int) => (HB.out.setCell (p := ⟨w.heap.size, 0, none⟩) (Nat.le_refl _) (.int .i64 k)).setCell (p := ⟨w.heap.size, 1, none⟩) (Nat.le_refl _) (.int .i64 0)
  have HYY := hide HY
  have HXX := hide HX
  clear HX HY
  go_wp2_with fail
  refine HC.out.mono ?_
  rintro e w' ⟨rfl, rfl⟩
  clear HC
  cases b
  · by_cases h1 : 1 < s.stack.length
    · have h1' : (1 : Int) < (s.stack.length : Int) := by omega
      obtain ⟨s0, s1⟩ := HXX.out 6
      go_wp2
      refine bodyPost_ret (v := .agg #[.int .i64 6, .int .i64 0]) (by simp [results, Tryd.results15, go_sem, s0, s1]) rfl ?_
      exact ⟨by rw [HE.out, if_neg (by decide), if_pos h1], HYY.out 6⟩
    · have h1' : ¬ (1 : Int) < (s.stack.length : Int) := by omega
      by_cases h0 : s.stack.length = 0
      · have d0 : ((s.stack.length : Int) == 0) = true := by rw [h0]; rfl
        have H0 := hide h0
        clear h0
        obtain ⟨s0, s1⟩ := HXX.out 4
        go_wp2
        refine bodyPost_ret (v := .agg #[.int .i64 4, .int .i64 0]) (by simp [results, Tryd.results15, go_sem, s0, s1]) rfl ?_
        exact ⟨by rw [HE.out, if_neg (by decide), if_neg h1, if_pos H0.out], HYY.out 4⟩
      · have d0 : ((s.stack.length : Int) == 0) = false := by rw [beq_eq_false_iff_ne]; omega
        obtain ⟨s0, s1⟩ := HXX.out 19
        go_wp2
        refine bodyPost_ret (v := .agg #[.int .i64 19, .int .i64 0]) (by simp [results, Tryd.results15, go_sem, s0, s1]) rfl ?_
        exact ⟨by rw [HE.out, if_neg (by decide), if_neg h1, if_neg h0], HYY.out 19⟩
  · obtain ⟨s0, s1⟩ := HXX.out 3
    go_wp2
    refine bodyPost_ret (v := .agg #[.int .i64 3, .int .i64 0]) (by simp [results, Tryd.results15, go_sem, s0, s1]) rfl ?_
    exact ⟨by rw [HE.out, if_pos (by first | rfl | trivial)], HYY.out 3⟩

end Go.Proofs.YtngohlegdjppeaaDoor

namespace Go.Proofs.YtngohlegdjppeaaDoor
open Go.RowKit
set_option linter.unusedVariables false

theorem bits_of (a b : Nat) (h : a = b) : ((a : Int) == (b : Int)) = true := by subst h; simp
theorem bits_ne (a b : Nat) (h : a ≠ b) : ((a : Int) == (b : Int)) = false := by simp; omega

theorem hasNeeded_any (q base off : Nat) (p : ShPtr) (s : Shp) (c : Nat) (ar : Int) (w : World) (h : SbAt w base q off p s) (hs : s.Small) (hF : FormsAt w w.heap.size) (hN : NeedsAt w w.heap.size) (hc : c < 20) (ha : c = 16 → 0 ≤ ar ∧ ar < 20) :
    Calls Tryd.prog 25 #[.pointer (some ⟨q, off, none⟩), .agg #[.int .i64 (c : Int), .int .i64 ar]] w (HasGot w (tf (s.Has ⟨(c : Int), ar⟩))) := by
  by_cases hm : c = 16 ∧ s.memo.getD ar.toNat 0 < 0
  · obtain ⟨rfl, hm⟩ := hm
    obtain ⟨h1, h2⟩ := ha rfl
    obtain ⟨j, rfl⟩ := Int.eq_ofNat_of_zero_le h1
    rw [Int.toNat_natCast] at hm
    have ht : tf (s.Has ⟨((16 : Nat) : Int), (j : Int)⟩) = false := tf_false fun hh => by
      have := hh.1 rfl
      simp only [Int.toNat_natCast] at this
      omega
    rw [ht]
    exact hasNeeded_no q base off p s j w h hs (by omega) hm
  · have hcase : c = 16 → 0 ≤ ar ∧ ar < 20 ∧ 0 ≤ s.memo.getD ar.toNat 0 := fun e => ⟨(ha e).1, (ha e).2, by
      by_cases hh : s.memo.getD ar.toNat 0 < 0
      · exact absurd ⟨e, hh⟩ hm
      · omega⟩
    refine hasNeeded_got q base off p s c ar _ _ _ _ w h hs hF hN hc hcase rfl rfl rfl ?_
    by_cases e0 : s.view0 (c : Int) &&& need0 (c : Int) = need0 (c : Int)
    · by_cases e1 : s.view1 (c : Int) &&& need1 (c : Int) = need1 (c : Int)
      · by_cases e2 : s.view2 (c : Int) &&& need2 (c : Int) = need2 (c : Int)
        · rw [bits_of _ _ e0, bits_of _ _ e1, bits_of _ _ e2, tf_true ⟨fun e => (hcase (by simp only at e; omega)).2.2, e0, e1, e2⟩]; rfl
        · rw [bits_ne _ _ e2, tf_false fun hh => e2 hh.2.2.2]; simp
      · rw [bits_ne _ _ e1, tf_false fun hh => e1 hh.2.2.1]; simp
    · rw [bits_ne _ _ e0, tf_false fun hh => e0 hh.2.1]; simp

set_option maxRecDepth 100000 in
set_option maxHeartbeats 4000000 in
theorem step_no (q base off : Nat) (p : ShPtr) (s : Shp) (c : Nat) (ar : Int) (w : World) (h : SbAt w base q off p s) (hs : s.Small) (hbase : base ≤ w.heap.size) (hF : FormsAt w w.heap.size) (hN : NeedsAt w w.heap.size) (hc : c < 20) (ha : c = 15 ∨ c = 16 → 0 ≤ ar ∧ ar < 20) (hr : stepFree s ⟨(c : Int), ar⟩ = none) :
    Calls Tryd.prog 16 #[.pointer (some ⟨q, off, none⟩), .agg #[.int .i64 (c : Int), .int .i64 ar]] w (StepsSb w base q off p false s) := by
  have hB0 := (Below.refl w.heap.size w).alloc (Nat.le_refl _) (.cells #[.int .i64 (c : Int), .int .i64 ar] 39)
  have hB := hide hB0
  have hlt := h.lt
  have lo := Lies.new w #[.int .i64 (c : Int), .int .i64 ar] 39
  have H2 := hide (h.alloc (.cells #[.int .i64 (c : Int), .int .i64 ar] 39))
  have HF := hide (hF.later hB0 (Nat.le_refl _))
  have HN := hide (hN.later hB0 (Nat.le_refl _))
  have Hs := hide hs
  obtain ⟨e0, e1, e2, e3, e4, f0, f1, f2, f3, f4⟩ := H2.out.c
  have d0 := lo.cell 0
  have d1 := lo.cell 1
  simp only [List.getElem?_toArray, List.getElem?_cons_zero, List.getElem?_cons_succ] at d0 d1
  by_cases hd : s.done = true
  · rw [hd] at e4
    clear h hs hF hN hB0 lo hr ha hd
    go_enter Tryd.func16, Tryd.ntmps16
    go_upto_region 1 with fail
    generalize w.alloc (.cells #[.int .i64 (c : Int), .int .i64 ar] 39) = W at hB H2 HF HN e0 e1 e2 e3 e4 f0 f1 f2 f3 f4 d0 d1 ⊢
    go_wp2
    go_ret
    exact ⟨rfl, p, H2.out, SbFr.of_below hB.out hlt⟩
  · have hdf : s.done = false := by cases hx : s.done <;> simp_all
    rw [hdf] at e4
    have HC := hasNeeded_any q base off p s c ar _ H2.out hs HF.out HN.out hc (fun e => ha (.inr e))
    have ht : tf (s.Has ⟨(c : Int), ar⟩) = false := tf_false fun hh => by
      have := (stepFree_has hs.ok hdf (o := ⟨(c : Int), ar⟩) (by simp only; omega) (fun e => by simp only at e ⊢; have := ha (.inr (by omega)); omega)).1 hh
      rw [hr] at this
      cases this
    rw [ht] at HC
    have HCC := hide HC
    clear h hs hF hN hB0 lo hr ha hd HC ht hdf
    go_enter Tryd.func16, Tryd.ntmps16
    go_upto_region 1 with fail
    generalize w.alloc (.cells #[.int .i64 (c : Int), .int .i64 ar] 39) = W at hB H2 HF HN HCC e0 e1 e2 e3 e4 f0 f1 f2 f3 f4 d0 d1 ⊢
    go_wp2_with fail
    refine HCC.out.mono ?_
    rintro e w' ⟨rfl, hb⟩
    have HX := hide (And.intro (H2.out.below hb) (hB.out.trans (hb.mono hB.out.size)))
    clear hb
    go_wp2
    go_ret
    exact ⟨rfl, p, HX.out.1, SbFr.of_below HX.out.2 hlt⟩

set_option maxRecDepth 100000 in
set_option maxHeartbeats 4000000 in
theorem step_yes (q base off : Nat) (p : ShPtr) (s t : Shp) (c : Nat) (ar : Int) (w : World) (h : SbAt w base q off p s) (hs : s.Small) (hbase : base ≤ w.heap.size) (hF : FormsAt w w.heap.size) (hN : NeedsAt w w.heap.size) (hc : c < 20) (ha : c = 15 ∨ c = 16 → 0 ≤ ar ∧ ar < 20) (hr : stepFree s ⟨(c : Int), ar⟩ = some t) :
    Calls Tryd.prog 16 #[.pointer (some ⟨q, off, none⟩), .agg #[.int .i64 (c : Int), .int .i64 ar]] w (StepsSb w base q off p true t) := by
  have hB0 := (Below.refl w.heap.size w).alloc (Nat.le_refl _) (.cells #[.int .i64 (c : Int), .int .i64 ar] 39)
  have hB := hide hB0
  have hlt := h.lt
  have hlo := hide (Lies.new w #[.int .i64 (c : Int), .int .i64 ar] 39)
  have H2 := hide (h.alloc (.cells #[.int .i64 (c : Int), .int .i64 ar] 39))
  have HF := hide (hF.later hB0 (Nat.le_refl _))
  have HN := hide (hN.later hB0 (Nat.le_refl _))
  have Hs := hide hs
  have hoffo := h.own.off (q := w.heap.size) (.inr (Nat.le_refl _))
  have hdf : s.done = false := by
    cases hx : s.done
    · rfl
    · simp [stepFree, hx] at hr
  obtain ⟨t1, t2, t3, t4⟩ := stepFree_facts hs.ok hdf (by simp only; omega) hr
  simp only at t1 t2 t3 t4
  have hHas : s.Has ⟨(c : Int), ar⟩ := by
    by_cases hh : s.Has ⟨(c : Int), ar⟩
    · exact hh
    · have := (stepFree_has hs.ok hdf (o := ⟨(c : Int), ar⟩) (by simp only; omega) (fun e => by simp only at e ⊢; have := ha (.inr (by omega)); omega)).2 hh
      rw [hr] at this
      cases this
  have htt : t = (s.took (c : Int)).acted ⟨(c : Int), ar⟩ := by
    have := (stepFree_has hs.ok hdf (o := ⟨(c : Int), ar⟩) (by simp only; omega) (fun e => by simp only at e ⊢; have := ha (.inr (by omega)); omega)).1 hHas
    rw [hr] at this
    exact Option.some.inj this
  have h15 : c = 15 → 0 < (s.took (c : Int)).stack.length := fun e => by
    subst e
    have : s.took ((15 : Nat) : Int) = s.cutTo (s.stack.length - 0) := by unfold Shp.took; simp [takesN]
    rw [this, Nat.sub_zero, Shp.cutTo_all]
    exact t4 rfl
  have HC := hasNeeded_any q base off p s c ar _ H2.out hs HF.out HN.out hc (fun e => ha (.inr e))
  rw [tf_true hHas] at HC
  have HCC := hide HC
  have HT : Hid (∀ W, SbAt W base q off p s → Calls Tryd.prog 26 #[.pointer (some ⟨q, off, none⟩), .int .i64 (takesOf c)] W (TurnsSb W base q off p (s.took (c : Int)))) := hide fun W hW => take_code q base off p s c W hW hs hc t1 t2
  have HA : Hid (∀ W p', base ≤ W.heap.size → SbAt W base q off p' (s.took (c : Int)) → Calls Tryd.prog 27 #[.pointer (some ⟨q, off, none⟩), .agg #[.int .i64 (c : Int), .int .i64 ar]] W (TurnsSb W base q off p' t)) := hide fun W p' hb hW => by
    rw [htt]
    exact act_code q base off p' (s.took (c : Int)) c ar W hW (took_small hs _) hb hc ha (fun e => t3 (by omega)) h15
  obtain ⟨e0, e1, e2, e3, e4, f0, f1, f2, f3, f4⟩ := H2.out.c
  have d0 := hlo.out.cell 0
  have d1 := hlo.out.cell 1
  simp only [List.getElem?_toArray, List.getElem?_cons_zero, List.getElem?_cons_succ] at d0 d1
  rw [hdf] at e4
  have hi0 : (0 : Int) ≤ (c : Int) := by omega
  have hi1 : (c : Int) < 20 := by omega
  have hbW : base ≤ (w.alloc (.cells #[.int .i64 (c : Int), .int .i64 ar] 39)).heap.size := by simp; omega
  have hwW : w.heap.size < (w.alloc (.cells #[.int .i64 (c : Int), .int .i64 ar] 39)).heap.size := by simp
  have hqo : w.heap.size ≠ q := by omega
  generalize s.took (c : Int) = s1 at HT HA
  clear h hs hF hN hB0 hr ha hdf t1 t2 t3 t4 hHas htt h15 HC
  go_enter Tryd.func16, Tryd.ntmps16
  go_upto_region 1 with fail
  generalize w.alloc (.cells #[.int .i64 (c : Int), .int .i64 ar] 39) = W at hB hlo H2 HF HN HCC hbW hwW e0 e1 e2 e3 e4 f0 f1 f2 f3 f4 d0 d1 ⊢
  go_wp2_with fail
  refine HCC.out.mono ?_
  rintro e w1 ⟨rfl, hb⟩
  have H3 := hide (H2.out.below hb)
  have HB3 := hide (hB.out.trans (hb.mono hB.out.size))
  have hlo3 := hlo.out.below hb hwW
  have hft := (HF.out.later hb (Nat.le_refl _)).takes c hc
  have hw1 : w.heap.size < w1.heap.size := Nat.lt_of_lt_of_le hwW hb.size
  have hb1 : base ≤ w1.heap.size := Nat.le_trans hbW hb.size
  have d0 := hlo3.cell 0
  have d1 := hlo3.cell 1
  simp only [List.getElem?_toArray, List.getElem?_cons_zero, List.getElem?_cons_succ] at d0 d1
  have Hlo3 := hide hlo3
  clear hb e0 e1 e2 e3 e4 f0 f1 f2 f3 f4 HCC H2 HF HN hB hlo hlo3
  go_wp2_with fail
  refine (HT.out _ H3.out).mono ?_
  rintro e w2 ⟨rfl, p2, hS2, hF2⟩
  have hblk := hF2.blk w.heap.size hw1 hqo hoffo
  have hlo4 : Lies w2 w.heap.size #[.int .i64 (c : Int), .int .i64 ar] 39 := hblk.trans Hlo3.out
  have d0 := hlo4.cell 0
  have d1 := hlo4.cell 1
  simp only [List.getElem?_toArray, List.getElem?_cons_zero, List.getElem?_cons_succ] at d0 d1
  have hb2 : base ≤ w2.heap.size := Nat.le_trans hb1 hF2.size
  have HF2 := hide hF2
  have HS2 := hide hS2
  clear hblk hlo4 hF2 hS2 hft HT H3
  go_wp2_with fail
  refine (HA.out _ p2 hb2 HS2.out).mono ?_
  rintro e w3 ⟨rfl, p3, hS3, hF3⟩
  have HE := hide (And.intro hS3 (((SbFr.of_below HB3.out hlt).trans HF2.out).trans hF3))
  clear hS3 hF3 HF2 HS2 HA
  go_wp2
  go_ret
  exact ⟨rfl, p3, HE.out.1, HE.out.2⟩

end Go.Proofs.YtngohlegdjppeaaDoor
