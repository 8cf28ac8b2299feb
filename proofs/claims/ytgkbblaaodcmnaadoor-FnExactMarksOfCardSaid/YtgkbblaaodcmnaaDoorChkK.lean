/-
  The program's check by kinds: step.
-/
import Derived.Test.YtgkbblaaodcmnaaDoorPjAn
namespace Go.Proofs.YtgkbblaaodcmnaaDoor
open Go.RowKit
set_option linter.unusedVariables false

theorem bits_of (a b : Nat) (h : a = b) : ((a : Int) == (b : Int)) = true := by subst h; simp
theorem bits_ne (a b : Nat) (h : a ≠ b) : ((a : Int) == (b : Int)) = false := by simp; omega

theorem hasNeeded_any (q base off : Nat) (p : ShPtr) (s : Shp) (c : Nat) (ar : Int) (w : World) (h : SbAt w base q off p s) (hs : s.Small) (hF : FormsAt w w.heap.size) (hN : NeedsAt w w.heap.size) (hc : c < 20) (ha : c = 16 → 0 ≤ ar ∧ ar < 20) :
    Calls Tryd.prog 35 #[.pointer (some ⟨q, off, none⟩), .agg #[.int .i64 (c : Int), .int .i64 ar]] w (HasGot w (tf (s.Has ⟨(c : Int), ar⟩))) := by
  by_cases hm : c = 16 ∧ s.memo.getD ar.toNat 0 < 0
  · obtain ⟨rfl, hm⟩ := hm
    obtain ⟨h1, h2⟩ := ha rfl
    obtain ⟨j, rfl⟩ := Int.eq_ofNat_of_zero_le h1
    rw [Int.toNat_natCast] at hm
    have ht : tf (s.Has ⟨((16 : Nat) : Int), (j : Int)⟩) = false := tf_false fun hh => by
      have := hh.1 rfl
      simp only [Int.toNat_natCast] at this
      omega
    rw [ht]
    exact hasNeeded_no q base off p s j w h hs (by omega) hm
  · have hcase : c = 16 → 0 ≤ ar ∧ ar < 20 ∧ 0 ≤ s.memo.getD ar.toNat 0 := fun e => ⟨(ha e).1, (ha e).2, by
      by_cases hh : s.memo.getD ar.toNat 0 < 0
      · exact absurd ⟨e, hh⟩ hm
      · omega⟩
    refine hasNeeded_got q base off p s c ar _ _ _ _ w h hs hF hN hc hcase rfl rfl rfl ?_
    by_cases e0 : s.view0 (c : Int) &&& need0 (c : Int) = need0 (c : Int)
    · by_cases e1 : s.view1 (c : Int) &&& need1 (c : Int) = need1 (c : Int)
      · by_cases e2 : s.view2 (c : Int) &&& need2 (c : Int) = need2 (c : Int)
        · rw [bits_of _ _ e0, bits_of _ _ e1, bits_of _ _ e2, tf_true ⟨fun e => (hcase (by simp only at e; omega)).2.2, e0, e1, e2⟩]; rfl
        · rw [bits_ne _ _ e2, tf_false fun hh => e2 hh.2.2.2]; simp
      · rw [bits_ne _ _ e1, tf_false fun hh => e1 hh.2.2.1]; simp
    · rw [bits_ne _ _ e0, tf_false fun hh => e0 hh.2.1]; simp

set_option maxRecDepth 100000 in
set_option maxHeartbeats 4000000 in
theorem step_no (q base off : Nat) (p : ShPtr) (s : Shp) (c : Nat) (ar : Int) (w : World) (h : SbAt w base q off p s) (hs : s.Small) (hbase : base ≤ w.heap.size) (hF : FormsAt w w.heap.size) (hN : NeedsAt w w.heap.size) (hc : c < 20) (ha : c = 15 ∨ c = 16 → 0 ≤ ar ∧ ar < 20) (hr : stepFree s ⟨(c : Int), ar⟩ = none) :
    Calls Tryd.prog 25 #[.pointer (some ⟨q, off, none⟩), .agg #[.int .i64 (c : Int), .int .i64 ar]] w (StepsSb w base q off p false s) := by
  have hB0 := (Below.refl w.heap.size w).alloc (Nat.le_refl _) (.cells #[.int .i64 (c : Int), .int .i64 ar] 40)
  have hB := hide hB0
  have hlt := h.lt
  have lo := Lies.new w #[.int .i64 (c : Int), .int .i64 ar] 40
  have H2 := hide (h.alloc (.cells #[.int .i64 (c : Int), .int .i64 ar] 40))
  have HF := hide (hF.later hB0 (Nat.le_refl _))
  have HN := hide (hN.later hB0 (Nat.le_refl _))
  have Hs := hide hs
  obtain ⟨e0, e1, e2, e3, e4, f0, f1, f2, f3, f4⟩ := H2.out.c
  have d0 := lo.cell 0
  have d1 := lo.cell 1
  simp only [List.getElem?_toArray, List.getElem?_cons_zero, List.getElem?_cons_succ] at d0 d1
  by_cases hd : s.done = true
  · rw [hd] at e4
    clear h hs hF hN hB0 lo hr ha hd
    go_enter Tryd.func25, Tryd.ntmps25
    go_upto_region 1 with fail
    generalize w.alloc (.cells #[.int .i64 (c : Int), .int .i64 ar] 40) = W at hB H2 HF HN e0 e1 e2 e3 e4 f0 f1 f2 f3 f4 d0 d1 ⊢
    go_wp2
    go_ret
    exact ⟨rfl, p, H2.out, SbFr.of_below hB.out hlt⟩
  · have hdf : s.done = false := by cases hx : s.done <;> simp_all
    rw [hdf] at e4
    have HC := hasNeeded_any q base off p s c ar _ H2.out hs HF.out HN.out hc (fun e => ha (.inr e))
    have ht : tf (s.Has ⟨(c : Int), ar⟩) = false := tf_false fun hh => by
      have := (stepFree_has hs.ok hdf (o := ⟨(c : Int), ar⟩) (by simp only; omega) (fun e => by simp only at e ⊢; have := ha (.inr (by omega)); omega)).1 hh
      rw [hr] at this
      cases this
    rw [ht] at HC
    have HCC := hide HC
    clear h hs hF hN hB0 lo hr ha hd HC ht hdf
    go_enter Tryd.func25, Tryd.ntmps25
    go_upto_region 1 with fail
    generalize w.alloc (.cells #[.int .i64 (c : Int), .int .i64 ar] 40) = W at hB H2 HF HN HCC e0 e1 e2 e3 e4 f0 f1 f2 f3 f4 d0 d1 ⊢
    go_wp2_with fail
    refine HCC.out.mono ?_
    rintro e w' ⟨rfl, hb⟩
    have HX := hide (And.intro (H2.out.below hb) (hB.out.trans (hb.mono hB.out.size)))
    clear hb
    go_wp2
    go_ret
    exact ⟨rfl, p, HX.out.1, SbFr.of_below HX.out.2 hlt⟩

set_option maxRecDepth 100000 in
set_option maxHeartbeats 4000000 in
theorem step_yes (q base off : Nat) (p : ShPtr) (s t : Shp) (c : Nat) (ar : Int) (w : World) (h : SbAt w base q off p s) (hs : s.Small) (hbase : base ≤ w.heap.size) (hF : FormsAt w w.heap.size) (hN : NeedsAt w w.heap.size) (hc : c < 20) (ha : c = 15 ∨ c = 16 → 0 ≤ ar ∧ ar < 20) (hr : stepFree s ⟨(c : Int), ar⟩ = some t) :
    Calls Tryd.prog 25 #[.pointer (some ⟨q, off, none⟩), .agg #[.int .i64 (c : Int), .int .i64 ar]] w (StepsSb w base q off p true t) := by
  have hB0 := (Below.refl w.heap.size w).alloc (Nat.le_refl _) (.cells #[.int .i64 (c : Int), .int .i64 ar] 40)
  have hB := hide hB0
  have hlt := h.lt
  have hlo := hide (Lies.new w #[.int .i64 (c : Int), .int .i64 ar] 40)
  have H2 := hide (h.alloc (.cells #[.int .i64 (c : Int), .int .i64 ar] 40))
  have HF := hide (hF.later hB0 (Nat.le_refl _))
  have HN := hide (hN.later hB0 (Nat.le_refl _))
  have Hs := hide hs
  have hoffo := h.own.off (q := w.heap.size) (.inr (Nat.le_refl _))
  have hdf : s.done = false := by
    cases hx : s.done
    · rfl
    · simp [stepFree, hx] at hr
  obtain ⟨t1, t2, t3, t4⟩ := stepFree_facts hs.ok hdf (by simp only; omega) hr
  simp only at t1 t2 t3 t4
  have hHas : s.Has ⟨(c : Int), ar⟩ := by
    by_cases hh : s.Has ⟨(c : Int), ar⟩
    · exact hh
    · have := (stepFree_has hs.ok hdf (o := ⟨(c : Int), ar⟩) (by simp only; omega) (fun e => by simp only at e ⊢; have := ha (.inr (by omega)); omega)).2 hh
      rw [hr] at this
      cases this
  have htt : t = (s.took (c : Int)).acted ⟨(c : Int), ar⟩ := by
    have := (stepFree_has hs.ok hdf (o := ⟨(c : Int), ar⟩) (by simp only; omega) (fun e => by simp only at e ⊢; have := ha (.inr (by omega)); omega)).1 hHas
    rw [hr] at this
    exact Option.some.inj this
  have h15 : c = 15 → 0 < (s.took (c : Int)).stack.length := fun e => by
    subst e
    have : s.took ((15 : Nat) : Int) = s.cutTo (s.stack.length - 0) := by unfold Shp.took; simp [takesN]
    rw [this, Nat.sub_zero, Shp.cutTo_all]
    exact t4 rfl
  have HC := hasNeeded_any q base off p s c ar _ H2.out hs HF.out HN.out hc (fun e => ha (.inr e))
  rw [tf_true hHas] at HC
  have HCC := hide HC
  have HT : Hid (∀ W, SbAt W base q off p s → Calls Tryd.prog 36 #[.pointer (some ⟨q, off, none⟩), .int .i64 (takesOf c)] W (TurnsSb W base q off p (s.took (c : Int)))) := hide fun W hW => take_code q base off p s c W hW hs hc t1 t2
  have HA : Hid (∀ W p', base ≤ W.heap.size → SbAt W base q off p' (s.took (c : Int)) → Calls Tryd.prog 37 #[.pointer (some ⟨q, off, none⟩), .agg #[.int .i64 (c : Int), .int .i64 ar]] W (TurnsSb W base q off p' t)) := hide fun W p' hb hW => by
    rw [htt]
    exact act_code q base off p' (s.took (c : Int)) c ar W hW (took_small hs _) hb hc ha (fun e => t3 (by omega)) h15
  obtain ⟨e0, e1, e2, e3, e4, f0, f1, f2, f3, f4⟩ := H2.out.c
  have d0 := hlo.out.cell 0
  have d1 := hlo.out.cell 1
  simp only [List.getElem?_toArray, List.getElem?_cons_zero, List.getElem?_cons_succ] at d0 d1
  rw [hdf] at e4
  have hi0 : (0 : Int) ≤ (c : Int) := by omega
  have hi1 : (c : Int) < 20 := by omega
  have hbW : base ≤ (w.alloc (.cells #[.int .i64 (c : Int), .int .i64 ar] 40)).heap.size := by simp; omega
  have hwW : w.heap.size < (w.alloc (.cells #[.int .i64 (c : Int), .int .i64 ar] 40)).heap.size := by simp
  have hqo : w.heap.size ≠ q := by omega
  generalize s.took (c : Int) = s1 at HT HA
  clear h hs hF hN hB0 hr ha hdf t1 t2 t3 t4 hHas htt h15 HC
  go_enter Tryd.func25, Tryd.ntmps25
  go_upto_region 1 with fail
  generalize w.alloc (.cells #[.int .i64 (c : Int), .int .i64 ar] 40) = W at hB hlo H2 HF HN HCC hbW hwW e0 e1 e2 e3 e4 f0 f1 f2 f3 f4 d0 d1 ⊢
  go_wp2_with fail
  refine HCC.out.mono ?_
  rintro e w1 ⟨rfl, hb⟩
  have H3 := hide (H2.out.below hb)
  have HB3 := hide (hB.out.trans (hb.mono hB.out.size))
  have hlo3 := hlo.out.below hb hwW
  have hft := (HF.out.later hb (Nat.le_refl _)).takes c hc
  have hw1 : w.heap.size < w1.heap.size := Nat.lt_of_lt_of_le hwW hb.size
  have hb1 : base ≤ w1.heap.size := Nat.le_trans hbW hb.size
  have d0 := hlo3.cell 0
  have d1 := hlo3.cell 1
  simp only [List.getElem?_toArray, List.getElem?_cons_zero, List.getElem?_cons_succ] at d0 d1
  have Hlo3 := hide hlo3
  clear hb e0 e1 e2 e3 e4 f0 f1 f2 f3 f4 HCC H2 HF HN hB hlo hlo3
  go_wp2_with fail
  refine (HT.out _ H3.out).mono ?_
  rintro e w2 ⟨rfl, p2, hS2, hF2⟩
  have hblk := hF2.blk w.heap.size hw1 hqo hoffo
  have hlo4 : Lies w2 w.heap.size #[.int .i64 (c : Int), .int .i64 ar] 40 := hblk.trans Hlo3.out
  have d0 := hlo4.cell 0
  have d1 := hlo4.cell 1
  simp only [List.getElem?_toArray, List.getElem?_cons_zero, List.getElem?_cons_succ] at d0 d1
  have hb2 : base ≤ w2.heap.size := Nat.le_trans hb1 hF2.size
  have HF2 := hide hF2
  have HS2 := hide hS2
  clear hblk hlo4 hF2 hS2 hft HT H3
  go_wp2_with fail
  refine (HA.out _ p2 hb2 HS2.out).mono ?_
  rintro e w3 ⟨rfl, p3, hS3, hF3⟩
  have HE := hide (And.intro hS3 (((SbFr.of_below HB3.out hlt).trans HF2.out).trans hF3))
  clear hS3 hF3 HF2 HS2 HA
  go_wp2
  go_ret
  exact ⟨rfl, p3, HE.out.1, HE.out.2⟩

end Go.Proofs.YtgkbblaaodcmnaaDoor
