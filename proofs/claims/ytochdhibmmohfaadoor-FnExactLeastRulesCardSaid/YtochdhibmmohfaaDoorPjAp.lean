/-
  Lemmas, several texts in one: ChkK, Wat.
-/
import Derived.Test.YtochdhibmmohfaaDoorPjAo
import Derived.Test.YtochdhibmmohfaaDoorPjAe
import Derived.Test.YtochdhibmmohfaaDoorPjAj
import Derived.Test.YtochdhibmmohfaaDoorPjAm
import Derived.Deep.LoopGhost
namespace Go.Proofs.YtochdhibmmohfaaDoor
open Go.RowKit
set_option linter.unusedVariables false

theorem bits_of (a b : Nat) (h : a = b) : ((a : Int) == (b : Int)) = true := by subst h; simp
theorem bits_ne (a b : Nat) (h : a ≠ b) : ((a : Int) == (b : Int)) = false := by simp; omega

theorem hasNeeded_any (q base off : Nat) (p : ShPtr) (s : Shp) (c : Nat) (ar : Int) (w : World) (h : SbAt w base q off p s) (hs : s.Small) (hF : FormsAt w w.heap.size) (hN : NeedsAt w w.heap.size) (hc : c < 20) (ha : c = 16 → 0 ≤ ar ∧ ar < 20) :
    Calls Tryd.prog 48 #[.pointer (some ⟨q, off, none⟩), .agg #[.int .i64 (c : Int), .int .i64 ar]] w (HasGot w (tf (s.Has ⟨(c : Int), ar⟩))) := by
  by_cases hm : c = 16 ∧ s.memo.getD ar.toNat 0 < 0
  · obtain ⟨rfl, hm⟩ := hm
    obtain ⟨h1, h2⟩ := ha rfl
    obtain ⟨j, rfl⟩ := Int.eq_ofNat_of_zero_le h1
    rw [Int.toNat_natCast] at hm
    have ht : tf (s.Has ⟨((16 : Nat) : Int), (j : Int)⟩) = false := tf_false fun hh => by
      have := hh.1 rfl
      simp only [Int.toNat_natCast] at this
      omega
    rw [ht]
    exact hasNeeded_no q base off p s j w h hs (by omega) hm
  · have hcase : c = 16 → 0 ≤ ar ∧ ar < 20 ∧ 0 ≤ s.memo.getD ar.toNat 0 := fun e => ⟨(ha e).1, (ha e).2, by
      by_cases hh : s.memo.getD ar.toNat 0 < 0
      · exact absurd ⟨e, hh⟩ hm
      · omega⟩
    refine hasNeeded_got q base off p s c ar _ _ _ _ w h hs hF hN hc hcase rfl rfl rfl ?_
    by_cases e0 : s.view0 (c : Int) &&& need0 (c : Int) = need0 (c : Int)
    · by_cases e1 : s.view1 (c : Int) &&& need1 (c : Int) = need1 (c : Int)
      · by_cases e2 : s.view2 (c : Int) &&& need2 (c : Int) = need2 (c : Int)
        · rw [bits_of _ _ e0, bits_of _ _ e1, bits_of _ _ e2, tf_true ⟨fun e => (hcase (by simp only at e; omega)).2.2, e0, e1, e2⟩]; rfl
        · rw [bits_ne _ _ e2, tf_false fun hh => e2 hh.2.2.2]; simp
      · rw [bits_ne _ _ e1, tf_false fun hh => e1 hh.2.2.1]; simp
    · rw [bits_ne _ _ e0, tf_false fun hh => e0 hh.2.1]; simp

set_option maxRecDepth 100000 in
set_option maxHeartbeats 4000000 in
theorem step_no (q base off : Nat) (p : ShPtr) (s : Shp) (c : Nat) (ar : Int) (w : World) (h : SbAt w base q off p s) (hs : s.Small) (hbase : base ≤ w.heap.size) (hF : FormsAt w w.heap.size) (hN : NeedsAt w w.heap.size) (hc : c < 20) (ha : c = 15 ∨ c = 16 → 0 ≤ ar ∧ ar < 20) (hr : stepFree s ⟨(c : Int), ar⟩ = none) :
    Calls Tryd.prog 42 #[.pointer (some ⟨q, off, none⟩), .agg #[.int .i64 (c : Int), .int .i64 ar]] w (StepsSb w base q off p false s) := by
  have hB0 := (Below.refl w.heap.size w).alloc (Nat.le_refl _) (.cells #[.int .i64 (c : Int), .int .i64 ar] 44)
  have hB := hide hB0
  have hlt := h.lt
  have lo := Lies.new w #[.int .i64 (c : Int), .int .i64 ar] 44
  have H2 := hide (h.alloc (.cells #[.int .i64 (c : Int), .int .i64 ar] 44))
  have HF := hide (hF.later hB0 (Nat.le_refl _))
  have HN := hide (hN.later hB0 (Nat.le_refl _))
  have Hs := hide hs
  obtain ⟨e0, e1, e2, e3, e4, f0, f1, f2, f3, f4⟩ := H2.out.c
  have d0 := lo.cell 0
  have d1 := lo.cell 1
  simp only [List.getElem?_toArray, List.getElem?_cons_zero, List.getElem?_cons_succ] at d0 d1
  by_cases hd : s.done = true
  · rw [hd] at e4
    clear h hs hF hN hB0 lo hr ha hd
    go_enter Tryd.func42, Tryd.ntmps42
    go_upto_region 1 with fail
    generalize w.alloc (.cells #[.int .i64 (c : Int), .int .i64 ar] 44) = W at hB H2 HF HN e0 e1 e2 e3 e4 f0 f1 f2 f3 f4 d0 d1 ⊢
    go_wp2
    go_ret
    exact ⟨rfl, p, H2.out, SbFr.of_below hB.out hlt⟩
  · have hdf : s.done = false := by cases hx : s.done <;> simp_all
    rw [hdf] at e4
    have HC := hasNeeded_any q base off p s c ar _ H2.out hs HF.out HN.out hc (fun e => ha (.inr e))
    have ht : tf (s.Has ⟨(c : Int), ar⟩) = false := tf_false fun hh => by
      have := (stepFree_has hs.ok hdf (o := ⟨(c : Int), ar⟩) (by simp only; omega) (fun e => by simp only at e ⊢; have := ha (.inr (by omega)); omega)).1 hh
      rw [hr] at this
      cases this
    rw [ht] at HC
    have HCC := hide HC
    clear h hs hF hN hB0 lo hr ha hd HC ht hdf
    go_enter Tryd.func42, Tryd.ntmps42
    go_upto_region 1 with fail
    generalize w.alloc (.cells #[.int .i64 (c : Int), .int .i64 ar] 44) = W at hB H2 HF HN HCC e0 e1 e2 e3 e4 f0 f1 f2 f3 f4 d0 d1 ⊢
    go_wp2_with fail
    refine HCC.out.mono ?_
    rintro e w' ⟨rfl, hb⟩
    have HX := hide (And.intro (H2.out.below hb) (hB.out.trans (hb.mono hB.out.size)))
    clear hb
    go_wp2
    go_ret
    exact ⟨rfl, p, HX.out.1, SbFr.of_below HX.out.2 hlt⟩

set_option maxRecDepth 100000 in
set_option maxHeartbeats 4000000 in
theorem step_yes (q base off : Nat) (p : ShPtr) (s t : Shp) (c : Nat) (ar : Int) (w : World) (h : SbAt w base q off p s) (hs : s.Small) (hbase : base ≤ w.heap.size) (hF : FormsAt w w.heap.size) (hN : NeedsAt w w.heap.size) (hc : c < 20) (ha : c = 15 ∨ c = 16 → 0 ≤ ar ∧ ar < 20) (hr : stepFree s ⟨(c : Int), ar⟩ = some t) :
    Calls Tryd.prog 42 #[.pointer (some ⟨q, off, none⟩), .agg #[.int .i64 (c : Int), .int .i64 ar]] w (StepsSb w base q off p true t) := by
  have hB0 := (Below.refl w.heap.size w).alloc (Nat.le_refl _) (.cells #[.int .i64 (c : Int), .int .i64 ar] 44)
  have hB := hide hB0
  have hlt := h.lt
  have hlo := hide (Lies.new w #[.int .i64 (c : Int), .int .i64 ar] 44)
  have H2 := hide (h.alloc (.cells #[.int .i64 (c : Int), .int .i64 ar] 44))
  have HF := hide (hF.later hB0 (Nat.le_refl _))
  have HN := hide (hN.later hB0 (Nat.le_refl _))
  have Hs := hide hs
  have hoffo := h.own.off (q := w.heap.size) (.inr (Nat.le_refl _))
  have hdf : s.done = false := by
    cases hx : s.done
    · rfl
    · simp [stepFree, hx] at hr
  obtain ⟨t1, t2, t3, t4⟩ := stepFree_facts hs.ok hdf (by simp only; omega) hr
  simp only at t1 t2 t3 t4
  have hHas : s.Has ⟨(c : Int), ar⟩ := by
    by_cases hh : s.Has ⟨(c : Int), ar⟩
    · exact hh
    · have := (stepFree_has hs.ok hdf (o := ⟨(c : Int), ar⟩) (by simp only; omega) (fun e => by simp only at e ⊢; have := ha (.inr (by omega)); omega)).2 hh
      rw [hr] at this
      cases this
  have htt : t = (s.took (c : Int)).acted ⟨(c : Int), ar⟩ := by
    have := (stepFree_has hs.ok hdf (o := ⟨(c : Int), ar⟩) (by simp only; omega) (fun e => by simp only at e ⊢; have := ha (.inr (by omega)); omega)).1 hHas
    rw [hr] at this
    exact Option.some.inj this
  have h15 : c = 15 → 0 < (s.took (c : Int)).stack.length := fun e => by
    subst e
    have : s.took ((15 : Nat) : Int) = s.cutTo (s.stack.length - 0) := by unfold Shp.took; simp [takesN]
    rw [this, Nat.sub_zero, Shp.cutTo_all]
    exact t4 rfl
  have HC := hasNeeded_any q base off p s c ar _ H2.out hs HF.out HN.out hc (fun e => ha (.inr e))
  rw [tf_true hHas] at HC
  have HCC := hide HC
  have HT : Hid (∀ W, SbAt W base q off p s → Calls Tryd.prog 49 #[.pointer (some ⟨q, off, none⟩), .int .i64 (takesOf c)] W (TurnsSb W base q off p (s.took (c : Int)))) := hide fun W hW => take_code q base off p s c W hW hs hc t1 t2
  have HA : Hid (∀ W p', base ≤ W.heap.size → SbAt W base q off p' (s.took (c : Int)) → Calls Tryd.prog 50 #[.pointer (some ⟨q, off, none⟩), .agg #[.int .i64 (c : Int), .int .i64 ar]] W (TurnsSb W base q off p' t)) := hide fun W p' hb hW => by
    rw [htt]
    exact act_code q base off p' (s.took (c : Int)) c ar W hW (took_small hs _) hb hc ha (fun e => t3 (by omega)) h15
  obtain ⟨e0, e1, e2, e3, e4, f0, f1, f2, f3, f4⟩ := H2.out.c
  have d0 := hlo.out.cell 0
  have d1 := hlo.out.cell 1
  simp only [List.getElem?_toArray, List.getElem?_cons_zero, List.getElem?_cons_succ] at d0 d1
  rw [hdf] at e4
  have hi0 : (0 : Int) ≤ (c : Int) := by omega
  have hi1 : (c : Int) < 20 := by omega
  have hbW : base ≤ (w.alloc (.cells #[.int .i64 (c : Int), .int .i64 ar] 44)).heap.size := by simp; omega
  have hwW : w.heap.size < (w.alloc (.cells #[.int .i64 (c : Int), .int .i64 ar] 44)).heap.size := by simp
  have hqo : w.heap.size ≠ q := by omega
  generalize s.took (c : Int) = s1 at HT HA
  clear h hs hF hN hB0 hr ha hdf t1 t2 t3 t4 hHas htt h15 HC
  go_enter Tryd.func42, Tryd.ntmps42
  go_upto_region 1 with fail
  generalize w.alloc (.cells #[.int .i64 (c : Int), .int .i64 ar] 44) = W at hB hlo H2 HF HN HCC hbW hwW e0 e1 e2 e3 e4 f0 f1 f2 f3 f4 d0 d1 ⊢
  go_wp2_with fail
  refine HCC.out.mono ?_
  rintro e w1 ⟨rfl, hb⟩
  have H3 := hide (H2.out.below hb)
  have HB3 := hide (hB.out.trans (hb.mono hB.out.size))
  have hlo3 := hlo.out.below hb hwW
  have hft := (HF.out.later hb (Nat.le_refl _)).takes c hc
  have hw1 : w.heap.size < w1.heap.size := Nat.lt_of_lt_of_le hwW hb.size
  have hb1 : base ≤ w1.heap.size := Nat.le_trans hbW hb.size
  have d0 := hlo3.cell 0
  have d1 := hlo3.cell 1
  simp only [List.getElem?_toArray, List.getElem?_cons_zero, List.getElem?_cons_succ] at d0 d1
  have Hlo3 := hide hlo3
  clear hb e0 e1 e2 e3 e4 f0 f1 f2 f3 f4 HCC H2 HF HN hB hlo hlo3
  go_wp2_with fail
  refine (HT.out _ H3.out).mono ?_
  rintro e w2 ⟨rfl, p2, hS2, hF2⟩
  have hblk := hF2.blk w.heap.size hw1 hqo hoffo
  have hlo4 : Lies w2 w.heap.size #[.int .i64 (c : Int), .int .i64 ar] 44 := hblk.trans Hlo3.out
  have d0 := hlo4.cell 0
  have d1 := hlo4.cell 1
  simp only [List.getElem?_toArray, List.getElem?_cons_zero, List.getElem?_cons_succ] at d0 d1
  have hb2 : base ≤ w2.heap.size := Nat.le_trans hb1 hF2.size
  have HF2 := hide hF2
  have HS2 := hide hS2
  clear hblk hlo4 hF2 hS2 hft HT H3
  go_wp2_with fail
  refine (HA.out _ p2 hb2 HS2.out).mono ?_
  rintro e w3 ⟨rfl, p3, hS3, hF3⟩
  have HE := hide (And.intro hS3 (((SbFr.of_below HB3.out hlt).trans HF2.out).trans hF3))
  clear hS3 hF3 HF2 HS2 HA
  go_wp2
  go_ret
  exact ⟨rfl, p3, HE.out.1, HE.out.2⟩

end Go.Proofs.YtochdhibmmohfaaDoor

namespace Go.Proofs.YtochdhibmmohfaaDoor
open Go.RowKit
set_option linter.unusedVariables false

theorem WFr.belowB {w w' : World} {D : Nat → Prop} {B : Nat} (h : WFr w w' D) (hB : ∀ b, D b → B ≤ b) (hw : B ≤ w.heap.size) : Below B w w' :=
  ⟨h.os, h.tape, h.output, h.size, fun k hk => h.blk k (Nat.lt_of_lt_of_le hk hw) (fun hd => by have := hB k hd; omega)⟩

theorem WatS.done {w wr : World} {D0 D : Nat → Prop} {q q2 k f : Nat} {p : ShPtr} {s : Shp} {J : Nat → (Nat → Prop) → World → Prop} {caps : Array Value} {os : List Od} (v0 v1 v2 v3 v4 : Value) (h : WatS w wr D0 q q2 p s k D J) (hw : Watcher f caps os J) :
    ShOwn (set5 wr q2 v0 v1 v2 v3 v4) w.heap.size p s ∧ J k D (set5 wr q2 v0 v1 v2 v3 v4) ∧ (∀ b, D b → p.Off b) ∧ (∀ b, b < w.heap.size → D b → D0 b) ∧ WFr w (set5 wr q2 v0 v1 v2 v3 v4) D0 := by
  refine ⟨h.sb.own.set5 h.off2, hw.kept _ _ _ _ h.j (fun b hd => set5_block (h.dq b hd).2.1) (by rw [set5_size]; exact Nat.le_refl _), fun b hd => (h.dq b hd).2.2, h.d0, ?_⟩
  have hb := set5_below (v0 := v0) (v1 := v1) (v2 := v2) (v3 := v3) (v4 := v4) (Below.refl q2 wr) (Nat.le_refl _)
  exact ⟨hb.os.trans h.fr.os, hb.tape.trans h.fr.tape, hb.output.trans h.fr.output, Nat.le_trans h.fr.size hb.size, fun b hb1 hb2 => (hb.block b (by have := h.h2; omega)).trans (h.fr.blk b hb1 hb2)⟩

set_option maxRecDepth 100000 in
set_option maxHeartbeats 4000000 in
theorem watched_any (A : Option Addr) (os : List Od) (c B : Nat) (f : Nat) (caps : Array Value) (J : Nat → (Nat → Prop) → World → Prop) (D0 : Nat → Prop) (w : World) (h : OpsAt w B A os) (hF : FormsAt w B) (hN : NeedsAt w B) (hok : OpsOk os)
    (hB : B ≤ w.heap.size) (hD : ∀ b, D0 b → B ≤ b) (hW : Watcher f caps os J) (hJ : J 0 D0 w) (hent : ∀ (args : Array Value) (W : World), (callFunc f args).run Tryd.prog W = .ok (.enter f args) W)
    (hcall : ∀ (k : Nat) (D : Nat → Prop) (W : World) (Ap : Option Addr) (cp : Nat), k < os.length → J k D W → IntsAt W W.heap.size Ap (stk os (k + 1)) → (∀ b, blockOf Ap = some b → ¬ D b) → Calls Tryd.prog f (#[.slice Ap (stk os (k + 1)).length cp] ++ caps) W (Watched W (k + 1) D J)) :
    Calls Tryd.prog 29 #[.slice A os.length c, .func (.func f) #[] caps] w (GivesWat w D0 J (runShp Shp.new os)) := by
  obtain ⟨hl3, hall⟩ := hok
  have Hok := hide hall
  have hok2 := hide (show OpsOk os from ⟨hl3, hall⟩)
  obtain ⟨R, hR⟩ : ∃ R, R = runShp Shp.new os := ⟨_, rfl⟩
  have HC0 := hide (Came.start os)
  rw [← hR] at HC0 ⊢
  clear hR hall
  have HW := hide hW
  have HJ := hide hJ
  have HD := hide hD
  have HCall := hide hcall
  have hB0 := (Below.refl w.heap.size w).alloc (Nat.le_refl _) (.cells zero5 39)
  have HB0 := hide hB0
  have L0 := hide (Lies.new w zero5 39)
  have h1 := h.later (hB0.mono hB) hB
  have hF1 := hF.later (hB0.mono hB) hB
  have HV := hide (implValidOps_any A os c _ h1 hF1)
  have hq2 : w.heap.size < (w.alloc (.cells zero5 39)).heap.size := by simp
  have Ht := hide (show tf (OpsOk os) = true from tf_true hok2.out)
  clear hW hJ hD hcall hB0 h1 hF1
  go_enter Tryd.func29, Tryd.ntmps29
  go_upto_region 1 with fail
  unfold zero5 at HB0 L0 HV hq2
  generalize w.alloc (.cells #[.slice none 0 0, .slice none 0 0, .slice none 0 0, .slice none 0 0, .bool false] 39) = W0 at HB0 L0 HV hq2 ⊢
  go_wp2_with fail
  refine HV.out.mono ?_
  rw [Ht.out]
  clear HV
  rintro e w1 ⟨rfl, hb1⟩
  have HB1 := hide (HB0.out.trans (hb1.mono (by omega)))
  have hq21 : w.heap.size < w1.heap.size := Nat.lt_of_lt_of_le hq2 hb1.size
  have L1 := hide (Lies.below (show Lies W0 w.heap.size zero5 39 from L0.out) hb1 hq2)
  clear hb1 HB0 L0 hq2
  go_wp2_with fail
  refine (implNewShapes_any w1).mono ?_
  rintro e w2 ⟨p1, rfl, ho1, hb2⟩
  obtain ⟨s0, hs0⟩ : ∃ s, s = Shp.new := ⟨_, rfl⟩
  have Hs0 := hide hs0
  rw [← hs0] at ho1 HC0 ⊢
  clear hs0
  have hsz := hb2.size
  have HS0 := hide (show WatS w (w2.alloc (.cells (shCells p1 s0) 39)) D0 w2.heap.size w.heap.size p1 s0 0 D0 J from by
    have hbw : Below w.heap.size w w2 := HB1.out.trans (hb2.mono (by omega))
    have hbx : Below w.heap.size w (w2.alloc (.cells (shCells p1 s0) 39)) := hbw.alloc (by omega) _
    have hlt := HW.out.lt _ _ _ HJ.out
    refine ⟨(ShBox.new (ho1.mono (by omega))).sb, (L1.out.below hb2 hq21).alloc _, ho1.off (.inl hq21), by omega, by omega, Nat.le_refl _, HW.out.kept _ _ _ _ HJ.out (fun b hd => hbx.block b (hlt b hd)) hbx.size, fun b hd => ?_, fun b _ hd => hd, WFr.of_below _ hbx⟩
    have := hlt b hd
    exact ⟨by omega, by omega, ho1.off (.inl (by omega))⟩)
  have hw1 : w.heap.size < w2.heap.size := by omega
  clear ho1 hb2 L1 HB1 HJ
  simp only [shVal, shCells] at HS0 ⊢
  go_upto_region 4 with fail
  generalize w2.alloc (.cells #[.slice p1.K s0.kinds.length p1.c1, .slice p1.F s0.full.length p1.c2, .slice p1.S s0.stack.length p1.c3, .slice p1.M s0.memo.length p1.c4, .bool s0.done] 39) = w3 at HS0 ⊢
  generalize w2.heap.size = q at HS0 hw1 ⊢
  generalize hQ2 : w.heap.size = q2 at hw1 ⊢
  have HQ2 := hide hQ2
  rw [hQ2] at HS0
  clear hQ2 hq21 hsz
  go_wp2_with fail
  go_loopg [16] os.length (fun gk iv wr => ∃ (k : Nat) (p : ShPtr) (s : Shp) (D : Nat → Prop), gk = os.length - k ∧ iv = .int .i64 (k : Int) ∧ WatS w wr D0 q q2 p s k D J ∧ Came os R k s)
  case atStart => exact ⟨0, p1, s0, D0, rfl, rfl, HS0.out, HC0.out⟩
  case round =>
    clear HS0 HC0
    obtain ⟨k, p, s, D, rfl, rfl, hS, hC⟩ := hrel
    have HS := hide hS
    have HC := hide hC
    have hk := hC.le
    clear hS hC
    by_cases hlt : k < os.length
    · have Hbel := HS.out.fr.belowB HD.out hB
      obtain ⟨b, off, o, rfl, hbl, hx, hmem, hc0, hc1⟩ := (h.below Hbel).at_ hlt
      have HO := Hok.out o hmem
      have Hod := hide HO
      obtain ⟨cd, ar⟩ := o
      obtain ⟨⟨ho1, ho2⟩, ho3, ho4⟩ := (OdOk.iff _).1 HO
      simp only at hc0 hc1 ho1 ho2 ho3 ho4
      clear HO
      obtain ⟨cn, rfl⟩ := Int.eq_ofNat_of_zero_le ho1
      have hcn : cn < 20 := by omega
      have har : cn = 15 ∨ cn = 16 → 0 ≤ ar ∧ ar < 20 := fun hh => ⟨ho3, by rcases hh with rfl | rfl <;> simp [argTop, argMost] at ho4 <;> omega⟩
      have Hx := hide hx
      have hk1 : (0 : Int) ≤ (k : Int) := by omega
      have hk2 : (k : Int) < (os.length : Int) := by omega
      have hB2 := hide (Hbel.alloc (Nat.le_trans hB Hbel.size) (.cells #[.int .i64 (cn : Int), .int .i64 ar] 44))
      have lo := Lies.new wr #[.int .i64 (cn : Int), .int .i64 ar] 44
      have HS2 := hide (HS.out.below HW.out ((Below.refl _ _).alloc (Nat.le_refl _) (.cells #[.int .i64 (cn : Int), .int .i64 ar] 44)))
      clear hx hmem ho1 ho2 ho3 ho4 Hbel HS
      go_upto_region 7 with fail
      generalize wr.alloc (.cells #[.int .i64 (cn : Int), .int .i64 ar] 44) = X at hB2 lo HS2 ⊢
      have d0 := lo.cell 0
      have d1 := lo.cell 1
      simp only [List.getElem?_toArray, List.getElem?_cons_zero, List.getElem?_cons_succ] at d0 d1
      clear lo hc0 hc1
      have Hsm := hide (HC.out.small hl3)
      have hbX : w.heap.size ≤ X.heap.size := HS2.out.fr.size
      have HFX := hide (hF.later hB2.out hB)
      have HNX := hide (hN.later hB2.out hB)
      cases hst : stepFree s ⟨(cn : Int), ar⟩ with
      | none =>
        have hRe := HC.out.stop Hx.out hst
        go_wp2_with fail
        refine (step_no q w.heap.size 0 p s cn ar X HS2.out.sb Hsm.out hbX HFX.out HNX.out hcn har hst).mono ?_
        rintro e wn ⟨rfl, pn, hSn, hFn⟩
        have HSn := hide (HS2.out.step HW.out hSn hFn)
        clear hSn hFn HS2 hst
        obtain ⟨e0, e1, e2, e3, e4, _, _, _, _, _⟩ := HSn.out.sb.c
        obtain ⟨r0, r1, r2, r3, r4, f0, f1, f2, f3, f4, s0, s1, s2, s3, s4⟩ := (Lies.set5 (show Lies wn q2 #[.slice none 0 0, .slice none 0 0, .slice none 0 0, .slice none 0 0, .bool false] 39 from HSn.out.res) (.slice pn.K s.kinds.length pn.c1) (.slice pn.F s.full.length pn.c2) (.slice pn.S s.stack.length pn.c3) (.slice pn.M s.memo.length pn.c4) (.bool s.done)).1
        simp only [Nat.zero_add] at e0 e1 e2 e3 e4
        have HRe := hide hRe
        clear hRe
        go_wp2
        refine bodyPost_ret (v := .tuple #[shVal pn s, .int .i64 (k : Int)]) (by simp [shVal, shCells, results, Tryd.results29, go_sem, s0, s1, s2, s3, s4]) rfl ?_
        rw [HRe.out]
        exact ⟨pn, D, rfl, HSn.out.done _ _ _ _ _ HW.out⟩
      | some t =>
        obtain ⟨hC2, hts⟩ := HC.out.next hl3 Hx.out Hod.out hst
        go_wp2_with fail
        refine (step_yes q w.heap.size 0 p s t cn ar X HS2.out.sb Hsm.out hbX HFX.out HNX.out hcn har hst).mono ?_
        rintro e wn ⟨rfl, pn, hSn, hFn⟩
        have HSn := hide (HS2.out.step HW.out hSn hFn)
        have hcc := HCall.out k D wn pn.S pn.c3 hlt HSn.out.j (by rw [← hts]; exact (HSn.out.sb.own.at_ (hC2.small hl3)).t) (fun b hb hd => (HSn.out.dq b hd).2.2.t hb)
        rw [← hts] at hcc
        have HCC := hide hcc
        have HC2 := hide hC2
        have e2 := HSn.out.sb.c.c2
        simp only [Nat.zero_add] at e2
        clear hSn hFn HS2 hst hcc hts hC2
        go_wp2_with fail
        refine HCC.out.mono ?_
        clear HCC
        rintro e w5 ⟨rfl, D', hJ', hd', hf'⟩
        have HS5 := hide (HSn.out.watched HW.out hJ' hd' hf')
        clear hJ' hd' hf' HSn
        go_wp2
        go_roundg (os.length - (k + 1))
        case measure => omega
        case rel => exact ⟨k + 1, pn, t, D', rfl, by go_num, HS5.out, HC2.out⟩
    · obtain rfl : k = os.length := by omega
      have hRe := HC.out.all
      obtain ⟨pn, hpn⟩ : ∃ p', p' = p := ⟨_, rfl⟩
      subst hpn
      obtain ⟨wn, hwn⟩ : ∃ w', w' = wr := ⟨_, rfl⟩
      subst hwn
      have HSn := HS
      obtain ⟨e0, e1, e2, e3, e4, _, _, _, _, _⟩ := HSn.out.sb.c
      obtain ⟨r0, r1, r2, r3, r4, f0, f1, f2, f3, f4, s0, s1, s2, s3, s4⟩ := (Lies.set5 (show Lies wn q2 #[.slice none 0 0, .slice none 0 0, .slice none 0 0, .slice none 0 0, .bool false] 39 from HSn.out.res) (.slice pn.K s.kinds.length pn.c1) (.slice pn.F s.full.length pn.c2) (.slice pn.S s.stack.length pn.c3) (.slice pn.M s.memo.length pn.c4) (.bool s.done)).1
      simp only [Nat.zero_add] at e0 e1 e2 e3 e4
      have HRe := hide hRe
      clear hRe
      go_wp2
      refine bodyPost_ret (v := .tuple #[shVal pn s, .int .i64 (os.length : Int)]) (by simp [shVal, shCells, results, Tryd.results29, go_sem, s0, s1, s2, s3, s4]) rfl ?_
      rw [HRe.out]
      exact ⟨pn, D, rfl, HSn.out.done _ _ _ _ _ HW.out⟩

end Go.Proofs.YtochdhibmmohfaaDoor
