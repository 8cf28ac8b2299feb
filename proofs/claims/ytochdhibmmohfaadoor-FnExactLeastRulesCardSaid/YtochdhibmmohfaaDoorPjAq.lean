/-
  Lemmas, several texts in one: ShO, DpI.
-/
import Derived.Test.YtochdhibmmohfaaDoorPjAp
import Derived.Test.YtochdhibmmohfaaDoorPjAe
import Derived.Test.YtochdhibmmohfaaDoorPjAn
import Derived.Test.YtochdhibmmohfaaDoorPjAj
namespace Go.Proofs.YtochdhibmmohfaaDoor
open Go.RowKit
set_option linter.unusedVariables false

set_option maxRecDepth 100000 in
set_option maxHeartbeats 1000000 in
theorem noWatch_any (A : Option Addr) (xs : List Int) (c : Nat) (w : World) : Calls Tryd.prog 30 #[.slice A xs.length c] w fun e w' => e = .returned (.tuple #[]) ∧ w = w' := by
  go_enter Tryd.func30, Tryd.ntmps30
  go_wp2
  go_end0
  exact ⟨rfl, rfl⟩

theorem enter_no (args : Array Value) (W : World) : (callFunc 30 args).run Tryd.prog W = .ok (.enter 30 args) W := by
  kernel_rfl

theorem watched_no (A : Option Addr) (os : List Od) (c : Nat) (w : World) (h : OpsAt w w.heap.size A os) (hF : FormsAt w w.heap.size) (hN : NeedsAt w w.heap.size) (hok : OpsOk os) :
    Calls Tryd.prog 29 #[.slice A os.length c, .func (.func 30) #[] #[]] w (GivesRun w (runShp Shp.new os)) := by
  refine (watched_any A os c w.heap.size 30 #[] (fun _ D _ => ∀ b, ¬ D b) (fun _ => False) w h hF hN hok (Nat.le_refl _) (fun b hb => hb.elim) ⟨fun k D W W' hJ _ _ => hJ, fun k D W hJ b hb => (hJ b hb).elim⟩ (fun b hb => hb) enter_no (fun k D W Ap cp hk hJ hI hA => ?_)).mono fun e w' hE => ?_
  · refine (noWatch_any Ap _ cp W).mono ?_
    rintro e W' ⟨rfl, rfl⟩
    exact ⟨rfl, D, hJ, fun b _ hb => hb, WFr.refl _ _⟩
  · obtain ⟨p, D, rfl, ho, hJ, _, _, hf⟩ := hE
    exact ⟨p, rfl, ho, hf.below⟩

set_option maxRecDepth 100000 in
set_option maxHeartbeats 1000000 in
theorem implShapesOf_ok (A : Option Addr) (os : List Od) (c : Nat) (w : World) (h : OpsAt w w.heap.size A os) (hF : FormsAt w w.heap.size) (hN : NeedsAt w w.heap.size) (hok : OpsOk os) :
    Calls Tryd.prog 18 #[.slice A os.length c] w (GivesRun w (runShp Shp.new os)) := by
  have hB0 := (Below.refl w.heap.size w).alloc (Nat.le_refl _) (.cells zero5 39)
  have HB0 := hide hB0
  have L0 := hide (Lies.new w zero5 39)
  have HC := hide (watched_no A os c _ (h.later hB0 (Nat.le_refl _)) (hF.later hB0 (Nat.le_refl _)) (hN.later hB0 (Nat.le_refl _)) hok)
  obtain ⟨R, hR⟩ : ∃ R, R = runShp Shp.new os := ⟨_, rfl⟩
  rw [← hR] at HC ⊢
  clear hB0 hR
  obtain ⟨s, n⟩ := R
  go_enter Tryd.func18, Tryd.ntmps18
  go_upto_region 1 with fail
  unfold zero5 at HB0 L0 HC
  have hlt := L0.out.lt
  generalize w.alloc (.cells #[.slice none 0 0, .slice none 0 0, .slice none 0 0, .slice none 0 0, .bool false] 39) = W at HB0 L0 HC hlt ⊢
  go_wp2_with (go_at_call 29; refine HC.out.mono ?_; rintro e w2 ⟨p, rfl, ho, hb⟩; simp only [shVal, shCells]; have hS := Lies.below L0.out hb hlt; obtain ⟨⟨r0, r1, r2, r3, r4, f0, f1, f2, f3, f4, s0, s1, s2, s3, s4⟩, hlf⟩ := Lies.set5 hS (.slice p.K s.kinds.length p.c1) (.slice p.F s.full.length p.c2) (.slice p.S s.stack.length p.c3) (.slice p.M s.memo.length p.c4) (.bool s.done); have HS := hide hS; clear hS; have HO := hide (And.intro ho hb); clear ho hb hlf)
  refine bodyPost_ret (v := .tuple #[shVal p s, .int .i64 (n : Int)]) (by simp [shVal, shCells, results, Tryd.results18, go_sem, s0, s1, s2, s3, s4]) rfl ?_
  obtain ⟨ho, hb⟩ := HO.out
  have hsz := HB0.out.size
  exact ⟨p, rfl, (ho.set5 (ho.off (.inl hlt))).mono hsz, set5_below (HB0.out.trans (hb.mono hsz)) (Nat.le_refl _)⟩

set_option maxRecDepth 100000 in
set_option maxHeartbeats 1000000 in
theorem implShapesOf_bad (A : Option Addr) (os : List Od) (c : Nat) (w : World) (h : OpsAt w w.heap.size A os) (hF : FormsAt w w.heap.size) (hok : ¬ OpsOk os) :
    Calls Tryd.prog 18 #[.slice A os.length c] w (GivesNoRun w) := by
  have hB0 := (Below.refl w.heap.size w).alloc (Nat.le_refl _) (.cells zero5 39)
  have HB0 := hide hB0
  have L0 := hide (Lies.new w zero5 39)
  have HC := hide (watched_bad A os c (.func (.func 30) #[] #[]) _ (h.later hB0 (Nat.le_refl _)) (hF.later hB0 (Nat.le_refl _)) hok)
  clear hB0 hok
  go_enter Tryd.func18, Tryd.ntmps18
  go_upto_region 1 with fail
  unfold zero5 at HB0 L0 HC
  have hlt := L0.out.lt
  generalize w.alloc (.cells #[.slice none 0 0, .slice none 0 0, .slice none 0 0, .slice none 0 0, .bool false] 39) = W at HB0 L0 HC hlt ⊢
  go_wp2_with (go_at_call 29; refine HC.out.mono ?_; rintro e w2 ⟨rfl, hb⟩; simp only [shVal, shCells, ShPtr.nil, Shp.zero, List.length_nil]; have hS := Lies.below L0.out hb hlt; obtain ⟨⟨r0, r1, r2, r3, r4, f0, f1, f2, f3, f4, s0, s1, s2, s3, s4⟩, hlf⟩ := Lies.set5 hS (.slice none 0 0) (.slice none 0 0) (.slice none 0 0) (.slice none 0 0) (.bool false); have HB := hide (set5_below (v0 := .slice none 0 0) (v1 := .slice none 0 0) (v2 := .slice none 0 0) (v3 := .slice none 0 0) (v4 := .bool false) (HB0.out.trans (hb.mono HB0.out.size)) (Nat.le_refl _)); clear hS hb hlf)
  refine bodyPost_ret (v := .tuple #[shVal ShPtr.nil Shp.zero, .int .i64 (-1)]) (by simp [shVal, shCells, ShPtr.nil, Shp.zero, results, Tryd.results18, go_sem, s0, s1, s2, s3, s4]) rfl ?_
  exact ⟨rfl, HB.out⟩

end Go.Proofs.YtochdhibmmohfaaDoor

namespace Go.Proofs.YtochdhibmmohfaaDoor
open Go.RowKit
set_option linter.unusedVariables false

set_option maxRecDepth 100000 in
set_option maxHeartbeats 1000000 in
theorem depWatch_any (base bc k : Nat) (os : List Od) (D : Nat → Prop) (Ap : Option Addr) (cp : Nat) (W : World) (hJ : Coll base bc List.length os k D W) (hbase : base ≤ W.heap.size) (hn : (stk os (k + 1)).length ≤ 300) (hk : k ≤ 300) :
    Calls Tryd.prog 31 (#[.slice Ap (stk os (k + 1)).length cp] ++ #[.pointer (some ⟨bc, 0, none⟩)]) W (Watched W (k + 1) D (Coll base bc List.length os)) := by
  obtain ⟨A, c, hl, ho, hA, hD⟩ := hJ
  have hs := toldOf_succ List.length os k
  have hxl := toldOf_len List.length os k
  obtain ⟨xs, hxs⟩ : ∃ xs, xs = toldOf List.length os k := ⟨_, rfl⟩
  rw [← hxs] at hs hxl ho
  rw [← hxl] at hl
  have hc := hl.cell 0
  have hf := hl.frozen 0
  simp only [List.getElem?_toArray, List.getElem?_cons_zero] at hc
  have hl2 : xs.length ≤ 300 := by omega
  have Hs := hide hs
  have Hxl := hide hxl
  have HL := hide hl
  have HO := hide ho
  have HD := hide hD
  clear hs hxl hl ho hD hxs
  generalize hN : (stk os (k + 1)).length = n at hn Hs
  clear hN
  show Calls _ _ #[.slice Ap n cp, .pointer (some ⟨bc, 0, none⟩)] _ _
  go_enter Tryd.func31, Tryd.ntmps31
  go_wp2_with (at_builtin; refine append_ints rfl (.tmp 3) (.tmp 6) rfl base A c xs rfl (HO.out.alloc _) _ _ 1 [(n : Int)] rfl (fun e => by cases e) (IntsAt.oneN _ W.heap.size (n : Int) (by constructor <;> omega) rfl) (by simp <;> omega) (by simp <;> omega) ?_; intro zs A5 c5 w5 hz5 ho5 hg5 ha5; have hc5 : w5.cell? ⟨bc, 0, none⟩ = some (.slice A xs.length c) := (hg5.cell_far _ (by have := HL.out.lt; simp; omega) (fun e => hA e.symm)).trans ((World.cell?_alloc_some _ _ _ (Option.isSome_iff_exists.2 ⟨_, hc⟩)).trans hc); have hf5 : w5.frozen? ⟨bc, 0, none⟩ = false := (hg5.frozen_far _ (by have := HL.out.lt; simp; omega) (fun e => hA e.symm)).trans (Lies.frozen (HL.out.alloc _) 0))
  go_end0
  have hL := HL.out
  rw [Hxl.out] at hL
  exact Coll.next hL hA HD.out (by rw [hz5.out, Hs.out]) ho5 hg5 ha5

theorem enter_dep (args : Array Value) (W : World) : (callFunc 31 args).run Tryd.prog W = .ok (.enter 31 args) W := by
  kernel_rfl

set_option maxRecDepth 100000 in
set_option maxHeartbeats 1000000 in
theorem implDepthsOf_any (A : Option Addr) (os : List Od) (c : Nat) (w : World) (h : OpsAt w w.heap.size A os) (hF : FormsAt w w.heap.size) (hN : NeedsAt w w.heap.size) :
    Calls Tryd.prog 19 #[.slice A os.length c] w (GivesInts w (depthsOf os)) := by
  have hB0 := (Below.refl w.heap.size w).alloc (Nat.le_refl _) (.cells #[.slice none 0 0] 24)
  have HB0 := hide hB0
  have L0 := hide (Lies.new w #[.slice none 0 0] 24)
  have hsz : w.heap.size ≤ (w.alloc (.cells #[.slice none 0 0] 24)).heap.size := hB0.size
  by_cases hok : OpsOk os
  · have HV := hide (show depthsOf os = toldOf List.length os (runShp Shp.new os).2 by unfold depthsOf; rw [if_pos hok])
    have HC := hide (watched_any A os c w.heap.size 31 #[.pointer (some ⟨w.heap.size, 0, none⟩)] (Coll w.heap.size w.heap.size List.length os) (fun b => b = w.heap.size ∨ blockOf none = some b) _ (h.below hB0) (hF.below hB0) (hN.below hB0) hok hsz
      (fun b hb => by rcases hb with rfl | hb; exact Nat.le_refl _; cases hb) (Coll.watcher _ _ _ _ _ _)
      ⟨none, 0, L0.out, OwnI.empty _ _, by simp [blockOf], fun b => Iff.rfl⟩ enter_dep
      (fun k D W Ap cp hk hJ hI hA => depWatch_any w.heap.size w.heap.size k os D Ap cp W hJ (by obtain ⟨A9, c9, hl9, _⟩ := hJ; have := hl9.lt; omega) (stk_le hok.2 _) (by have := hok.1; omega)))
    obtain ⟨R, hR⟩ : ∃ R, R = runShp Shp.new os := ⟨_, rfl⟩
    rw [← hR] at HC HV
    obtain ⟨s, n⟩ := R
    rw [HV.out]
    clear hR hok hB0 HV h hF hN
    go_enter Tryd.func19, Tryd.ntmps19
    go_upto_region 2 with fail
    generalize w.alloc (.cells #[.slice none 0 0] 24) = W at HB0 L0 HC hsz ⊢
    go_wp2_with (go_at_call 29; refine HC.out.mono ?_; rintro e w2 ⟨p, D, rfl, ho, ⟨A2, c2, hl2, hown2, hA2, hD2⟩, _, _, hf⟩; have hcc := hl2.cell 0; simp only [List.getElem?_toArray, List.getElem?_cons_zero] at hcc; have HX := hide (And.intro hown2 (HB0.out.trans (hf.belowB (B := w.heap.size) (fun b hb => by rcases hb with rfl | hb; exact Nat.le_refl _; cases hb) hsz))); clear ho hl2 hown2 hD2 hf)
    go_ret
    refine ⟨A2, c2, ?_, HX.out.1, HX.out.2⟩
    rw [toldOf_len]
    rfl
  · have HV := hide (show depthsOf os = [] by unfold depthsOf; rw [if_neg hok])
    have HC := hide (watched_bad A os c (.func (.func 31) #[] #[.pointer (some ⟨w.heap.size, 0, none⟩)]) _ (h.later hB0 (Nat.le_refl _)) (hF.later hB0 (Nat.le_refl _)) hok)
    rw [HV.out]
    clear hok hB0 HV h hF hN
    go_enter Tryd.func19, Tryd.ntmps19
    go_upto_region 2 with fail
    have hlt := L0.out.lt
    generalize w.alloc (.cells #[.slice none 0 0] 24) = W at HB0 L0 HC hsz hlt ⊢
    go_wp2_with (go_at_call 29; refine HC.out.mono ?_; rintro e w2 ⟨rfl, hb⟩; have hcc := (L0.out.below hb hlt).cell 0; simp only [List.getElem?_toArray, List.getElem?_cons_zero] at hcc; have HX := hide (HB0.out.trans (hb.mono hsz)); clear hb)
    go_ret
    exact ⟨none, 0, rfl, OwnI.empty _ _, HX.out⟩

end Go.Proofs.YtochdhibmmohfaaDoor
