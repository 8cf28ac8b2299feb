/-
  Lemmas, several texts in one: ShpM, InR, ShO, CutI, KeepO.
-/
import Derived.Test.YtgjokdfjngpmcaaDoorShpMa
import Derived.Test.YtgjokdfjngpmcaaDoorShpMb
import Derived.Test.YtgjokdfjngpmcaaDoorShpMc
import Derived.Test.YtgjokdfjngpmcaaDoorShpMd
import Derived.Test.YtgjokdfjngpmcaaDoorMem
import Derived.Test.YtgjokdfjngpmcaaDoorPjAp
import Derived.Test.YtgjokdfjngpmcaaDoorPjAn
import Derived.Test.YtgjokdfjngpmcaaDoorPjAd
import Derived.Test.YtgjokdfjngpmcaaDoorPjAm
import Derived.Test.YtgjokdfjngpmcaaDoorPjAo
import Derived.Test.YtgjokdfjngpmcaaDoorPjAf
namespace Go.Proofs.YtgjokdfjngpmcaaDoor
open Go.RowKit

theorem markShapes_any (p : ShPtr) (s : Shp) (c : Int) (base : Nat) (w : World) (h : ShOwn w base p s) (hbase : base ≤ w.heap.size) (hs : s.Small) (hc : IsMarkOp c) :
    Calls Tryd.prog 27 #[shVal p s, .int .i64 c] w (TriesSh w p base (markStep s c)) := by
  rcases hc with rfl | rfl | rfl | rfl
  · exact markShapes_3 p s base w h hbase hs
  · exact markShapes_9 p s base w h hbase hs
  · exact markShapes_12 p s base w h hbase hs
  · exact markShapes_18 p s base w h hbase hs

end Go.Proofs.YtgjokdfjngpmcaaDoor

namespace Go.Proofs.YtgjokdfjngpmcaaDoor
open Go.RowKit

theorem inRange_yes (n lo hi : Int) (w : World) (h1 : lo ≤ n) (h2 : n ≤ hi) :
    Calls Tryd.prog 24 #[.int .i64 n, .int .i64 lo, .int .i64 hi] w fun e w' => e = .returned (.bool true) ∧ w = w' := by
  have d1 : decide (lo ≤ n) = true := by simpa using h1
  have d2 : decide (n ≤ hi) = true := by simpa using h2
  go_enter Tryd.func24, Tryd.ntmps24
  go_wp2
  go_ret
  exact ⟨rfl, rfl⟩

theorem inRange_no (n lo hi : Int) (w : World) (h : n < lo ∨ hi < n) :
    Calls Tryd.prog 24 #[.int .i64 n, .int .i64 lo, .int .i64 hi] w fun e w' => e = .returned (.bool false) ∧ w = w' := by
  by_cases h1 : lo ≤ n
  · have h2 : ¬ n ≤ hi := by omega
    have d1 : decide (lo ≤ n) = true := by simpa using h1
    have d2 : decide (n ≤ hi) = false := by simpa using h2
    clear h
    go_enter Tryd.func24, Tryd.ntmps24
    go_wp2
    go_ret
    exact ⟨rfl, rfl⟩
  · have d1 : decide (lo ≤ n) = false := by simpa using h1
    clear h
    go_enter Tryd.func24, Tryd.ntmps24
    go_wp2
    go_ret
    exact ⟨rfl, rfl⟩

end Go.Proofs.YtgjokdfjngpmcaaDoor

namespace Go.Proofs.YtgjokdfjngpmcaaDoor
open Go.RowKit
set_option linter.unusedVariables false

set_option maxRecDepth 100000 in
set_option maxHeartbeats 1000000 in
theorem noWatch_any (A : Option Addr) (xs : List Int) (c : Nat) (w : World) : Calls Tryd.prog 22 #[.slice A xs.length c] w fun e w' => e = .returned (.tuple #[]) ∧ w = w' := by
  go_enter Tryd.func22, Tryd.ntmps22
  go_wp2
  go_end0
  exact ⟨rfl, rfl⟩

theorem enter_no (args : Array Value) (W : World) : (callFunc 22 args).run Tryd.prog W = .ok (.enter 22 args) W := by
  kernel_rfl

theorem watched_no (A : Option Addr) (os : List Od) (c : Nat) (w : World) (h : OpsAt w w.heap.size A os) (hF : FormsAt w w.heap.size) (hN : NeedsAt w w.heap.size) (hok : OpsOk os) :
    Calls Tryd.prog 21 #[.slice A os.length c, .func (.func 22) #[] #[]] w (GivesRun w (runShp Shp.new os)) := by
  refine (watched_any A os c w.heap.size 22 #[] (fun _ D _ => ∀ b, ¬ D b) (fun _ => False) w h hF hN hok (Nat.le_refl _) (fun b hb => hb.elim) ⟨fun k D W W' hJ _ _ => hJ, fun k D W hJ b hb => (hJ b hb).elim⟩ (fun b hb => hb) enter_no (fun k D W Ap cp hk hJ hI hA => ?_)).mono fun e w' hE => ?_
  · refine (noWatch_any Ap _ cp W).mono ?_
    rintro e W' ⟨rfl, rfl⟩
    exact ⟨rfl, D, hJ, fun b _ hb => hb, WFr.refl _ _⟩
  · obtain ⟨p, D, rfl, ho, hJ, _, _, hf⟩ := hE
    exact ⟨p, rfl, ho, hf.below⟩

set_option maxRecDepth 100000 in
set_option maxHeartbeats 1000000 in
theorem implShapesOf_ok (A : Option Addr) (os : List Od) (c : Nat) (w : World) (h : OpsAt w w.heap.size A os) (hF : FormsAt w w.heap.size) (hN : NeedsAt w w.heap.size) (hok : OpsOk os) :
    Calls Tryd.prog 14 #[.slice A os.length c] w (GivesRun w (runShp Shp.new os)) := by
  have hB0 := (Below.refl w.heap.size w).alloc (Nat.le_refl _) (.cells zero5 34)
  have HB0 := hide hB0
  have L0 := hide (Lies.new w zero5 34)
  have HC := hide (watched_no A os c _ (h.later hB0 (Nat.le_refl _)) (hF.later hB0 (Nat.le_refl _)) (hN.later hB0 (Nat.le_refl _)) hok)
  obtain ⟨R, hR⟩ : ∃ R, R = runShp Shp.new os := ⟨_, rfl⟩
  rw [← hR] at HC ⊢
  clear hB0 hR
  obtain ⟨s, n⟩ := R
  go_enter Tryd.func14, Tryd.ntmps14
  go_upto_region 1 with fail
  unfold zero5 at HB0 L0 HC
  have hlt := L0.out.lt
  generalize w.alloc (.cells #[.slice none 0 0, .slice none 0 0, .slice none 0 0, .slice none 0 0, .bool false] 34) = W at HB0 L0 HC hlt ⊢
  go_wp2_with (go_at_call 21; refine HC.out.mono ?_; rintro e w2 ⟨p, rfl, ho, hb⟩; simp only [shVal, shCells]; have hS := Lies.below L0.out hb hlt; obtain ⟨⟨r0, r1, r2, r3, r4, f0, f1, f2, f3, f4, s0, s1, s2, s3, s4⟩, hlf⟩ := Lies.set5 hS (.slice p.K s.kinds.length p.c1) (.slice p.F s.full.length p.c2) (.slice p.S s.stack.length p.c3) (.slice p.M s.memo.length p.c4) (.bool s.done); have HS := hide hS; clear hS; have HO := hide (And.intro ho hb); clear ho hb hlf)
  refine bodyPost_ret (v := .tuple #[shVal p s, .int .i64 (n : Int)]) (by simp [shVal, shCells, results, Tryd.results14, go_sem, s0, s1, s2, s3, s4]) rfl ?_
  obtain ⟨ho, hb⟩ := HO.out
  have hsz := HB0.out.size
  exact ⟨p, rfl, (ho.set5 (ho.off (.inl hlt))).mono hsz, set5_below (HB0.out.trans (hb.mono hsz)) (Nat.le_refl _)⟩

set_option maxRecDepth 100000 in
set_option maxHeartbeats 1000000 in
theorem implShapesOf_bad (A : Option Addr) (os : List Od) (c : Nat) (w : World) (h : OpsAt w w.heap.size A os) (hF : FormsAt w w.heap.size) (hok : ¬ OpsOk os) :
    Calls Tryd.prog 14 #[.slice A os.length c] w (GivesNoRun w) := by
  have hB0 := (Below.refl w.heap.size w).alloc (Nat.le_refl _) (.cells zero5 34)
  have HB0 := hide hB0
  have L0 := hide (Lies.new w zero5 34)
  have HC := hide (watched_bad A os c (.func (.func 22) #[] #[]) _ (h.later hB0 (Nat.le_refl _)) (hF.later hB0 (Nat.le_refl _)) hok)
  clear hB0 hok
  go_enter Tryd.func14, Tryd.ntmps14
  go_upto_region 1 with fail
  unfold zero5 at HB0 L0 HC
  have hlt := L0.out.lt
  generalize w.alloc (.cells #[.slice none 0 0, .slice none 0 0, .slice none 0 0, .slice none 0 0, .bool false] 34) = W at HB0 L0 HC hlt ⊢
  go_wp2_with (go_at_call 21; refine HC.out.mono ?_; rintro e w2 ⟨rfl, hb⟩; simp only [shVal, shCells, ShPtr.nil, Shp.zero, List.length_nil]; have hS := Lies.below L0.out hb hlt; obtain ⟨⟨r0, r1, r2, r3, r4, f0, f1, f2, f3, f4, s0, s1, s2, s3, s4⟩, hlf⟩ := Lies.set5 hS (.slice none 0 0) (.slice none 0 0) (.slice none 0 0) (.slice none 0 0) (.bool false); have HB := hide (set5_below (v0 := .slice none 0 0) (v1 := .slice none 0 0) (v2 := .slice none 0 0) (v3 := .slice none 0 0) (v4 := .bool false) (HB0.out.trans (hb.mono HB0.out.size)) (Nat.le_refl _)); clear hS hb hlf)
  refine bodyPost_ret (v := .tuple #[shVal ShPtr.nil Shp.zero, .int .i64 (-1)]) (by simp [shVal, shCells, ShPtr.nil, Shp.zero, results, Tryd.results14, go_sem, s0, s1, s2, s3, s4]) rfl ?_
  exact ⟨rfl, HB.out⟩

end Go.Proofs.YtgjokdfjngpmcaaDoor

namespace Go.Proofs.YtgjokdfjngpmcaaDoor
open Go.RowKit
set_option linter.unusedVariables false

set_option maxRecDepth 100000 in
set_option maxHeartbeats 1000000 in
theorem implCutOps_any (A : Option Addr) (os : List Od) (c : Nat) (w : World) (h : OpsAt w w.heap.size A os) (hnil : A = none → c = 0) (hcap : os.length ≤ c) (hF : FormsAt w w.heap.size) (hN : NeedsAt w w.heap.size) :
    Calls Tryd.prog 7 #[.slice A os.length c] w (GivesOw w (cutOf os)) := by
  by_cases hok : OpsOk os
  · have HC := hide (implShapesOf_ok A os c w h hF hN hok)
    have hn := (runNew_le hok.2).2.2
    have hl := hok.1
    rw [cutOf_ok hok]
    obtain ⟨R, hR⟩ : ∃ R, R = runShp Shp.new os := ⟨_, rfl⟩
    rw [← hR] at HC hn ⊢
    clear hR
    obtain ⟨s0, n⟩ := R
    simp only at hn ⊢
    have HT : Hid ((os.take n).length = n) := hide (by simp; omega)
    have Hnil := hide hnil
    have Hop := hide h
    have hn1 : ((n : Int) == -1) = false := by rw [beq_eq_false_iff_ne]; omega
    have hnc : (n : Int) ≤ (c : Int) := by omega
    clear h hF hN hok hnil
    go_enter Tryd.func7, Tryd.ntmps7
    go_wp2_with fail
    refine HC.out.mono ?_
    clear HC
    rintro e w1 ⟨p, rfl, ho, hb1⟩
    have HB := hide (hb1.alloc hb1.size (.cells (shCells p s0) 34))
    clear ho hb1
    simp only [shVal, shCells] at HB ⊢
    go_wp2_with fail
    generalize w1.alloc (.cells #[.slice p.K s0.kinds.length p.c1, .slice p.F s0.full.length p.c2, .slice p.S s0.stack.length p.c3, .slice p.M s0.memo.length p.c4, .bool s0.done] 34) = W at HB ⊢
    have HD := cloneO_any A (os.take n) c W ((Hop.out.begin n).later HB.out (Nat.le_refl _)) Hnil.out (by simp; omega)
    rw [HT.out] at HD
    refine HD.mono ?_
    clear HD
    rintro e w2 ⟨A2, c2, rfl, ho2, hb2⟩
    have HO := hide (ho2.mono HB.out.size)
    have HB2 := hide (HB.out.trans (hb2.mono HB.out.size))
    clear ho2 hb2
    go_wp2
    go_ret
    exact ⟨A2, c2, congrArg (fun k => Ending.returned (Value.slice A2 k c2)) HT.out.symm, HO.out, HB2.out⟩
  · have HC := hide (implShapesOf_bad A os c w h hF hok)
    rw [cutOf_no hok]
    clear h hF hok hN hnil
    go_enter Tryd.func7, Tryd.ntmps7
    go_wp2_with fail
    refine HC.out.mono ?_
    clear HC
    rintro e w1 ⟨rfl, hb1⟩
    have HB := hide (hb1.alloc hb1.size (.cells (shCells ShPtr.nil Shp.zero) 34))
    clear hb1
    simp only [shVal, shCells, ShPtr.nil, Shp.zero, List.length_nil] at HB ⊢
    go_wp2
    go_ret
    exact ⟨none, 0, rfl, OwnO.empty _ _, HB.out⟩

end Go.Proofs.YtgjokdfjngpmcaaDoor

namespace Go.Proofs.YtgjokdfjngpmcaaDoor
open Go.RowKit

theorem OwnO.keepK {lo hi base : Nat} {a b : World} {A : Option Addr} {c : Nat} {xs : List Od} (h : OwnO a base A c xs) (k : Keeps lo hi a b) (h1 : lo ≤ base) (h2 : hi = a.heap.size) : OwnO b base A c xs := by
  have hbl := h.blocks
  refine ⟨h.own.1, ?_⟩
  rcases h.own.2 with h3 | ⟨g, cap, cur, hv, hg, hh, r⟩
  · exact .inl h3
  · refine .inr ⟨g, cap, cur, hv, hg, ?_, r⟩
    injection hv with hv _ _
    have := hbl g (by rw [hv]; rfl)
    exact (k.block g (by omega) (by omega)).trans hh

end Go.Proofs.YtgjokdfjngpmcaaDoor
