/-
  Lemmas, several texts in one: ShO, EgW.
-/
import Derived.Test.YtngohlegdjppeaaDoorWat
import Derived.Test.YtngohlegdjppeaaDoorPjAe
import Derived.Test.YtngohlegdjppeaaDoorPjAk
import Derived.Test.YtngohlegdjppeaaDoorPjAn
import Derived.Deep.RegionHeld3
namespace Go.Proofs.YtngohlegdjppeaaDoor
open Go.RowKit
set_option linter.unusedVariables false

set_option maxRecDepth 100000 in
set_option maxHeartbeats 1000000 in
theorem noWatch_any (A : Option Addr) (xs : List Int) (c : Nat) (w : World) : Calls Tryd.prog 23 #[.slice A xs.length c] w fun e w' => e = .returned (.tuple #[]) ∧ w = w' := by
  go_enter Tryd.func23, Tryd.ntmps23
  go_wp2
  go_end0
  exact ⟨rfl, rfl⟩

theorem enter_no (args : Array Value) (W : World) : (callFunc 23 args).run Tryd.prog W = .ok (.enter 23 args) W := by
  kernel_rfl

theorem watched_no (A : Option Addr) (os : List Od) (c : Nat) (w : World) (h : OpsAt w w.heap.size A os) (hF : FormsAt w w.heap.size) (hN : NeedsAt w w.heap.size) (hok : OpsOk os) :
    Calls Tryd.prog 22 #[.slice A os.length c, .func (.func 23) #[] #[]] w (GivesRun w (runShp Shp.new os)) := by
  refine (watched_any A os c w.heap.size 23 #[] (fun _ D _ => ∀ b, ¬ D b) (fun _ => False) w h hF hN hok (Nat.le_refl _) (fun b hb => hb.elim) ⟨fun k D W W' hJ _ _ => hJ, fun k D W hJ b hb => (hJ b hb).elim⟩ (fun b hb => hb) enter_no (fun k D W Ap cp hk hJ hI hA => ?_)).mono fun e w' hE => ?_
  · refine (noWatch_any Ap _ cp W).mono ?_
    rintro e W' ⟨rfl, rfl⟩
    exact ⟨rfl, D, hJ, fun b _ hb => hb, WFr.refl _ _⟩
  · obtain ⟨p, D, rfl, ho, hJ, _, _, hf⟩ := hE
    exact ⟨p, rfl, ho, hf.below⟩

set_option maxRecDepth 100000 in
set_option maxHeartbeats 1000000 in
theorem implShapesOf_ok (A : Option Addr) (os : List Od) (c : Nat) (w : World) (h : OpsAt w w.heap.size A os) (hF : FormsAt w w.heap.size) (hN : NeedsAt w w.heap.size) (hok : OpsOk os) :
    Calls Tryd.prog 14 #[.slice A os.length c] w (GivesRun w (runShp Shp.new os)) := by
  have hB0 := (Below.refl w.heap.size w).alloc (Nat.le_refl _) (.cells zero5 35)
  have HB0 := hide hB0
  have L0 := hide (Lies.new w zero5 35)
  have HC := hide (watched_no A os c _ (h.later hB0 (Nat.le_refl _)) (hF.later hB0 (Nat.le_refl _)) (hN.later hB0 (Nat.le_refl _)) hok)
  obtain ⟨R, hR⟩ : ∃ R, R = runShp Shp.new os := ⟨_, rfl⟩
  rw [← hR] at HC ⊢
  clear hB0 hR
  obtain ⟨s, n⟩ := R
  go_enter Tryd.func14, Tryd.ntmps14
  go_upto_region 1 with fail
  unfold zero5 at HB0 L0 HC
  have hlt := L0.out.lt
  generalize w.alloc (.cells #[.slice none 0 0, .slice none 0 0, .slice none 0 0, .slice none 0 0, .bool false] 35) = W at HB0 L0 HC hlt ⊢
  go_wp2_with (go_at_call 22; refine HC.out.mono ?_; rintro e w2 ⟨p, rfl, ho, hb⟩; simp only [shVal, shCells]; have hS := Lies.below L0.out hb hlt; obtain ⟨⟨r0, r1, r2, r3, r4, f0, f1, f2, f3, f4, s0, s1, s2, s3, s4⟩, hlf⟩ := Lies.set5 hS (.slice p.K s.kinds.length p.c1) (.slice p.F s.full.length p.c2) (.slice p.S s.stack.length p.c3) (.slice p.M s.memo.length p.c4) (.bool s.done); have HS := hide hS; clear hS; have HO := hide (And.intro ho hb); clear ho hb hlf)
  refine bodyPost_ret (v := .tuple #[shVal p s, .int .i64 (n : Int)]) (by simp [shVal, shCells, results, Tryd.results14, go_sem, s0, s1, s2, s3, s4]) rfl ?_
  obtain ⟨ho, hb⟩ := HO.out
  have hsz := HB0.out.size
  exact ⟨p, rfl, (ho.set5 (ho.off (.inl hlt))).mono hsz, set5_below (HB0.out.trans (hb.mono hsz)) (Nat.le_refl _)⟩

set_option maxRecDepth 100000 in
set_option maxHeartbeats 1000000 in
theorem implShapesOf_bad (A : Option Addr) (os : List Od) (c : Nat) (w : World) (h : OpsAt w w.heap.size A os) (hF : FormsAt w w.heap.size) (hok : ¬ OpsOk os) :
    Calls Tryd.prog 14 #[.slice A os.length c] w (GivesNoRun w) := by
  have hB0 := (Below.refl w.heap.size w).alloc (Nat.le_refl _) (.cells zero5 35)
  have HB0 := hide hB0
  have L0 := hide (Lies.new w zero5 35)
  have HC := hide (watched_bad A os c (.func (.func 23) #[] #[]) _ (h.later hB0 (Nat.le_refl _)) (hF.later hB0 (Nat.le_refl _)) hok)
  clear hB0 hok
  go_enter Tryd.func14, Tryd.ntmps14
  go_upto_region 1 with fail
  unfold zero5 at HB0 L0 HC
  have hlt := L0.out.lt
  generalize w.alloc (.cells #[.slice none 0 0, .slice none 0 0, .slice none 0 0, .slice none 0 0, .bool false] 35) = W at HB0 L0 HC hlt ⊢
  go_wp2_with (go_at_call 22; refine HC.out.mono ?_; rintro e w2 ⟨rfl, hb⟩; simp only [shVal, shCells, ShPtr.nil, Shp.zero, List.length_nil]; have hS := Lies.below L0.out hb hlt; obtain ⟨⟨r0, r1, r2, r3, r4, f0, f1, f2, f3, f4, s0, s1, s2, s3, s4⟩, hlf⟩ := Lies.set5 hS (.slice none 0 0) (.slice none 0 0) (.slice none 0 0) (.slice none 0 0) (.bool false); have HB := hide (set5_below (v0 := .slice none 0 0) (v1 := .slice none 0 0) (v2 := .slice none 0 0) (v3 := .slice none 0 0) (v4 := .bool false) (HB0.out.trans (hb.mono HB0.out.size)) (Nat.le_refl _)); clear hS hb hlf)
  refine bodyPost_ret (v := .tuple #[shVal ShPtr.nil Shp.zero, .int .i64 (-1)]) (by simp [shVal, shCells, ShPtr.nil, Shp.zero, results, Tryd.results14, go_sem, s0, s1, s2, s3, s4]) rfl ?_
  exact ⟨rfl, HB.out⟩

end Go.Proofs.YtngohlegdjppeaaDoor

namespace Go.Proofs.YtngohlegdjppeaaDoor
open Go.RowKit
set_option linter.unusedVariables false

/-- the answer that a program has an ending, or none -/
def GivesEndI (w : World) (r : Option (List Od)) (e : Ending) (w' : World) : Prop := ∃ A c, e = .returned (.tuple #[.slice A (r.getD []).length c, .bool r.isSome]) ∧ OwnO w' w.heap.size A c (r.getD []) ∧ Below w.heap.size w w'

set_option maxRecDepth 100000 in
set_option maxHeartbeats 1000000 in
theorem implEndOps_ok (A : Option Addr) (os : List Od) (c : Nat) (w : World) (h : OpsAt w w.heap.size A os) (hF : FormsAt w w.heap.size) (hN : NeedsAt w w.heap.size) (hok : OpsOk os) :
    Calls Tryd.prog 7 #[.slice A os.length c] w (GivesEndI w (endOf os)) := by
  have HC := hide (implShapesOf_ok A os c w h hF hN hok)
  obtain ⟨q1, q2, q3⟩ := run_few (s := Shp.new) (os := os) Shp.new_ok hok.2
  have q2 : (runShp Shp.new os).1.kinds.length ≤ (runShp Shp.new os).2 := by simpa [Shp.new] using q2
  have q3 : (runShp Shp.new os).1.stack.length ≤ (runShp Shp.new os).2 := by simpa [Shp.new] using q3
  have hn : (runShp Shp.new os).2 ≤ 300 := Nat.le_trans (run_le hok.2) hok.1
  rw [end_of hok]
  obtain ⟨R, hR⟩ : ∃ R, R = runShp Shp.new os := ⟨_, rfl⟩
  rw [← hR] at q1 q2 q3 hn HC ⊢
  clear hR
  obtain ⟨s0, n⟩ := R
  simp only at q1 q2 q3 hn ⊢
  obtain ⟨V, hV⟩ : ∃ V, V = (if s0.done = true then some [] else if n + (tailOps s0.stack).length ≤ 300 then some (tailOps s0.stack) else none) := ⟨_, rfl⟩
  rw [← hV]
  obtain ⟨tail, ht⟩ : ∃ t, t = if s0.done = true then [] else tailOps s0.stack := ⟨_, rfl⟩
  have HE0 : Hid (Ended n tail [] s0) := hide (by
    refine ⟨q1, by simpa using q2, by simpa using q3, by simpa using hn, ?_⟩
    by_cases hd : s0.done = true
    · exact .inl ⟨hd, by rw [ht, if_pos hd]⟩
    · exact .inr ⟨by simpa using hd, by rw [ht, if_neg hd]; rfl⟩)
  have HV : Hid (V = if n + tail.length ≤ 300 then some tail else none) := hide (by
    rw [hV, ht]
    by_cases hd : s0.done = true
    · rw [if_pos hd, if_pos hd, if_pos (by simpa using hn)]
    · rw [if_neg hd, if_neg hd])
  clear hV ht q1 q2 q3
  have HFw := hide hF
  have HNw := hide hN
  clear h hF hN hok
  have hn1 : ((n : Int) == -1) = false := by rw [beq_eq_false_iff_ne]; omega
  go_enter Tryd.func7, Tryd.ntmps7
  go_wp2_with fail
  refine HC.out.mono ?_
  clear HC
  rintro e w1 ⟨p, rfl, ho, hb1⟩
  have HS0 := hide (show EgS w (w1.alloc (.cells (shCells p s0) 35)) w1.heap.size p s0 none 0 [] from
    ⟨(ShBox.new ho).sb, OwnO.empty _ _, by simp [blockOf], fun b hb => (by cases hb), hb1.alloc hb1.size _, hb1.size⟩)
  clear ho hb1
  simp only [shVal, shCells] at HS0 ⊢
  go_wp2_with fail
  generalize w1.alloc (.cells #[.slice p.K s0.kinds.length p.c1, .slice p.F s0.full.length p.c2, .slice p.S s0.stack.length p.c3, .slice p.M s0.memo.length p.c4, .bool s0.done] 35) = W at HS0 ⊢
  generalize w1.heap.size = q at HS0 ⊢
  go_loopg [6] (300 - n) (fun gk ev wr => ∃ (p : ShPtr) (s : Shp) (Ae : Option Addr) (ce : Nat) (acc : List Od), gk = 300 - (n + acc.length) ∧ ev = .slice Ae acc.length ce ∧ EgS w wr q p s Ae ce acc ∧ Ended n tail acc s)
  case atStart => exact ⟨p, s0, none, 0, [], rfl, rfl, HS0.out, HE0.out⟩
  case round =>
    clear HS0 HE0
    obtain ⟨p, s, Ae, ce, acc, rfl, rfl, hS, hE⟩ := hrel
    have HS := hide hS
    have HE := hide hE
    have hal := hE.le
    clear hS hE
    obtain ⟨e0, e1, e2, e3, e4, f0, f1, f2, f3, f4⟩ := HS.out.sb.c
    simp only [Nat.zero_add] at e0 e1 e2 e3 e4
    obtain ⟨d, hd⟩ : ∃ d, s.done = d := ⟨_, rfl⟩
    rw [hd] at e4
    cases d
    · have Hd := hide hd
      have HG := hide (endingOp_any q w.heap.size 0 p s _ HS.out.sb HE.out.small HE.out.ok)
      obtain ⟨o, ho⟩ : ∃ o, endOp s.stack = o := ⟨_, rfl⟩
      have Hok := hide (show OdOk o from by rw [← ho]; exact endOp_ok _)
      rw [ho] at HG
      have Ho := hide ho
      clear hd ho
      go_wp2_with fail
      refine HG.out.mono ?_
      clear HG
      rintro e w2 ⟨rfl, hb2⟩
      have HS2 := hide ((HS.out.below hb2).below ((Below.refl w2.heap.size w2).alloc (Nat.le_refl _) (.cells #[.int .i64 o.code, .int .i64 o.arg] 39)))
      have LO := hide (Lies.new w2 #[.int .i64 o.code, .int .i64 o.arg] 39)
      have hoff := (HS.out.below hb2).sb.own.off (.inr (Nat.le_refl w2.heap.size))
      have hqn : w2.heap.size ≠ q := by have := (HS.out.below hb2).sb.lt; omega
      clear HS hb2 e0 e1 e2 e3 e4 f0 f1 f2 f3 f4
      by_cases hlong : 300 ≤ n + acc.length
      · have hb : decide ((300 : Int) ≤ (n : Int) + (acc.length : Int)) = true := by simp; omega
        obtain rfl : V = none := by rw [HV.out, if_neg (HE.out.long Hd.out hlong)]
        have HBx := hide HS2.out.bel
        go_wp2_with fail
        go_ret2
        exact ⟨none, 0, rfl, OwnO.empty _ _, HBx.out⟩
      · have hb : decide ((300 : Int) ≤ (n : Int) + (acc.length : Int)) = false := by simp; omega
        obtain ⟨t, hst, hEn⟩ := HE.out.next Hd.out (by omega)
        rw [Ho.out] at hst hEn
        obtain ⟨⟨ho1, ho2⟩, ho3, ho4⟩ := (OdOk.iff _).1 Hok.out
        obtain ⟨cd, ar⟩ := o
        simp only at ho1 ho2 ho3 ho4 HS2 LO
        obtain ⟨cn, rfl⟩ := Int.eq_ofNat_of_zero_le ho1
        have hcn : cn < 20 := by omega
        have har : cn = 15 ∨ cn = 16 → 0 ≤ ar ∧ ar < 20 := fun hh => ⟨ho3, by rcases hh with rfl | rfl <;> simp [argTop, argMost] at ho4 <;> omega⟩
        have HEn := hide hEn
        have HCs := hide (step_yes q w.heap.size 0 p s t cn ar _ HS2.out.sb HE.out.small HS2.out.bel.size (HFw.out.later HS2.out.bel (Nat.le_refl _)) (HNw.out.later HS2.out.bel (Nat.le_refl _)) hcn har hst)
        clear hst hEn ho1 ho2 ho3 ho4 hcn har
        go_wp2_with fail
        refine HCs.out.mono ?_
        clear HCs
        rintro e w3 ⟨rfl, p', hSn, hFn⟩
        have HS3 := hide (HS2.out.step hSn hFn)
        have LO3 : Lies w3 w2.heap.size #[.int .i64 (cn : Int), .int .i64 ar] 39 := (hFn.blk w2.heap.size (by simp) hqn hoff).trans LO.out
        have d0 := LO3.cell 0
        have d1 := LO3.cell 1
        simp only [List.getElem?_toArray, List.getElem?_cons_zero, List.getElem?_cons_succ] at d0 d1
        have hwz := HS3.out.bel.size
        have HNw3 := hide (Lies.new w3 #[.int .i64 (cn : Int), .int .i64 ar] 39)
        clear hSn hFn LO3 HS2 LO hoff hqn
        go_wp2_with (at_builtin; refine append_op rfl (.tmp 29) (.tmp 31) rfl w.heap.size Ae ce acc rfl (HS3.out.own.alloc _) w3.heap.size ⟨(cn : Int), ar⟩ 39 rfl HNw3.out (by omega) (by simp; omega) ?_; intro zs A9 c9 w9 hz9 ho9 hg9 ha9; have HS9 := hide (HS3.out.push ho9 hg9 ha9); have hzl : zs.length = acc.length + 1 := (by rw [hz9.out]; simp); clear ho9 hg9 ha9)
        go_roundg (300 - (n + zs.length))
        case measure => omega
        case rel => exact ⟨p', t, A9, c9, zs, rfl, by rw [hzl], HS9.out, by rw [hz9.out]; exact HEn.out⟩
    · have hf := HE.out.fin hd
      subst hf
      obtain rfl : V = some tail := by rw [HV.out, if_pos hal]
      have HX := hide (And.intro HS.out.own HS.out.bel)
      go_wp2
      go_ret2
      exact ⟨Ae, ce, rfl, HX.out.1, HX.out.2⟩

set_option maxRecDepth 100000 in
set_option maxHeartbeats 1000000 in
theorem implEndOps_bad (A : Option Addr) (os : List Od) (c : Nat) (w : World) (h : OpsAt w w.heap.size A os) (hF : FormsAt w w.heap.size) (hok : ¬ OpsOk os) :
    Calls Tryd.prog 7 #[.slice A os.length c] w (GivesEndI w (endOf os)) := by
  have HC := hide (implShapesOf_bad A os c w h hF hok)
  rw [end_bad hok]
  clear h hF hok
  go_enter Tryd.func7, Tryd.ntmps7
  go_wp2_with fail
  refine HC.out.mono ?_
  clear HC
  rintro e w1 ⟨rfl, hb1⟩
  have HB := hide (hb1.alloc hb1.size (.cells (shCells ShPtr.nil Shp.zero) 35))
  clear hb1
  simp only [shVal, shCells, ShPtr.nil, Shp.zero, List.length_nil] at HB ⊢
  go_wp2
  go_ret2
  exact ⟨none, 0, rfl, OwnO.empty _ _, HB.out⟩

theorem implEndOps_any (A : Option Addr) (os : List Od) (c : Nat) (w : World) (h : OpsAt w w.heap.size A os) (hF : FormsAt w w.heap.size) (hN : NeedsAt w w.heap.size) :
    Calls Tryd.prog 7 #[.slice A os.length c] w (GivesEndI w (endOf os)) := by
  by_cases hok : OpsOk os
  · exact implEndOps_ok A os c w h hF hN hok
  · exact implEndOps_bad A os c w h hF hok

end Go.Proofs.YtngohlegdjppeaaDoor
