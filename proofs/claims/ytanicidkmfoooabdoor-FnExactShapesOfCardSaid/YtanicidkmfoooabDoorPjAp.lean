/-
  Lemmas, several texts in one: TabL, ShpM, Wat, ShO, ShY, SzO.
-/
import Derived.Test.YtanicidkmfoooabDoorPjAf
import Derived.Test.YtanicidkmfoooabDoorPjAo
import Derived.Test.YtanicidkmfoooabDoorShpMa
import Derived.Test.YtanicidkmfoooabDoorShpMb
import Derived.Test.YtanicidkmfoooabDoorShpMc
import Derived.Test.YtanicidkmfoooabDoorShpMd
import Derived.Test.YtanicidkmfoooabDoorPjAh
import Derived.Test.YtanicidkmfoooabDoorPjAn
import Derived.Test.YtanicidkmfoooabDoorPjAj
import Derived.Deep.LoopGhost
import Derived.Test.YtanicidkmfoooabDoorPjAc
import Derived.Test.YtanicidkmfoooabDoorPjAm
import Derived.Test.YtanicidkmfoooabDoorPjAi
namespace Go.Proofs.YtanicidkmfoooabDoor
open Go.ChangeShapes Go.WideShapes Go.ChangeAt Go.WideElems Go.RowKit
set_option linter.unusedVariables false

theorem tables_of_laid {W : World} (h : laidMetH Tryd.prog [("loop.example/graphcode/impl.forms", Rows.laid_loop_example_graphcode_impl_forms), ("loop.example/graphcode/impl.needs", Rows.laid_loop_example_graphcode_impl_needs)] W) : FormsAt W W.heap.size ∧ NeedsAt W W.heap.size := by
  rw [MakeChecks.laidMetH_plain _ _ _ (by kernel_rfl)] at h
  obtain ⟨ps, ⟨g0, t0, cs0, f0, p0, q0, hg0, ht0, hv0, hd0, ⟨g1, t1, cs1, f1, p1, q1, hg1, ht1, hv1, hd1, _⟩, _⟩, _⟩ := h
  obtain rfl := Option.some.inj (gForms.symm.trans hg0)
  obtain rfl := Option.some.inj (tForms.symm.trans ht0)
  obtain rfl := Option.some.inj (gNeeds.symm.trans hg1)
  obtain rfl := Option.some.inj (tNeeds.symm.trans ht1)
  exact ⟨forms_of_var hv0 (formCells hd0 formsD_laid), needs_of_var hv1 (needCells hd1 needsD_laid)⟩

end Go.Proofs.YtanicidkmfoooabDoor

namespace Go.Proofs.YtanicidkmfoooabDoor
open Go.RowKit

theorem markShapes_any (p : ShPtr) (s : Shp) (c : Int) (base : Nat) (w : World) (h : ShOwn w base p s) (hbase : base ≤ w.heap.size) (hs : s.Small) (hc : IsMarkOp c) :
    Calls Tryd.prog 36 #[shVal p s, .int .i64 c] w (TriesSh w p base (markStep s c)) := by
  rcases hc with rfl | rfl | rfl | rfl
  · exact markShapes_3 p s base w h hbase hs
  · exact markShapes_9 p s base w h hbase hs
  · exact markShapes_12 p s base w h hbase hs
  · exact markShapes_18 p s base w h hbase hs

end Go.Proofs.YtanicidkmfoooabDoor

namespace Go.Proofs.YtanicidkmfoooabDoor
open Go.RowKit
set_option linter.unusedVariables false

theorem WFr.belowB {w w' : World} {D : Nat → Prop} {B : Nat} (h : WFr w w' D) (hB : ∀ b, D b → B ≤ b) (hw : B ≤ w.heap.size) : Below B w w' :=
  ⟨h.os, h.tape, h.output, h.size, fun k hk => h.blk k (Nat.lt_of_lt_of_le hk hw) (fun hd => by have := hB k hd; omega)⟩

theorem WatS.done {w wr : World} {D0 D : Nat → Prop} {q q2 k f : Nat} {p : ShPtr} {s : Shp} {J : Nat → (Nat → Prop) → World → Prop} {caps : Array Value} {os : List Od} (v0 v1 v2 v3 v4 : Value) (h : WatS w wr D0 q q2 p s k D J) (hw : Watcher f caps os J) :
    ShOwn (set5 wr q2 v0 v1 v2 v3 v4) w.heap.size p s ∧ J k D (set5 wr q2 v0 v1 v2 v3 v4) ∧ (∀ b, D b → p.Off b) ∧ (∀ b, b < w.heap.size → D b → D0 b) ∧ WFr w (set5 wr q2 v0 v1 v2 v3 v4) D0 := by
  refine ⟨h.sb.own.set5 h.off2, hw.kept _ _ _ _ h.j (fun b hd => set5_block (h.dq b hd).2.1) (by rw [set5_size]; exact Nat.le_refl _), fun b hd => (h.dq b hd).2.2, h.d0, ?_⟩
  have hb := set5_below (v0 := v0) (v1 := v1) (v2 := v2) (v3 := v3) (v4 := v4) (Below.refl q2 wr) (Nat.le_refl _)
  exact ⟨hb.os.trans h.fr.os, hb.tape.trans h.fr.tape, hb.output.trans h.fr.output, Nat.le_trans h.fr.size hb.size, fun b hb1 hb2 => (hb.block b (by have := h.h2; omega)).trans (h.fr.blk b hb1 hb2)⟩

set_option maxRecDepth 100000 in
set_option maxHeartbeats 4000000 in
theorem watched_any (A : Option Addr) (os : List Od) (c B : Nat) (f : Nat) (caps : Array Value) (J : Nat → (Nat → Prop) → World → Prop) (D0 : Nat → Prop) (w : World) (h : OpsAt w B A os) (hF : FormsAt w B) (hN : NeedsAt w B) (hok : OpsOk os)
    (hB : B ≤ w.heap.size) (hD : ∀ b, D0 b → B ≤ b) (hW : Watcher f caps os J) (hJ : J 0 D0 w) (hent : ∀ (args : Array Value) (W : World), (callFunc f args).run Tryd.prog W = .ok (.enter f args) W)
    (hcall : ∀ (k : Nat) (D : Nat → Prop) (W : World) (Ap : Option Addr) (cp : Nat), k < os.length → J k D W → IntsAt W W.heap.size Ap (stk os (k + 1)) → (∀ b, blockOf Ap = some b → ¬ D b) → Calls Tryd.prog f (#[.slice Ap (stk os (k + 1)).length cp] ++ caps) W (Watched W (k + 1) D J)) :
    Calls Tryd.prog 16 #[.slice A os.length c, .func (.func f) #[] caps] w (GivesWat w D0 J (runShp Shp.new os)) := by
  obtain ⟨hl3, hall⟩ := hok
  have Hok := hide hall
  have hok2 := hide (show OpsOk os from ⟨hl3, hall⟩)
  obtain ⟨R, hR⟩ : ∃ R, R = runShp Shp.new os := ⟨_, rfl⟩
  have HC0 := hide (Came.start os)
  rw [← hR] at HC0 ⊢
  clear hR hall
  have HW := hide hW
  have HJ := hide hJ
  have HD := hide hD
  have HCall := hide hcall
  have hB0 := (Below.refl w.heap.size w).alloc (Nat.le_refl _) (.cells zero5 27)
  have HB0 := hide hB0
  have L0 := hide (Lies.new w zero5 27)
  have h1 := h.later (hB0.mono hB) hB
  have hF1 := hF.later (hB0.mono hB) hB
  have HV := hide (implValidOps_any A os c _ h1 hF1)
  have hq2 : w.heap.size < (w.alloc (.cells zero5 27)).heap.size := by simp
  have Ht := hide (show tf (OpsOk os) = true from tf_true hok2.out)
  clear hW hJ hD hcall hB0 h1 hF1
  go_enter Tryd.func16, Tryd.ntmps16
  go_upto_region 1 with fail
  unfold zero5 at HB0 L0 HV hq2
  generalize w.alloc (.cells #[.slice none 0 0, .slice none 0 0, .slice none 0 0, .slice none 0 0, .bool false] 27) = W0 at HB0 L0 HV hq2 ⊢
  go_wp2_with fail
  refine HV.out.mono ?_
  rw [Ht.out]
  clear HV
  rintro e w1 ⟨rfl, hb1⟩
  have HB1 := hide (HB0.out.trans (hb1.mono (by omega)))
  have hq21 : w.heap.size < w1.heap.size := Nat.lt_of_lt_of_le hq2 hb1.size
  have L1 := hide (Lies.below (show Lies W0 w.heap.size zero5 27 from L0.out) hb1 hq2)
  clear hb1 HB0 L0 hq2
  go_wp2_with fail
  refine (implNewShapes_any w1).mono ?_
  rintro e w2 ⟨p1, rfl, ho1, hb2⟩
  obtain ⟨s0, hs0⟩ : ∃ s, s = Shp.new := ⟨_, rfl⟩
  have Hs0 := hide hs0
  rw [← hs0] at ho1 HC0 ⊢
  clear hs0
  have hsz := hb2.size
  have HS0 := hide (show WatS w (w2.alloc (.cells (shCells p1 s0) 27)) D0 w2.heap.size w.heap.size p1 s0 0 D0 J from by
    have hbw : Below w.heap.size w w2 := HB1.out.trans (hb2.mono (by omega))
    have hbx : Below w.heap.size w (w2.alloc (.cells (shCells p1 s0) 27)) := hbw.alloc (by omega) _
    have hlt := HW.out.lt _ _ _ HJ.out
    refine ⟨(ShBox.new (ho1.mono (by omega))).sb, (L1.out.below hb2 hq21).alloc _, ho1.off (.inl hq21), by omega, by omega, Nat.le_refl _, HW.out.kept _ _ _ _ HJ.out (fun b hd => hbx.block b (hlt b hd)) hbx.size, fun b hd => ?_, fun b _ hd => hd, WFr.of_below _ hbx⟩
    have := hlt b hd
    exact ⟨by omega, by omega, ho1.off (.inl (by omega))⟩)
  have hw1 : w.heap.size < w2.heap.size := by omega
  clear ho1 hb2 L1 HB1 HJ
  simp only [shVal, shCells] at HS0 ⊢
  go_upto_region 4 with fail
  generalize w2.alloc (.cells #[.slice p1.K s0.kinds.length p1.c1, .slice p1.F s0.full.length p1.c2, .slice p1.S s0.stack.length p1.c3, .slice p1.M s0.memo.length p1.c4, .bool s0.done] 27) = w3 at HS0 ⊢
  generalize w2.heap.size = q at HS0 hw1 ⊢
  generalize hQ2 : w.heap.size = q2 at hw1 ⊢
  have HQ2 := hide hQ2
  rw [hQ2] at HS0
  clear hQ2 hq21 hsz
  go_wp2_with fail
  go_loopg [16] os.length (fun gk iv wr => ∃ (k : Nat) (p : ShPtr) (s : Shp) (D : Nat → Prop), gk = os.length - k ∧ iv = .int .i64 (k : Int) ∧ WatS w wr D0 q q2 p s k D J ∧ Came os R k s)
  case atStart => exact ⟨0, p1, s0, D0, rfl, rfl, HS0.out, HC0.out⟩
  case round =>
    clear HS0 HC0
    obtain ⟨k, p, s, D, rfl, rfl, hS, hC⟩ := hrel
    have HS := hide hS
    have HC := hide hC
    have hk := hC.le
    clear hS hC
    by_cases hlt : k < os.length
    · have Hbel := HS.out.fr.belowB HD.out hB
      obtain ⟨b, off, o, rfl, hbl, hx, hmem, hc0, hc1⟩ := (h.below Hbel).at_ hlt
      have HO := Hok.out o hmem
      have Hod := hide HO
      obtain ⟨cd, ar⟩ := o
      obtain ⟨⟨ho1, ho2⟩, ho3, ho4⟩ := (OdOk.iff _).1 HO
      simp only at hc0 hc1 ho1 ho2 ho3 ho4
      clear HO
      obtain ⟨cn, rfl⟩ := Int.eq_ofNat_of_zero_le ho1
      have hcn : cn < 20 := by omega
      have har : cn = 15 ∨ cn = 16 → 0 ≤ ar ∧ ar < 20 := fun hh => ⟨ho3, by rcases hh with rfl | rfl <;> simp [argTop, argMost] at ho4 <;> omega⟩
      have Hx := hide hx
      have hk1 : (0 : Int) ≤ (k : Int) := by omega
      have hk2 : (k : Int) < (os.length : Int) := by omega
      have hB2 := hide (Hbel.alloc (Nat.le_trans hB Hbel.size) (.cells #[.int .i64 (cn : Int), .int .i64 ar] 39))
      have lo := Lies.new wr #[.int .i64 (cn : Int), .int .i64 ar] 39
      have HS2 := hide (HS.out.below HW.out ((Below.refl _ _).alloc (Nat.le_refl _) (.cells #[.int .i64 (cn : Int), .int .i64 ar] 39)))
      clear hx hmem ho1 ho2 ho3 ho4 Hbel HS
      go_upto_region 7 with fail
      generalize wr.alloc (.cells #[.int .i64 (cn : Int), .int .i64 ar] 39) = X at hB2 lo HS2 ⊢
      have d0 := lo.cell 0
      have d1 := lo.cell 1
      simp only [List.getElem?_toArray, List.getElem?_cons_zero, List.getElem?_cons_succ] at d0 d1
      clear lo hc0 hc1
      have Hsm := hide (HC.out.small hl3)
      have hbX : w.heap.size ≤ X.heap.size := HS2.out.fr.size
      have HFX := hide (hF.later hB2.out hB)
      have HNX := hide (hN.later hB2.out hB)
      cases hst : stepFree s ⟨(cn : Int), ar⟩ with
      | none =>
        have hRe := HC.out.stop Hx.out hst
        go_wp2_with fail
        refine (step_no q w.heap.size 0 p s cn ar X HS2.out.sb Hsm.out hbX HFX.out HNX.out hcn har hst).mono ?_
        rintro e wn ⟨rfl, pn, hSn, hFn⟩
        have HSn := hide (HS2.out.step HW.out hSn hFn)
        clear hSn hFn HS2 hst
        obtain ⟨e0, e1, e2, e3, e4, _, _, _, _, _⟩ := HSn.out.sb.c
        obtain ⟨r0, r1, r2, r3, r4, f0, f1, f2, f3, f4, s0, s1, s2, s3, s4⟩ := (Lies.set5 (show Lies wn q2 #[.slice none 0 0, .slice none 0 0, .slice none 0 0, .slice none 0 0, .bool false] 27 from HSn.out.res) (.slice pn.K s.kinds.length pn.c1) (.slice pn.F s.full.length pn.c2) (.slice pn.S s.stack.length pn.c3) (.slice pn.M s.memo.length pn.c4) (.bool s.done)).1
        simp only [Nat.zero_add] at e0 e1 e2 e3 e4
        have HRe := hide hRe
        clear hRe
        go_wp2
        refine bodyPost_ret (v := .tuple #[shVal pn s, .int .i64 (k : Int)]) (by simp [shVal, shCells, results, Tryd.results16, go_sem, s0, s1, s2, s3, s4]) rfl ?_
        rw [HRe.out]
        exact ⟨pn, D, rfl, HSn.out.done _ _ _ _ _ HW.out⟩
      | some t =>
        obtain ⟨hC2, hts⟩ := HC.out.next hl3 Hx.out Hod.out hst
        go_wp2_with fail
        refine (step_yes q w.heap.size 0 p s t cn ar X HS2.out.sb Hsm.out hbX HFX.out HNX.out hcn har hst).mono ?_
        rintro e wn ⟨rfl, pn, hSn, hFn⟩
        have HSn := hide (HS2.out.step HW.out hSn hFn)
        have hcc := HCall.out k D wn pn.S pn.c3 hlt HSn.out.j (by rw [← hts]; exact (HSn.out.sb.own.at_ (hC2.small hl3)).t) (fun b hb hd => (HSn.out.dq b hd).2.2.t hb)
        rw [← hts] at hcc
        have HCC := hide hcc
        have HC2 := hide hC2
        have e2 := HSn.out.sb.c.c2
        simp only [Nat.zero_add] at e2
        clear hSn hFn HS2 hst hcc hts hC2
        go_wp2_with fail
        refine HCC.out.mono ?_
        clear HCC
        rintro e w5 ⟨rfl, D', hJ', hd', hf'⟩
        have HS5 := hide (HSn.out.watched HW.out hJ' hd' hf')
        clear hJ' hd' hf' HSn
        go_wp2
        go_roundg (os.length - (k + 1))
        case measure => omega
        case rel => exact ⟨k + 1, pn, t, D', rfl, by go_num, HS5.out, HC2.out⟩
    · obtain rfl : k = os.length := by omega
      have hRe := HC.out.all
      obtain ⟨pn, hpn⟩ : ∃ p', p' = p := ⟨_, rfl⟩
      subst hpn
      obtain ⟨wn, hwn⟩ : ∃ w', w' = wr := ⟨_, rfl⟩
      subst hwn
      have HSn := HS
      obtain ⟨e0, e1, e2, e3, e4, _, _, _, _, _⟩ := HSn.out.sb.c
      obtain ⟨r0, r1, r2, r3, r4, f0, f1, f2, f3, f4, s0, s1, s2, s3, s4⟩ := (Lies.set5 (show Lies wn q2 #[.slice none 0 0, .slice none 0 0, .slice none 0 0, .slice none 0 0, .bool false] 27 from HSn.out.res) (.slice pn.K s.kinds.length pn.c1) (.slice pn.F s.full.length pn.c2) (.slice pn.S s.stack.length pn.c3) (.slice pn.M s.memo.length pn.c4) (.bool s.done)).1
      simp only [Nat.zero_add] at e0 e1 e2 e3 e4
      have HRe := hide hRe
      clear hRe
      go_wp2
      refine bodyPost_ret (v := .tuple #[shVal pn s, .int .i64 (os.length : Int)]) (by simp [shVal, shCells, results, Tryd.results16, go_sem, s0, s1, s2, s3, s4]) rfl ?_
      rw [HRe.out]
      exact ⟨pn, D, rfl, HSn.out.done _ _ _ _ _ HW.out⟩

end Go.Proofs.YtanicidkmfoooabDoor

namespace Go.Proofs.YtanicidkmfoooabDoor
open Go.RowKit
set_option linter.unusedVariables false

set_option maxRecDepth 100000 in
set_option maxHeartbeats 1000000 in
theorem noWatch_any (A : Option Addr) (xs : List Int) (c : Nat) (w : World) : Calls Tryd.prog 17 #[.slice A xs.length c] w fun e w' => e = .returned (.tuple #[]) ∧ w = w' := by
  go_enter Tryd.func17, Tryd.ntmps17
  go_wp2
  go_end0
  exact ⟨rfl, rfl⟩

theorem enter_no (args : Array Value) (W : World) : (callFunc 17 args).run Tryd.prog W = .ok (.enter 17 args) W := by
  kernel_rfl

theorem watched_no (A : Option Addr) (os : List Od) (c : Nat) (w : World) (h : OpsAt w w.heap.size A os) (hF : FormsAt w w.heap.size) (hN : NeedsAt w w.heap.size) (hok : OpsOk os) :
    Calls Tryd.prog 16 #[.slice A os.length c, .func (.func 17) #[] #[]] w (GivesRun w (runShp Shp.new os)) := by
  refine (watched_any A os c w.heap.size 17 #[] (fun _ D _ => ∀ b, ¬ D b) (fun _ => False) w h hF hN hok (Nat.le_refl _) (fun b hb => hb.elim) ⟨fun k D W W' hJ _ _ => hJ, fun k D W hJ b hb => (hJ b hb).elim⟩ (fun b hb => hb) enter_no (fun k D W Ap cp hk hJ hI hA => ?_)).mono fun e w' hE => ?_
  · refine (noWatch_any Ap _ cp W).mono ?_
    rintro e W' ⟨rfl, rfl⟩
    exact ⟨rfl, D, hJ, fun b _ hb => hb, WFr.refl _ _⟩
  · obtain ⟨p, D, rfl, ho, hJ, _, _, hf⟩ := hE
    exact ⟨p, rfl, ho, hf.below⟩

set_option maxRecDepth 100000 in
set_option maxHeartbeats 1000000 in
theorem implShapesOf_ok (A : Option Addr) (os : List Od) (c : Nat) (w : World) (h : OpsAt w w.heap.size A os) (hF : FormsAt w w.heap.size) (hN : NeedsAt w w.heap.size) (hok : OpsOk os) :
    Calls Tryd.prog 7 #[.slice A os.length c] w (GivesRun w (runShp Shp.new os)) := by
  have hB0 := (Below.refl w.heap.size w).alloc (Nat.le_refl _) (.cells zero5 27)
  have HB0 := hide hB0
  have L0 := hide (Lies.new w zero5 27)
  have HC := hide (watched_no A os c _ (h.later hB0 (Nat.le_refl _)) (hF.later hB0 (Nat.le_refl _)) (hN.later hB0 (Nat.le_refl _)) hok)
  obtain ⟨R, hR⟩ : ∃ R, R = runShp Shp.new os := ⟨_, rfl⟩
  rw [← hR] at HC ⊢
  clear hB0 hR
  obtain ⟨s, n⟩ := R
  go_enter Tryd.func7, Tryd.ntmps7
  go_upto_region 1 with fail
  unfold zero5 at HB0 L0 HC
  have hlt := L0.out.lt
  generalize w.alloc (.cells #[.slice none 0 0, .slice none 0 0, .slice none 0 0, .slice none 0 0, .bool false] 27) = W at HB0 L0 HC hlt ⊢
  go_wp2_with (go_at_call 16; refine HC.out.mono ?_; rintro e w2 ⟨p, rfl, ho, hb⟩; simp only [shVal, shCells]; have hS := Lies.below L0.out hb hlt; obtain ⟨⟨r0, r1, r2, r3, r4, f0, f1, f2, f3, f4, s0, s1, s2, s3, s4⟩, hlf⟩ := Lies.set5 hS (.slice p.K s.kinds.length p.c1) (.slice p.F s.full.length p.c2) (.slice p.S s.stack.length p.c3) (.slice p.M s.memo.length p.c4) (.bool s.done); have HS := hide hS; clear hS; have HO := hide (And.intro ho hb); clear ho hb hlf)
  refine bodyPost_ret (v := .tuple #[shVal p s, .int .i64 (n : Int)]) (by simp [shVal, shCells, results, Tryd.results7, go_sem, s0, s1, s2, s3, s4]) rfl ?_
  obtain ⟨ho, hb⟩ := HO.out
  have hsz := HB0.out.size
  exact ⟨p, rfl, (ho.set5 (ho.off (.inl hlt))).mono hsz, set5_below (HB0.out.trans (hb.mono hsz)) (Nat.le_refl _)⟩

set_option maxRecDepth 100000 in
set_option maxHeartbeats 1000000 in
theorem implShapesOf_bad (A : Option Addr) (os : List Od) (c : Nat) (w : World) (h : OpsAt w w.heap.size A os) (hF : FormsAt w w.heap.size) (hok : ¬ OpsOk os) :
    Calls Tryd.prog 7 #[.slice A os.length c] w (GivesNoRun w) := by
  have hB0 := (Below.refl w.heap.size w).alloc (Nat.le_refl _) (.cells zero5 27)
  have HB0 := hide hB0
  have L0 := hide (Lies.new w zero5 27)
  have HC := hide (watched_bad A os c (.func (.func 17) #[] #[]) _ (h.later hB0 (Nat.le_refl _)) (hF.later hB0 (Nat.le_refl _)) hok)
  clear hB0 hok
  go_enter Tryd.func7, Tryd.ntmps7
  go_upto_region 1 with fail
  unfold zero5 at HB0 L0 HC
  have hlt := L0.out.lt
  generalize w.alloc (.cells #[.slice none 0 0, .slice none 0 0, .slice none 0 0, .slice none 0 0, .bool false] 27) = W at HB0 L0 HC hlt ⊢
  go_wp2_with (go_at_call 16; refine HC.out.mono ?_; rintro e w2 ⟨rfl, hb⟩; simp only [shVal, shCells, ShPtr.nil, Shp.zero, List.length_nil]; have hS := Lies.below L0.out hb hlt; obtain ⟨⟨r0, r1, r2, r3, r4, f0, f1, f2, f3, f4, s0, s1, s2, s3, s4⟩, hlf⟩ := Lies.set5 hS (.slice none 0 0) (.slice none 0 0) (.slice none 0 0) (.slice none 0 0) (.bool false); have HB := hide (set5_below (v0 := .slice none 0 0) (v1 := .slice none 0 0) (v2 := .slice none 0 0) (v3 := .slice none 0 0) (v4 := .bool false) (HB0.out.trans (hb.mono HB0.out.size)) (Nat.le_refl _)); clear hS hb hlf)
  refine bodyPost_ret (v := .tuple #[shVal ShPtr.nil Shp.zero, .int .i64 (-1)]) (by simp [shVal, shCells, ShPtr.nil, Shp.zero, results, Tryd.results7, go_sem, s0, s1, s2, s3, s4]) rfl ?_
  exact ⟨rfl, HB.out⟩

end Go.Proofs.YtanicidkmfoooabDoor

namespace Go.Proofs.YtanicidkmfoooabDoor
open Go.RowKit
set_option linter.unusedVariables false

theorem implShapesOf_any (A : Option Addr) (os : List Od) (c : Nat) (w : World) (h : OpsAt w w.heap.size A os) (hF : FormsAt w w.heap.size) (hN : NeedsAt w w.heap.size) :
    Calls Tryd.prog 7 #[.slice A os.length c] w (GivesSO w os) := by
  by_cases hok : OpsOk os
  · refine (implShapesOf_ok A os c w h hF hN hok).mono fun e w' hE => ?_
    obtain ⟨p, rfl, ho, hb⟩ := hE
    unfold GivesSO
    rw [shOf_yes hok, shN_yes hok]
    exact ⟨p, rfl, ho, hb⟩
  · refine (implShapesOf_bad A os c w h hF hok).mono fun e w' hE => ?_
    obtain ⟨rfl, hb⟩ := hE
    unfold GivesSO
    rw [shOf_no hok, shN_no hok]
    exact ⟨ShPtr.nil, rfl, ShOwn.nothing _ _, hb⟩

end Go.Proofs.YtanicidkmfoooabDoor

namespace Go.Proofs.YtanicidkmfoooabDoor
open Go.RowKit

set_option maxHeartbeats 400000 in
theorem szOpS_any (A : Option Addr) (n c : Nat) (left : Int) (w : World) (h0 : 0 ≤ left) (h1 : left ≤ 1048576) (hn : n ≤ 9223372036854775807) :
    Calls Tryd.prog 4 #[.slice A n c, .int .i64 left] w fun e w' => e = .returned (.int .i64 (szI n left)) ∧ w = w' := by
  by_cases h : left - n < 0
  · have hs : Hid (szI n left = -1) := by unfold szI; rw [if_pos h]; rfl
    go_enter Tryd.func4, Tryd.ntmps4
    go_wp2
    go_ret
    exact ⟨ret_int hs.out.symm, rfl⟩
  · have hs : Hid (szI n left = left - n) := by unfold szI; rw [if_neg h]; rfl
    go_enter Tryd.func4, Tryd.ntmps4
    go_wp2
    go_ret
    exact ⟨ret_int hs.out.symm, rfl⟩

end Go.Proofs.YtanicidkmfoooabDoor
