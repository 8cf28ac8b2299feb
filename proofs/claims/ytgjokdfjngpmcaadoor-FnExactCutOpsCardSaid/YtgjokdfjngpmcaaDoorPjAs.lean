/-
  Lemmas, several texts in one: CutS, ExCT.
-/
import Derived.Test.YtgjokdfjngpmcaaDoorRunS
import Derived.Test.YtgjokdfjngpmcaaDoorPjAr
import Derived.Test.YtgjokdfjngpmcaaDoorPjAg
import Derived.Test.YtgjokdfjngpmcaaDoorPjAq
import Derived.Test.YtgjokdfjngpmcaaDoorPjAm
import Derived.Test.YtgjokdfjngpmcaaDoorArg
import Derived.Test.YtgjokdfjngpmcaaDoorPjAo
import Derived.Test.YtgjokdfjngpmcaaDoorPjAh
import Derived.Test.YtgjokdfjngpmcaaDoorPjAf
import Derived.Deep.RegionHeld3
namespace Go.Proofs.YtgjokdfjngpmcaaDoor
open Go.RowKit
set_option linter.unusedVariables false

set_option maxRecDepth 100000 in
set_option maxHeartbeats 1000000 in
theorem specCutOps_any (A : Option Addr) (os : List Od) (c : Nat) (w : World) (h : OpsAt w w.heap.size A os) (hnil : A = none → c = 0) (hc : os.length ≤ c) :
    Calls Tryd.prog 5 #[.slice A os.length c] w (GivesOps w (cutOf os)) := by
  have Hnil := hide hnil
  clear hnil
  by_cases hok : OpsOk os
  · have ht := hide (tf_true hok)
    have Hok := hide hok
    have hl := hok.1
    have hn := (runNew_le hok.2).2.2
    have HE := hide (cutOf_ok hok)
    obtain ⟨n, hnd⟩ : ∃ n, n = (runShp Shp.new os).2 := ⟨_, rfl⟩
    have Hnd := hide hnd
    rw [← hnd] at hn
    have HT : Hid ((os.take n).length = n) := hide (by simp; omega)
    have hnc : (n : Int) ≤ (c : Int) := by omega
    clear hok hnd
    go_enter Tryd.func5, Tryd.ntmps5
    go_wp2_with fail
    refine (specValidOps_any A os c w h).mono ?_
    rintro e w1 ⟨rfl, hb1⟩
    rw [ht.out]
    have h1 := h.later hb1 (Nat.le_refl _)
    go_wp2_with fail
    have HC := runShapes_any A os c w1 h1 Hok.out.2
    obtain ⟨sF, hsF⟩ : ∃ s, s = (runShp Shp.new os).1 := ⟨_, rfl⟩
    have e2 : runShp Shp.new os = (sF, n) := by rw [hsF, Hnd.out]
    rw [e2] at HC
    clear e2 hsF
    refine HC.mono ?_
    clear HC
    rintro e w2 ⟨p, rfl, _, hb2⟩
    have HB2 := hide (hb1.trans (hb2.mono hb1.size))
    clear hb1 hb2 h1
    simp only [shVal, shCells]
    have HB3 := hide (HB2.out.alloc HB2.out.size (.cells #[.slice p.K sF.kinds.length p.c1, .slice p.F sF.full.length p.c2, .slice p.S sF.stack.length p.c3, .slice p.M sF.memo.length p.c4, .bool sF.done] 34))
    go_upto_region 4 with fail
    generalize w2.alloc (.cells #[.slice p.K sF.kinds.length p.c1, .slice p.F sF.full.length p.c2, .slice p.S sF.stack.length p.c3, .slice p.M sF.memo.length p.c4, .bool sF.done] 34) = w3 at HB3 ⊢
    have HO := hide ((OwnO.bare w3).mono HB3.out.size)
    have HB4 := hide (HB3.out.alloc HB3.out.size (.cells #[] 38))
    go_wp2_with (at_builtin; refine append_ops rfl (.tmp 13) (.tmp 16) rfl w.heap.size _ 0 [] rfl HO.out w.heap.size A c (os.take n) (congrArg (fun k => Value.slice A k c) HT.out.symm) Hnil.out ((h.upto n).below HB4.out) (by simp; omega) HB4.out.size ?_; intro zs A5 c5 w5 e5 own5 hg5 _; have HG5 := hide hg5; have HO5 := hide own5; clear hg5 own5)
    go_ret
    have e6 : zs = cutOf os := by rw [e5.out, HE.out, ← Hnd.out, List.nil_append]
    subst e6
    exact ⟨A5, c5, rfl, HO5.out, below_grown HB4.out HG5.out HB4.out.size (fun q hq => (HO.out.blocks q hq).1)⟩
  · rw [cutOf_no hok]
    have ht := hide (tf_false hok)
    clear hok
    go_enter Tryd.func5, Tryd.ntmps5
    go_wp2_with fail
    refine (specValidOps_any A os c w h).mono ?_
    rintro e w1 ⟨rfl, hb1⟩
    rw [ht.out]
    go_wp2
    go_ret
    exact ⟨none, 0, rfl, OwnO.empty _ _, hb1⟩

end Go.Proofs.YtgjokdfjngpmcaaDoor

namespace Go.Proofs.YtgjokdfjngpmcaaDoor
open Go.RowKit Go.Maps
set_option linter.unusedVariables false

theorem cutOf_okX (os : List Od) : OpsOk (cutOf os) := by
  by_cases h : OpsOk os
  · rw [cutOf_ok h]
    exact ⟨Nat.le_trans (by simp; omega) h.1, fun o ho => h.2 o (List.mem_of_mem_take ho)⟩
  · rw [cutOf_no h]
    exact ⟨by simp, fun o ho => by cases ho⟩
theorem cutOf_fewX (os : List Od) : (cutOf os).length ≤ 300 := (cutOf_okX os).1
theorem cutOf_64X (os : List Od) : ∀ o ∈ cutOf os, In64 o.code ∧ In64 o.arg := by
  intro o ho
  have h := (cutOf_okX os).2 o ho
  have hm := argMost_range o.code
  unfold In64
  rcases h.2 with ⟨h2, h3⟩ | ⟨h2, h3, h4⟩
  · have := h.1; omega
  · have := h.1; omega

set_option maxRecDepth 100000 in
set_option maxHeartbeats 4000000 in
theorem exCT_small (A0 : Option Addr) (os0 : List Od) (c0 : Nat) (w : World) (hr0 : OpsAt w w.heap.size A0 os0) (hF : FormsAt w w.heap.size) (hN : NeedsAt w w.heap.size) (hs : 0 ≤ szI os0.length 1048576) :
    Calls Tryd.prog 3 #[.slice A0 os0.length c0] w fun e w' => e = .returned (.bool true) ∧ Below w.heap.size w w' := by
  have hsm0 : os0.length ≤ 1048576 := by unfold szI at hs; split at hs <;> omega
  have Hwf0 := hide hr0.wf
  have hnl0 := hr0.len
  have Hr0 := hide hr0
  have HhF := hide hF
  have HhN := hide hN
  clear hr0 hF hN
  go_enter Tryd.func3, Tryd.ntmps3
  have kW := Keeps.at_ 0 w
  go_wp2_with fail
  refine (szOpS_any A0 os0.length c0 _ w (by omega) (by omega) hnl0).mono ?_
  rintro e w' ⟨rfl, rfl⟩
  generalize szI os0.length 1048576 = sz at hs ⊢
  have hd : decide (sz < 0) = false := by simp; omega
  go_wp2_with fail
  refine (toOpS_any A0 os0 c0 w (Hr0.out.later kW.bel (Nat.le_refl _)) hsm0).mono ?_
  rintro e w1 ⟨rfl, hm, hb⟩
  have xs_0 := OpsAt.of_row hm hm.lt Hwf0.out hnl0
  have Hxs_0 := hide hm
  have sw1 : w.heap.size ≤ w1.heap.size := hb.size
  replace kW := kW.step hb
  clear hm hb
  go_wp2_with fail
  refine (specCutOps_any _ os0 _ w1 xs_0 (fun e => by cases e) (Nat.le_refl _)).mono ?_
  rintro e w2 ⟨AW0, cW0, rfl, hoW0, hb⟩
  have hRf0 : (cutOf os0).length ≤ 300 := cutOf_fewX os0
  have h640 : ∀ o ∈ cutOf os0, In64 o.code ∧ In64 o.arg := cutOf_64X os0
  generalize hRd0 : cutOf os0 = R0 at hoW0 hRf0 h640 ⊢
  have HRd0 := hide hRd0
  clear hRd0
  have H64_0 := hide h640
  clear h640
  have sw2 : w1.heap.size ≤ w2.heap.size := hb.size
  replace kW := kW.step hb
  clear xs_0 Hxs_0
  clear hb
  have HoW0 := hide hoW0
  have kW0 := Keeps.at_ w1.heap.size w2
  clear hoW0
  go_wp2_with fail
  refine (toOpS_any A0 os0 c0 w2 (Hr0.out.later kW.bel (Nat.le_refl _)) hsm0).mono ?_
  rintro e w3 ⟨rfl, hm, hb⟩
  have sw3 : w2.heap.size ≤ w3.heap.size := hb.size
  replace kW := kW.step hb
  replace kW0 := kW0.step hb
  clear hb
  have HX0 := hide hm
  have hx0 : w2.heap.size < w3.heap.size := hm.lt
  clear hm
  have kX0 := Keeps.at_ 0 w3
  go_wp2_with fail
  have HI := implCutOps_any (some ⟨w2.heap.size, 0, none⟩) os0 os0.length w3 (show OpsAt w3 w3.heap.size (some ⟨w2.heap.size, 0, none⟩) os0 from (OpsAt.of_row (rowIs_keep HX0.out kX0 (Nat.zero_le _) (by omega)) (by have := kX0.size; omega) Hwf0.out hnl0)) (fun e => by cases e) (Nat.le_refl _) (HhF.out.later kW.bel (Nat.le_refl _)) (HhN.out.later kW.bel (Nat.le_refl _))
  rw [HRd0.out] at HI
  refine HI.mono ?_
  clear HI
  rintro e w4 ⟨AG0, cG0, rfl, hoG0, hb⟩
  have sw4 : w3.heap.size ≤ w4.heap.size := hb.size
  replace kW := kW.step hb
  replace kW0 := kW0.step hb
  replace kX0 := kX0.step hb
  clear hb
  have HoG0 := hide hoG0
  have kG0 := Keeps.at_ w3.heap.size w4
  clear hoG0
  go_wp2_with fail
  have iG := ((HoG0.out.keepK kG0 (Nat.le_refl _) rfl).ops H64_0.out (by omega))
  have iW := ((HoW0.out.keepK kW0 (Nat.le_refl _) rfl).ops H64_0.out (by omega))
  refine (eqOpS_any AG0 AW0 R0 R0 cG0 cW0 w4 iG iW).mono ?_
  rintro e w5 ⟨rfl, hb⟩
  have hself : decide (R0 = R0) = true := by simp
  rw [hself]
  have sw5 : w4.heap.size ≤ w5.heap.size := hb.size
  replace kW := kW.step hb
  replace kW0 := kW0.step hb
  replace kX0 := kX0.step hb
  replace kG0 := kG0.step hb
  clear hb iG iW hself
  go_wp2_with fail
  refine (toOpS_any A0 os0 c0 w5 (Hr0.out.later kW.bel (Nat.le_refl _)) hsm0).mono ?_
  rintro e w6 ⟨rfl, hm, hb⟩
  have hy := OpsAt.of_row hm hm.lt Hwf0.out hnl0
  have sw6 : w5.heap.size ≤ w6.heap.size := hb.size
  replace kW := kW.step hb
  replace kW0 := kW0.step hb
  replace kX0 := kX0.step hb
  replace kG0 := kG0.step hb
  clear hm hb
  have hx := (show OpsAt w6 w6.heap.size (some ⟨w2.heap.size, 0, none⟩) os0 from (OpsAt.of_row (rowIs_keep HX0.out kX0 (Nat.zero_le _) (by omega)) (by have := kX0.size; omega) Hwf0.out hnl0))
  go_wp2_with fail
  refine (eqOpS_any _ _ os0 os0 _ _ w6 hx hy).mono ?_
  rintro e w7 ⟨rfl, hb⟩
  have hself : decide (os0 = os0) = true := by simp
  rw [hself]
  have sw7 : w6.heap.size ≤ w7.heap.size := hb.size
  replace kW := kW.step hb
  replace kW0 := kW0.step hb
  replace kX0 := kX0.step hb
  replace kG0 := kG0.step hb
  clear hb hx hy hself
  replace kX0 := kX0.mono (lo' := w2.heap.size) (hi' := w3.heap.size) (by omega) (Nat.le_refl _)
  go_wp2_with fail
  refine (markOpS_row (w2.heap.size) _ os0.length os0.length _ 1 w7 (rowIs_keep HX0.out kX0 (Nat.le_refl _) (by omega)) os0.length (Nat.le_refl _) (by omega) (by omega) (by omega)).mono ?_
  rintro e w8 ⟨rfl, _, hO⟩
  have sw8 : w7.heap.size ≤ w8.heap.size := by rw [hO.size]; exact Nat.le_refl _
  replace kW := kW.only hO (by omega)
  replace kW0 := kW0.only hO (by omega)
  replace kG0 := kG0.only hO (by omega)
  have hk0m : 0 ≤ 1 + 2 * (os0.length : Int) ∧ 1 + 2 * (os0.length : Int) ≤ 4000000000000 := by constructor <;> omega
  generalize 1 + 2 * (os0.length : Int) = k0m at hk0m ⊢
  clear hO
  clear kX0
  have hdk : decide (k0m < 0) = false := by simp; omega
  go_wp2_with fail
  have iG := ((HoG0.out.keepK kG0 (Nat.le_refl _) rfl).ops H64_0.out (by omega))
  have iW := ((HoW0.out.keepK kW0 (Nat.le_refl _) rfl).ops H64_0.out (by omega))
  refine (eqOpS_any AG0 AW0 R0 R0 cG0 cW0 w8 iG iW).mono ?_
  rintro e w9 ⟨rfl, hb⟩
  have hself : decide (R0 = R0) = true := by simp
  rw [hself]
  have sw9 : w8.heap.size ≤ w9.heap.size := hb.size
  replace kW := kW.step hb
  replace kW0 := kW0.step hb
  replace kG0 := kG0.step hb
  clear hb iG iW hself
  go_wp2_with fail
  refine (markOpS_own _ AG0 cG0 R0 1 w9 (HoG0.out.keepK kG0 (Nat.le_refl _) rfl) (by omega) (by omega) (by omega)).mono ?_
  rintro e w10 ⟨rfl, hoM0, hO⟩
  have ho := hO w3.heap.size w4.heap.size (fun g hg => HoG0.out.blocks g hg)
  have sw10 : w9.heap.size ≤ w10.heap.size := by rw [ho.size]; exact Nat.le_refl _
  replace kW := kW.only ho (by omega)
  replace kW0 := kW0.only ho (by omega)
  clear hO ho
  have Hm64_0 := hide (marksO_64 (k := 1) (n := R0.length) (by omega) (by omega) (by omega))
  have hml0 := marksO_len 1 R0.length
  clear kG0
  have HoM0 := hide hoM0
  clear hoM0
  have kM0 := Keeps.at_ 0 w10
  have hm0 : 0 ≤ 1 + 2 * (R0.length : Int) ∧ 1 + 2 * (R0.length : Int) ≤ 1048000 := by constructor <;> omega
  generalize hmd0 : 1 + 2 * (R0.length : Int) = m0 at hm0 ⊢
  have HMD0 := hide hmd0
  clear hmd0
  go_wp2_with fail
  have iG := (HoM0.out.keepK kM0 (Nat.zero_le _) rfl).ops Hm64_0.out (by omega)
  have HH := hide (heldOpS_any AG0 R0.length cG0 1 w10 iG (by omega) (by omega) (by omega))
  rw [HMD0.out] at HH
  refine HH.out.mono ?_
  clear HH iG
  rintro e w' ⟨rfl, rfl⟩
  have hdq0 : decide (m0 < 0) = false := by simp; omega
  have hne : (m0 != m0) = false := by simp
  go_wp2_with fail
  refine (toOpS_any A0 os0 c0 w10 (Hr0.out.later kW.bel (Nat.le_refl _)) hsm0).mono ?_
  rintro e w11 ⟨rfl, hm, hb⟩
  have y_0 := OpsAt.of_row hm hm.lt Hwf0.out hnl0
  have Hy_0 := hide hm
  have sw11 : w10.heap.size ≤ w11.heap.size := hb.size
  replace kW := kW.step hb
  replace kW0 := kW0.step hb
  replace kM0 := kM0.step hb
  clear hm hb
  go_wp2_with fail
  have HI := implCutOps_any (some ⟨w10.heap.size, 0, none⟩) os0 os0.length w11 y_0 (fun e => by cases e) (Nat.le_refl _) (HhF.out.later kW.bel (Nat.le_refl _)) (HhN.out.later kW.bel (Nat.le_refl _))
  rw [HRd0.out] at HI
  refine HI.mono ?_
  clear HI
  rintro e w12 ⟨AH0, cH0, rfl, hoH0, hb⟩
  have sw12 : w11.heap.size ≤ w12.heap.size := hb.size
  replace kW := kW.step hb
  replace kW0 := kW0.step hb
  replace kM0 := kM0.step hb
  clear y_0 Hy_0
  clear hb
  have HoH0 := hide hoH0
  have kH0 := Keeps.at_ w11.heap.size w12
  clear hoH0
  go_wp2_with fail
  have iG := ((HoH0.out.keepK kH0 (Nat.le_refl _) rfl).ops H64_0.out (by omega))
  have iW := ((HoW0.out.keepK kW0 (Nat.le_refl _) rfl).ops H64_0.out (by omega))
  refine (eqOpS_any AH0 AW0 R0 R0 cH0 cW0 w12 iG iW).mono ?_
  rintro e w13 ⟨rfl, hb⟩
  have hself : decide (R0 = R0) = true := by simp
  rw [hself]
  have sw13 : w12.heap.size ≤ w13.heap.size := hb.size
  replace kW := kW.step hb
  replace kW0 := kW0.step hb
  replace kM0 := kM0.step hb
  replace kH0 := kH0.step hb
  clear hb iG iW hself
  go_wp2_with fail
  have iG := (HoM0.out.keepK kM0 (Nat.zero_le _) rfl).ops Hm64_0.out (by omega)
  have HH := hide (heldOpS_any AG0 R0.length cG0 1 w13 iG (by omega) (by omega) (by omega))
  rw [HMD0.out] at HH
  refine HH.out.mono ?_
  clear HH iG
  rintro e w' ⟨rfl, rfl⟩
  have HBf := hide (kW.bel)
  go_wp2
  go_ret
  exact ⟨rfl, HBf.out⟩

set_option maxHeartbeats 1000000 in
theorem exCT_big (A0 : Option Addr) (os0 : List Od) (c0 : Nat) (w : World) (hr0 : OpsAt w w.heap.size A0 os0) (hF : FormsAt w w.heap.size) (hN : NeedsAt w w.heap.size) (hs : szI os0.length 1048576 < 0) :
    Calls Tryd.prog 3 #[.slice A0 os0.length c0] w fun e w' => e = .returned (.bool true) ∧ Below w.heap.size w w' := by
  have hnl := hr0.len
  clear hr0 hF hN
  go_enter Tryd.func3, Tryd.ntmps3
  go_wp2_with fail
  refine (szOpS_any A0 os0.length c0 1048576 w (by omega) (by omega) hnl).mono ?_
  rintro e w' ⟨rfl, rfl⟩
  generalize szI os0.length 1048576 = sz at hs ⊢
  have hd : decide (sz < 0) = true := by simp; omega
  go_wp2
  go_ret
  exact ⟨rfl, Below.refl _ _⟩

theorem exCT_any (A0 : Option Addr) (os0 : List Od) (c0 : Nat) (w : World) (hr0 : OpsAt w w.heap.size A0 os0) (hF : FormsAt w w.heap.size) (hN : NeedsAt w w.heap.size) :
    Calls Tryd.prog 3 #[.slice A0 os0.length c0] w fun e w' => e = .returned (.bool true) ∧ Below w.heap.size w w' := by
  by_cases hs : 0 ≤ szI os0.length 1048576
  · exact exCT_small A0 os0 c0 w hr0 hF hN  hs
  · exact exCT_big A0 os0 c0 w hr0 hF hN  (by omega)

end Go.Proofs.YtgjokdfjngpmcaaDoor
