/-
  The walk of the law FnExactRecoverStream: at every argument it returns true and writes nothing that was there.
-/
import Derived.Test.YtngohlegdjppeacDoorRcS
import Derived.Test.YtngohlegdjppeacDoorRcI
import Derived.Test.YtngohlegdjppeacDoorToI
import Derived.Test.YtngohlegdjppeacDoorEqS
import Derived.Test.YtngohlegdjppeacDoorEqO
import Derived.Test.YtngohlegdjppeacDoorMarkOO
import Derived.Test.YtngohlegdjppeacDoorMarkI
import Derived.Deep.RegionHeld3
namespace Go.Proofs.YtngohlegdjppeacDoor
open Go.RowKit Go.Maps
set_option linter.unusedVariables false

set_option maxRecDepth 100000 in
set_option maxHeartbeats 4000000 in
theorem exRC_small (A : Option Addr) (xs : List Int) (c : Nat) (w : World) (hr : IntsAt w w.heap.size A xs) (hF : FormsAt w w.heap.size) (hsm : xs.length ≤ 1048576) :
    Calls Tryd.prog 3 #[.slice A xs.length c] w fun e w' => e = .returned (.bool true) ∧ Below w.heap.size w w' := by
  have Hwf := hide hr.wf
  have hnl := hr.len
  have h1048 : ¬ 1048576 < (xs.length : Int) := by omega
  go_enter Tryd.func3, Tryd.ntmps3
  go_wp2_with fail
  clear h1048
  refine (toIntS_any A xs c w hr hsm).mono ?_
  rintro e w2 ⟨rfl, hm2, hB2⟩
  have hx2 := IntsAt.of_row hm2 hm2.lt Hwf.out hnl
  clear hm2
  go_wp2_with fail
  refine (specRecoverStream_any _ xs _ w2 hx2 (Nat.le_refl _)).mono ?_
  rintro e w3 ⟨Aw, cw, rfl, hoW, hb3⟩
  have hRf : (recOps xs).length ≤ 2000 := Nat.le_trans (recOps_few xs) (by omega)
  have h64 : ∀ o ∈ recOps xs, In64 o.code ∧ In64 o.arg := recOps_64 xs
  generalize hRd : recOps xs = R at hoW hRf h64 ⊢
  have HRd := hide hRd
  have H64 := hide h64
  clear hRd h64
  have hB3 := hB2.trans (hb3.mono hB2.size)
  have HbW : Hid (∀ g, blockOf Aw = some g → g < w3.heap.size) := fun g hg => (hoW.blocks g hg).2
  clear hx2 hb3 hB2
  go_wp2_with fail
  refine (toIntS_any A xs c w3 (hr.later hB3 (Nat.le_refl _)) hsm).mono ?_
  rintro e w4 ⟨rfl, hm4, hb4⟩
  have hx4 := IntsAt.of_row hm4 hm4.lt Hwf.out hnl
  have hB4 := hB3.trans (hb4.mono hB3.size)
  have hoW4 := hoW.below hb4
  have hg4 := hm4.lt
  have hwg : w.heap.size ≤ w3.heap.size := hB3.size
  clear hB3 hoW hb4
  go_wp2_with fail
  have HI := (implRecoverStream_any _ xs xs.length w4 hx4 (fun e => by cases e) (Nat.le_refl _) (hF.later hB4 (Nat.le_refl _)))
  rw [HRd.out] at HI
  refine HI.mono ?_
  clear HI
  rintro e w5 ⟨Ag, cg, rfl, hoG, hb5⟩
  have HbG : Hid (∀ g, blockOf Ag = some g → w4.heap.size ≤ g ∧ g < w5.heap.size) := fun g hg => hoG.blocks g hg
  have hB5 := hB4.trans (hb5.mono hB4.size)
  have hm5 := rowIs_below hm4 hb5 hg4
  have hoW5 := hoW4.below hb5
  have hsz45 : w4.heap.size ≤ w5.heap.size := hb5.size
  clear hB4 hm4 hx4 hoW4 hb5
  have iG := hoG.ops H64.out (by omega)
  have iW := hoW5.ops H64.out (by omega)
  go_wp2_with fail
  refine (eqOpS_any Ag Aw R R cg cw w5 iG iW).mono ?_
  rintro e w6 ⟨rfl, hb6⟩
  have hself : decide (R = R) = true := by simp
  rw [hself]
  have hB6 := hB5.trans (hb6.mono hB5.size)
  have hm6 := rowIs_below hm5 hb6 (by omega)
  have hoW6 := hoW5.below hb6
  have hoG6 := hoG.below hb6
  have hsz56 : w5.heap.size ≤ w6.heap.size := hb6.size
  clear hB5 hm5 hoW5 hoG hb6 iG iW hself
  go_wp2_with fail
  refine (toIntS_any A xs c w6 (hr.later hB6 (Nat.le_refl _)) hsm).mono ?_
  rintro e w7 ⟨rfl, hm7, hb7⟩
  have hy7 := IntsAt.of_row hm7 hm7.lt Hwf.out hnl
  have hB7 := hB6.trans (hb7.mono hB6.size)
  have hmx7 := rowIs_below hm6 hb7 (by omega)
  have hoW7 := hoW6.below hb7
  have hoG7 := hoG6.below hb7
  have hx7 := IntsAt.of_row hmx7 hmx7.lt Hwf.out hnl
  have hsz67 : w6.heap.size ≤ w7.heap.size := hb7.size
  clear hB6 hm6 hoW6 hoG6 hb7 hm7
  go_wp2_with fail
  refine (eqIntS_any _ _ xs xs _ _ w7 hx7 hy7).mono ?_
  rintro e w8 ⟨rfl, hb8⟩
  have hself : decide (xs = xs) = true := by simp
  rw [hself]
  have hB8 := hB7.trans (hb8.mono hB7.size)
  have hmx8 := rowIs_below hmx7 hb8 (by omega)
  have hoW8 := hoW7.below hb8
  have hoG8 := hoG7.below hb8
  have hsz78 : w7.heap.size ≤ w8.heap.size := hb8.size
  clear hB7 hmx7 hoW7 hoG7 hb8 hx7 hy7 hself
  go_wp2_with fail
  refine (markIntS_row w3.heap.size _ xs.length xs.length _ 1 w8 hmx8 xs.length (Nat.le_refl _) (by omega) (by omega) (by omega)).mono ?_
  rintro e w9 ⟨rfl, _, ho9⟩
  have hk1 : (0 : Int) ≤ 1 + (xs.length : Int) := by omega
  generalize (1 : Int) + (xs.length : Int) = k1 at hk1 ⊢
  have hdk : decide (k1 < 0) = false := by simp; omega
  have ho9 := ho9.mono (Nat.le_refl _) (show w3.heap.size + 1 ≤ w4.heap.size by omega)
  have hbl := ho9.below
  have hB9 := hB8.trans (hbl.mono hwg)
  have hoW9 := hoW8.only ho9 (fun g hg => .inl (by have := HbW.out g hg; omega))
  have hoG9 := hoG8.only ho9 (fun g hg => .inr (by have := HbG.out g hg; omega))
  have hsz89 : w8.heap.size ≤ w9.heap.size := by rw [ho9.size]; exact Nat.le_refl _
  clear hB8 hmx8 hoW8 hoG8 ho9 hbl
  have iG := hoG9.ops H64.out (by omega)
  have iW := hoW9.ops H64.out (by omega)
  go_wp2_with fail
  refine (eqOpS_any Ag Aw R R cg cw w9 iG iW).mono ?_
  rintro e w10 ⟨rfl, hb10⟩
  have hself : decide (R = R) = true := by simp
  rw [hself]
  have hB10 := hB9.trans (hb10.mono hB9.size)
  have hoW10 := hoW9.below hb10
  have hoG10 := hoG9.below hb10
  have hsz910 : w9.heap.size ≤ w10.heap.size := hb10.size
  clear hB9 hoW9 hoG9 hb10 iG iW hself
  go_wp2_with fail
  refine (markOpS_own _ Ag cg R 1 w10 hoG10 (by omega) (by omega) (by omega)).mono ?_
  rintro e w11 ⟨rfl, hoG11, hO⟩
  have ho := hO w4.heap.size w5.heap.size HbG.out
  have hbl := ho.below
  have hB11 := hB10.trans (hbl.mono (by omega))
  have hoW11 := hoW10.only ho (fun g hg => .inl (by have := HbW.out g hg; omega))
  have hsz1011 : w10.heap.size ≤ w11.heap.size := by rw [ho.size]; exact Nat.le_refl _
  clear hO ho hbl hB10 hoW10 hoG10
  have hml := marksO_len 1 R.length
  have hm64 : ∀ o ∈ marksO 1 R.length, In64 o.code ∧ In64 o.arg := marksO_64 (by omega) (by omega) (by omega)
  have Hm64 := hide hm64
  clear hm64
  have iG := hoG11.ops Hm64.out (by omega)
  go_wp2_with fail
  refine (heldOpS_any Ag R.length cg 1 w11 iG (by omega) (by omega) (by omega)).mono ?_
  rintro e w' ⟨rfl, rfl⟩
  have hmp : 0 ≤ 1 + 2 * (R.length : Int) := by omega
  generalize hmd : 1 + 2 * (R.length : Int) = mk at hmp ⊢
  have HMD := hide hmd
  clear hmd
  have hdq : decide (mk < 0) = false := by simp; omega
  have hne : (mk != mk) = false := by simp
  clear iG
  go_wp2_with fail
  refine (toIntS_any A xs c w11 (hr.later hB11 (Nat.le_refl _)) hsm).mono ?_
  rintro e w12 ⟨rfl, hm12, hb12⟩
  have hx12 := IntsAt.of_row hm12 hm12.lt Hwf.out hnl
  have hB12 := hB11.trans (hb12.mono hB11.size)
  have hoW12 := hoW11.below hb12
  have hoG12 := hoG11.below hb12
  clear hm12 hb12 hB11 hoW11 hoG11
  go_wp2_with fail
  have HI := (implRecoverStream_any _ xs xs.length w12 hx12 (fun e => by cases e) (Nat.le_refl _) (hF.later hB12 (Nat.le_refl _)))
  rw [HRd.out] at HI
  refine HI.mono ?_
  clear HI
  rintro e w13 ⟨Ah, ch, rfl, hoH, hb13⟩
  have hB13 := hB12.trans (hb13.mono hB12.size)
  have hoW13 := hoW12.below hb13
  have hoG13 := hoG12.below hb13
  clear hb13 hB12 hoW12 hoG12 hx12
  have iH := hoH.ops H64.out (by omega)
  have iW := hoW13.ops H64.out (by omega)
  go_wp2_with fail
  refine (eqOpS_any Ah Aw R R ch cw w13 iH iW).mono ?_
  rintro e w14 ⟨rfl, hb14⟩
  have hself : decide (R = R) = true := by simp
  rw [hself]
  have hB14 := hB13.trans (hb14.mono hB13.size)
  have hoG14 := hoG13.below hb14
  clear hb14 hB13 hoG13 hoW13 hoH iH iW hself
  have iG := hoG14.ops Hm64.out (by omega)
  go_wp2_with fail
  refine (heldOpS_any Ag R.length cg 1 w14 iG (by omega) (by omega) (by omega)).mono ?_
  rintro e w' ⟨rfl, rfl⟩
  rw [HMD.out]
  clear iG hoG14
  go_wp2
  go_ret
  exact ⟨rfl, hB14⟩

set_option maxHeartbeats 1000000 in
theorem exRC_big (A : Option Addr) (xs : List Int) (c : Nat) (w : World) (hr : IntsAt w w.heap.size A xs) (hs : 1048576 < xs.length) :
    Calls Tryd.prog 3 #[.slice A xs.length c] w fun e w' => e = .returned (.bool true) ∧ Below w.heap.size w w' := by
  have hnl := hr.len
  have h1048 : 1048576 < (xs.length : Int) := by omega
  go_enter Tryd.func3, Tryd.ntmps3
  go_wp2
  go_ret
  exact ⟨rfl, Below.refl _ _⟩

theorem exRC_any (A : Option Addr) (xs : List Int) (c : Nat) (w : World) (hr : IntsAt w w.heap.size A xs) (hF : FormsAt w w.heap.size) :
    Calls Tryd.prog 3 #[.slice A xs.length c] w fun e w' => e = .returned (.bool true) ∧ Below w.heap.size w w' := by
  by_cases hs : xs.length ≤ 1048576
  · exact exRC_small A xs c w hr hF hs
  · exact exRC_big A xs c w hr (by omega)

end Go.Proofs.YtngohlegdjppeacDoor
