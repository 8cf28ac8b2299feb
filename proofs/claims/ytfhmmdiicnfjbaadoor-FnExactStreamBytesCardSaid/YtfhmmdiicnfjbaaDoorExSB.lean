/-
  The walk of the law FnExactStreamBytes: for every program it returns true and writes nothing that was there.
-/
import Derived.Test.YtfhmmdiicnfjbaaDoorStmI
import Derived.Test.YtfhmmdiicnfjbaaDoorPjAe
import Derived.Test.YtfhmmdiicnfjbaaDoorToO
import Derived.Test.YtfhmmdiicnfjbaaDoorEqO
import Derived.Test.YtfhmmdiicnfjbaaDoorEqS
import Derived.Test.YtfhmmdiicnfjbaaDoorHeldI
import Derived.Test.YtfhmmdiicnfjbaaDoorMarkO
import Derived.Deep.RegionHeld3
namespace Go.Proofs.YtfhmmdiicnfjbaaDoor
open Go.RowKit Go.Maps
set_option linter.unusedVariables false

theorem streamOf_64 (os : List Od) (m : Int) : ∀ x ∈ streamOf os m, In64 x := framesOf_64 m _

set_option maxRecDepth 100000 in
set_option maxHeartbeats 4000000 in
theorem exSB_small (A : Option Addr) (os : List Od) (c : Nat) (m0 : Int) (w : World) (hr : OpsAt w w.heap.size A os) (hF : FormsAt w w.heap.size) (hs : 0 ≤ szI os.length 1048576) :
    Calls Tryd.prog 3 #[.slice A os.length c, .int .i64 m0] w fun e w' => e = .returned (.bool true) ∧ Below w.heap.size w w' := by
  have hsm : os.length ≤ 1048576 := by unfold szI at hs; split at hs <;> omega
  have hwf := hr.wf
  have Hwf := hide hwf
  have hnl := hr.len
  clear hwf
  go_enter Tryd.func3, Tryd.ntmps3
  go_wp2_with fail
  refine (szOpS_any A os.length c 1048576 w (by omega) (by omega) hnl).mono ?_
  rintro e w1 ⟨rfl, rfl⟩
  generalize szI os.length 1048576 = sz at hs ⊢
  have hd : decide (sz < 0) = false := by simp; omega
  go_wp2_with fail
  refine (toOpS_any A os c w hr hsm).mono ?_
  rintro e w2 ⟨rfl, hm2, hB2⟩
  have hx2 := OpsAt.of_row hm2 hm2.lt Hwf.out hnl
  clear hm2
  go_wp2_with fail
  refine (specStreamBytes_any _ os _ m0 w2 hx2).mono ?_
  rintro e w3 ⟨Aw, cw, rfl, hoW, hb3⟩
  have hRf : (streamOf os m0).length ≤ 2000 := Nat.le_trans (streamOf_few os m0) (by omega)
  have h64 : ∀ x ∈ streamOf os m0, In64 x := streamOf_64 os m0
  generalize hRd : streamOf os m0 = R at hoW hRf h64 ⊢
  have HRd := hide hRd
  have H64 := hide h64
  clear hRd h64
  have hB3 := hB2.trans (hb3.mono hB2.size)
  have HbW : Hid (∀ g, blockOf Aw = some g → g < w3.heap.size) := fun g hg => (hoW.blocks g hg).2
  clear hx2 hb3 hB2
  go_wp2_with fail
  refine (toOpS_any A os c w3 (hr.later hB3 (Nat.le_refl _)) hsm).mono ?_
  rintro e w4 ⟨rfl, hm4, hb4⟩
  have hx4 := OpsAt.of_row hm4 hm4.lt Hwf.out hnl
  have hB4 := hB3.trans (hb4.mono hB3.size)
  have hoW4 := hoW.below hb4
  have hg4 := hm4.lt
  have hwg : w.heap.size ≤ w3.heap.size := hB3.size
  clear hB3 hoW hb4
  go_wp2_with fail
  have HI := implStreamBytes_any _ os os.length m0 w4 hx4 (Nat.le_refl _) (hF.later hB4 (Nat.le_refl _))
  rw [HRd.out] at HI
  refine HI.mono ?_
  clear HI
  rintro e w5 ⟨Ag, cg, rfl, hoG, hb5⟩
  have HbG : Hid (∀ g, blockOf Ag = some g → w4.heap.size ≤ g ∧ g < w5.heap.size) := fun g hg => hoG.blocks g hg
  have hB5 := hB4.trans (hb5.mono hB4.size)
  have hm5 := rowIs_below hm4 hb5 hg4
  have hoW5 := hoW4.below hb5
  have hsz45 : w4.heap.size ≤ w5.heap.size := hb5.size
  clear hB4 hm4 hx4 hoW4 hb5
  have iG := hoG.ints H64.out (by omega)
  have iW := hoW5.ints H64.out (by omega)
  go_wp2_with fail
  refine (eqIntS_any Ag Aw R R cg cw w5 iG iW).mono ?_
  rintro e w6 ⟨rfl, hb6⟩
  have hself : decide (R = R) = true := by simp
  rw [hself]
  have hB6 := hB5.trans (hb6.mono hB5.size)
  have hm6 := rowIs_below hm5 hb6 (by omega)
  have hoW6 := hoW5.below hb6
  have hoG6 := hoG.below hb6
  have hsz56 : w5.heap.size ≤ w6.heap.size := hb6.size
  clear hB5 hm5 hoW5 hoG hb6 iG iW hself
  go_wp2_with fail
  refine (toOpS_any A os c w6 (hr.later hB6 (Nat.le_refl _)) hsm).mono ?_
  rintro e w7 ⟨rfl, hm7, hb7⟩
  have hy7 := OpsAt.of_row hm7 hm7.lt Hwf.out hnl
  have hB7 := hB6.trans (hb7.mono hB6.size)
  have hmx7 := rowIs_below hm6 hb7 (by omega)
  have hoW7 := hoW6.below hb7
  have hoG7 := hoG6.below hb7
  have hx7 := OpsAt.of_row hmx7 hmx7.lt Hwf.out hnl
  have hsz67 : w6.heap.size ≤ w7.heap.size := hb7.size
  clear hB6 hm6 hoW6 hoG6 hb7 hm7
  go_wp2_with fail
  refine (eqOpS_any _ _ os os _ _ w7 hx7 hy7).mono ?_
  rintro e w8 ⟨rfl, hb8⟩
  have hself : decide (os = os) = true := by simp
  rw [hself]
  have hB8 := hB7.trans (hb8.mono hB7.size)
  have hmx8 := rowIs_below hmx7 hb8 (by omega)
  have hoW8 := hoW7.below hb8
  have hoG8 := hoG7.below hb8
  have hsz78 : w7.heap.size ≤ w8.heap.size := hb8.size
  clear hB7 hmx7 hoW7 hoG7 hb8 hx7 hy7 hself
  go_wp2_with fail
  refine (markOpS_row w3.heap.size _ os.length os.length _ 1 w8 hmx8 os.length (Nat.le_refl _) (by omega) (by omega) (by omega)).mono ?_
  rintro e w9 ⟨rfl, _, ho9⟩
  have hk1 : (0 : Int) ≤ 1 + 2 * (os.length : Int) := by omega
  generalize (1 : Int) + 2 * (os.length : Int) = k1 at hk1 ⊢
  have hdk : decide (k1 < 0) = false := by simp; omega
  have hbl := ho9.below
  have hB9 := hB8.trans (hbl.mono hwg)
  have hoW9 := hoW8.only ho9 (fun g hg => .inl (by have := HbW.out g hg; omega))
  have hoG9 := hoG8.only ho9 (fun g hg => .inr (by have := HbG.out g hg; omega))
  have hsz89 : w8.heap.size ≤ w9.heap.size := by rw [ho9.size]; exact Nat.le_refl _
  clear hB8 hmx8 hoW8 hoG8 ho9 hbl
  have iG := hoG9.ints H64.out (by omega)
  have iW := hoW9.ints H64.out (by omega)
  go_wp2_with fail
  refine (eqIntS_any Ag Aw R R cg cw w9 iG iW).mono ?_
  rintro e w10 ⟨rfl, hb10⟩
  have hself : decide (R = R) = true := by simp
  rw [hself]
  have hB10 := hB9.trans (hb10.mono hB9.size)
  have hoW10 := hoW9.below hb10
  have hoG10 := hoG9.below hb10
  have hsz910 : w9.heap.size ≤ w10.heap.size := hb10.size
  clear hB9 hoW9 hoG9 hb10 iG iW hself
  go_wp2_with fail
  refine (markIntS_own _ Ag cg R 1 w10 hoG10 (by omega) (by omega) (by omega)).mono ?_
  rintro e w11 ⟨rfl, hoG11, hO⟩
  have ho := hO w4.heap.size w5.heap.size HbG.out
  have hbl := ho.below
  have hB11 := hB10.trans (hbl.mono (by omega))
  have hoW11 := hoW10.only ho (fun g hg => .inl (by have := HbW.out g hg; omega))
  have hsz1011 : w10.heap.size ≤ w11.heap.size := by rw [ho.size]; exact Nat.le_refl _
  clear hO ho hbl hB10 hoW10 hoG10
  have hml := marks_len 1 R.length
  have hm64 : ∀ x ∈ marks 1 R.length, In64 x := fun x hx => by
    obtain ⟨j, hj, rfl⟩ := List.mem_map.1 hx
    have := List.mem_range.1 hj
    constructor <;> omega
  have Hm64 := hide hm64
  clear hm64
  have iG := hoG11.ints Hm64.out (by omega)
  go_wp2_with fail
  refine (heldIntS_any Ag R.length cg 1 w11 iG (by omega) (by omega) (by omega)).mono ?_
  rintro e w' ⟨rfl, rfl⟩
  have hmp : 0 ≤ 1 + (R.length : Int) := by omega
  generalize hmd : 1 + (R.length : Int) = m at hmp ⊢
  have HMD := hide hmd
  clear hmd
  have hdq : decide (m < 0) = false := by simp; omega
  have hne : (m != m) = false := by simp
  clear iG
  go_wp2_with fail
  refine (toOpS_any A os c w11 (hr.later hB11 (Nat.le_refl _)) hsm).mono ?_
  rintro e w12 ⟨rfl, hm12, hb12⟩
  have hx12 := OpsAt.of_row hm12 hm12.lt Hwf.out hnl
  have hB12 := hB11.trans (hb12.mono hB11.size)
  have hoW12 := hoW11.below hb12
  have hoG12 := hoG11.below hb12
  clear hm12 hb12 hB11 hoW11 hoG11
  go_wp2_with fail
  have HI := implStreamBytes_any _ os os.length m0 w12 hx12 (Nat.le_refl _) (hF.later hB12 (Nat.le_refl _))
  rw [HRd.out] at HI
  refine HI.mono ?_
  clear HI
  rintro e w13 ⟨Ah, ch, rfl, hoH, hb13⟩
  have hB13 := hB12.trans (hb13.mono hB12.size)
  have hoW13 := hoW12.below hb13
  have hoG13 := hoG12.below hb13
  clear hb13 hB12 hoW12 hoG12 hx12
  have iH := hoH.ints H64.out (by omega)
  have iW := hoW13.ints H64.out (by omega)
  go_wp2_with fail
  refine (eqIntS_any Ah Aw R R ch cw w13 iH iW).mono ?_
  rintro e w14 ⟨rfl, hb14⟩
  have hself : decide (R = R) = true := by simp
  rw [hself]
  have hB14 := hB13.trans (hb14.mono hB13.size)
  have hoG14 := hoG13.below hb14
  clear hb14 hB13 hoG13 hoW13 hoH iH iW hself
  have iG := hoG14.ints Hm64.out (by omega)
  go_wp2_with fail
  refine (heldIntS_any Ag R.length cg 1 w14 iG (by omega) (by omega) (by omega)).mono ?_
  rintro e w' ⟨rfl, rfl⟩
  rw [HMD.out]
  clear iG hoG14
  go_wp2
  go_ret
  exact ⟨rfl, hB14⟩

set_option maxHeartbeats 1000000 in
theorem exSB_big (A : Option Addr) (os : List Od) (c : Nat) (m0 : Int) (w : World) (hr : OpsAt w w.heap.size A os) (hs : szI os.length 1048576 < 0) :
    Calls Tryd.prog 3 #[.slice A os.length c, .int .i64 m0] w fun e w' => e = .returned (.bool true) ∧ Below w.heap.size w w' := by
  have hnl := hr.len
  go_enter Tryd.func3, Tryd.ntmps3
  go_wp2_with fail
  refine (szOpS_any A os.length c 1048576 w (by omega) (by omega) hnl).mono ?_
  rintro e w1 ⟨rfl, rfl⟩
  generalize szI os.length 1048576 = sz at hs ⊢
  have hd : decide (sz < 0) = true := by simp; omega
  go_wp2
  go_ret
  exact ⟨rfl, Below.refl _ _⟩

theorem exSB_any (A : Option Addr) (os : List Od) (c : Nat) (m0 : Int) (w : World) (hr : OpsAt w w.heap.size A os) (hF : FormsAt w w.heap.size) :
    Calls Tryd.prog 3 #[.slice A os.length c, .int .i64 m0] w fun e w' => e = .returned (.bool true) ∧ Below w.heap.size w w' := by
  by_cases hs : 0 ≤ szI os.length 1048576
  · exact exSB_small A os c m0 w hr hF hs
  · exact exSB_big A os c m0 w hr (by omega)

end Go.Proofs.YtfhmmdiicnfjbaaDoor
