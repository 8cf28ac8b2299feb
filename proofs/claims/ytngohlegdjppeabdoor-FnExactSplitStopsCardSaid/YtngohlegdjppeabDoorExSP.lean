/-
  The walk of the law FnExactSplitStops: for every program it returns true and writes nothing that was there.
-/
import Derived.Test.YtngohlegdjppeabDoorSpI
import Derived.Test.YtngohlegdjppeabDoorEqSS
import Derived.Test.YtngohlegdjppeabDoorSzO
import Derived.Test.YtngohlegdjppeabDoorToO
import Derived.Test.YtngohlegdjppeabDoorEqO
import Derived.Test.YtngohlegdjppeabDoorMarkOO
import Derived.Deep.RegionHeld3
namespace Go.Proofs.YtngohlegdjppeabDoor
open Go.RowKit Go.Maps
set_option linter.unusedVariables false

theorem splitOf_wf (os : List Od) : Wf64 (splitOf os) ∧ ∀ p ∈ splitOf os, p.length ≤ 300 := by
  refine ⟨fun p hp => ⟨by have := (splitOf_part hp).1; omega, fun o ho => ?_⟩, fun p hp => (splitOf_part hp).1⟩
  have h := (splitOf_part hp).2 o ho
  have hm := argMost_range o.code
  unfold In64
  rcases h.2 with ⟨h2, h3⟩ | ⟨h2, h3, h4⟩
  · have := h.1; omega
  · have := h.1; omega
theorem marksOS_wf {k : Int} {oss : List (List Od)} (h0 : 0 ≤ k) (h1 : k ≤ 2) (hn : oss.length ≤ 300) (hs : ∀ os ∈ oss, os.length ≤ 300) : Wf64 (marksOS k oss) := by
  intro ms hms
  obtain ⟨j, hj, rfl⟩ := List.getElem_of_mem hms
  rw [marksOS_len] at hj
  have ho : oss[j]? = some oss[j] := List.getElem?_eq_getElem hj
  have hat := marksOS_at k ho
  rw [List.getElem?_eq_getElem (by rw [marksOS_len]; exact hj)] at hat
  injection hat with hat
  rw [hat]
  have hle := endOS_le (oss.take j) k (fun p hp => hs p (List.mem_of_mem_take hp))
  have hl : (oss.take j).length ≤ 300 := by simp; omega
  have h3 := hs _ (List.mem_of_getElem? ho)
  exact ⟨by rw [marksO_len]; omega, marksO_64 (by omega) (by omega) (by omega)⟩

set_option maxRecDepth 100000 in
set_option maxHeartbeats 4000000 in
theorem exSP_small (A : Option Addr) (os : List Od) (c : Nat) (w : World) (hr : OpsAt w w.heap.size A os) (hF : FormsAt w w.heap.size) (hs : 0 ≤ szI os.length 1048576) :
    Calls Tryd.prog 3 #[.slice A os.length c] w fun e w' => e = .returned (.bool true) ∧ Below w.heap.size w w' := by
  have hsm : os.length ≤ 1048576 := by unfold szI at hs; split at hs <;> omega
  have hwf := hr.wf
  have Hwf := hide hwf
  have hnl := hr.len
  clear hwf
  go_enter Tryd.func3, Tryd.ntmps3
  go_wp2_with fail
  refine (szOpS_any A os.length c 1048576 w (by omega) (by omega) hnl).mono ?_
  rintro e w1 ⟨rfl, rfl⟩
  generalize szI os.length 1048576 = sz at hs ⊢
  have hd : decide (sz < 0) = false := by simp; omega
  go_wp2_with fail
  refine (toOpS_any A os c w hr hsm).mono ?_
  rintro e w2 ⟨rfl, hm2, hB2⟩
  have hx2 := OpsAt.of_row hm2 hm2.lt Hwf.out hnl
  clear hm2
  go_wp2_with fail
  refine (specSplitStops_any _ os _ w2 hx2).mono ?_
  rintro e w3 ⟨Aw, cw, pw, rfl, hoW, hb3⟩
  have hRf := splitOf_few os
  have h64 := splitOf_wf os
  generalize hRd : splitOf os = R at hoW hRf h64 ⊢
  have HRd := hide hRd
  have H64 := hide h64.1
  have H300 := hide h64.2
  clear hRd h64
  have hB3 := hB2.trans (hb3.mono hB2.size)
  have HbW := hide hoW.in_
  clear hx2 hb3 hB2
  go_wp2_with fail
  refine (toOpS_any A os c w3 (hr.later hB3 (Nat.le_refl _)) hsm).mono ?_
  rintro e w4 ⟨rfl, hm4, hb4⟩
  have hx4 := OpsAt.of_row hm4 hm4.lt Hwf.out hnl
  have hB4 := hB3.trans (hb4.mono hB3.size)
  have hoW4 := hoW.below hb4
  have hg4 := hm4.lt
  have hwg : w.heap.size ≤ w3.heap.size := hB3.size
  clear hB3 hoW hb4
  go_wp2_with fail
  have HI := implSplitStops_any _ os os.length w4 hx4 (Nat.le_refl _) (hF.later hB4 (Nat.le_refl _))
  rw [HRd.out] at HI
  refine HI.mono ?_
  clear HI
  rintro e w5 ⟨Ag, cg, pg, rfl, hoG, hb5⟩
  have HbG := hide hoG.in_
  have hB5 := hB4.trans (hb5.mono hB4.size)
  have hm5 := rowIs_below hm4 hb5 hg4
  have hoW5 := hoW4.below hb5
  have hsz45 : w4.heap.size ≤ w5.heap.size := hb5.size
  clear hB4 hm4 hx4 hoW4 hb5
  have iG := hoG.ops H64.out (by omega)
  have iW := hoW5.ops H64.out (by omega)
  go_wp2_with fail
  refine (eqOpSS_same Ag Aw R cg cw w5 iG iW).mono ?_
  rintro e w6 ⟨rfl, hb6⟩
  have hB6 := hB5.trans (hb6.mono hB5.size)
  have hm6 := rowIs_below hm5 hb6 (by omega)
  have hoW6 := hoW5.below hb6
  have hoG6 := hoG.below hb6
  have hsz56 : w5.heap.size ≤ w6.heap.size := hb6.size
  clear hB5 hm5 hoW5 hoG hb6 iG iW
  go_wp2_with fail
  refine (toOpS_any A os c w6 (hr.later hB6 (Nat.le_refl _)) hsm).mono ?_
  rintro e w7 ⟨rfl, hm7, hb7⟩
  have hy7 := OpsAt.of_row hm7 hm7.lt Hwf.out hnl
  have hB7 := hB6.trans (hb7.mono hB6.size)
  have hmx7 := rowIs_below hm6 hb7 (by omega)
  have hoW7 := hoW6.below hb7
  have hoG7 := hoG6.below hb7
  have hx7 := OpsAt.of_row hmx7 hmx7.lt Hwf.out hnl
  have hsz67 : w6.heap.size ≤ w7.heap.size := hb7.size
  clear hB6 hm6 hoW6 hoG6 hb7 hm7
  go_wp2_with fail
  refine (eqOpS_any _ _ os os _ _ w7 hx7 hy7).mono ?_
  rintro e w8 ⟨rfl, hb8⟩
  have hself : decide (os = os) = true := by simp
  rw [hself]
  have hB8 := hB7.trans (hb8.mono hB7.size)
  have hmx8 := rowIs_below hmx7 hb8 (by omega)
  have hoW8 := hoW7.below hb8
  have hoG8 := hoG7.below hb8
  have hsz78 : w7.heap.size ≤ w8.heap.size := hb8.size
  clear hB7 hmx7 hoW7 hoG7 hb8 hx7 hy7 hself
  go_wp2_with fail
  refine (markOpS_row w3.heap.size _ os.length os.length _ 1 w8 hmx8 os.length (Nat.le_refl _) (by omega) (by omega) (by omega)).mono ?_
  rintro e w9 ⟨rfl, _, ho9⟩
  have hk1 : (0 : Int) ≤ 1 + 2 * (os.length : Int) := by omega
  generalize (1 : Int) + 2 * (os.length : Int) = k1 at hk1 ⊢
  have hdk : decide (k1 < 0) = false := by simp; omega
  have hbl := ho9.below
  have hB9 := hB8.trans (hbl.mono hwg)
  have hoW9 := hoW8.only HbW.out ho9 (.inl (Nat.le_refl _))
  have hoG9 := hoG8.only HbG.out ho9 (.inr (by omega))
  have hsz89 : w8.heap.size ≤ w9.heap.size := by rw [ho9.size]; exact Nat.le_refl _
  clear hB8 hmx8 hoW8 hoG8 ho9 hbl
  have iG := hoG9.ops H64.out (by omega)
  have iW := hoW9.ops H64.out (by omega)
  go_wp2_with fail
  refine (eqOpSS_same Ag Aw R cg cw w9 iG iW).mono ?_
  rintro e w10 ⟨rfl, hb10⟩
  have hB10 := hB9.trans (hb10.mono hB9.size)
  have hoW10 := hoW9.below hb10
  have hoG10 := hoG9.below hb10
  have hsz910 : w9.heap.size ≤ w10.heap.size := hb10.size
  clear hB9 hoW9 hoG9 hb10 iG iW
  go_wp2_with fail
  refine (markOpSS_own _ _ _ Ag cg pg R w10 hoG10 HbG.out H64.out (by omega) H300.out).mono ?_
  rintro e w11 ⟨rfl, hoG11, ho⟩
  have hbl := ho.below
  have hB11 := hB10.trans (hbl.mono (by omega))
  have hoW11 := hoW10.only HbW.out ho (.inl (by omega))
  have hsz1011 : w10.heap.size ≤ w11.heap.size := by rw [ho.size]; exact Nat.le_refl _
  clear ho hbl hB10 hoW10 hoG10
  have hml : (marksOS 1 R).length ≤ 1000 := by rw [marksOS_len]; omega
  have hm64 := marksOS_wf (k := 1) (by omega) (by omega) hRf H300.out
  have Hm64 := hide hm64
  clear hm64
  have iG := hoG11.ops Hm64.out hml
  go_wp2_with fail
  refine (heldOpSS_any Ag cg R w11 iG H300.out (by omega)).mono ?_
  rintro e w' ⟨rfl, rfl⟩
  have hmp : 0 ≤ endOS 1 R := by have := (endOS_le R 1 H300.out).1; omega
  generalize hmd : endOS 1 R = m at hmp ⊢
  have HMD := hide hmd
  clear hmd
  have hdq : decide (m < 0) = false := by simp; omega
  have hne : (m != m) = false := by simp
  clear iG
  go_wp2_with fail
  refine (toOpS_any A os c w11 (hr.later hB11 (Nat.le_refl _)) hsm).mono ?_
  rintro e w12 ⟨rfl, hm12, hb12⟩
  have hx12 := OpsAt.of_row hm12 hm12.lt Hwf.out hnl
  have hB12 := hB11.trans (hb12.mono hB11.size)
  have hoW12 := hoW11.below hb12
  have hoG12 := hoG11.below hb12
  clear hm12 hb12 hB11 hoW11 hoG11
  go_wp2_with fail
  have HI := implSplitStops_any _ os os.length w12 hx12 (Nat.le_refl _) (hF.later hB12 (Nat.le_refl _))
  rw [HRd.out] at HI
  refine HI.mono ?_
  clear HI
  rintro e w13 ⟨Ah, ch, ph, rfl, hoH, hb13⟩
  have hB13 := hB12.trans (hb13.mono hB12.size)
  have hoW13 := hoW12.below hb13
  have hoG13 := hoG12.below hb13
  clear hb13 hB12 hoW12 hoG12 hx12
  have iH := hoH.ops H64.out (by omega)
  have iW := hoW13.ops H64.out (by omega)
  go_wp2_with fail
  refine (eqOpSS_same Ah Aw R ch cw w13 iH iW).mono ?_
  rintro e w14 ⟨rfl, hb14⟩
  have hB14 := hB13.trans (hb14.mono hB13.size)
  have hoG14 := hoG13.below hb14
  clear hb14 hB13 hoG13 hoW13 hoH iH iW
  have iG := hoG14.ops Hm64.out hml
  go_wp2_with fail
  refine (heldOpSS_any Ag cg R w14 iG H300.out (by omega)).mono ?_
  rintro e w' ⟨rfl, rfl⟩
  rw [HMD.out]
  clear iG hoG14
  go_wp2
  go_ret
  exact ⟨rfl, hB14⟩

set_option maxHeartbeats 1000000 in
theorem exSP_big (A : Option Addr) (os : List Od) (c : Nat) (w : World) (hr : OpsAt w w.heap.size A os) (hs : szI os.length 1048576 < 0) :
    Calls Tryd.prog 3 #[.slice A os.length c] w fun e w' => e = .returned (.bool true) ∧ Below w.heap.size w w' := by
  have hnl := hr.len
  go_enter Tryd.func3, Tryd.ntmps3
  go_wp2_with fail
  refine (szOpS_any A os.length c 1048576 w (by omega) (by omega) hnl).mono ?_
  rintro e w1 ⟨rfl, rfl⟩
  generalize szI os.length 1048576 = sz at hs ⊢
  have hd : decide (sz < 0) = true := by simp; omega
  go_wp2
  go_ret
  exact ⟨rfl, Below.refl _ _⟩

theorem exSP_any (A : Option Addr) (os : List Od) (c : Nat) (w : World) (hr : OpsAt w w.heap.size A os) (hF : FormsAt w w.heap.size) :
    Calls Tryd.prog 3 #[.slice A os.length c] w fun e w' => e = .returned (.bool true) ∧ Below w.heap.size w w' := by
  by_cases hs : 0 ≤ szI os.length 1048576
  · exact exSP_small A os c w hr hF hs
  · exact exSP_big A os c w hr (by omega)

end Go.Proofs.YtngohlegdjppeabDoor
