/-
  Lemmas, several texts in one: MkS, ExMK.
-/
import Derived.Test.YtgkbblaaodcmnaaDoorRunS
import Derived.Test.YtgkbblaaodcmnaaDoorPjAi
import Derived.Test.YtgkbblaaodcmnaaDoorPjAf
import Derived.Test.YtgkbblaaodcmnaaDoorPjAm
import Derived.Test.YtgkbblaaodcmnaaDoorPjAo
import Derived.Test.YtgkbblaaodcmnaaDoorPjAj
import Derived.Test.YtgkbblaaodcmnaaDoorPjAg
import Derived.Test.YtgkbblaaodcmnaaDoorPjAn
import Derived.Deep.RegionHeld3
namespace Go.Proofs.YtgkbblaaodcmnaaDoor
open Go.RowKit
set_option linter.unusedVariables false

set_option maxRecDepth 100000 in
set_option maxHeartbeats 2000000 in
theorem specMarksOf_any (A : Option Addr) (os : List Od) (c : Nat) (w : World) (h : OpsAt w w.heap.size A os) (hc : os.length ≤ c) :
    Calls Tryd.prog 5 #[.slice A os.length c] w (GivesInts w (marksOf os)) := by
  by_cases hok : OpsOk os
  · have ht := hide (tf_true hok)
    have hl := hok.1
    have Hall := hide hok.2
    have hnl := run_le hok.2
    have HV := hide (show marksOf os = toldOf marksIn os (runShp Shp.new os).2 by unfold marksOf; rw [if_pos hok])
    obtain ⟨R, hR⟩ : ∃ R, R = runShp Shp.new os := ⟨_, rfl⟩
    rw [← hR] at HV hnl
    have HR := hide hR
    clear hR hok
    obtain ⟨s, n⟩ := R
    rw [HV.out]
    simp only at hnl ⊢
    go_enter Tryd.func5, Tryd.ntmps5
    go_wp2_with fail
    refine (specValidOps_any A os c w h).mono ?_
    rintro e w1 ⟨rfl, hb1⟩
    rw [ht.out]
    have hA1 := hb1.alloc hb1.size (.cells #[] 3)
    have h1 := h.later hA1 (Nat.le_refl _)
    have HO1 := hide ((OwnI.bare w1).mono hb1.size)
    have HA1 := hide hA1
    go_wp2_with fail
    generalize w1.alloc (.cells #[] 3) = W1 at HA1 HO1 h1 ⊢
    have HC := runShapes_any A os c W1 h1 Hall.out
    rw [← HR.out] at HC
    refine HC.mono ?_
    clear HC
    rintro e w2 ⟨p, rfl, ho, hb2⟩
    have hg1 := w1.heap.size
    have HO2 := hide (HO1.out.below hb2)
    have HB2 := hide (HA1.out.trans (hb2.mono HA1.out.size))
    simp only [shVal, shCells]
    have HB3 := hide (HB2.out.alloc HB2.out.size (.cells #[.slice p.K s.kinds.length p.c1, .slice p.F s.full.length p.c2, .slice p.S s.stack.length p.c3, .slice p.M s.memo.length p.c4, .bool s.done] 36))
    have HO3 := hide (HO2.out.alloc (.cells #[.slice p.K s.kinds.length p.c1, .slice p.F s.full.length p.c2, .slice p.S s.stack.length p.c3, .slice p.M s.memo.length p.c4, .bool s.done] 36))
    clear ho hb1 hb2 h1 hA1 HO1 HO2 HA1 HB2
    go_upto_region 5 with fail
    generalize w2.alloc (.cells #[.slice p.K s.kinds.length p.c1, .slice p.F s.full.length p.c2, .slice p.S s.stack.length p.c3, .slice p.M s.memo.length p.c4, .bool s.done] 36) = W3 at HB3 HO3 ⊢
    generalize w1.heap.size = g1 at HO3 ⊢
    go_wp2_with fail
    go_loopg [3, 6] n (fun gk ov iv wr => ∃ (k : Nat) (Ao : Option Addr) (co : Nat) (xs : List Int), k ≤ n ∧ gk = n - k ∧ iv = .int .i64 ((k : Int) + 1) ∧ ov = .slice Ao xs.length co ∧ Hid (xs = toldOf marksIn os k) ∧ OwnI wr w.heap.size Ao co xs ∧ Below w.heap.size w wr)
    case atStart => exact ⟨0, _, 0, [], Nat.zero_le _, rfl, rfl, rfl, hide rfl, HO3.out, HB3.out⟩
    case round =>
      clear HO3 HB3
      obtain ⟨k, Ao, co, xs, hk, rfl, rfl, rfl, hxs, hO, hB⟩ := hrel
      have HO := hide hO
      have HB := hide hB
      have hxl : xs.length ≤ 300 := by rw [hxs.out, toldOf_len]; omega
      clear hO hB
      by_cases hlt : k < n
      · have hT := hide (show (os.take (k + 1)).length = k + 1 by simp; omega)
        have hi1 : (k : Int) + 1 ≤ (n : Int) := by omega
        have hi2 : (k : Int) + 1 ≤ (c : Int) := by omega
        have hi0 : (0 : Int) ≤ (k : Int) + 1 := by omega
        have hcall := runShapes_any A (os.take (k + 1)) c wr ((h.upto (k + 1)).later HB.out (Nat.le_refl _)) (fun o ho => Hall.out o (List.mem_of_mem_take ho))
        rw [hT.out] at hcall
        have Hst := hide (show (runShp Shp.new (os.take (k + 1))).1.stack = stk os (k + 1) from rfl)
        have hok2 := runShp_ok (s := Shp.new) (os := os.take (k + 1)) Shp.new_ok ⟨by simp [Shp.new], by simp [Shp.new]⟩ (fun o ho => (Hall.out o (List.mem_of_mem_take ho)).get)
        have hsm := hok2.2.1.small hok2.1
        generalize runShp Shp.new (os.take (k + 1)) = R2 at hcall Hst hsm
        obtain ⟨s2, n2⟩ := R2
        have Hsm := hide hsm
        clear hok2 hsm
        have HCall := hide hcall
        have hs3 : s2.stack.length ≤ 300 := by
          have : s2.stack = stk os (k + 1) := Hst.out
          rw [this]
          exact stk_le Hall.out _
        clear hcall
        go_wp2_with fail
        refine HCall.out.mono ?_
        clear HCall
        rintro e w5 ⟨p2, rfl, hown5, hb5⟩
        have HO5 := hide (HO.out.below hb5)
        have HB5 := hide (HB.out.trans (hb5.mono HB.out.size))
        simp only [shVal, shCells]
        have HO6 := hide (HO5.out.alloc (.cells #[.slice p2.K s2.kinds.length p2.c1, .slice p2.F s2.full.length p2.c2, .slice p2.S s2.stack.length p2.c3, .slice p2.M s2.memo.length p2.c4, .bool s2.done] 36))
        have HB6 := hide (HB5.out.alloc HB5.out.size (.cells #[.slice p2.K s2.kinds.length p2.c1, .slice p2.F s2.full.length p2.c2, .slice p2.S s2.stack.length p2.c3, .slice p2.M s2.memo.length p2.c4, .bool s2.done] 36))
        have l6 := Lies.new w5 #[.slice p2.K s2.kinds.length p2.c1, .slice p2.F s2.full.length p2.c2, .slice p2.S s2.stack.length p2.c3, .slice p2.M s2.memo.length p2.c4, .bool s2.done] 36
        have hI6 := ((hown5.at_ Hsm.out).t).below ((Below.refl w5.heap.size w5).alloc (Nat.le_refl _) (.cells #[.slice p2.K s2.kinds.length p2.c1, .slice p2.F s2.full.length p2.c2, .slice p2.S s2.stack.length p2.c3, .slice p2.M s2.memo.length p2.c4, .bool s2.done] 36))
        clear hb5 HO HB HO5 HB5 hown5
        go_upto_region 9 with fail
        have hb6 : w5.heap.size ≤ (w5.alloc (.cells #[.slice p2.K s2.kinds.length p2.c1, .slice p2.F s2.full.length p2.c2, .slice p2.S s2.stack.length p2.c3, .slice p2.M s2.memo.length p2.c4, .bool s2.done] 36)).heap.size := by simp
        replace hI6 := hI6.more hb6
        clear hb6
        generalize w5.alloc (.cells #[.slice p2.K s2.kinds.length p2.c1, .slice p2.F s2.full.length p2.c2, .slice p2.S s2.stack.length p2.c3, .slice p2.M s2.memo.length p2.c4, .bool s2.done] 36) = W6 at HO6 HB6 l6 hI6 ⊢
        have c2 := l6.cell 2
        simp only [List.getElem?_toArray, List.getElem?_cons_zero, List.getElem?_cons_succ] at c2
        have hwz := HB6.out.size
        generalize w5.heap.size = qb at c2 ⊢
        go_wp2_with fail
        go_loop [9, 10] (fun nv iv => ∃ i : Nat, i ≤ s2.stack.length ∧ iv = .int .i64 (i : Int) ∧ nv = .int .i64 (marksIn (s2.stack.take i) : Int)) (fun _ iv => s2.stack.length - (intOf iv).toNat)
        case atStart => exact ⟨0, Nat.zero_le _, rfl, rfl⟩
        case round =>
          obtain ⟨i, hi, rfl, rfl⟩ := hrel
          have hml := marksIn_le (s2.stack.take i)
          have hml2 : (s2.stack.take i).length ≤ 300 := by simp; omega
          by_cases hlt2 : i < s2.stack.length
          · obtain ⟨b, off, x, hSe, hbl, hx, hmem, hcx⟩ := hI6.at_ hlt2
            rw [hSe] at c2
            have hst := marksIn_step hx
            have hi0 : (0 : Int) ≤ (i : Int) := by omega
            have hi1b : (i : Int) < (s2.stack.length : Int) := by omega
            clear hx hmem hSe hI6
            by_cases hx0 : x < 0
            · rw [if_pos hx0] at hst
              have HST := hide hst
              clear hst
              generalize marksIn (s2.stack.take i) = m at hml HST ⊢
              have hmb : m ≤ 300 := by omega
              have hxd : decide (x < 0) = true := by simpa using hx0
              go_wp2
              go_round
              case rel => exact ⟨i + 1, by omega, by go_num, by rw [HST.out]; go_num⟩
              case measure => simp [intOf] <;> omega
            · rw [if_neg hx0] at hst
              have HST := hide hst
              clear hst
              generalize marksIn (s2.stack.take i) = m at hml HST ⊢
              have hxd : decide (x < 0) = false := by simpa using hx0
              go_wp2
              go_round
              case rel => exact ⟨i + 1, by omega, by go_num, by rw [HST.out]; rfl⟩
              case measure => simp [intOf] <;> omega
          · obtain rfl : i = s2.stack.length := by omega
            rw [List.take_length] at hml ⊢
            have Hmn : Hid (marksIn s2.stack = marksIn (stk os (k + 1))) := hide (by rw [← Hst.out])
            generalize marksIn s2.stack = mk at Hmn hml ⊢
            have hn3 : mk ≤ 300 := by omega
            go_wp2_with (at_builtin; refine append_ints rfl (.tmp 47) (.tmp 49) rfl w.heap.size Ao co xs rfl (HO6.out.alloc _) _ _ 1 [(mk : Int)] rfl (fun e => by cases e) (IntsAt.oneN _ W6.heap.size (mk : Int) (by constructor <;> omega) rfl) (by simp <;> omega) (by simp <;> omega) ?_; intro zs A7 c7 w7 hz7 ho7 hg7 ha7; have HX := hide (And.intro ho7 (below_grown (HB6.out.alloc hwz _) hg7 (by simp; omega) (fun q hq => (HO6.out.blocks q hq).1))); have hzz := hide (show zs = toldOf marksIn os (k + 1) by rw [hz7.out, hxs.out, toldOf_succ, ← Hmn.out]); clear ho7 hg7 ha7 hz7 l6)
            go_roundg (n - (k + 1))
            case measure => omega
            case rel => exact ⟨k + 1, A7, c7, zs, by omega, rfl, by go_num, rfl, hzz, HX.out.1, HX.out.2⟩
      · obtain rfl : k = n := by omega
        have hi1 : ¬ (k : Int) + 1 ≤ (k : Int) := by omega
        go_wp2
        go_ret
        rw [← hxs.out]
        exact ⟨Ao, co, rfl, HO.out, HB.out⟩
  · have ht := hide (tf_false hok)
    have HV := hide (show marksOf os = [] by unfold marksOf; rw [if_neg hok])
    rw [HV.out]
    clear hok HV
    go_enter Tryd.func5, Tryd.ntmps5
    go_wp2_with fail
    refine (specValidOps_any A os c w h).mono ?_
    rintro e w1 ⟨rfl, hb1⟩
    rw [ht.out]
    go_wp2
    go_ret
    exact ⟨none, 0, rfl, OwnI.empty _ _, hb1⟩

end Go.Proofs.YtgkbblaaodcmnaaDoor

namespace Go.Proofs.YtgkbblaaodcmnaaDoor
open Go.RowKit Go.Maps
set_option linter.unusedVariables false

set_option maxRecDepth 100000 in
set_option maxHeartbeats 4000000 in
theorem exMK_small (A : Option Addr) (os : List Od) (c : Nat) (w : World) (hr : OpsAt w w.heap.size A os) (hF : FormsAt w w.heap.size) (hN : NeedsAt w w.heap.size) (hs : 0 ≤ szI os.length 1048576) :
    Calls Tryd.prog 3 #[.slice A os.length c] w fun e w' => e = .returned (.bool true) ∧ Below w.heap.size w w' := by
  have hsm : os.length ≤ 1048576 := by unfold szI at hs; split at hs <;> omega
  have hwf := hr.wf
  have Hwf := hide hwf
  have hnl := hr.len
  clear hwf
  go_enter Tryd.func3, Tryd.ntmps3
  go_wp2_with fail
  refine (szOpS_any A os.length c 1048576 w (by omega) (by omega) hnl).mono ?_
  rintro e w1 ⟨rfl, rfl⟩
  generalize szI os.length 1048576 = sz at hs ⊢
  have hd : decide (sz < 0) = false := by simp; omega
  go_wp2_with fail
  refine (toOpS_any A os c w hr hsm).mono ?_
  rintro e w2 ⟨rfl, hm2, hB2⟩
  have hx2 := OpsAt.of_row hm2 hm2.lt Hwf.out hnl
  clear hm2
  go_wp2_with fail
  refine (specMarksOf_any _ os _ w2 hx2 (Nat.le_refl _)).mono ?_
  rintro e w3 ⟨Aw, cw, rfl, hoW, hb3⟩
  have hRf : (marksOf os).length ≤ 1000 := Nat.le_trans marksOf_few (by omega)
  have h64 : ∀ x ∈ marksOf os, In64 x := marksOf_64
  generalize hRd : marksOf os = R at hoW hRf h64 ⊢
  have HRd := hide hRd
  have H64 := hide h64
  clear hRd h64
  have hB3 := hB2.trans (hb3.mono hB2.size)
  have HbW : Hid (∀ g, blockOf Aw = some g → g < w3.heap.size) := fun g hg => (hoW.blocks g hg).2
  clear hx2 hb3 hB2
  go_wp2_with fail
  refine (toOpS_any A os c w3 (hr.later hB3 (Nat.le_refl _)) hsm).mono ?_
  rintro e w4 ⟨rfl, hm4, hb4⟩
  have hx4 := OpsAt.of_row hm4 hm4.lt Hwf.out hnl
  have hB4 := hB3.trans (hb4.mono hB3.size)
  have hoW4 := hoW.below hb4
  have hg4 := hm4.lt
  have hwg : w.heap.size ≤ w3.heap.size := hB3.size
  clear hB3 hoW hb4
  go_wp2_with fail
  have HI := implMarksOf_any _ os os.length w4 hx4 (hF.later hB4 (Nat.le_refl _)) (hN.later hB4 (Nat.le_refl _))
  rw [HRd.out] at HI
  refine HI.mono ?_
  clear HI
  rintro e w5 ⟨Ag, cg, rfl, hoG, hb5⟩
  have HbG : Hid (∀ g, blockOf Ag = some g → w4.heap.size ≤ g ∧ g < w5.heap.size) := fun g hg => hoG.blocks g hg
  have hB5 := hB4.trans (hb5.mono hB4.size)
  have hm5 := rowIs_below hm4 hb5 hg4
  have hoW5 := hoW4.below hb5
  have hsz45 : w4.heap.size ≤ w5.heap.size := hb5.size
  clear hB4 hm4 hx4 hoW4 hb5
  have iG := hoG.ints H64.out (by omega)
  have iW := hoW5.ints H64.out (by omega)
  go_wp2_with fail
  refine (eqIntS_any Ag Aw R R cg cw w5 iG iW).mono ?_
  rintro e w6 ⟨rfl, hb6⟩
  have hself : decide (R = R) = true := by simp
  rw [hself]
  have hB6 := hB5.trans (hb6.mono hB5.size)
  have hm6 := rowIs_below hm5 hb6 (by omega)
  have hoW6 := hoW5.below hb6
  have hoG6 := hoG.below hb6
  have hsz56 : w5.heap.size ≤ w6.heap.size := hb6.size
  clear hB5 hm5 hoW5 hoG hb6 iG iW hself
  go_wp2_with fail
  refine (toOpS_any A os c w6 (hr.later hB6 (Nat.le_refl _)) hsm).mono ?_
  rintro e w7 ⟨rfl, hm7, hb7⟩
  have hy7 := OpsAt.of_row hm7 hm7.lt Hwf.out hnl
  have hB7 := hB6.trans (hb7.mono hB6.size)
  have hmx7 := rowIs_below hm6 hb7 (by omega)
  have hoW7 := hoW6.below hb7
  have hoG7 := hoG6.below hb7
  have hx7 := OpsAt.of_row hmx7 hmx7.lt Hwf.out hnl
  have hsz67 : w6.heap.size ≤ w7.heap.size := hb7.size
  clear hB6 hm6 hoW6 hoG6 hb7 hm7
  go_wp2_with fail
  refine (eqOpS_any _ _ os os _ _ w7 hx7 hy7).mono ?_
  rintro e w8 ⟨rfl, hb8⟩
  have hself : decide (os = os) = true := by simp
  rw [hself]
  have hB8 := hB7.trans (hb8.mono hB7.size)
  have hmx8 := rowIs_below hmx7 hb8 (by omega)
  have hoW8 := hoW7.below hb8
  have hoG8 := hoG7.below hb8
  have hsz78 : w7.heap.size ≤ w8.heap.size := hb8.size
  clear hB7 hmx7 hoW7 hoG7 hb8 hx7 hy7 hself
  go_wp2_with fail
  refine (markOpS_row w3.heap.size _ os.length os.length _ 1 w8 hmx8 os.length (Nat.le_refl _) (by omega) (by omega) (by omega)).mono ?_
  rintro e w9 ⟨rfl, _, ho9⟩
  have hk1 : (0 : Int) ≤ 1 + 2 * (os.length : Int) := by omega
  generalize (1 : Int) + 2 * (os.length : Int) = k1 at hk1 ⊢
  have hdk : decide (k1 < 0) = false := by simp; omega
  have hbl := ho9.below
  have hB9 := hB8.trans (hbl.mono hwg)
  have hoW9 := hoW8.only ho9 (fun g hg => .inl (by have := HbW.out g hg; omega))
  have hoG9 := hoG8.only ho9 (fun g hg => .inr (by have := HbG.out g hg; omega))
  have hsz89 : w8.heap.size ≤ w9.heap.size := by rw [ho9.size]; exact Nat.le_refl _
  clear hB8 hmx8 hoW8 hoG8 ho9 hbl
  have iG := hoG9.ints H64.out (by omega)
  have iW := hoW9.ints H64.out (by omega)
  go_wp2_with fail
  refine (eqIntS_any Ag Aw R R cg cw w9 iG iW).mono ?_
  rintro e w10 ⟨rfl, hb10⟩
  have hself : decide (R = R) = true := by simp
  rw [hself]
  have hB10 := hB9.trans (hb10.mono hB9.size)
  have hoW10 := hoW9.below hb10
  have hoG10 := hoG9.below hb10
  have hsz910 : w9.heap.size ≤ w10.heap.size := hb10.size
  clear hB9 hoW9 hoG9 hb10 iG iW hself
  go_wp2_with fail
  refine (markIntS_own _ Ag cg R 1 w10 hoG10 (by omega) (by omega) (by omega)).mono ?_
  rintro e w11 ⟨rfl, hoG11, hO⟩
  have ho := hO w4.heap.size w5.heap.size HbG.out
  have hbl := ho.below
  have hB11 := hB10.trans (hbl.mono (by omega))
  have hoW11 := hoW10.only ho (fun g hg => .inl (by have := HbW.out g hg; omega))
  have hsz1011 : w10.heap.size ≤ w11.heap.size := by rw [ho.size]; exact Nat.le_refl _
  clear hO ho hbl hB10 hoW10 hoG10
  have hml := marks_len 1 R.length
  have hm64 : ∀ x ∈ marks 1 R.length, In64 x := fun x hx => by
    obtain ⟨j, hj, rfl⟩ := List.mem_map.1 hx
    have := List.mem_range.1 hj
    constructor <;> omega
  have Hm64 := hide hm64
  clear hm64
  have iG := hoG11.ints Hm64.out (by omega)
  go_wp2_with fail
  refine (heldIntS_any Ag R.length cg 1 w11 iG (by omega) (by omega) (by omega)).mono ?_
  rintro e w' ⟨rfl, rfl⟩
  have hmp : 0 ≤ 1 + (R.length : Int) := by omega
  generalize hmd : 1 + (R.length : Int) = m at hmp ⊢
  have HMD := hide hmd
  clear hmd
  have hdq : decide (m < 0) = false := by simp; omega
  have hne : (m != m) = false := by simp
  clear iG
  go_wp2_with fail
  refine (toOpS_any A os c w11 (hr.later hB11 (Nat.le_refl _)) hsm).mono ?_
  rintro e w12 ⟨rfl, hm12, hb12⟩
  have hx12 := OpsAt.of_row hm12 hm12.lt Hwf.out hnl
  have hB12 := hB11.trans (hb12.mono hB11.size)
  have hoW12 := hoW11.below hb12
  have hoG12 := hoG11.below hb12
  clear hm12 hb12 hB11 hoW11 hoG11
  go_wp2_with fail
  have HI := implMarksOf_any _ os os.length w12 hx12 (hF.later hB12 (Nat.le_refl _)) (hN.later hB12 (Nat.le_refl _))
  rw [HRd.out] at HI
  refine HI.mono ?_
  clear HI
  rintro e w13 ⟨Ah, ch, rfl, hoH, hb13⟩
  have hB13 := hB12.trans (hb13.mono hB12.size)
  have hoW13 := hoW12.below hb13
  have hoG13 := hoG12.below hb13
  clear hb13 hB12 hoW12 hoG12 hx12
  have iH := hoH.ints H64.out (by omega)
  have iW := hoW13.ints H64.out (by omega)
  go_wp2_with fail
  refine (eqIntS_any Ah Aw R R ch cw w13 iH iW).mono ?_
  rintro e w14 ⟨rfl, hb14⟩
  have hself : decide (R = R) = true := by simp
  rw [hself]
  have hB14 := hB13.trans (hb14.mono hB13.size)
  have hoG14 := hoG13.below hb14
  clear hb14 hB13 hoG13 hoW13 hoH iH iW hself
  have iG := hoG14.ints Hm64.out (by omega)
  go_wp2_with fail
  refine (heldIntS_any Ag R.length cg 1 w14 iG (by omega) (by omega) (by omega)).mono ?_
  rintro e w' ⟨rfl, rfl⟩
  rw [HMD.out]
  clear iG hoG14
  go_wp2
  go_ret
  exact ⟨rfl, hB14⟩

set_option maxHeartbeats 1000000 in
theorem exMK_big (A : Option Addr) (os : List Od) (c : Nat) (w : World) (hr : OpsAt w w.heap.size A os) (hs : szI os.length 1048576 < 0) :
    Calls Tryd.prog 3 #[.slice A os.length c] w fun e w' => e = .returned (.bool true) ∧ Below w.heap.size w w' := by
  have hnl := hr.len
  go_enter Tryd.func3, Tryd.ntmps3
  go_wp2_with fail
  refine (szOpS_any A os.length c 1048576 w (by omega) (by omega) hnl).mono ?_
  rintro e w1 ⟨rfl, rfl⟩
  generalize szI os.length 1048576 = sz at hs ⊢
  have hd : decide (sz < 0) = true := by simp; omega
  go_wp2
  go_ret
  exact ⟨rfl, Below.refl _ _⟩

theorem exMK_any (A : Option Addr) (os : List Od) (c : Nat) (w : World) (hr : OpsAt w w.heap.size A os) (hF : FormsAt w w.heap.size) (hN : NeedsAt w w.heap.size) :
    Calls Tryd.prog 3 #[.slice A os.length c] w fun e w' => e = .returned (.bool true) ∧ Below w.heap.size w w' := by
  by_cases hs : 0 ≤ szI os.length 1048576
  · exact exMK_small A os c w hr hF hN hs
  · exact exMK_big A os c w hr (by omega)

end Go.Proofs.YtgkbblaaodcmnaaDoor
