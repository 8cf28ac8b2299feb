/-
  Lemmas, several texts in one: SoB, SoF, DrawUB, LawUB.
-/
import Derived.Test.YtmilbhhlbjcodabSoO
import Derived.Test.YtmilbhhlbjcodabPjAi
import Derived.Test.YtmilbhhlbjcodabPjAe
import Derived.Deep.Cut
import Derived.Test.YtmilbhhlbjcodabPjAa
import Derived.Test.YtmilbhhlbjcodabPjAg
namespace Go.Proofs.Ytmilbhhlbjcodab
open Go.RowKit
set_option linter.unusedVariables false
set_option maxRecDepth 100000 in
set_option maxHeartbeats 16000000 in
theorem someBytes_any (rb : Nat) (A : Option Addr) (n c p : Nat) (w : World) (h : Rd w rb A n c p) (hp : p < 500000) :
    Calls Try.prog 18 #[.pointer (some ⟨rb, 0, none⟩)] w (Ints2 rb A n c (p + 900) w) := by
  have hlt := h.box.lt
  go_enter Try.func18, Try.ntmps18
  go_wp2_with fail
  refine (someOps_any rb A n c p w h (by omega)).mono ?_
  rintro e wx ⟨os, B, cb, rfl, hS⟩
  have hb0 : Below wx.heap.size wx (wx.alloc (.cells #[] 3)) := (Below.refl _ _).alloc (Nat.le_refl _) _
  have hS1 := hS.later hb0
  have hO1 : OpsAt (wx.alloc (.cells #[] 3)) (wx.alloc (.cells #[] 3)).heap.size B os := hS1.own.ops hS1.wf (by have := hS1.few; omega)
  have hE1 : OwnI (wx.alloc (.cells #[] 3)) w.heap.size (some ⟨wx.heap.size, 0, none⟩) 0 [] := (OwnI.bare wx).mono hS.grew.size
  clear h hb0 hS
  go_upto_region 3 with fail
  generalize wx.alloc (.cells #[] 3) = W at hS1 hO1 hE1 ⊢
  generalize wx.heap.size = g0 at hE1 ⊢
  have HS1 := hide hS1
  have HO1 := hide hO1
  have HE1 := hide hE1
  clear hS1 hO1 hE1
  go_wp2_with fail
  refine (specValidOps_any B os cb W HO1.out).mono ?_
  rintro e w2 ⟨rfl, hb2⟩
  have HG2 := hide (HS1.out.later hb2)
  have HO2 := hide (HO1.out.later hb2 (Nat.le_refl _))
  have HE2 := hide (HE1.out.below hb2)
  clear hb2 HS1 HO1 HE1
  by_cases hok : OpsOk os
  · have HK := hide (tf_true hok)
    clear hok
    rw [HK.out]
    go_wp2_with fail
    refine (specEncodeOps_any B os cb w2 HO2.out).mono ?_
    rintro e w3 ⟨A3, c3, rfl, ho3, hb3⟩
    have HG3 := hide (HG2.out.later hb3)
    have hsz := HG2.out.grew.size
    have HS := hide (show ByS w w3 rb A n c (p + 800) A3 c3 (encodeOf os) from ⟨HG3.out.grew, HG3.out.rd, ho3.mono hsz, encodeOf_64, by have := @encodeOf_few os; omega, hlt⟩)
    clear ho3 hb3 HG2 HO2 HE2 HG3 hsz
    generalize encodeOf os = xs at HS ⊢
    have hfew := HS.out.few
    by_cases hz : 0 < xs.length
    · have hz' : (0 : Int) < (xs.length : Int) := by omega
      obtain ⟨g, rfl, hgb, hgl⟩ := HS.out.row hz
      clear hgb hgl
      obtain ⟨cb2, rfl⟩ : ∃ q, q = c3 := ⟨_, rfl⟩
      obtain ⟨px, hpx, hrx⟩ := HS.out.rd
      go_wp2_with fail
      refine (pick_any rb A n c px 4 w3 hrx (by omega) (by omega)).mono ?_
      rintro e w4 ⟨⟨y, rfl, hy, _⟩, hr4, ht4⟩
      have HS4 := hide (HS.out.turned (P' := p + 810) (Grew.of_turn ht4) hr4 (by omega))
      clear HS hrx ht4 hr4 hy
      by_cases y0 : y = 0
      · subst y0
        obtain ⟨px, hpx, hrx⟩ := HS4.out.rd
        go_wp2_with fail
        refine (pick_any rb A n c px (xs.length : Int) w4 hrx (by omega) (by omega)).mono ?_
        rintro e w5 ⟨⟨k, rfl, hk, _⟩, hr5, ht5⟩
        have hkl : k < xs.length := by have := hk (by omega); omega
        have HS5 := hide (HS4.out.turned (P' := p + 820) (Grew.of_turn ht5) hr5 (by omega))
        clear HS4 hrx ht5 hr5 hk
        obtain ⟨px, hpx, hrx⟩ := HS5.out.rd
        go_wp2_with fail
        refine (pick_any rb A n c px 256 w5 hrx (by omega) (by omega)).mono ?_
        rintro e w6 ⟨⟨v, rfl, hv, _⟩, hr6, ht6⟩
        have hv256 : v < 256 := by have := hv (by omega); omega
        have HS6 := hide (HS5.out.turned (P' := p + 830) (Grew.of_turn ht6) hr6 (by omega))
        clear HS5 hrx ht6 hr6 hv
        have hbA := (Below.refl w6.heap.size w6).alloc (Nat.le_refl _) (.cells #[.int .i64 (v : Int), .int .i64 128, .int .i64 20, .int .i64 255] 3)
        have HA := hide (HS6.out.later hbA)
        have lA := Lies.new w6 #[.int .i64 (v : Int), .int .i64 128, .int .i64 20, .int .i64 255] 3
        obtain ⟨pa, hpa, hra⟩ := HA.out.rd
        have hne : w6.heap.size ≠ rb := by have := HA.out.nr; have := HS6.out.grew.size; omega
        clear HS6 hbA
        go_wp2_with fail
        refine (one_any rb A n c pa w6.heap.size 4 4 [(v : Int), 128, 20, 255] _ hra (by omega) rfl (by omega) (by omega) hne (fun k z hz => by
            have := lA.cell k
            rw [this]
            match k, hz with
            | 0, hz => simpa using hz
            | 1, hz => simpa using hz
            | 2, hz => simpa using hz
            | 3, hz => simpa using hz
            | k + 4, hz => simp at hz)).mono ?_
        rintro e w7 ⟨⟨x, hx, rfl⟩, hr7, ht7⟩
        have hx64 : In64 x := by
          simp at hx
          rcases hx with rfl | rfl | rfl | rfl <;> constructor <;> omega
        have HS7 := hide (HA.out.turned (P' := p + 840) (Grew.of_turn ht7) hr7 (by omega))
        obtain ⟨v0, c0, f0⟩ := HS7.out.cell hkl
        have HS8 := hide (HS7.out.set (j := k) hx64)
        have hkI : (k : Int) < (xs.length : Int) := by omega
        have hk0 : (0 : Int) ≤ (k : Int) := by omega
        have hlset : (xs.set k x).length = xs.length := List.length_set
        clear hra lA HA hx hx64 hr7 ht7 HS7
        go_upto_region 11 with fail
        clear c0 f0
        generalize w7.setCell ⟨g, k, none⟩ (.int .i64 x) = wx at HS8 ⊢
        generalize xs.set k x = xs6 at HS8 hlset
        clear hkI hkl hz hz' hk0 hv256
        rw [← hlset]
        clear hlset
        obtain ⟨xs, rfl⟩ : ∃ xs, xs = xs6 := ⟨_, rfl⟩
        have HS := hide (HS8.out.more (P' := p + 850) (by omega))
        clear HS8
        obtain ⟨px, hpx, hrx⟩ := HS.out.rd
        have hfew := HS.out.few
        have hcap := HS.out.own.capLen
        go_wp2_with fail
        refine (pick_any rb A n c px 30 wx hrx (by omega) (by omega)).mono ?_
        rintro e w7 ⟨⟨z, rfl, hz, _⟩, hr7, ht7⟩
        have HS7 := hide (HS.out.turned (P' := p + 860) (Grew.of_turn ht7) hr7 (by omega))
        clear HS hrx ht7 hr7 hz
        by_cases z0 : z = 0
        · subst z0
          by_cases hl : 0 < xs.length
          · have hl' : (0 : Int) < (xs.length : Int) := by omega
            have hl0 : ¬ (xs.length : Int) ≤ 0 := by omega
            have hbA := (Below.refl w7.heap.size w7).alloc (Nat.le_refl _) (.cells #[.int .i64 (-1), .int .i64 256] 3)
            have HA := hide (HS7.out.later hbA)
            have lA := Lies.new w7 #[.int .i64 (-1), .int .i64 256] 3
            obtain ⟨pa, hpa, hra⟩ := HA.out.rd
            have hne : w7.heap.size ≠ rb := by have := HA.out.nr; have := HS7.out.grew.size; omega
            clear HS7 hbA
            go_wp2_with fail
            refine (one_any rb A n c pa w7.heap.size 2 2 [-1, 256] _ hra (by omega) rfl (by omega) (by omega) hne (fun k z hz => by
              have := lA.cell k
              rw [this]
              match k, hz with
              | 0, hz => simpa using hz
              | 1, hz => simpa using hz
              | k + 2, hz => simp at hz)).mono ?_
            rintro e w8 ⟨⟨x, hx, rfl⟩, hr8, ht8⟩
            have hx64 : In64 x := by
              simp at hx
              rcases hx with rfl | rfl <;> constructor <;> omega
            have HS8 := hide (HA.out.turned (P' := p + 870) (Grew.of_turn ht8) hr8 (by omega))
            obtain ⟨v0, c0, f0⟩ := HS8.out.cell hl
            have HF := hide (show Ints2 rb A n c (p + 900) w (.returned (.slice (some ⟨g, 0, none⟩) xs.length cb2)) (w8.setCell ⟨g, 0, none⟩ (.int .i64 x)) from ⟨xs.set 0 x, _, cb2, by rw [List.length_set], (HS8.out.set hx64).more (by omega)⟩)
            clear hra lA HA hx hx64 hr8 ht8 HS8
            go_wp2
            go_ret
            exact HF.out
          · have hl' : ¬ (0 : Int) < (xs.length : Int) := by omega
            have HF := hide (show Ints2 rb A n c (p + 900) w (.returned (.slice (some ⟨g, 0, none⟩) xs.length cb2)) w7 from ⟨xs, _, cb2, rfl, HS7.out.more (by omega)⟩)
            clear HS7
            go_wp2
            go_ret
            exact HF.out
        · have z0' : ¬ (z : Int) = 0 := by omega
          have HF := hide (show Ints2 rb A n c (p + 900) w (.returned (.slice (some ⟨g, 0, none⟩) xs.length cb2)) w7 from ⟨xs, _, cb2, rfl, HS7.out.more (by omega)⟩)
          clear HS7
          go_wp2
          go_ret
          exact HF.out
      · have y0' : ¬ (y : Int) = 0 := by omega
        by_cases y1 : y = 1
        · subst y1
          obtain ⟨px, hpx, hrx⟩ := HS4.out.rd
          have hfew := HS4.out.few
          have hcap := HS4.out.own.capLen
          go_wp2_with fail
          refine (pick_any rb A n c px (xs.length : Int) w4 hrx (by omega) (by omega)).mono ?_
          rintro e wx ⟨⟨k, rfl, hk, _⟩, hr5, ht5⟩
          have hkl : k ≤ xs.length := by have := hk (by omega); omega
          have hlk : (xs.take k).length = k := by simp; omega
          have HS5 := hide ((HS4.out.turned (P' := p + 820) (Grew.of_turn ht5) hr5 (by omega)).cut hkl)
          have hk1 : (0 : Int) ≤ (k : Int) := by omega
          have hk2 : (k : Int) ≤ (cb2 : Int) := by omega
          clear HS4 hrx ht5 hr5 hk
          go_upto_region 11 with fail
          generalize xs.take k = ys at HS5 hlk
          subst hlk
          clear hk1 hk2 hkl hfew hcap hz hz'
          obtain ⟨xs, rfl⟩ : ∃ xs, xs = ys := ⟨_, rfl⟩
          have HS := hide (HS5.out.more (P' := p + 850) (by omega))
          clear HS5
          obtain ⟨px, hpx, hrx⟩ := HS.out.rd
          have hfew := HS.out.few
          have hcap := HS.out.own.capLen
          go_wp2_with fail
          refine (pick_any rb A n c px 30 wx hrx (by omega) (by omega)).mono ?_
          rintro e w7 ⟨⟨z, rfl, hz, _⟩, hr7, ht7⟩
          have HS7 := hide (HS.out.turned (P' := p + 860) (Grew.of_turn ht7) hr7 (by omega))
          clear HS hrx ht7 hr7 hz
          by_cases z0 : z = 0
          · subst z0
            by_cases hl : 0 < xs.length
            · have hl' : (0 : Int) < (xs.length : Int) := by omega
              have hl0 : ¬ (xs.length : Int) ≤ 0 := by omega
              have hbA := (Below.refl w7.heap.size w7).alloc (Nat.le_refl _) (.cells #[.int .i64 (-1), .int .i64 256] 3)
              have HA := hide (HS7.out.later hbA)
              have lA := Lies.new w7 #[.int .i64 (-1), .int .i64 256] 3
              obtain ⟨pa, hpa, hra⟩ := HA.out.rd
              have hne : w7.heap.size ≠ rb := by have := HA.out.nr; have := HS7.out.grew.size; omega
              clear HS7 hbA
              go_wp2_with fail
              refine (one_any rb A n c pa w7.heap.size 2 2 [-1, 256] _ hra (by omega) rfl (by omega) (by omega) hne (fun k z hz => by
                have := lA.cell k
                rw [this]
                match k, hz with
                | 0, hz => simpa using hz
                | 1, hz => simpa using hz
                | k + 2, hz => simp at hz)).mono ?_
              rintro e w8 ⟨⟨x, hx, rfl⟩, hr8, ht8⟩
              have hx64 : In64 x := by
                simp at hx
                rcases hx with rfl | rfl <;> constructor <;> omega
              have HS8 := hide (HA.out.turned (P' := p + 870) (Grew.of_turn ht8) hr8 (by omega))
              obtain ⟨v0, c0, f0⟩ := HS8.out.cell hl
              have HF := hide (show Ints2 rb A n c (p + 900) w (.returned (.slice (some ⟨g, 0, none⟩) xs.length cb2)) (w8.setCell ⟨g, 0, none⟩ (.int .i64 x)) from ⟨xs.set 0 x, _, cb2, by rw [List.length_set], (HS8.out.set hx64).more (by omega)⟩)
              clear hra lA HA hx hx64 hr8 ht8 HS8
              go_wp2
              go_ret
              exact HF.out
            · have hl' : ¬ (0 : Int) < (xs.length : Int) := by omega
              have HF := hide (show Ints2 rb A n c (p + 900) w (.returned (.slice (some ⟨g, 0, none⟩) xs.length cb2)) w7 from ⟨xs, _, cb2, rfl, HS7.out.more (by omega)⟩)
              clear HS7
              go_wp2
              go_ret
              exact HF.out
          · have z0' : ¬ (z : Int) = 0 := by omega
            have HF := hide (show Ints2 rb A n c (p + 900) w (.returned (.slice (some ⟨g, 0, none⟩) xs.length cb2)) w7 from ⟨xs, _, cb2, rfl, HS7.out.more (by omega)⟩)
            clear HS7
            go_wp2
            go_ret
            exact HF.out
        · have y1' : ¬ (y : Int) = 1 := by omega
          have HS := hide (HS4.out.more (P' := p + 850) (by omega))
          clear HS4
          go_upto_region 11 with fail
          generalize w4 = wx at HS ⊢
          clear hz hz'
          obtain ⟨px, hpx, hrx⟩ := HS.out.rd
          have hfew := HS.out.few
          have hcap := HS.out.own.capLen
          go_wp2_with fail
          refine (pick_any rb A n c px 30 wx hrx (by omega) (by omega)).mono ?_
          rintro e w7 ⟨⟨z, rfl, hz, _⟩, hr7, ht7⟩
          have HS7 := hide (HS.out.turned (P' := p + 860) (Grew.of_turn ht7) hr7 (by omega))
          clear HS hrx ht7 hr7 hz
          by_cases z0 : z = 0
          · subst z0
            by_cases hl : 0 < xs.length
            · have hl' : (0 : Int) < (xs.length : Int) := by omega
              have hl0 : ¬ (xs.length : Int) ≤ 0 := by omega
              have hbA := (Below.refl w7.heap.size w7).alloc (Nat.le_refl _) (.cells #[.int .i64 (-1), .int .i64 256] 3)
              have HA := hide (HS7.out.later hbA)
              have lA := Lies.new w7 #[.int .i64 (-1), .int .i64 256] 3
              obtain ⟨pa, hpa, hra⟩ := HA.out.rd
              have hne : w7.heap.size ≠ rb := by have := HA.out.nr; have := HS7.out.grew.size; omega
              clear HS7 hbA
              go_wp2_with fail
              refine (one_any rb A n c pa w7.heap.size 2 2 [-1, 256] _ hra (by omega) rfl (by omega) (by omega) hne (fun k z hz => by
                have := lA.cell k
                rw [this]
                match k, hz with
                | 0, hz => simpa using hz
                | 1, hz => simpa using hz
                | k + 2, hz => simp at hz)).mono ?_
              rintro e w8 ⟨⟨x, hx, rfl⟩, hr8, ht8⟩
              have hx64 : In64 x := by
                simp at hx
                rcases hx with rfl | rfl <;> constructor <;> omega
              have HS8 := hide (HA.out.turned (P' := p + 870) (Grew.of_turn ht8) hr8 (by omega))
              obtain ⟨v0, c0, f0⟩ := HS8.out.cell hl
              have HF := hide (show Ints2 rb A n c (p + 900) w (.returned (.slice (some ⟨g, 0, none⟩) xs.length cb2)) (w8.setCell ⟨g, 0, none⟩ (.int .i64 x)) from ⟨xs.set 0 x, _, cb2, by rw [List.length_set], (HS8.out.set hx64).more (by omega)⟩)
              clear hra lA HA hx hx64 hr8 ht8 HS8
              go_wp2
              go_ret
              exact HF.out
            · have hl' : ¬ (0 : Int) < (xs.length : Int) := by omega
              have HF := hide (show Ints2 rb A n c (p + 900) w (.returned (.slice (some ⟨g, 0, none⟩) xs.length cb2)) w7 from ⟨xs, _, cb2, rfl, HS7.out.more (by omega)⟩)
              clear HS7
              go_wp2
              go_ret
              exact HF.out
          · have z0' : ¬ (z : Int) = 0 := by omega
            have HF := hide (show Ints2 rb A n c (p + 900) w (.returned (.slice (some ⟨g, 0, none⟩) xs.length cb2)) w7 from ⟨xs, _, cb2, rfl, HS7.out.more (by omega)⟩)
            clear HS7
            go_wp2
            go_ret
            exact HF.out
    · have hz' : ¬ (0 : Int) < (xs.length : Int) := by omega
      have HF := hide (show Ints2 rb A n c (p + 900) w (.returned (.slice A3 xs.length c3)) w3 from ⟨xs, _, c3, rfl, HS.out.more (by omega)⟩)
      clear HS
      go_wp2
      go_ret
      exact HF.out
  · have HK := hide (tf_false hok)
    clear hok
    rw [HK.out]
    have HF := hide (show Ints2 rb A n c (p + 900) w (.returned (.slice (some ⟨g0, 0, none⟩) 0 0)) w2 from ⟨[], _, 0, rfl, ⟨HG2.out.grew, by obtain ⟨p1, h1, h2⟩ := HG2.out.rd; exact ⟨p1, by omega, h2⟩, HE2.out, fun x hx => absurd hx (by simp), by simp, hlt⟩⟩)
    clear HG2 HO2 HE2
    go_wp2
    go_ret
    exact HF.out
end Go.Proofs.Ytmilbhhlbjcodab

namespace Go.Proofs.Ytmilbhhlbjcodab
open Go.RowKit
set_option linter.unusedVariables false
set_option maxRecDepth 100000 in
set_option maxHeartbeats 16000000 in
theorem someFramed_any (rb : Nat) (A : Option Addr) (n c p : Nat) (w : World) (h : Rd w rb A n c p) (hp : p < 400000) :
    Calls Try.prog 10 #[.pointer (some ⟨rb, 0, none⟩)] w (Ints2 rb A n c (p + 1000) w) := by
  have hlt := h.box.lt
  go_enter Try.func10, Try.ntmps10
  go_wp2_with fail
  refine (someBytes_any rb A n c p w h (by omega)).mono ?_
  rintro e w1 ⟨ys, B, cb, rfl, hS⟩
  have hbA := (Below.refl w1.heap.size w1).alloc (Nat.le_refl _) (.cells #[.int .i64 10, .int .i64 3, .int .i64 1, .int .i64 200] 3)
  have HA := hide (hS.later hbA)
  have lA := Lies.new w1 #[.int .i64 10, .int .i64 3, .int .i64 1, .int .i64 200] 3
  obtain ⟨pa, hpa, hra⟩ := HA.out.rd
  have hne : w1.heap.size ≠ rb := by have := HA.out.nr; have := hS.grew.size; omega
  clear hS hbA h
  go_wp2_with fail
  refine (one_any rb A n c pa w1.heap.size 4 4 [10, 3, 1, 200] _ hra (by omega) rfl (by omega) (by omega) hne (fun k z hz => by
      have := lA.cell k
      rw [this]
      match k, hz with
      | 0, hz => simpa using hz
      | 1, hz => simpa using hz
      | 2, hz => simpa using hz
      | 3, hz => simpa using hz
      | k + 4, hz => simp at hz)).mono ?_
  rintro e w2 ⟨⟨m, hm, rfl⟩, hr2, ht2⟩
  have HS2 := hide (HA.out.turned (P' := p + 905) (Grew.of_turn ht2) hr2 (by omega))
  have HI2 := hide (HS2.out.own.ints HS2.out.wf (by have := HS2.out.few; omega))
  have hcap2 := HS2.out.own.capLen
  clear HA lA hra hm hr2 ht2
  go_wp2_with fail
  refine (specFrameBytes_any B ys cb m w2 HI2.out hcap2).mono ?_
  rintro e w3 ⟨A3, c3, rfl, ho3, hb3⟩
  have HG3 := hide (HS2.out.later hb3)
  have hsz := HS2.out.grew.size
  have HS := hide (show ByS w w3 rb A n c (p + 910) A3 c3 (frameOf ys m) from ⟨HG3.out.grew, by obtain ⟨p1, h1, h2⟩ := HG3.out.rd; exact ⟨p1, by omega, h2⟩, ho3.mono hsz, in64_bytes (frameOf_byte ys m), frameOf_few ys m, hlt⟩)
  clear ho3 hb3 HS2 HI2 HG3 hsz hcap2
  generalize frameOf ys m = xs at HS ⊢
  have hfew := HS.out.few
  by_cases hz : 0 < xs.length
  · have hz' : (0 : Int) < (xs.length : Int) := by omega
    obtain ⟨g, rfl, hgb, hgl⟩ := HS.out.row hz
    clear hgb hgl
    obtain ⟨cb2, rfl⟩ : ∃ q, q = c3 := ⟨_, rfl⟩
    obtain ⟨px, hpx, hrx⟩ := HS.out.rd
    go_wp2_with fail
    refine (pick_any rb A n c px 4 w3 hrx (by omega) (by omega)).mono ?_
    rintro e w4 ⟨⟨y, rfl, hy, _⟩, hr4, ht4⟩
    have HS4 := hide (HS.out.turned (P' := p + 920) (Grew.of_turn ht4) hr4 (by omega))
    clear HS hrx ht4 hr4 hy
    by_cases y0 : y = 0
    · subst y0
      obtain ⟨px, hpx, hrx⟩ := HS4.out.rd
      go_wp2_with fail
      refine (pick_any rb A n c px (xs.length : Int) w4 hrx (by omega) (by omega)).mono ?_
      rintro e w5 ⟨⟨k, rfl, hk, _⟩, hr5, ht5⟩
      have hkl : k < xs.length := by have := hk (by omega); omega
      have HS5 := hide (HS4.out.turned (P' := p + 930) (Grew.of_turn ht5) hr5 (by omega))
      clear HS4 hrx ht5 hr5 hk
      obtain ⟨px, hpx, hrx⟩ := HS5.out.rd
      go_wp2_with fail
      refine (pick_any rb A n c px 256 w5 hrx (by omega) (by omega)).mono ?_
      rintro e w6 ⟨⟨v, rfl, hv, _⟩, hr6, ht6⟩
      have hv256 : v < 256 := by have := hv (by omega); omega
      have HS6 := hide (HS5.out.turned (P' := p + 940) (Grew.of_turn ht6) hr6 (by omega))
      clear HS5 hrx ht6 hr6 hv
      have hbA := (Below.refl w6.heap.size w6).alloc (Nat.le_refl _) (.cells #[.int .i64 (v : Int), .int .i64 0, .int .i64 255] 3)
      have HA := hide (HS6.out.later hbA)
      have lA := Lies.new w6 #[.int .i64 (v : Int), .int .i64 0, .int .i64 255] 3
      obtain ⟨pa, hpa, hra⟩ := HA.out.rd
      have hne : w6.heap.size ≠ rb := by have := HA.out.nr; have := HS6.out.grew.size; omega
      clear HS6 hbA
      go_wp2_with fail
      refine (one_any rb A n c pa w6.heap.size 3 3 [(v : Int), 0, 255] _ hra (by omega) rfl (by omega) (by omega) hne (fun k z hz => by
          have := lA.cell k
          rw [this]
          match k, hz with
          | 0, hz => simpa using hz
          | 1, hz => simpa using hz
          | 2, hz => simpa using hz
          | k + 3, hz => simp at hz)).mono ?_
      rintro e w7 ⟨⟨x, hx, rfl⟩, hr7, ht7⟩
      have hx64 : In64 x := by
        simp at hx
        rcases hx with rfl | rfl | rfl <;> constructor <;> omega
      have HS7 := hide (HA.out.turned (P' := p + 950) (Grew.of_turn ht7) hr7 (by omega))
      obtain ⟨v0, c0, f0⟩ := HS7.out.cell hkl
      have HS8 := hide (HS7.out.set (j := k) hx64)
      have hkI : (k : Int) < (xs.length : Int) := by omega
      have hk0 : (0 : Int) ≤ (k : Int) := by omega
      have hlset : (xs.set k x).length = xs.length := List.length_set
      clear hra lA HA hx hx64 hr7 ht7 HS7
      go_upto_region 8 with fail
      clear c0 f0
      generalize w7.setCell ⟨g, k, none⟩ (.int .i64 x) = wx at HS8 ⊢
      generalize xs.set k x = xs6 at HS8 hlset
      clear hkI hkl hz hz' hk0 hv256
      rw [← hlset]
      clear hlset
      obtain ⟨xs, rfl⟩ : ∃ xs, xs = xs6 := ⟨_, rfl⟩
      have HS := hide (HS8.out.more (P' := p + 960) (by omega))
      clear HS8
      have HF := hide (show Ints2 rb A n c (p + 1000) w (.returned (.slice (some ⟨g, 0, none⟩) xs.length cb2)) wx from ⟨xs, _, cb2, rfl, HS.out.more (by omega)⟩)
      clear HS
      go_wp2
      go_ret
      exact HF.out
    · have y0' : ¬ (y : Int) = 0 := by omega
      by_cases y1 : y = 1
      · subst y1
        obtain ⟨px, hpx, hrx⟩ := HS4.out.rd
        have hfew := HS4.out.few
        have hcap := HS4.out.own.capLen
        go_wp2_with fail
        refine (pick_any rb A n c px (xs.length : Int) w4 hrx (by omega) (by omega)).mono ?_
        rintro e wx ⟨⟨k, rfl, hk, _⟩, hr5, ht5⟩
        have hkl : k ≤ xs.length := by have := hk (by omega); omega
        have hlk : (xs.take k).length = k := by simp; omega
        have HS5 := hide ((HS4.out.turned (P' := p + 930) (Grew.of_turn ht5) hr5 (by omega)).cut hkl)
        have hk1 : (0 : Int) ≤ (k : Int) := by omega
        have hk2 : (k : Int) ≤ (cb2 : Int) := by omega
        clear HS4 hrx ht5 hr5 hk
        go_upto_region 8 with fail
        generalize xs.take k = ys at HS5 hlk
        subst hlk
        clear hk1 hk2 hkl hfew hcap hz hz'
        obtain ⟨xs, rfl⟩ : ∃ xs, xs = ys := ⟨_, rfl⟩
        have HS := hide (HS5.out.more (P' := p + 960) (by omega))
        clear HS5
        have HF := hide (show Ints2 rb A n c (p + 1000) w (.returned (.slice (some ⟨g, 0, none⟩) xs.length cb2)) wx from ⟨xs, _, cb2, rfl, HS.out.more (by omega)⟩)
        clear HS
        go_wp2
        go_ret
        exact HF.out
      · have y1' : ¬ (y : Int) = 1 := by omega
        have HS := hide (HS4.out.more (P' := p + 960) (by omega))
        clear HS4
        go_upto_region 8 with fail
        generalize w4 = wx at HS ⊢
        clear hz hz'
        have HF := hide (show Ints2 rb A n c (p + 1000) w (.returned (.slice (some ⟨g, 0, none⟩) xs.length cb2)) wx from ⟨xs, _, cb2, rfl, HS.out.more (by omega)⟩)
        clear HS
        go_wp2
        go_ret
        exact HF.out
  · have hz' : ¬ (0 : Int) < (xs.length : Int) := by omega
    have HF := hide (show Ints2 rb A n c (p + 1000) w (.returned (.slice A3 xs.length c3)) w3 from ⟨xs, _, c3, rfl, HS.out.more (by omega)⟩)
    clear HS
    go_wp2
    go_ret
    exact HF.out
end Go.Proofs.Ytmilbhhlbjcodab

namespace Go.Proofs.Ytmilbhhlbjcodab
open Go.RowKit
set_option linter.unusedVariables false
def DrawnI (w : World) (e : Ending) (w' : World) : Prop :=
  ∃ (xs : List Int) (B : Option Addr) (cb : Nat), e = .returned (.slice B xs.length cb) ∧ IntsAt w' w'.heap.size B xs ∧ (B = none → cb = 0) ∧ xs.length ≤ cb ∧ xs.length ≤ 2000 ∧ Below w.heap.size w w'
theorem ByS.drawn {w w0 w' : World} {A B : Option Addr} {rb n c P cb : Nat} {xs : List Int} (h : ByS w0 w' rb A n c P B cb xs) (hb : Below w.heap.size w w0) (hr : w.heap.size ≤ rb) : DrawnI w (.returned (.slice B xs.length cb)) w' :=
  ⟨xs, B, cb, rfl, h.own.ints h.wf (by have := h.few; omega), h.own.nil, h.own.capLen, by have := h.few; omega, h.grew.below hb hr hb.size⟩
set_option maxHeartbeats 1000000 in
theorem drawUnfB_any (A : Option Addr) (n c : Nat) (w : World) (h : BytesAt w w.heap.size A n) (hc : n ≤ c) (hn : n ≤ 9223372036854775807) :
    Calls Try.prog 4 #[.slice A n c] w (DrawnI w) := by
  go_enter Try.func4, Try.ntmps4
  go_wp2_with fail
  refine (newReader_any A n c w h hc hn).mono ?_
  rintro e w1 ⟨rfl, ⟨n', c', hrd⟩, hb1⟩
  clear h
  go_wp2_with fail
  refine (someFramed_any w.heap.size A n' c' 0 w1 hrd (by omega)).mono ?_
  rintro e w2 ⟨xs, B, cb, rfl, hS⟩
  have HF := hide (hS.drawn hb1 (Nat.le_refl _))
  clear hS hrd hb1
  go_wp2
  go_ret
  exact HF.out
end Go.Proofs.Ytmilbhhlbjcodab

namespace Go.Proofs.Ytmilbhhlbjcodab
open Go.RowKit
set_option linter.unusedVariables false
set_option maxRecDepth 100000 in
set_option maxHeartbeats 8000000 in
theorem lawUB_any (A : Option Addr) (n c : Nat) (w : World) (h : BytesAt w w.heap.size A n) (hc : n ≤ c) (hn : n ≤ 9223372036854775807) :
    Calls Try.prog 3 #[.slice A n c] w fun e w' => e = .returned (.bool true) ∧ Below w.heap.size w w' := by
  by_cases hbig : 1048576 < n
  · have d : decide ((1048576 : Int) < (n : Int)) = true := by simp; omega
    go_enter Try.func3, Try.ntmps3
    go_wp2
    go_ret
    exact ⟨rfl, Below.refl _ _⟩
  · have d : decide ((1048576 : Int) < (n : Int)) = false := by simp; omega
    go_enter Try.func3, Try.ntmps3
    go_wp2_with fail
    refine (drawUnfB_any A n c w h hc hn).mono ?_
    rintro e w1 ⟨xs, B, cb, rfl, ho1, hnil, hcap, hfew, hb1⟩
    have HI1 := hide ho1
    have HW1 := hide hb1
    have HN := hide hnil
    have huf := unfAll_few xs
    have HU64 := hide (in64_bytes (unfAll_byte xs))
    clear h ho1 hb1 hnil
    go_wp2_with fail
    refine (implUnframeBytes_any B xs cb w1 HI1.out HN.out hcap).mono ?_
    rintro e w2 ⟨A2, c2, rfl, ho2, hb2⟩
    have HO2 := hide ho2
    have HW2 := hide (HW1.out.trans (hb2.mono HW1.out.size))
    have HI2 := hide (HI1.out.later hb2 (Nat.le_refl _))
    clear ho2 hb2 HW1 HI1
    go_wp2_with fail
    refine (specUnframeBytes_any B xs cb w2 HI2.out hcap).mono ?_
    rintro e w3 ⟨A3, c3, rfl, ho3, hb3⟩
    have HJ3 := hide ((HO2.out.below hb3).ints HU64.out (by omega))
    have HK3 := hide (ho3.ints HU64.out (by omega))
    have HN2 := hide HO2.out.nil
    have hcap2 := HO2.out.capLen
    have HW3 := hide (HW2.out.trans (hb3.mono HW2.out.size))
    have HI3 := hide (HI2.out.later hb3 (Nat.le_refl _))
    clear ho3 hb3 HO2 HW2 HI2
    by_cases hok : UnfOk xs
    · have HT := hide (tf_true hok)
      have hut := unf_torn hok
      have HU1 := hide hut.1
      have HU2 := hide hut.2
      have hby := unfAll_byte xs
      have HBy := hide hby
      clear hok hut hby
      rw [HT.out]
      go_wp2_with fail
      refine (equalInts_any A2 A3 (unfAll xs) (unfAll xs) c2 c3 w3 HJ3.out HK3.out).mono ?_
      rintro e w4 ⟨rfl, hb4⟩
      have HW4 := hide (HW3.out.trans (hb4.mono HW3.out.size))
      have HI4 := hide (HI3.out.later hb4 (Nat.le_refl _))
      have HJ4 := hide (HJ3.out.later hb4 (Nat.le_refl _))
      rw [decide_eq_true (rfl : unfAll xs = unfAll xs)]
      clear hb4 HW3 HI3 HJ3 HK3
      go_wp2_with fail
      have hC := implUnframeTorn_any B xs cb w4 HI4.out HN.out hcap
      rw [HU1.out, HU2.out] at hC
      refine hC.mono ?_
      clear hC
      rintro e w5 ⟨A5, c5, rfl, ho5, hb5⟩
      have HW5 := hide (HW4.out.trans (hb5.mono HW4.out.size))
      have HJ5 := hide (HJ4.out.later hb5 (Nat.le_refl _))
      have HT5 := hide (ho5.ints HU64.out (by omega))
      clear ho5 hb5 HW4 HI4 HJ4 HU1 HU2
      generalize unfAll xs = ys at HJ5 HT5 HU64 HBy huf hcap2 ⊢
      go_wp2_with fail
      refine (implFrameBytes_any A2 ys c2 7 w5 HJ5.out HN2.out hcap2).mono ?_
      rintro e w6 ⟨A6, c6, rfl, ho6, hb6⟩
      have hff := frameOf_few ys 7
      have HO6 := hide (ho6.ints (in64_bytes (frameOf_byte ys 7)) (by omega))
      have HN6 := hide ho6.nil
      have hcap6 := ho6.capLen
      have HW6 := hide (HW5.out.trans (hb6.mono HW5.out.size))
      have HJ6 := hide (HJ5.out.later hb6 (Nat.le_refl _))
      have HT6 := hide (HT5.out.later hb6 (Nat.le_refl _))
      clear ho6 hb6 HW5 HJ5 HT5
      go_wp2_with fail
      refine (implUnframeBytes_any A6 (frameOf ys 7) c6 w6 HO6.out HN6.out hcap6).mono ?_
      rintro e w7 ⟨A7, c7, rfl, ho7, hb7⟩
      have HW7 := hide (HW6.out.trans (hb7.mono HW6.out.size))
      have HJ7 := hide (HJ6.out.later hb7 (Nat.le_refl _))
      have HT7 := hide (HT6.out.later hb7 (Nat.le_refl _))
      have HO7 := hide ho7
      clear ho7 hb7 HW6 HJ6 HT6 HO6
      go_wp2_with fail
      refine (equalInts_any A5 A2 ys ys c5 c2 w7 HT7.out HJ7.out).mono ?_
      rintro e w8 ⟨rfl, hb8⟩
      have HW8 := hide (HW7.out.trans (hb8.mono HW7.out.size))
      have HJ8 := hide (HJ7.out.later hb8 (Nat.le_refl _))
      have HO8 := hide (HO7.out.below hb8)
      rw [decide_eq_true (rfl : ys = ys)]
      clear hb8 HW7 HJ7 HT7 HO7
      by_cases hsm : ys.length ≤ 1000
      · have d2 : decide ((1000 : Int) < (ys.length : Int)) = false := by simp; omega
        have hn2 : ¬ (1000 : Int) < (ys.length : Int) := by omega
        have hwh := frame_whole (xs := ys) (m := 7) ⟨hsm, HBy.out⟩ (by omega) (by omega)
        have HV := hide (tf_true hwh.1)
        have hya := hwh.2.1
        rw [hya] at HO8
        rw [HV.out, hya]
        have HO9 := hide (HO8.out.ints HU64.out (by omega))
        clear hwh hya HO8
        go_wp2_with fail
        refine (equalInts_any A7 A2 ys ys c7 c2 w8 HO9.out HJ8.out).mono ?_
        rintro e w9 ⟨rfl, hb9⟩
        have HW9 := hide (HW8.out.trans (hb9.mono HW8.out.size))
        rw [decide_eq_true (rfl : ys = ys)]
        clear hb9 HO9 HJ8 HW8
        go_wp2
        go_ret
        exact ⟨by simp, HW9.out⟩
      · have d2 : decide ((1000 : Int) < (ys.length : Int)) = true := by simp; omega
        have hn2 : (1000 : Int) < (ys.length : Int) := by omega
        clear HO8 HJ8
        go_wp2
        go_ret
        exact ⟨by simp, HW8.out⟩
    · have HT := hide (tf_false hok)
      have hless := unf_less hok
      have d2 : decide (unfrSize xs < (xs.length : Int)) = true := by simp; exact hless
      clear hok
      rw [HT.out]
      go_wp2_with fail
      refine (equalInts_any A2 A3 (unfAll xs) (unfAll xs) c2 c3 w3 HJ3.out HK3.out).mono ?_
      rintro e w4 ⟨rfl, hb4⟩
      have HW4 := hide (HW3.out.trans (hb4.mono HW3.out.size))
      have HI4 := hide (HI3.out.later hb4 (Nat.le_refl _))
      rw [decide_eq_true (rfl : unfAll xs = unfAll xs)]
      clear hb4 HW3 HI3 HJ3 HK3
      go_wp2_with fail
      refine (implUnframeTorn_any B xs cb w4 HI4.out HN.out hcap).mono ?_
      rintro e w5 ⟨A5, c5, rfl, ho5, hb5⟩
      have HW5 := hide (HW4.out.trans (hb5.mono HW4.out.size))
      clear ho5 hb5 HW4 HI4
      go_wp2
      go_ret
      exact ⟨by simp, HW5.out⟩
end Go.Proofs.Ytmilbhhlbjcodab
