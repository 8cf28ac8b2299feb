/-
  Lemmas, several texts in one: SoB, SoF, DrawUT, LawUT.
-/
import Derived.Test.YtmilbhhlbjcodacSoO
import Derived.Test.YtmilbhhlbjcodacPjAn
import Derived.Test.YtmilbhhlbjcodacPjAf
import Derived.Deep.Cut
import Derived.Test.YtmilbhhlbjcodacPjAj
import Derived.Test.YtmilbhhlbjcodacPjAm
import Derived.Test.YtmilbhhlbjcodacPjAh
namespace Go.Proofs.Ytmilbhhlbjcodac
open Go.RowKit
set_option linter.unusedVariables false
set_option maxRecDepth 100000 in
set_option maxHeartbeats 16000000 in
theorem someBytes_any (rb : Nat) (A : Option Addr) (n c p : Nat) (w : World) (h : Rd w rb A n c p) (hp : p < 500000) :
    Calls Try.prog 16 #[.pointer (some ⟨rb, 0, none⟩)] w (Ints2 rb A n c (p + 900) w) := by
  have hlt := h.box.lt
  go_enter Try.func16, Try.ntmps16
  go_wp2_with fail
  refine (someOps_any rb A n c p w h (by omega)).mono ?_
  rintro e wx ⟨os, B, cb, rfl, hS⟩
  have hb0 : Below wx.heap.size wx (wx.alloc (.cells #[] 3)) := (Below.refl _ _).alloc (Nat.le_refl _) _
  have hS1 := hS.later hb0
  have hO1 : OpsAt (wx.alloc (.cells #[] 3)) (wx.alloc (.cells #[] 3)).heap.size B os := hS1.own.ops hS1.wf (by have := hS1.few; omega)
  have hE1 : OwnI (wx.alloc (.cells #[] 3)) w.heap.size (some ⟨wx.heap.size, 0, none⟩) 0 [] := (OwnI.bare wx).mono hS.grew.size
  clear h hb0 hS
  go_upto_region 3 with fail
  generalize wx.alloc (.cells #[] 3) = W at hS1 hO1 hE1 ⊢
  generalize wx.heap.size = g0 at hE1 ⊢
  have HS1 := hide hS1
  have HO1 := hide hO1
  have HE1 := hide hE1
  clear hS1 hO1 hE1
  go_wp2_with fail
  refine (specValidOps_any B os cb W HO1.out).mono ?_
  rintro e w2 ⟨rfl, hb2⟩
  have HG2 := hide (HS1.out.later hb2)
  have HO2 := hide (HO1.out.later hb2 (Nat.le_refl _))
  have HE2 := hide (HE1.out.below hb2)
  clear hb2 HS1 HO1 HE1
  by_cases hok : OpsOk os
  · have HK := hide (tf_true hok)
    clear hok
    rw [HK.out]
    go_wp2_with fail
    refine (specEncodeOps_any B os cb w2 HO2.out).mono ?_
    rintro e w3 ⟨A3, c3, rfl, ho3, hb3⟩
    have HG3 := hide (HG2.out.later hb3)
    have hsz := HG2.out.grew.size
    have HS := hide (show ByS w w3 rb A n c (p + 800) A3 c3 (encodeOf os) from ⟨HG3.out.grew, HG3.out.rd, ho3.mono hsz, encodeOf_64, by have := @encodeOf_few os; omega, hlt⟩)
    clear ho3 hb3 HG2 HO2 HE2 HG3 hsz
    generalize encodeOf os = xs at HS ⊢
    have hfew := HS.out.few
    by_cases hz : 0 < xs.length
    · have hz' : (0 : Int) < (xs.length : Int) := by omega
      obtain ⟨g, rfl, hgb, hgl⟩ := HS.out.row hz
      clear hgb hgl
      obtain ⟨cb2, rfl⟩ : ∃ q, q = c3 := ⟨_, rfl⟩
      obtain ⟨px, hpx, hrx⟩ := HS.out.rd
      go_wp2_with fail
      refine (pick_any rb A n c px 4 w3 hrx (by omega) (by omega)).mono ?_
      rintro e w4 ⟨⟨y, rfl, hy, _⟩, hr4, ht4⟩
      have HS4 := hide (HS.out.turned (P' := p + 810) (Grew.of_turn ht4) hr4 (by omega))
      clear HS hrx ht4 hr4 hy
      by_cases y0 : y = 0
      · subst y0
        obtain ⟨px, hpx, hrx⟩ := HS4.out.rd
        go_wp2_with fail
        refine (pick_any rb A n c px (xs.length : Int) w4 hrx (by omega) (by omega)).mono ?_
        rintro e w5 ⟨⟨k, rfl, hk, _⟩, hr5, ht5⟩
        have hkl : k < xs.length := by have := hk (by omega); omega
        have HS5 := hide (HS4.out.turned (P' := p + 820) (Grew.of_turn ht5) hr5 (by omega))
        clear HS4 hrx ht5 hr5 hk
        obtain ⟨px, hpx, hrx⟩ := HS5.out.rd
        go_wp2_with fail
        refine (pick_any rb A n c px 256 w5 hrx (by omega) (by omega)).mono ?_
        rintro e w6 ⟨⟨v, rfl, hv, _⟩, hr6, ht6⟩
        have hv256 : v < 256 := by have := hv (by omega); omega
        have HS6 := hide (HS5.out.turned (P' := p + 830) (Grew.of_turn ht6) hr6 (by omega))
        clear HS5 hrx ht6 hr6 hv
        have hbA := (Below.refl w6.heap.size w6).alloc (Nat.le_refl _) (.cells #[.int .i64 (v : Int), .int .i64 128, .int .i64 20, .int .i64 255] 3)
        have HA := hide (HS6.out.later hbA)
        have lA := Lies.new w6 #[.int .i64 (v : Int), .int .i64 128, .int .i64 20, .int .i64 255] 3
        obtain ⟨pa, hpa, hra⟩ := HA.out.rd
        have hne : w6.heap.size ≠ rb := by have := HA.out.nr; have := HS6.out.grew.size; omega
        clear HS6 hbA
        go_wp2_with fail
        refine (one_any rb A n c pa w6.heap.size 4 4 [(v : Int), 128, 20, 255] _ hra (by omega) rfl (by omega) (by omega) hne (fun k z hz => by
            have := lA.cell k
            rw [this]
            match k, hz with
            | 0, hz => simpa using hz
            | 1, hz => simpa using hz
            | 2, hz => simpa using hz
            | 3, hz => simpa using hz
            | k + 4, hz => simp at hz)).mono ?_
        rintro e w7 ⟨⟨x, hx, rfl⟩, hr7, ht7⟩
        have hx64 : In64 x := by
          simp at hx
          rcases hx with rfl | rfl | rfl | rfl <;> constructor <;> omega
        have HS7 := hide (HA.out.turned (P' := p + 840) (Grew.of_turn ht7) hr7 (by omega))
        obtain ⟨v0, c0, f0⟩ := HS7.out.cell hkl
        have HS8 := hide (HS7.out.set (j := k) hx64)
        have hkI : (k : Int) < (xs.length : Int) := by omega
        have hk0 : (0 : Int) ≤ (k : Int) := by omega
        have hlset : (xs.set k x).length = xs.length := List.length_set
        clear hra lA HA hx hx64 hr7 ht7 HS7
        go_upto_region 11 with fail
        clear c0 f0
        generalize w7.setCell ⟨g, k, none⟩ (.int .i64 x) = wx at HS8 ⊢
        generalize xs.set k x = xs6 at HS8 hlset
        clear hkI hkl hz hz' hk0 hv256
        rw [← hlset]
        clear hlset
        obtain ⟨xs, rfl⟩ : ∃ xs, xs = xs6 := ⟨_, rfl⟩
        have HS := hide (HS8.out.more (P' := p + 850) (by omega))
        clear HS8
        obtain ⟨px, hpx, hrx⟩ := HS.out.rd
        have hfew := HS.out.few
        have hcap := HS.out.own.capLen
        go_wp2_with fail
        refine (pick_any rb A n c px 30 wx hrx (by omega) (by omega)).mono ?_
        rintro e w7 ⟨⟨z, rfl, hz, _⟩, hr7, ht7⟩
        have HS7 := hide (HS.out.turned (P' := p + 860) (Grew.of_turn ht7) hr7 (by omega))
        clear HS hrx ht7 hr7 hz
        by_cases z0 : z = 0
        · subst z0
          by_cases hl : 0 < xs.length
          · have hl' : (0 : Int) < (xs.length : Int) := by omega
            have hl0 : ¬ (xs.length : Int) ≤ 0 := by omega
            have hbA := (Below.refl w7.heap.size w7).alloc (Nat.le_refl _) (.cells #[.int .i64 (-1), .int .i64 256] 3)
            have HA := hide (HS7.out.later hbA)
            have lA := Lies.new w7 #[.int .i64 (-1), .int .i64 256] 3
            obtain ⟨pa, hpa, hra⟩ := HA.out.rd
            have hne : w7.heap.size ≠ rb := by have := HA.out.nr; have := HS7.out.grew.size; omega
            clear HS7 hbA
            go_wp2_with fail
            refine (one_any rb A n c pa w7.heap.size 2 2 [-1, 256] _ hra (by omega) rfl (by omega) (by omega) hne (fun k z hz => by
              have := lA.cell k
              rw [this]
              match k, hz with
              | 0, hz => simpa using hz
              | 1, hz => simpa using hz
              | k + 2, hz => simp at hz)).mono ?_
            rintro e w8 ⟨⟨x, hx, rfl⟩, hr8, ht8⟩
            have hx64 : In64 x := by
              simp at hx
              rcases hx with rfl | rfl <;> constructor <;> omega
            have HS8 := hide (HA.out.turned (P' := p + 870) (Grew.of_turn ht8) hr8 (by omega))
            obtain ⟨v0, c0, f0⟩ := HS8.out.cell hl
            have HF := hide (show Ints2 rb A n c (p + 900) w (.returned (.slice (some ⟨g, 0, none⟩) xs.length cb2)) (w8.setCell ⟨g, 0, none⟩ (.int .i64 x)) from ⟨xs.set 0 x, _, cb2, by rw [List.length_set], (HS8.out.set hx64).more (by omega)⟩)
            clear hra lA HA hx hx64 hr8 ht8 HS8
            go_wp2
            go_ret
            exact HF.out
          · have hl' : ¬ (0 : Int) < (xs.length : Int) := by omega
            have HF := hide (show Ints2 rb A n c (p + 900) w (.returned (.slice (some ⟨g, 0, none⟩) xs.length cb2)) w7 from ⟨xs, _, cb2, rfl, HS7.out.more (by omega)⟩)
            clear HS7
            go_wp2
            go_ret
            exact HF.out
        · have z0' : ¬ (z : Int) = 0 := by omega
          have HF := hide (show Ints2 rb A n c (p + 900) w (.returned (.slice (some ⟨g, 0, none⟩) xs.length cb2)) w7 from ⟨xs, _, cb2, rfl, HS7.out.more (by omega)⟩)
          clear HS7
          go_wp2
          go_ret
          exact HF.out
      · have y0' : ¬ (y : Int) = 0 := by omega
        by_cases y1 : y = 1
        · subst y1
          obtain ⟨px, hpx, hrx⟩ := HS4.out.rd
          have hfew := HS4.out.few
          have hcap := HS4.out.own.capLen
          go_wp2_with fail
          refine (pick_any rb A n c px (xs.length : Int) w4 hrx (by omega) (by omega)).mono ?_
          rintro e wx ⟨⟨k, rfl, hk, _⟩, hr5, ht5⟩
          have hkl : k ≤ xs.length := by have := hk (by omega); omega
          have hlk : (xs.take k).length = k := by simp; omega
          have HS5 := hide ((HS4.out.turned (P' := p + 820) (Grew.of_turn ht5) hr5 (by omega)).cut hkl)
          have hk1 : (0 : Int) ≤ (k : Int) := by omega
          have hk2 : (k : Int) ≤ (cb2 : Int) := by omega
          clear HS4 hrx ht5 hr5 hk
          go_upto_region 11 with fail
          generalize xs.take k = ys at HS5 hlk
          subst hlk
          clear hk1 hk2 hkl hfew hcap hz hz'
          obtain ⟨xs, rfl⟩ : ∃ xs, xs = ys := ⟨_, rfl⟩
          have HS := hide (HS5.out.more (P' := p + 850) (by omega))
          clear HS5
          obtain ⟨px, hpx, hrx⟩ := HS.out.rd
          have hfew := HS.out.few
          have hcap := HS.out.own.capLen
          go_wp2_with fail
          refine (pick_any rb A n c px 30 wx hrx (by omega) (by omega)).mono ?_
          rintro e w7 ⟨⟨z, rfl, hz, _⟩, hr7, ht7⟩
          have HS7 := hide (HS.out.turned (P' := p + 860) (Grew.of_turn ht7) hr7 (by omega))
          clear HS hrx ht7 hr7 hz
          by_cases z0 : z = 0
          · subst z0
            by_cases hl : 0 < xs.length
            · have hl' : (0 : Int) < (xs.length : Int) := by omega
              have hl0 : ¬ (xs.length : Int) ≤ 0 := by omega
              have hbA := (Below.refl w7.heap.size w7).alloc (Nat.le_refl _) (.cells #[.int .i64 (-1), .int .i64 256] 3)
              have HA := hide (HS7.out.later hbA)
              have lA := Lies.new w7 #[.int .i64 (-1), .int .i64 256] 3
              obtain ⟨pa, hpa, hra⟩ := HA.out.rd
              have hne : w7.heap.size ≠ rb := by have := HA.out.nr; have := HS7.out.grew.size; omega
              clear HS7 hbA
              go_wp2_with fail
              refine (one_any rb A n c pa w7.heap.size 2 2 [-1, 256] _ hra (by omega) rfl (by omega) (by omega) hne (fun k z hz => by
                have := lA.cell k
                rw [this]
                match k, hz with
                | 0, hz => simpa using hz
                | 1, hz => simpa using hz
                | k + 2, hz => simp at hz)).mono ?_
              rintro e w8 ⟨⟨x, hx, rfl⟩, hr8, ht8⟩
              have hx64 : In64 x := by
                simp at hx
                rcases hx with rfl | rfl <;> constructor <;> omega
              have HS8 := hide (HA.out.turned (P' := p + 870) (Grew.of_turn ht8) hr8 (by omega))
              obtain ⟨v0, c0, f0⟩ := HS8.out.cell hl
              have HF := hide (show Ints2 rb A n c (p + 900) w (.returned (.slice (some ⟨g, 0, none⟩) xs.length cb2)) (w8.setCell ⟨g, 0, none⟩ (.int .i64 x)) from ⟨xs.set 0 x, _, cb2, by rw [List.length_set], (HS8.out.set hx64).more (by omega)⟩)
              clear hra lA HA hx hx64 hr8 ht8 HS8
              go_wp2
              go_ret
              exact HF.out
            · have hl' : ¬ (0 : Int) < (xs.length : Int) := by omega
              have HF := hide (show Ints2 rb A n c (p + 900) w (.returned (.slice (some ⟨g, 0, none⟩) xs.length cb2)) w7 from ⟨xs, _, cb2, rfl, HS7.out.more (by omega)⟩)
              clear HS7
              go_wp2
              go_ret
              exact HF.out
          · have z0' : ¬ (z : Int) = 0 := by omega
            have HF := hide (show Ints2 rb A n c (p + 900) w (.returned (.slice (some ⟨g, 0, none⟩) xs.length cb2)) w7 from ⟨xs, _, cb2, rfl, HS7.out.more (by omega)⟩)
            clear HS7
            go_wp2
            go_ret
            exact HF.out
        · have y1' : ¬ (y : Int) = 1 := by omega
          have HS := hide (HS4.out.more (P' := p + 850) (by omega))
          clear HS4
          go_upto_region 11 with fail
          generalize w4 = wx at HS ⊢
          clear hz hz'
          obtain ⟨px, hpx, hrx⟩ := HS.out.rd
          have hfew := HS.out.few
          have hcap := HS.out.own.capLen
          go_wp2_with fail
          refine (pick_any rb A n c px 30 wx hrx (by omega) (by omega)).mono ?_
          rintro e w7 ⟨⟨z, rfl, hz, _⟩, hr7, ht7⟩
          have HS7 := hide (HS.out.turned (P' := p + 860) (Grew.of_turn ht7) hr7 (by omega))
          clear HS hrx ht7 hr7 hz
          by_cases z0 : z = 0
          · subst z0
            by_cases hl : 0 < xs.length
            · have hl' : (0 : Int) < (xs.length : Int) := by omega
              have hl0 : ¬ (xs.length : Int) ≤ 0 := by omega
              have hbA := (Below.refl w7.heap.size w7).alloc (Nat.le_refl _) (.cells #[.int .i64 (-1), .int .i64 256] 3)
              have HA := hide (HS7.out.later hbA)
              have lA := Lies.new w7 #[.int .i64 (-1), .int .i64 256] 3
              obtain ⟨pa, hpa, hra⟩ := HA.out.rd
              have hne : w7.heap.size ≠ rb := by have := HA.out.nr; have := HS7.out.grew.size; omega
              clear HS7 hbA
              go_wp2_with fail
              refine (one_any rb A n c pa w7.heap.size 2 2 [-1, 256] _ hra (by omega) rfl (by omega) (by omega) hne (fun k z hz => by
                have := lA.cell k
                rw [this]
                match k, hz with
                | 0, hz => simpa using hz
                | 1, hz => simpa using hz
                | k + 2, hz => simp at hz)).mono ?_
              rintro e w8 ⟨⟨x, hx, rfl⟩, hr8, ht8⟩
              have hx64 : In64 x := by
                simp at hx
                rcases hx with rfl | rfl <;> constructor <;> omega
              have HS8 := hide (HA.out.turned (P' := p + 870) (Grew.of_turn ht8) hr8 (by omega))
              obtain ⟨v0, c0, f0⟩ := HS8.out.cell hl
              have HF := hide (show Ints2 rb A n c (p + 900) w (.returned (.slice (some ⟨g, 0, none⟩) xs.length cb2)) (w8.setCell ⟨g, 0, none⟩ (.int .i64 x)) from ⟨xs.set 0 x, _, cb2, by rw [List.length_set], (HS8.out.set hx64).more (by omega)⟩)
              clear hra lA HA hx hx64 hr8 ht8 HS8
              go_wp2
              go_ret
              exact HF.out
            · have hl' : ¬ (0 : Int) < (xs.length : Int) := by omega
              have HF := hide (show Ints2 rb A n c (p + 900) w (.returned (.slice (some ⟨g, 0, none⟩) xs.length cb2)) w7 from ⟨xs, _, cb2, rfl, HS7.out.more (by omega)⟩)
              clear HS7
              go_wp2
              go_ret
              exact HF.out
          · have z0' : ¬ (z : Int) = 0 := by omega
            have HF := hide (show Ints2 rb A n c (p + 900) w (.returned (.slice (some ⟨g, 0, none⟩) xs.length cb2)) w7 from ⟨xs, _, cb2, rfl, HS7.out.more (by omega)⟩)
            clear HS7
            go_wp2
            go_ret
            exact HF.out
    · have hz' : ¬ (0 : Int) < (xs.length : Int) := by omega
      have HF := hide (show Ints2 rb A n c (p + 900) w (.returned (.slice A3 xs.length c3)) w3 from ⟨xs, _, c3, rfl, HS.out.more (by omega)⟩)
      clear HS
      go_wp2
      go_ret
      exact HF.out
  · have HK := hide (tf_false hok)
    clear hok
    rw [HK.out]
    have HF := hide (show Ints2 rb A n c (p + 900) w (.returned (.slice (some ⟨g0, 0, none⟩) 0 0)) w2 from ⟨[], _, 0, rfl, ⟨HG2.out.grew, by obtain ⟨p1, h1, h2⟩ := HG2.out.rd; exact ⟨p1, by omega, h2⟩, HE2.out, fun x hx => absurd hx (by simp), by simp, hlt⟩⟩)
    clear HG2 HO2 HE2
    go_wp2
    go_ret
    exact HF.out
end Go.Proofs.Ytmilbhhlbjcodac

namespace Go.Proofs.Ytmilbhhlbjcodac
open Go.RowKit
set_option linter.unusedVariables false
set_option maxRecDepth 100000 in
set_option maxHeartbeats 16000000 in
theorem someFramed_any (rb : Nat) (A : Option Addr) (n c p : Nat) (w : World) (h : Rd w rb A n c p) (hp : p < 400000) :
    Calls Try.prog 9 #[.pointer (some ⟨rb, 0, none⟩)] w (Ints2 rb A n c (p + 1000) w) := by
  have hlt := h.box.lt
  go_enter Try.func9, Try.ntmps9
  go_wp2_with fail
  refine (someBytes_any rb A n c p w h (by omega)).mono ?_
  rintro e w1 ⟨ys, B, cb, rfl, hS⟩
  have hbA := (Below.refl w1.heap.size w1).alloc (Nat.le_refl _) (.cells #[.int .i64 10, .int .i64 3, .int .i64 1, .int .i64 200] 3)
  have HA := hide (hS.later hbA)
  have lA := Lies.new w1 #[.int .i64 10, .int .i64 3, .int .i64 1, .int .i64 200] 3
  obtain ⟨pa, hpa, hra⟩ := HA.out.rd
  have hne : w1.heap.size ≠ rb := by have := HA.out.nr; have := hS.grew.size; omega
  clear hS hbA h
  go_wp2_with fail
  refine (one_any rb A n c pa w1.heap.size 4 4 [10, 3, 1, 200] _ hra (by omega) rfl (by omega) (by omega) hne (fun k z hz => by
      have := lA.cell k
      rw [this]
      match k, hz with
      | 0, hz => simpa using hz
      | 1, hz => simpa using hz
      | 2, hz => simpa using hz
      | 3, hz => simpa using hz
      | k + 4, hz => simp at hz)).mono ?_
  rintro e w2 ⟨⟨m, hm, rfl⟩, hr2, ht2⟩
  have HS2 := hide (HA.out.turned (P' := p + 905) (Grew.of_turn ht2) hr2 (by omega))
  have HI2 := hide (HS2.out.own.ints HS2.out.wf (by have := HS2.out.few; omega))
  have hcap2 := HS2.out.own.capLen
  clear HA lA hra hm hr2 ht2
  go_wp2_with fail
  refine (specFrameBytes_any B ys cb m w2 HI2.out hcap2).mono ?_
  rintro e w3 ⟨A3, c3, rfl, ho3, hb3⟩
  have HG3 := hide (HS2.out.later hb3)
  have hsz := HS2.out.grew.size
  have HS := hide (show ByS w w3 rb A n c (p + 910) A3 c3 (frameOf ys m) from ⟨HG3.out.grew, by obtain ⟨p1, h1, h2⟩ := HG3.out.rd; exact ⟨p1, by omega, h2⟩, ho3.mono hsz, in64_bytes (frameOf_byte ys m), frameOf_few ys m, hlt⟩)
  clear ho3 hb3 HS2 HI2 HG3 hsz hcap2
  generalize frameOf ys m = xs at HS ⊢
  have hfew := HS.out.few
  by_cases hz : 0 < xs.length
  · have hz' : (0 : Int) < (xs.length : Int) := by omega
    obtain ⟨g, rfl, hgb, hgl⟩ := HS.out.row hz
    clear hgb hgl
    obtain ⟨cb2, rfl⟩ : ∃ q, q = c3 := ⟨_, rfl⟩
    obtain ⟨px, hpx, hrx⟩ := HS.out.rd
    go_wp2_with fail
    refine (pick_any rb A n c px 4 w3 hrx (by omega) (by omega)).mono ?_
    rintro e w4 ⟨⟨y, rfl, hy, _⟩, hr4, ht4⟩
    have HS4 := hide (HS.out.turned (P' := p + 920) (Grew.of_turn ht4) hr4 (by omega))
    clear HS hrx ht4 hr4 hy
    by_cases y0 : y = 0
    · subst y0
      obtain ⟨px, hpx, hrx⟩ := HS4.out.rd
      go_wp2_with fail
      refine (pick_any rb A n c px (xs.length : Int) w4 hrx (by omega) (by omega)).mono ?_
      rintro e w5 ⟨⟨k, rfl, hk, _⟩, hr5, ht5⟩
      have hkl : k < xs.length := by have := hk (by omega); omega
      have HS5 := hide (HS4.out.turned (P' := p + 930) (Grew.of_turn ht5) hr5 (by omega))
      clear HS4 hrx ht5 hr5 hk
      obtain ⟨px, hpx, hrx⟩ := HS5.out.rd
      go_wp2_with fail
      refine (pick_any rb A n c px 256 w5 hrx (by omega) (by omega)).mono ?_
      rintro e w6 ⟨⟨v, rfl, hv, _⟩, hr6, ht6⟩
      have hv256 : v < 256 := by have := hv (by omega); omega
      have HS6 := hide (HS5.out.turned (P' := p + 940) (Grew.of_turn ht6) hr6 (by omega))
      clear HS5 hrx ht6 hr6 hv
      have hbA := (Below.refl w6.heap.size w6).alloc (Nat.le_refl _) (.cells #[.int .i64 (v : Int), .int .i64 0, .int .i64 255] 3)
      have HA := hide (HS6.out.later hbA)
      have lA := Lies.new w6 #[.int .i64 (v : Int), .int .i64 0, .int .i64 255] 3
      obtain ⟨pa, hpa, hra⟩ := HA.out.rd
      have hne : w6.heap.size ≠ rb := by have := HA.out.nr; have := HS6.out.grew.size; omega
      clear HS6 hbA
      go_wp2_with fail
      refine (one_any rb A n c pa w6.heap.size 3 3 [(v : Int), 0, 255] _ hra (by omega) rfl (by omega) (by omega) hne (fun k z hz => by
          have := lA.cell k
          rw [this]
          match k, hz with
          | 0, hz => simpa using hz
          | 1, hz => simpa using hz
          | 2, hz => simpa using hz
          | k + 3, hz => simp at hz)).mono ?_
      rintro e w7 ⟨⟨x, hx, rfl⟩, hr7, ht7⟩
      have hx64 : In64 x := by
        simp at hx
        rcases hx with rfl | rfl | rfl <;> constructor <;> omega
      have HS7 := hide (HA.out.turned (P' := p + 950) (Grew.of_turn ht7) hr7 (by omega))
      obtain ⟨v0, c0, f0⟩ := HS7.out.cell hkl
      have HS8 := hide (HS7.out.set (j := k) hx64)
      have hkI : (k : Int) < (xs.length : Int) := by omega
      have hk0 : (0 : Int) ≤ (k : Int) := by omega
      have hlset : (xs.set k x).length = xs.length := List.length_set
      clear hra lA HA hx hx64 hr7 ht7 HS7
      go_upto_region 8 with fail
      clear c0 f0
      generalize w7.setCell ⟨g, k, none⟩ (.int .i64 x) = wx at HS8 ⊢
      generalize xs.set k x = xs6 at HS8 hlset
      clear hkI hkl hz hz' hk0 hv256
      rw [← hlset]
      clear hlset
      obtain ⟨xs, rfl⟩ : ∃ xs, xs = xs6 := ⟨_, rfl⟩
      have HS := hide (HS8.out.more (P' := p + 960) (by omega))
      clear HS8
      have HF := hide (show Ints2 rb A n c (p + 1000) w (.returned (.slice (some ⟨g, 0, none⟩) xs.length cb2)) wx from ⟨xs, _, cb2, rfl, HS.out.more (by omega)⟩)
      clear HS
      go_wp2
      go_ret
      exact HF.out
    · have y0' : ¬ (y : Int) = 0 := by omega
      by_cases y1 : y = 1
      · subst y1
        obtain ⟨px, hpx, hrx⟩ := HS4.out.rd
        have hfew := HS4.out.few
        have hcap := HS4.out.own.capLen
        go_wp2_with fail
        refine (pick_any rb A n c px (xs.length : Int) w4 hrx (by omega) (by omega)).mono ?_
        rintro e wx ⟨⟨k, rfl, hk, _⟩, hr5, ht5⟩
        have hkl : k ≤ xs.length := by have := hk (by omega); omega
        have hlk : (xs.take k).length = k := by simp; omega
        have HS5 := hide ((HS4.out.turned (P' := p + 930) (Grew.of_turn ht5) hr5 (by omega)).cut hkl)
        have hk1 : (0 : Int) ≤ (k : Int) := by omega
        have hk2 : (k : Int) ≤ (cb2 : Int) := by omega
        clear HS4 hrx ht5 hr5 hk
        go_upto_region 8 with fail
        generalize xs.take k = ys at HS5 hlk
        subst hlk
        clear hk1 hk2 hkl hfew hcap hz hz'
        obtain ⟨xs, rfl⟩ : ∃ xs, xs = ys := ⟨_, rfl⟩
        have HS := hide (HS5.out.more (P' := p + 960) (by omega))
        clear HS5
        have HF := hide (show Ints2 rb A n c (p + 1000) w (.returned (.slice (some ⟨g, 0, none⟩) xs.length cb2)) wx from ⟨xs, _, cb2, rfl, HS.out.more (by omega)⟩)
        clear HS
        go_wp2
        go_ret
        exact HF.out
      · have y1' : ¬ (y : Int) = 1 := by omega
        have HS := hide (HS4.out.more (P' := p + 960) (by omega))
        clear HS4
        go_upto_region 8 with fail
        generalize w4 = wx at HS ⊢
        clear hz hz'
        have HF := hide (show Ints2 rb A n c (p + 1000) w (.returned (.slice (some ⟨g, 0, none⟩) xs.length cb2)) wx from ⟨xs, _, cb2, rfl, HS.out.more (by omega)⟩)
        clear HS
        go_wp2
        go_ret
        exact HF.out
  · have hz' : ¬ (0 : Int) < (xs.length : Int) := by omega
    have HF := hide (show Ints2 rb A n c (p + 1000) w (.returned (.slice A3 xs.length c3)) w3 from ⟨xs, _, c3, rfl, HS.out.more (by omega)⟩)
    clear HS
    go_wp2
    go_ret
    exact HF.out
end Go.Proofs.Ytmilbhhlbjcodac

namespace Go.Proofs.Ytmilbhhlbjcodac
open Go.RowKit
set_option linter.unusedVariables false
def DrawnI (w : World) (e : Ending) (w' : World) : Prop :=
  ∃ (xs : List Int) (B : Option Addr) (cb : Nat), e = .returned (.slice B xs.length cb) ∧ IntsAt w' w'.heap.size B xs ∧ (B = none → cb = 0) ∧ xs.length ≤ cb ∧ xs.length ≤ 2000 ∧ Below w.heap.size w w'
theorem ByS.drawn {w w0 w' : World} {A B : Option Addr} {rb n c P cb : Nat} {xs : List Int} (h : ByS w0 w' rb A n c P B cb xs) (hb : Below w.heap.size w w0) (hr : w.heap.size ≤ rb) : DrawnI w (.returned (.slice B xs.length cb)) w' :=
  ⟨xs, B, cb, rfl, h.own.ints h.wf (by have := h.few; omega), h.own.nil, h.own.capLen, by have := h.few; omega, h.grew.below hb hr hb.size⟩
set_option maxHeartbeats 1000000 in
theorem drawUnfT_any (A : Option Addr) (n c : Nat) (w : World) (h : BytesAt w w.heap.size A n) (hc : n ≤ c) (hn : n ≤ 9223372036854775807) :
    Calls Try.prog 4 #[.slice A n c] w (DrawnI w) := by
  go_enter Try.func4, Try.ntmps4
  go_wp2_with fail
  refine (newReader_any A n c w h hc hn).mono ?_
  rintro e w1 ⟨rfl, ⟨n', c', hrd⟩, hb1⟩
  clear h
  go_wp2_with fail
  refine (someFramed_any w.heap.size A n' c' 0 w1 hrd (by omega)).mono ?_
  rintro e w2 ⟨xs, B, cb, rfl, hS⟩
  have HF := hide (hS.drawn hb1 (Nat.le_refl _))
  clear hS hrd hb1
  go_wp2
  go_ret
  exact HF.out
end Go.Proofs.Ytmilbhhlbjcodac

namespace Go.Proofs.Ytmilbhhlbjcodac
open Go.RowKit
set_option linter.unusedVariables false
theorem IntsAt.noRow {w : World} {B : Nat} {xs : List Int} (h : IntsAt w B none xs) : xs = [] := by
  cases hxs : xs with
  | nil => rfl
  | cons x t => obtain ⟨b, off, h1, _⟩ := h.row (by rw [hxs]; simp); cases h1
theorem IntsAt.front {w : World} {B : Nat} {A : Option Addr} {xs ps l : List Int} (h : IntsAt w B A xs) (hc : xs = ps ++ l) : IntsAt w B A ps := by
  have h1 := h.upto ps.length
  rw [hc, List.take_left' rfl] at h1
  exact h1
set_option maxRecDepth 100000 in
set_option maxHeartbeats 8000000 in
theorem lawUT_any (A : Option Addr) (n c : Nat) (w : World) (h : BytesAt w w.heap.size A n) (hc : n ≤ c) (hn : n ≤ 9223372036854775807) :
    Calls Try.prog 3 #[.slice A n c] w fun e w' => e = .returned (.bool true) ∧ Below w.heap.size w w' := by
  by_cases hbig : 1048576 < n
  · have d : decide ((1048576 : Int) < (n : Int)) = true := by simp; omega
    go_enter Try.func3, Try.ntmps3
    go_wp2
    go_ret
    exact ⟨rfl, Below.refl _ _⟩
  · have d : decide ((1048576 : Int) < (n : Int)) = false := by simp; omega
    go_enter Try.func3, Try.ntmps3
    go_wp2_with fail
    refine (drawUnfT_any A n c w h hc hn).mono ?_
    rintro e w1 ⟨xs, B, cb, rfl, ho1, hnil, hcap, hfew, hb1⟩
    have HI1 := hide ho1
    have HW1 := hide hb1
    have HN := hide hnil
    have huf := unfrBytes_few xs
    have HU64 := hide (in64_bytes (unfrBytes_byte xs))
    clear h ho1 hb1 hnil
    go_wp2_with fail
    refine (implUnframeTorn_any B xs cb w1 HI1.out HN.out hcap).mono ?_
    rintro e w2 ⟨A2, c2, rfl, ho2, hb2⟩
    have HO2 := hide ho2
    have HW2 := hide (HW1.out.trans (hb2.mono HW1.out.size))
    have HI2 := hide (HI1.out.later hb2 (Nat.le_refl _))
    clear ho2 hb2 HW1 HI1
    go_wp2_with fail
    refine (specUnframeTorn_any B xs cb w2 HI2.out hcap).mono ?_
    rintro e w3 ⟨A3, c3, rfl, ho3, hb3⟩
    have HP3 := hide ((HO2.out.below hb3).ints HU64.out (by omega))
    have HQ3 := hide (ho3.ints HU64.out (by omega))
    have HN2 := hide HO2.out.nil
    have hcap2 := HO2.out.capLen
    have HW3 := hide (HW2.out.trans (hb3.mono HW2.out.size))
    have HI3 := hide (HI2.out.later hb3 (Nat.le_refl _))
    clear ho3 hb3 HO2 HW2 HI2
    by_cases hby : BytesOk 2000 xs
    · obtain ⟨m, hts⟩ : ∃ m : Nat, unfrSize xs = (m : Int) := ⟨_, unfrSize_ok hby⟩
      have hwh := unf_whole hby hts
      have hml := hwh.1
      have HV := hide (tf_true hwh.2.1)
      have HWA := hide hwh.2.2
      have HTK := hide (fun k hk => unf_take hby k hk)
      have hl2000 := hby.1
      rw [hts]
      have hm0 : ¬ (m : Int) < 0 := by omega
      clear hby hts hwh
      generalize unfrBytes xs = ys at HU64 huf HP3 HQ3 hcap2 HWA HTK ⊢
      go_wp2_with fail
      refine (equalInts_any A2 A3 ys ys c2 c3 w3 HP3.out HQ3.out).mono ?_
      rintro e w4 ⟨rfl, hb4⟩
      have HW4 := hide (HW3.out.trans (hb4.mono HW3.out.size))
      have HP4 := hide (HP3.out.later hb4 (Nat.le_refl _))
      have HI4 := hide (HI3.out.later hb4 (Nat.le_refl _))
      rw [decide_eq_true (rfl : ys = ys)]
      clear hb4 HP3 HQ3 HW3 HI3
      cases B with
      | none =>
        have hx0 : xs = [] := HI4.out.noRow
        have hc0 : cb = 0 := HN.out rfl
        have hmz : m = 0 := by rw [hx0] at hml; simpa using hml
        subst hx0 hc0 hmz
        have hy0' : Hid (∃ l, ys = unfrBytes ([] : List Int) ++ l) := (HTK.out 0 (Nat.le_refl _)).1
        have hyn : ys = [] := by
          have := HWA.out
          rw [← this]
          unfold unfAll
          split <;> rfl
        have Hyn := hide hyn
        clear hyn
        clear HTK hy0' hml hl2000 hfew hcap HN
        have HUB := hide (show Calls Try.prog 8 #[.slice none 0 0] w4 (fun e w' => ∃ A c z, z = ys.length ∧ e = .returned (.tuple #[.slice A z c, .bool true]) ∧ OwnI w' w4.heap.size A c ys ∧ Below w4.heap.size w4 w') from by
          have h1 := implUnframeBytes_any none [] 0 w4 HI4.out (fun _ => rfl) (by simp)
          have hv : tf (UnfOk ([] : List Int)) = true := HV.out
          have ha : unfAll ([] : List Int) = ys := HWA.out
          rw [hv, ha] at h1
          refine h1.mono ?_
          rintro e w' ⟨A, c, rfl, ho, hb⟩
          exact ⟨A, c, _, rfl, rfl, ho, hb⟩)
        have HUT := hide (fun X : World => fun h : IntsAt X X.heap.size none [] => (show Calls Try.prog 5 #[.slice none 0 0] X (fun e w' => ∃ A c, e = .returned (.tuple #[.slice A 0 c, .int .i64 0]) ∧ OwnI w' X.heap.size A c [] ∧ Below X.heap.size X w') from by
          have h1 := implUnframeTorn_any none [] 0 X h (fun _ => rfl) (by simp)
          have e1 : unfrBytes ([] : List Int) = [] := by unfold unfrBytes; split <;> rfl
          have e2 : unfrSize ([] : List Int) = 0 := by
            rw [unfrSize_ok ⟨by simp, by simp⟩]
            rfl
          rw [e1, e2] at h1
          exact h1))
        clear HV HWA
        cases A2 with
        | none =>
          have hy0 : ys = [] := HP4.out.noRow
          have hc0 : c2 = 0 := HN2.out rfl
          subst hy0 hc0
          clear hcap2 huf
          go_wp2_with fail
          refine HUB.out.mono ?_
          rintro e w5 ⟨A8, c8, z8, hz8, rfl, ho8, hb8⟩
          subst hz8
          have HW5 := hide (HW4.out.trans (hb8.mono HW4.out.size))
          have HP5 := hide (HP4.out.later hb8 (Nat.le_refl _))
          have HI5 := hide (HI4.out.later hb8 (Nat.le_refl _))
          have HG5 := hide (ho8.ints HU64.out (by first | omega | simp))
          clear ho8 hb8 HW4 HP4 HI4 HUB
          go_wp2_with fail
          go_loopw [10, 11, 12] (fun i _ _ wr => (i = .int .i64 0 ∨ i = .int .i64 1) ∧ Below w.heap.size w wr ∧ IntsAt wr wr.heap.size none [] ∧ IntsAt wr wr.heap.size none ([] : List Int) ∧ IntsAt wr wr.heap.size A8 ([] : List Int)) (fun i _ _ _ => 2 - (intOf i).toNat)
          case atStart => exact ⟨.inl rfl, HW5.out, HI5.out, HP5.out, HG5.out⟩
          case round =>
            obtain ⟨hk, hb, hi, hp, hg⟩ := hrel
            clear HI5 HP5 HG5 HW5
            have HB := hide hb
            have HP := hide hp
            have HG := hide hg
            have HI := hide hi
            clear hb hp hg hi
            rcases hk with rfl | rfl
            · obtain ⟨ps, hps⟩ : ∃ ps : List Int, ps = [] := ⟨_, rfl⟩
              have HL : Hid (([] : List Int) = ps ++ []) := by first | (rw [Hyn.out, hps]; rfl) | (rw [hps]; rfl)
              have hple : ps.length ≤ ([] : List Int).length := by rw [hps]; simp
              have H64p : Hid (∀ x ∈ ps, In64 x) := fun x hx => absurd hx (by rw [hps]; simp)
              have hp0 : ps = [] := (List.append_eq_nil_iff.1 HL.out.symm).1
              subst hp0
              have hC := HUT.out wr HI.out
              rw [show (fun (e : Ending) (w' : World) => ∃ A c, e = .returned (.tuple #[.slice A 0 c, .int .i64 0]) ∧ OwnI w' wr.heap.size A c [] ∧ Below wr.heap.size wr w') = (fun (e : Ending) (w' : World) => ∃ A c, e = .returned (.tuple #[.slice A ([] : List Int).length c, .int .i64 0]) ∧ OwnI w' wr.heap.size A c ([] : List Int) ∧ Below wr.heap.size wr w') by first | rfl | (rw [hps]; rfl)] at hC
              have HC := hide hC
              clear hC
              try clear hps
              go_wp2_with fail
              refine HC.out.mono ?_
              clear HC
              rintro e w5 ⟨A5, c5, rfl, ho5, hb5⟩
              have HB5 := hide (HB.out.trans (hb5.mono HB.out.size))
              have HP5 := hide (HP.out.later hb5 (Nat.le_refl _))
              have HI5 := hide (HI.out.later hb5 (Nat.le_refl _))
              have HG5 := hide (HG.out.later hb5 (Nat.le_refl _))
              have HO5 := hide (ho5.ints H64p.out (by first | omega | simp))
              have HQ5 := hide (HP5.out.front HL.out)
              clear ho5 hb5 HB HP HI HG
              go_wp2_with fail
              refine (equalInts_any none A5 ([] : List Int) [] 0 c5 w5 HQ5.out HO5.out).mono ?_
              rintro e w6 ⟨rfl, hb6⟩
              have HB6 := hide (HB5.out.trans (hb6.mono HB5.out.size))
              have HP6 := hide (HP5.out.later hb6 (Nat.le_refl _))
              have HI6 := hide (HI5.out.later hb6 (Nat.le_refl _))
              have HG6 := hide (HG5.out.later hb6 (Nat.le_refl _))
              rw [decide_eq_true (rfl : ([] : List Int) = ([] : List Int))]
              clear hb6 HO5 HQ5
              go_wp2
              go_roundw
              case rel => exact ⟨.inr (by simp), HB6.out, HI6.out, HP6.out, HG6.out⟩
              case measure => simp [intOf]
            · skip
              go_wp2_with fail
              refine (equalInts_any A8 none ([] : List Int) ([] : List Int) c8 0 wr HG.out HP.out).mono ?_
              rintro e w6 ⟨rfl, hb6⟩
              have HB6 := hide (HB.out.trans (hb6.mono HB.out.size))
              rw [decide_eq_true (rfl : ([] : List Int) = ([] : List Int))]
              clear hb6 HG HP HI HB
              go_wp2
              go_ret
              exact ⟨by simp, HB6.out⟩
        | some a2 =>
          go_wp2_with fail
          refine HUB.out.mono ?_
          rintro e w5 ⟨A8, c8, z8, hz8, rfl, ho8, hb8⟩
          subst hz8
          have HW5 := hide (HW4.out.trans (hb8.mono HW4.out.size))
          have HP5 := hide (HP4.out.later hb8 (Nat.le_refl _))
          have HI5 := hide (HI4.out.later hb8 (Nat.le_refl _))
          have HG5 := hide (ho8.ints HU64.out (by first | omega | simp))
          clear ho8 hb8 HW4 HP4 HI4 HUB
          go_wp2_with fail
          go_loopw [10, 11, 12] (fun i _ _ wr => (i = .int .i64 0 ∨ i = .int .i64 1) ∧ Below w.heap.size w wr ∧ IntsAt wr wr.heap.size none [] ∧ IntsAt wr wr.heap.size (some a2) ys ∧ IntsAt wr wr.heap.size A8 ys) (fun i _ _ _ => 2 - (intOf i).toNat)
          case atStart => exact ⟨.inl rfl, HW5.out, HI5.out, HP5.out, HG5.out⟩
          case round =>
            obtain ⟨hk, hb, hi, hp, hg⟩ := hrel
            clear HI5 HP5 HG5 HW5
            have HB := hide hb
            have HP := hide hp
            have HG := hide hg
            have HI := hide hi
            clear hb hp hg hi
            rcases hk with rfl | rfl
            · obtain ⟨ps, hps⟩ : ∃ ps : List Int, ps = [] := ⟨_, rfl⟩
              have HL : Hid (ys = ps ++ []) := by first | (rw [Hyn.out, hps]; rfl) | (rw [hps]; rfl)
              have hple : ps.length ≤ ys.length := by rw [hps]; simp
              have H64p : Hid (∀ x ∈ ps, In64 x) := fun x hx => absurd hx (by rw [hps]; simp)
              have dA : decide ((ys.length : Int) < (ps.length : Int)) = false := by simp; omega
              have hC := HUT.out wr HI.out
              rw [show (fun (e : Ending) (w' : World) => ∃ A c, e = .returned (.tuple #[.slice A 0 c, .int .i64 0]) ∧ OwnI w' wr.heap.size A c [] ∧ Below wr.heap.size wr w') = (fun (e : Ending) (w' : World) => ∃ A c, e = .returned (.tuple #[.slice A ps.length c, .int .i64 0]) ∧ OwnI w' wr.heap.size A c ps ∧ Below wr.heap.size wr w') by first | rfl | (rw [hps]; rfl)] at hC
              have HC := hide hC
              clear hC
              try clear hps
              go_wp2_with fail
              refine HC.out.mono ?_
              clear HC
              rintro e w5 ⟨A5, c5, rfl, ho5, hb5⟩
              have HB5 := hide (HB.out.trans (hb5.mono HB.out.size))
              have HP5 := hide (HP.out.later hb5 (Nat.le_refl _))
              have HI5 := hide (HI.out.later hb5 (Nat.le_refl _))
              have HG5 := hide (HG.out.later hb5 (Nat.le_refl _))
              have HO5 := hide (ho5.ints H64p.out (by first | omega | simp))
              have HQ5 := hide (HP5.out.front HL.out)
              clear ho5 hb5 HB HP HI HG
              have hs0 : (0 : Int) ≤ (ps.length : Int) := by omega
              have hs1 : (ps.length : Int) ≤ (c2 : Int) := by omega
              have hs2 : (ps.length : Int) ≤ (ys.length : Int) := by omega
              go_wp2_with fail
              refine (equalInts_any (some a2) A5 ps ps c2 c5 w5 HQ5.out HO5.out).mono ?_
              rintro e w6 ⟨rfl, hb6⟩
              have HB6 := hide (HB5.out.trans (hb6.mono HB5.out.size))
              have HP6 := hide (HP5.out.later hb6 (Nat.le_refl _))
              have HI6 := hide (HI5.out.later hb6 (Nat.le_refl _))
              have HG6 := hide (HG5.out.later hb6 (Nat.le_refl _))
              rw [decide_eq_true (rfl : ps = ps)]
              clear hb6 HO5 HQ5
              go_wp2
              go_roundw
              case rel => exact ⟨.inr (by simp), HB6.out, HI6.out, HP6.out, HG6.out⟩
              case measure => simp [intOf]
            · skip
              go_wp2_with fail
              refine (equalInts_any A8 (some a2) ys ys c8 c2 wr HG.out HP.out).mono ?_
              rintro e w6 ⟨rfl, hb6⟩
              have HB6 := hide (HB.out.trans (hb6.mono HB.out.size))
              rw [decide_eq_true (rfl : ys = ys)]
              clear hb6 HG HP HI HB
              go_wp2
              go_ret
              exact ⟨by simp, HB6.out⟩
      | some ad =>
        obtain ⟨q, hq⟩ : ∃ q, q = xs.length / 20 := ⟨_, rfl⟩
        have hdiv : ((xs.length : Int) / 20) = (q : Int) := by omega
        have hqb : q ≤ 100 := by omega
        have hm1 : (0 : Int) ≤ (m : Int) := by omega
        have hm2 : (m : Int) ≤ (cb : Int) := by omega
        have hm3 : (m : Int) ≤ (xs.length : Int) := by omega
        clear hq
        have HUB := hide (show Calls Try.prog 8 #[.slice (some ad) m cb] w4 (fun e w' => ∃ A c z, z = ys.length ∧ e = .returned (.tuple #[.slice A z c, .bool true]) ∧ OwnI w' w4.heap.size A c ys ∧ Below w4.heap.size w4 w') from by
          have h1 := implUnframeBytes_any (some ad) (xs.take m) cb w4 (HI4.out.upto m) (by simp) (by rw [List.length_take]; omega)
          rw [HV.out, HWA.out, show (xs.take m).length = m by simp; omega] at h1
          refine h1.mono ?_
          rintro e w' ⟨A, c, rfl, ho, hb⟩
          exact ⟨A, c, _, rfl, rfl, ho, hb⟩)
        clear HV HWA
        cases A2 with
        | none =>
          have hy0 : ys = [] := HP4.out.noRow
          have hc0 : c2 = 0 := HN2.out rfl
          subst hy0 hc0
          clear hcap2 huf
          go_wp2_with fail
          refine HUB.out.mono ?_
          rintro e w5 ⟨A8, c8, z8, hz8, rfl, ho8, hb8⟩
          subst hz8
          have HW5 := hide (HW4.out.trans (hb8.mono HW4.out.size))
          have HP5 := hide (HP4.out.later hb8 (Nat.le_refl _))
          have HI5 := hide (HI4.out.later hb8 (Nat.le_refl _))
          have HG5 := hide (ho8.ints HU64.out (by first | omega | simp))
          clear ho8 hb8 HW4 HP4 HI4 HUB
          go_wp2_with fail
          go_loopw [10, 11, 12] (fun i _ _ wr => ∃ k : Nat, k ≤ 3000 ∧ i = .int .i64 k ∧ Below w.heap.size w wr ∧ IntsAt wr wr.heap.size (some ad) xs ∧ IntsAt wr wr.heap.size none ([] : List Int) ∧ IntsAt wr wr.heap.size A8 ([] : List Int)) (fun i _ _ _ => 4000 - (intOf i).toNat)
          case atStart => exact ⟨0, by omega, rfl, HW5.out, HI5.out, HP5.out, HG5.out⟩
          case round =>
            obtain ⟨k, hk, rfl, hb, hi, hp, hg⟩ := hrel
            clear HI5 HP5 HG5 HW5
            have HB := hide hb
            have HP := hide hp
            have HG := hide hg
            have HI := hide hi
            clear hb hp hg hi
            by_cases hlt : k ≤ xs.length
            · have hk0 : (0 : Int) ≤ (k : Int) := by omega
              have hk1 : (k : Int) ≤ (cb : Int) := by omega
              have hk2 : (k : Int) ≤ (xs.length : Int) := by omega
              obtain ⟨⟨l, hl⟩, h2, h3⟩ := HTK.out k hlt
              have HL := hide hl
              have hlk : (xs.take k).length = k := by simp; omega
              have hC := implUnframeTorn_any (some ad) (xs.take k) cb wr (HI.out.upto k) (by simp) (by omega)
              rw [hlk] at hC
              have HC := hide hC
              have hple : (unfrBytes (xs.take k)).length ≤ ([] : List Int).length := by rw [hl, List.length_append]; omega
              clear hl hlk hC h3
              generalize unfrSize (xs.take k) = sz at h2 HC
              generalize unfrBytes (xs.take k) = ps at HL HC hple
              have H64p : Hid (∀ x ∈ ps, In64 x) := fun x hx => HU64.out x (by rw [HL.out]; exact List.mem_append_left _ hx)
              have d1 : decide ((k : Int) < sz) = false := by simp; omega
              have d1' : ¬ (k : Int) < sz := by omega
              have hp0 : ps = [] := (List.append_eq_nil_iff.1 HL.out.symm).1
              subst hp0
              go_wp2_with fail
              refine HC.out.mono ?_
              clear HC
              rintro e w5 ⟨A5, c5, rfl, ho5, hb5⟩
              have HB5 := hide (HB.out.trans (hb5.mono HB.out.size))
              have HP5 := hide (HP.out.later hb5 (Nat.le_refl _))
              have HI5 := hide (HI.out.later hb5 (Nat.le_refl _))
              have HG5 := hide (HG.out.later hb5 (Nat.le_refl _))
              have HO5 := hide (ho5.ints H64p.out (by first | omega | simp))
              have HQ5 := hide (HP5.out.front HL.out)
              clear ho5 hb5 HB HP HI HG
              go_wp2_with fail
              refine (equalInts_any none A5 ([] : List Int) [] 0 c5 w5 HQ5.out HO5.out).mono ?_
              rintro e w6 ⟨rfl, hb6⟩
              have HB6 := hide (HB5.out.trans (hb6.mono HB5.out.size))
              have HP6 := hide (HP5.out.later hb6 (Nat.le_refl _))
              have HI6 := hide (HI5.out.later hb6 (Nat.le_refl _))
              have HG6 := hide (HG5.out.later hb6 (Nat.le_refl _))
              rw [decide_eq_true (rfl : ([] : List Int) = ([] : List Int))]
              clear hb6 HO5 HQ5
              go_wp2
              go_roundw
              case rel => exact ⟨k + 1 + q, by omega, by go_num, HB6.out, HI6.out, HP6.out, HG6.out⟩
              case measure => simp [intOf]; omega
            · have hle : ¬ (k : Int) ≤ (xs.length : Int) := by omega
              go_wp2_with fail
              refine (equalInts_any A8 none ([] : List Int) ([] : List Int) c8 0 wr HG.out HP.out).mono ?_
              rintro e w6 ⟨rfl, hb6⟩
              have HB6 := hide (HB.out.trans (hb6.mono HB.out.size))
              rw [decide_eq_true (rfl : ([] : List Int) = ([] : List Int))]
              clear hb6 HG HP HI HB
              go_wp2
              go_ret
              exact ⟨by simp, HB6.out⟩
        | some a2 =>
          go_wp2_with fail
          refine HUB.out.mono ?_
          rintro e w5 ⟨A8, c8, z8, hz8, rfl, ho8, hb8⟩
          subst hz8
          have HW5 := hide (HW4.out.trans (hb8.mono HW4.out.size))
          have HP5 := hide (HP4.out.later hb8 (Nat.le_refl _))
          have HI5 := hide (HI4.out.later hb8 (Nat.le_refl _))
          have HG5 := hide (ho8.ints HU64.out (by first | omega | simp))
          clear ho8 hb8 HW4 HP4 HI4 HUB
          go_wp2_with fail
          go_loopw [10, 11, 12] (fun i _ _ wr => ∃ k : Nat, k ≤ 3000 ∧ i = .int .i64 k ∧ Below w.heap.size w wr ∧ IntsAt wr wr.heap.size (some ad) xs ∧ IntsAt wr wr.heap.size (some a2) ys ∧ IntsAt wr wr.heap.size A8 ys) (fun i _ _ _ => 4000 - (intOf i).toNat)
          case atStart => exact ⟨0, by omega, rfl, HW5.out, HI5.out, HP5.out, HG5.out⟩
          case round =>
            obtain ⟨k, hk, rfl, hb, hi, hp, hg⟩ := hrel
            clear HI5 HP5 HG5 HW5
            have HB := hide hb
            have HP := hide hp
            have HG := hide hg
            have HI := hide hi
            clear hb hp hg hi
            by_cases hlt : k ≤ xs.length
            · have hk0 : (0 : Int) ≤ (k : Int) := by omega
              have hk1 : (k : Int) ≤ (cb : Int) := by omega
              have hk2 : (k : Int) ≤ (xs.length : Int) := by omega
              obtain ⟨⟨l, hl⟩, h2, h3⟩ := HTK.out k hlt
              have HL := hide hl
              have hlk : (xs.take k).length = k := by simp; omega
              have hC := implUnframeTorn_any (some ad) (xs.take k) cb wr (HI.out.upto k) (by simp) (by omega)
              rw [hlk] at hC
              have HC := hide hC
              have hple : (unfrBytes (xs.take k)).length ≤ ys.length := by rw [hl, List.length_append]; omega
              clear hl hlk hC h3
              generalize unfrSize (xs.take k) = sz at h2 HC
              generalize unfrBytes (xs.take k) = ps at HL HC hple
              have H64p : Hid (∀ x ∈ ps, In64 x) := fun x hx => HU64.out x (by rw [HL.out]; exact List.mem_append_left _ hx)
              have d1 : decide ((k : Int) < sz) = false := by simp; omega
              have d1' : ¬ (k : Int) < sz := by omega
              have dA : decide ((ys.length : Int) < (ps.length : Int)) = false := by simp; omega
              go_wp2_with fail
              refine HC.out.mono ?_
              clear HC
              rintro e w5 ⟨A5, c5, rfl, ho5, hb5⟩
              have HB5 := hide (HB.out.trans (hb5.mono HB.out.size))
              have HP5 := hide (HP.out.later hb5 (Nat.le_refl _))
              have HI5 := hide (HI.out.later hb5 (Nat.le_refl _))
              have HG5 := hide (HG.out.later hb5 (Nat.le_refl _))
              have HO5 := hide (ho5.ints H64p.out (by first | omega | simp))
              have HQ5 := hide (HP5.out.front HL.out)
              clear ho5 hb5 HB HP HI HG
              have hs0 : (0 : Int) ≤ (ps.length : Int) := by omega
              have hs1 : (ps.length : Int) ≤ (c2 : Int) := by omega
              have hs2 : (ps.length : Int) ≤ (ys.length : Int) := by omega
              go_wp2_with fail
              refine (equalInts_any (some a2) A5 ps ps c2 c5 w5 HQ5.out HO5.out).mono ?_
              rintro e w6 ⟨rfl, hb6⟩
              have HB6 := hide (HB5.out.trans (hb6.mono HB5.out.size))
              have HP6 := hide (HP5.out.later hb6 (Nat.le_refl _))
              have HI6 := hide (HI5.out.later hb6 (Nat.le_refl _))
              have HG6 := hide (HG5.out.later hb6 (Nat.le_refl _))
              rw [decide_eq_true (rfl : ps = ps)]
              clear hb6 HO5 HQ5
              go_wp2
              go_roundw
              case rel => exact ⟨k + 1 + q, by omega, by go_num, HB6.out, HI6.out, HP6.out, HG6.out⟩
              case measure => simp [intOf]; omega
            · have hle : ¬ (k : Int) ≤ (xs.length : Int) := by omega
              go_wp2_with fail
              refine (equalInts_any A8 (some a2) ys ys c8 c2 wr HG.out HP.out).mono ?_
              rintro e w6 ⟨rfl, hb6⟩
              have HB6 := hide (HB.out.trans (hb6.mono HB.out.size))
              rw [decide_eq_true (rfl : ys = ys)]
              clear hb6 HG HP HI HB
              go_wp2
              go_ret
              exact ⟨by simp, HB6.out⟩
    · have hts := unfrSize_no hby
      rw [hts]
      clear hby hts
      go_wp2_with fail
      refine (equalInts_any A2 A3 (unfrBytes xs) (unfrBytes xs) c2 c3 w3 HP3.out HQ3.out).mono ?_
      rintro e w4 ⟨rfl, hb4⟩
      have HW4 := hide (HW3.out.trans (hb4.mono HW3.out.size))
      have HP4 := hide (HP3.out.later hb4 (Nat.le_refl _))
      have HQ4 := hide (HQ3.out.later hb4 (Nat.le_refl _))
      rw [decide_eq_true (rfl : unfrBytes xs = unfrBytes xs)]
      clear hb4 HP3 HQ3 HW3 HI3
      go_wp2_with fail
      refine (equalInts_any A2 A3 (unfrBytes xs) (unfrBytes xs) c2 c3 w4 HP4.out HQ4.out).mono ?_
      rintro e w5 ⟨rfl, hb5⟩
      have HW5 := hide (HW4.out.trans (hb5.mono HW4.out.size))
      rw [decide_eq_true (rfl : unfrBytes xs = unfrBytes xs)]
      clear hb5 HP4 HQ4 HW4
      go_wp2
      go_ret
      exact ⟨by simp, HW5.out⟩
end Go.Proofs.Ytmilbhhlbjcodac
