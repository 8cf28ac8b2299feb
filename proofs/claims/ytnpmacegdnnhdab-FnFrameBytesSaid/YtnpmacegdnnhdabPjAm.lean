/-
  Lemmas, several texts in one: SoB, DrawFB, LawFB.
-/
import Derived.Test.YtnpmacegdnnhdabSoO
import Derived.Test.YtnpmacegdnnhdabPjAl
import Derived.Test.YtnpmacegdnnhdabPjAi
import Derived.Deep.Cut
import Derived.Test.YtnpmacegdnnhdabPjAh
import Derived.Test.YtnpmacegdnnhdabPjAf
namespace Go.Proofs.Ytnpmacegdnnhdab
open Go.RowKit
set_option linter.unusedVariables false
set_option maxRecDepth 100000 in
set_option maxHeartbeats 16000000 in
theorem someBytes_any (rb : Nat) (A : Option Addr) (n c p : Nat) (w : World) (h : Rd w rb A n c p) (hp : p < 500000) :
    Calls Try.prog 10 #[.pointer (some ⟨rb, 0, none⟩)] w (Ints2 rb A n c (p + 900) w) := by
  have hlt := h.box.lt
  go_enter Try.func10, Try.ntmps10
  go_wp2_with fail
  refine (someOps_any rb A n c p w h (by omega)).mono ?_
  rintro e wx ⟨os, B, cb, rfl, hS⟩
  have hb0 : Below wx.heap.size wx (wx.alloc (.cells #[] 3)) := (Below.refl _ _).alloc (Nat.le_refl _) _
  have hS1 := hS.later hb0
  have hO1 : OpsAt (wx.alloc (.cells #[] 3)) (wx.alloc (.cells #[] 3)).heap.size B os := hS1.own.ops hS1.wf (by have := hS1.few; omega)
  have hE1 : OwnI (wx.alloc (.cells #[] 3)) w.heap.size (some ⟨wx.heap.size, 0, none⟩) 0 [] := (OwnI.bare wx).mono hS.grew.size
  clear h hb0 hS
  go_upto_region 3 with fail
  generalize wx.alloc (.cells #[] 3) = W at hS1 hO1 hE1 ⊢
  generalize wx.heap.size = g0 at hE1 ⊢
  have HS1 := hide hS1
  have HO1 := hide hO1
  have HE1 := hide hE1
  clear hS1 hO1 hE1
  go_wp2_with fail
  refine (specValidOps_any B os cb W HO1.out).mono ?_
  rintro e w2 ⟨rfl, hb2⟩
  have HG2 := hide (HS1.out.later hb2)
  have HO2 := hide (HO1.out.later hb2 (Nat.le_refl _))
  have HE2 := hide (HE1.out.below hb2)
  clear hb2 HS1 HO1 HE1
  by_cases hok : OpsOk os
  · have HK := hide (tf_true hok)
    clear hok
    rw [HK.out]
    go_wp2_with fail
    refine (specEncodeOps_any B os cb w2 HO2.out).mono ?_
    rintro e w3 ⟨A3, c3, rfl, ho3, hb3⟩
    have HG3 := hide (HG2.out.later hb3)
    have hsz := HG2.out.grew.size
    have HS := hide (show ByS w w3 rb A n c (p + 800) A3 c3 (encodeOf os) from ⟨HG3.out.grew, HG3.out.rd, ho3.mono hsz, encodeOf_64, by have := @encodeOf_few os; omega, hlt⟩)
    clear ho3 hb3 HG2 HO2 HE2 HG3 hsz
    generalize encodeOf os = xs at HS ⊢
    have hfew := HS.out.few
    by_cases hz : 0 < xs.length
    · have hz' : (0 : Int) < (xs.length : Int) := by omega
      obtain ⟨g, rfl, hgb, hgl⟩ := HS.out.row hz
      clear hgb hgl
      obtain ⟨cb2, rfl⟩ : ∃ q, q = c3 := ⟨_, rfl⟩
      obtain ⟨px, hpx, hrx⟩ := HS.out.rd
      go_wp2_with fail
      refine (pick_any rb A n c px 4 w3 hrx (by omega) (by omega)).mono ?_
      rintro e w4 ⟨⟨y, rfl, hy, _⟩, hr4, ht4⟩
      have HS4 := hide (HS.out.turned (P' := p + 810) (Grew.of_turn ht4) hr4 (by omega))
      clear HS hrx ht4 hr4 hy
      by_cases y0 : y = 0
      · subst y0
        obtain ⟨px, hpx, hrx⟩ := HS4.out.rd
        go_wp2_with fail
        refine (pick_any rb A n c px (xs.length : Int) w4 hrx (by omega) (by omega)).mono ?_
        rintro e w5 ⟨⟨k, rfl, hk, _⟩, hr5, ht5⟩
        have hkl : k < xs.length := by have := hk (by omega); omega
        have HS5 := hide (HS4.out.turned (P' := p + 820) (Grew.of_turn ht5) hr5 (by omega))
        clear HS4 hrx ht5 hr5 hk
        obtain ⟨px, hpx, hrx⟩ := HS5.out.rd
        go_wp2_with fail
        refine (pick_any rb A n c px 256 w5 hrx (by omega) (by omega)).mono ?_
        rintro e w6 ⟨⟨v, rfl, hv, _⟩, hr6, ht6⟩
        have hv256 : v < 256 := by have := hv (by omega); omega
        have HS6 := hide (HS5.out.turned (P' := p + 830) (Grew.of_turn ht6) hr6 (by omega))
        clear HS5 hrx ht6 hr6 hv
        have hbA := (Below.refl w6.heap.size w6).alloc (Nat.le_refl _) (.cells #[.int .i64 (v : Int), .int .i64 128, .int .i64 20, .int .i64 255] 3)
        have HA := hide (HS6.out.later hbA)
        have lA := Lies.new w6 #[.int .i64 (v : Int), .int .i64 128, .int .i64 20, .int .i64 255] 3
        obtain ⟨pa, hpa, hra⟩ := HA.out.rd
        have hne : w6.heap.size ≠ rb := by have := HA.out.nr; have := HS6.out.grew.size; omega
        clear HS6 hbA
        go_wp2_with fail
        refine (one_any rb A n c pa w6.heap.size 4 4 [(v : Int), 128, 20, 255] _ hra (by omega) rfl (by omega) (by omega) hne (fun k z hz => by
            have := lA.cell k
            rw [this]
            match k, hz with
            | 0, hz => simpa using hz
            | 1, hz => simpa using hz
            | 2, hz => simpa using hz
            | 3, hz => simpa using hz
            | k + 4, hz => simp at hz)).mono ?_
        rintro e w7 ⟨⟨x, hx, rfl⟩, hr7, ht7⟩
        have hx64 : In64 x := by
          simp at hx
          rcases hx with rfl | rfl | rfl | rfl <;> constructor <;> omega
        have HS7 := hide (HA.out.turned (P' := p + 840) (Grew.of_turn ht7) hr7 (by omega))
        obtain ⟨v0, c0, f0⟩ := HS7.out.cell hkl
        have HS8 := hide (HS7.out.set (j := k) hx64)
        have hkI : (k : Int) < (xs.length : Int) := by omega
        have hk0 : (0 : Int) ≤ (k : Int) := by omega
        have hlset : (xs.set k x).length = xs.length := List.length_set
        clear hra lA HA hx hx64 hr7 ht7 HS7
        go_upto_region 11 with fail
        clear c0 f0
        generalize w7.setCell ⟨g, k, none⟩ (.int .i64 x) = wx at HS8 ⊢
        generalize xs.set k x = xs6 at HS8 hlset
        clear hkI hkl hz hz' hk0 hv256
        rw [← hlset]
        clear hlset
        obtain ⟨xs, rfl⟩ : ∃ xs, xs = xs6 := ⟨_, rfl⟩
        have HS := hide (HS8.out.more (P' := p + 850) (by omega))
        clear HS8
        obtain ⟨px, hpx, hrx⟩ := HS.out.rd
        have hfew := HS.out.few
        have hcap := HS.out.own.capLen
        go_wp2_with fail
        refine (pick_any rb A n c px 30 wx hrx (by omega) (by omega)).mono ?_
        rintro e w7 ⟨⟨z, rfl, hz, _⟩, hr7, ht7⟩
        have HS7 := hide (HS.out.turned (P' := p + 860) (Grew.of_turn ht7) hr7 (by omega))
        clear HS hrx ht7 hr7 hz
        by_cases z0 : z = 0
        · subst z0
          by_cases hl : 0 < xs.length
          · have hl' : (0 : Int) < (xs.length : Int) := by omega
            have hl0 : ¬ (xs.length : Int) ≤ 0 := by omega
            have hbA := (Below.refl w7.heap.size w7).alloc (Nat.le_refl _) (.cells #[.int .i64 (-1), .int .i64 256] 3)
            have HA := hide (HS7.out.later hbA)
            have lA := Lies.new w7 #[.int .i64 (-1), .int .i64 256] 3
            obtain ⟨pa, hpa, hra⟩ := HA.out.rd
            have hne : w7.heap.size ≠ rb := by have := HA.out.nr; have := HS7.out.grew.size; omega
            clear HS7 hbA
            go_wp2_with fail
            refine (one_any rb A n c pa w7.heap.size 2 2 [-1, 256] _ hra (by omega) rfl (by omega) (by omega) hne (fun k z hz => by
              have := lA.cell k
              rw [this]
              match k, hz with
              | 0, hz => simpa using hz
              | 1, hz => simpa using hz
              | k + 2, hz => simp at hz)).mono ?_
            rintro e w8 ⟨⟨x, hx, rfl⟩, hr8, ht8⟩
            have hx64 : In64 x := by
              simp at hx
              rcases hx with rfl | rfl <;> constructor <;> omega
            have HS8 := hide (HA.out.turned (P' := p + 870) (Grew.of_turn ht8) hr8 (by omega))
            obtain ⟨v0, c0, f0⟩ := HS8.out.cell hl
            have HF := hide (show Ints2 rb A n c (p + 900) w (.returned (.slice (some ⟨g, 0, none⟩) xs.length cb2)) (w8.setCell ⟨g, 0, none⟩ (.int .i64 x)) from ⟨xs.set 0 x, _, cb2, by rw [List.length_set], (HS8.out.set hx64).more (by omega)⟩)
            clear hra lA HA hx hx64 hr8 ht8 HS8
            go_wp2
            go_ret
            exact HF.out
          · have hl' : ¬ (0 : Int) < (xs.length : Int) := by omega
            have HF := hide (show Ints2 rb A n c (p + 900) w (.returned (.slice (some ⟨g, 0, none⟩) xs.length cb2)) w7 from ⟨xs, _, cb2, rfl, HS7.out.more (by omega)⟩)
            clear HS7
            go_wp2
            go_ret
            exact HF.out
        · have z0' : ¬ (z : Int) = 0 := by omega
          have HF := hide (show Ints2 rb A n c (p + 900) w (.returned (.slice (some ⟨g, 0, none⟩) xs.length cb2)) w7 from ⟨xs, _, cb2, rfl, HS7.out.more (by omega)⟩)
          clear HS7
          go_wp2
          go_ret
          exact HF.out
      · have y0' : ¬ (y : Int) = 0 := by omega
        by_cases y1 : y = 1
        · subst y1
          obtain ⟨px, hpx, hrx⟩ := HS4.out.rd
          have hfew := HS4.out.few
          have hcap := HS4.out.own.capLen
          go_wp2_with fail
          refine (pick_any rb A n c px (xs.length : Int) w4 hrx (by omega) (by omega)).mono ?_
          rintro e wx ⟨⟨k, rfl, hk, _⟩, hr5, ht5⟩
          have hkl : k ≤ xs.length := by have := hk (by omega); omega
          have hlk : (xs.take k).length = k := by simp; omega
          have HS5 := hide ((HS4.out.turned (P' := p + 820) (Grew.of_turn ht5) hr5 (by omega)).cut hkl)
          have hk1 : (0 : Int) ≤ (k : Int) := by omega
          have hk2 : (k : Int) ≤ (cb2 : Int) := by omega
          clear HS4 hrx ht5 hr5 hk
          go_upto_region 11 with fail
          generalize xs.take k = ys at HS5 hlk
          subst hlk
          clear hk1 hk2 hkl hfew hcap hz hz'
          obtain ⟨xs, rfl⟩ : ∃ xs, xs = ys := ⟨_, rfl⟩
          have HS := hide (HS5.out.more (P' := p + 850) (by omega))
          clear HS5
          obtain ⟨px, hpx, hrx⟩ := HS.out.rd
          have hfew := HS.out.few
          have hcap := HS.out.own.capLen
          go_wp2_with fail
          refine (pick_any rb A n c px 30 wx hrx (by omega) (by omega)).mono ?_
          rintro e w7 ⟨⟨z, rfl, hz, _⟩, hr7, ht7⟩
          have HS7 := hide (HS.out.turned (P' := p + 860) (Grew.of_turn ht7) hr7 (by omega))
          clear HS hrx ht7 hr7 hz
          by_cases z0 : z = 0
          · subst z0
            by_cases hl : 0 < xs.length
            · have hl' : (0 : Int) < (xs.length : Int) := by omega
              have hl0 : ¬ (xs.length : Int) ≤ 0 := by omega
              have hbA := (Below.refl w7.heap.size w7).alloc (Nat.le_refl _) (.cells #[.int .i64 (-1), .int .i64 256] 3)
              have HA := hide (HS7.out.later hbA)
              have lA := Lies.new w7 #[.int .i64 (-1), .int .i64 256] 3
              obtain ⟨pa, hpa, hra⟩ := HA.out.rd
              have hne : w7.heap.size ≠ rb := by have := HA.out.nr; have := HS7.out.grew.size; omega
              clear HS7 hbA
              go_wp2_with fail
              refine (one_any rb A n c pa w7.heap.size 2 2 [-1, 256] _ hra (by omega) rfl (by omega) (by omega) hne (fun k z hz => by
                have := lA.cell k
                rw [this]
                match k, hz with
                | 0, hz => simpa using hz
                | 1, hz => simpa using hz
                | k + 2, hz => simp at hz)).mono ?_
              rintro e w8 ⟨⟨x, hx, rfl⟩, hr8, ht8⟩
              have hx64 : In64 x := by
                simp at hx
                rcases hx with rfl | rfl <;> constructor <;> omega
              have HS8 := hide (HA.out.turned (P' := p + 870) (Grew.of_turn ht8) hr8 (by omega))
              obtain ⟨v0, c0, f0⟩ := HS8.out.cell hl
              have HF := hide (show Ints2 rb A n c (p + 900) w (.returned (.slice (some ⟨g, 0, none⟩) xs.length cb2)) (w8.setCell ⟨g, 0, none⟩ (.int .i64 x)) from ⟨xs.set 0 x, _, cb2, by rw [List.length_set], (HS8.out.set hx64).more (by omega)⟩)
              clear hra lA HA hx hx64 hr8 ht8 HS8
              go_wp2
              go_ret
              exact HF.out
            · have hl' : ¬ (0 : Int) < (xs.length : Int) := by omega
              have HF := hide (show Ints2 rb A n c (p + 900) w (.returned (.slice (some ⟨g, 0, none⟩) xs.length cb2)) w7 from ⟨xs, _, cb2, rfl, HS7.out.more (by omega)⟩)
              clear HS7
              go_wp2
              go_ret
              exact HF.out
          · have z0' : ¬ (z : Int) = 0 := by omega
            have HF := hide (show Ints2 rb A n c (p + 900) w (.returned (.slice (some ⟨g, 0, none⟩) xs.length cb2)) w7 from ⟨xs, _, cb2, rfl, HS7.out.more (by omega)⟩)
            clear HS7
            go_wp2
            go_ret
            exact HF.out
        · have y1' : ¬ (y : Int) = 1 := by omega
          have HS := hide (HS4.out.more (P' := p + 850) (by omega))
          clear HS4
          go_upto_region 11 with fail
          generalize w4 = wx at HS ⊢
          clear hz hz'
          obtain ⟨px, hpx, hrx⟩ := HS.out.rd
          have hfew := HS.out.few
          have hcap := HS.out.own.capLen
          go_wp2_with fail
          refine (pick_any rb A n c px 30 wx hrx (by omega) (by omega)).mono ?_
          rintro e w7 ⟨⟨z, rfl, hz, _⟩, hr7, ht7⟩
          have HS7 := hide (HS.out.turned (P' := p + 860) (Grew.of_turn ht7) hr7 (by omega))
          clear HS hrx ht7 hr7 hz
          by_cases z0 : z = 0
          · subst z0
            by_cases hl : 0 < xs.length
            · have hl' : (0 : Int) < (xs.length : Int) := by omega
              have hl0 : ¬ (xs.length : Int) ≤ 0 := by omega
              have hbA := (Below.refl w7.heap.size w7).alloc (Nat.le_refl _) (.cells #[.int .i64 (-1), .int .i64 256] 3)
              have HA := hide (HS7.out.later hbA)
              have lA := Lies.new w7 #[.int .i64 (-1), .int .i64 256] 3
              obtain ⟨pa, hpa, hra⟩ := HA.out.rd
              have hne : w7.heap.size ≠ rb := by have := HA.out.nr; have := HS7.out.grew.size; omega
              clear HS7 hbA
              go_wp2_with fail
              refine (one_any rb A n c pa w7.heap.size 2 2 [-1, 256] _ hra (by omega) rfl (by omega) (by omega) hne (fun k z hz => by
                have := lA.cell k
                rw [this]
                match k, hz with
                | 0, hz => simpa using hz
                | 1, hz => simpa using hz
                | k + 2, hz => simp at hz)).mono ?_
              rintro e w8 ⟨⟨x, hx, rfl⟩, hr8, ht8⟩
              have hx64 : In64 x := by
                simp at hx
                rcases hx with rfl | rfl <;> constructor <;> omega
              have HS8 := hide (HA.out.turned (P' := p + 870) (Grew.of_turn ht8) hr8 (by omega))
              obtain ⟨v0, c0, f0⟩ := HS8.out.cell hl
              have HF := hide (show Ints2 rb A n c (p + 900) w (.returned (.slice (some ⟨g, 0, none⟩) xs.length cb2)) (w8.setCell ⟨g, 0, none⟩ (.int .i64 x)) from ⟨xs.set 0 x, _, cb2, by rw [List.length_set], (HS8.out.set hx64).more (by omega)⟩)
              clear hra lA HA hx hx64 hr8 ht8 HS8
              go_wp2
              go_ret
              exact HF.out
            · have hl' : ¬ (0 : Int) < (xs.length : Int) := by omega
              have HF := hide (show Ints2 rb A n c (p + 900) w (.returned (.slice (some ⟨g, 0, none⟩) xs.length cb2)) w7 from ⟨xs, _, cb2, rfl, HS7.out.more (by omega)⟩)
              clear HS7
              go_wp2
              go_ret
              exact HF.out
          · have z0' : ¬ (z : Int) = 0 := by omega
            have HF := hide (show Ints2 rb A n c (p + 900) w (.returned (.slice (some ⟨g, 0, none⟩) xs.length cb2)) w7 from ⟨xs, _, cb2, rfl, HS7.out.more (by omega)⟩)
            clear HS7
            go_wp2
            go_ret
            exact HF.out
    · have hz' : ¬ (0 : Int) < (xs.length : Int) := by omega
      have HF := hide (show Ints2 rb A n c (p + 900) w (.returned (.slice A3 xs.length c3)) w3 from ⟨xs, _, c3, rfl, HS.out.more (by omega)⟩)
      clear HS
      go_wp2
      go_ret
      exact HF.out
  · have HK := hide (tf_false hok)
    clear hok
    rw [HK.out]
    have HF := hide (show Ints2 rb A n c (p + 900) w (.returned (.slice (some ⟨g0, 0, none⟩) 0 0)) w2 from ⟨[], _, 0, rfl, ⟨HG2.out.grew, by obtain ⟨p1, h1, h2⟩ := HG2.out.rd; exact ⟨p1, by omega, h2⟩, HE2.out, fun x hx => absurd hx (by simp), by simp, hlt⟩⟩)
    clear HG2 HO2 HE2
    go_wp2
    go_ret
    exact HF.out
end Go.Proofs.Ytnpmacegdnnhdab

namespace Go.Proofs.Ytnpmacegdnnhdab
open Go.RowKit
set_option linter.unusedVariables false
def DrawnF (w : World) (e : Ending) (w' : World) : Prop :=
  ∃ (xs : List Int) (B : Option Addr) (cb : Nat) (m : Int), e = .returned (.tuple #[.slice B xs.length cb, .int .i64 m]) ∧ 0 ≤ m ∧ m ≤ 201 ∧ IntsAt w' w'.heap.size B xs ∧ (B = none → cb = 0) ∧ xs.length ≤ cb ∧ xs.length ≤ 2000 ∧ Below w.heap.size w w'
set_option maxHeartbeats 1000000 in
theorem drawFrame_any (A : Option Addr) (n c : Nat) (w : World) (h : BytesAt w w.heap.size A n) (hc : n ≤ c) (hn : n ≤ 9223372036854775807) :
    Calls Try.prog 4 #[.slice A n c] w (DrawnF w) := by
  go_enter Try.func4, Try.ntmps4
  go_wp2_with fail
  refine (newReader_any A n c w h hc hn).mono ?_
  rintro e w1 ⟨rfl, ⟨n', c', hrd⟩, hb1⟩
  clear h
  go_wp2_with fail
  refine (someBytes_any w.heap.size A n' c' 0 w1 hrd (by omega)).mono ?_
  rintro e w2 ⟨xs, B, cb, rfl, hS⟩
  have hbA := (Below.refl w2.heap.size w2).alloc (Nat.le_refl _) (.cells #[.int .i64 10, .int .i64 3, .int .i64 1, .int .i64 200, .int .i64 0, .int .i64 201, .int .i64 50] 3)
  have HA := hide (hS.later hbA)
  have lA := Lies.new w2 #[.int .i64 10, .int .i64 3, .int .i64 1, .int .i64 200, .int .i64 0, .int .i64 201, .int .i64 50] 3
  obtain ⟨pa, hpa, hra⟩ := HA.out.rd
  have hne : w2.heap.size ≠ w.heap.size := by have := HA.out.nr; have := hS.grew.size; omega
  have HB1 := hide hb1
  clear hS hbA hrd hb1
  go_wp2_with fail
  refine (one_any w.heap.size A n' c' pa w2.heap.size 7 7 [10, 3, 1, 200, 0, 201, 50] _ hra (by omega) rfl (by omega) (by omega) hne (fun k z hz => by
      have := lA.cell k
      rw [this]
      match k, hz with
      | 0, hz => simpa using hz
      | 1, hz => simpa using hz
      | 2, hz => simpa using hz
      | 3, hz => simpa using hz
      | 4, hz => simpa using hz
      | 5, hz => simpa using hz
      | 6, hz => simpa using hz
      | k + 7, hz => simp at hz)).mono ?_
  rintro e w3 ⟨⟨m, hm, rfl⟩, hr3, ht3⟩
  have hm2 : 0 ≤ m ∧ m ≤ 201 := by
    simp at hm
    rcases hm with rfl | rfl | rfl | rfl | rfl | rfl | rfl <;> constructor <;> omega
  have HS := HA.out.turned (P' := 1000) (Grew.of_turn ht3) hr3 (by omega)
  have HF := hide (show DrawnF w (.returned (.tuple #[.slice B xs.length cb, .int .i64 m])) w3 from
    ⟨xs, B, cb, m, rfl, hm2.1, hm2.2, HS.own.ints HS.wf (by have := HS.few; omega), HS.own.nil, HS.own.capLen, HS.few, HS.grew.below HB1.out (Nat.le_refl _) HB1.out.size⟩)
  clear HS HA lA hra hm hm2 hr3 ht3 HB1
  go_wp2
  go_ret2
  exact HF.out
end Go.Proofs.Ytnpmacegdnnhdab

namespace Go.Proofs.Ytnpmacegdnnhdab
open Go.RowKit
set_option linter.unusedVariables false
set_option maxRecDepth 100000 in
set_option maxHeartbeats 8000000 in
theorem lawFB_any (A : Option Addr) (n c : Nat) (w : World) (h : BytesAt w w.heap.size A n) (hc : n ≤ c) (hn : n ≤ 9223372036854775807) :
    Calls Try.prog 3 #[.slice A n c] w fun e w' => e = .returned (.bool true) ∧ Below w.heap.size w w' := by
  by_cases hbig : 1048576 < n
  · have d : decide ((1048576 : Int) < (n : Int)) = true := by simp; omega
    go_enter Try.func3, Try.ntmps3
    go_wp2
    go_ret
    exact ⟨rfl, Below.refl _ _⟩
  · have d : decide ((1048576 : Int) < (n : Int)) = false := by simp; omega
    go_enter Try.func3, Try.ntmps3
    go_wp2_with fail
    refine (drawFrame_any A n c w h hc hn).mono ?_
    rintro e w1 ⟨xs, B, cb, m, rfl, hm0, hm1, ho1, hnil, hcap, hfew, hb1⟩
    have HI1 := hide ho1
    have HW1 := hide hb1
    have HN := hide hnil
    clear h ho1 hb1 hnil
    go_wp2_with fail
    refine (implFrameBytes_any B xs cb m w1 HI1.out HN.out hcap).mono ?_
    rintro e w2 ⟨A2, c2, rfl, ho2, hb2⟩
    have HO2 := hide ho2
    have HW2 := hide (HW1.out.trans (hb2.mono HW1.out.size))
    have HI2 := hide (HI1.out.later hb2 (Nat.le_refl _))
    clear ho2 hb2 HW1 HI1
    go_wp2_with fail
    refine (specFrameBytes_any B xs cb m w2 HI2.out hcap).mono ?_
    rintro e w3 ⟨A3, c3, rfl, ho3, hb3⟩
    have hff := frameOf_few xs m
    have HJ3 := hide ((HO2.out.below hb3).ints (in64_bytes (frameOf_byte xs m)) (by omega))
    have HK3 := hide (ho3.ints (in64_bytes (frameOf_byte xs m)) (by omega))
    have HN2 := hide HO2.out.nil
    have hcap2 := HO2.out.capLen
    have HW3 := hide (HW2.out.trans (hb3.mono HW2.out.size))
    have HI3 := hide (HI2.out.later hb3 (Nat.le_refl _))
    clear ho3 hb3 HO2 HW2 HI2
    go_wp2_with fail
    refine (equalInts_any A2 A3 (frameOf xs m) (frameOf xs m) c2 c3 w3 HJ3.out HK3.out).mono ?_
    rintro e w4 ⟨rfl, hb4⟩
    have HW4 := hide (HW3.out.trans (hb4.mono HW3.out.size))
    have HI4 := hide (HI3.out.later hb4 (Nat.le_refl _))
    have HJ4 := hide (HJ3.out.later hb4 (Nat.le_refl _))
    rw [decide_eq_true (rfl : frameOf xs m = frameOf xs m)]
    clear hb4 HW3 HI3 HJ3 HK3
    by_cases hne : frameOf xs m ≠ []
    · have hbk := frame_back hne
      have hwh := frame_whole hbk.1 hbk.2.1 hbk.2.2
      have hm2 := hbk.2.1
      have hpos : 0 < (frameOf xs m).length := List.length_pos_iff.2 hne
      have hlen0 : ¬ ((frameOf xs m).length : Int) = 0 := by omega
      have HU := hide (tf_true hwh.1)
      have HA := hide hwh.2.1
      have HL := hide hwh.2.2
      clear hbk hwh hne
      go_wp2_with fail
      have hC := implUnframeBytes_any A2 (frameOf xs m) c2 w4 HJ4.out HN2.out hcap2
      rw [HU.out, HA.out] at hC
      refine hC.mono ?_
      clear hC
      rintro e w5 ⟨A5, c5, rfl, ho5, hb5⟩
      have HW5 := hide (HW4.out.trans (hb5.mono HW4.out.size))
      have HI5 := hide (HI4.out.later hb5 (Nat.le_refl _))
      have HJ5 := hide (ho5.ints HI5.out.wf HI5.out.len)
      clear ho5 hb5 HW4 HI4 HJ4
      go_wp2_with fail
      refine (equalInts_any A5 B xs xs c5 cb w5 HJ5.out HI5.out).mono ?_
      rintro e w6 ⟨rfl, hb6⟩
      have HW6 := hide (HW5.out.trans (hb6.mono HW5.out.size))
      rw [decide_eq_true (rfl : xs = xs)]
      clear hb6 HI5 HJ5 HW5
      have hq0 : 0 ≤ ((xs.length : Int) + m - 1) / m := Int.ediv_nonneg (by omega) (by omega)
      have hq1 : ((xs.length : Int) + m - 1) / m ≤ 3000 := by
        refine Int.le_trans (Int.ediv_le_self _ (by omega)) (by omega)
      have hmz : ¬ m = 0 := by omega
      have ht : Int.tdiv ((xs.length : Int) + m - 1) m = ((xs.length : Int) + m - 1) / m := Int.tdiv_eq_ediv_of_nonneg (by omega)
      go_wp2
      go_ret
      exact ⟨by simp [HL.out], HW6.out⟩
    · have h0 : frameOf xs m = [] := by simpa using hne
      clear hne
      have hs := fun (X : World) (hX : IntsAt X X.heap.size B xs) => specFrameBytes_any B xs cb m X hX hcap
      have he := fun (X : World) (A3 : Option Addr) (c3 : Nat) (h : IntsAt X X.heap.size A2 (frameOf xs m)) (h' : IntsAt X X.heap.size A3 (frameOf xs m)) => equalInts_any A2 A3 (frameOf xs m) (frameOf xs m) c2 c3 X h h'
      rw [h0] at HJ4 ⊢
      simp only [h0] at hs he
      have HE := hide he
      have HSp := hide hs
      clear he hs h0
      go_wp2_with fail
      refine (HSp.out w4 HI4.out).mono ?_
      rintro e w5 ⟨A5, c5, rfl, ho5, hb5⟩
      have HI5 := hide (ho5.ints (fun x hx => absurd hx (by simp)) (by simp))
      have HJ5 := hide (HJ4.out.later hb5 (Nat.le_refl _))
      have HW5 := hide (HW4.out.trans (hb5.mono HW4.out.size))
      clear ho5 hb5 HSp
      go_wp2_with fail
      refine (HE.out w5 A5 c5 HJ5.out HI5.out).mono ?_
      rintro e w6 ⟨rfl, hb6⟩
      have HW6 := hide (HW5.out.trans (hb6.mono HW5.out.size))
      clear hb6 HE
      go_wp2
      go_ret
      exact ⟨by simp, HW6.out⟩
end Go.Proofs.Ytnpmacegdnnhdab
