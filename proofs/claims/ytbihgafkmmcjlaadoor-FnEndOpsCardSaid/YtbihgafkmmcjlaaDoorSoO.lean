import Derived.Test.YtbihgafkmmcjlaaDoorSoM
import Derived.Deep.Cut
namespace Go.Proofs.YtbihgafkmmcjlaaDoor
open Go.RowKit
set_option linter.unusedVariables false
theorem odIn64 {o : Od} (h : OdOk o) : In64 o.code ∧ In64 o.arg := by
  have hm : argMost o.code ≤ 999 := by unfold argMost; repeat' split <;> omega
  rcases h with ⟨⟨h1, h2⟩, h | h⟩ <;> constructor <;> constructor <;> omega
theorem SoS.more {w wr : World} {rb n c P P' cb : Nat} {A B : Option Addr} {os : List Od} (h : SoS w wr rb A n c P B cb os) (hp : P ≤ P') : SoS w wr rb A n c P' B cb os := by
  obtain ⟨p1, h1, h2⟩ := h.rd
  exact ⟨h.grew, ⟨p1, by omega, h2⟩, h.own, h.wf, h.few, h.nr⟩
set_option maxRecDepth 100000 in
set_option maxHeartbeats 16000000 in
theorem someOps_any (rb : Nat) (A : Option Addr) (n c p : Nat) (w : World) (h : Rd w rb A n c p) (hp : p < 600000) :
    Calls Tryd.prog 11 #[.pointer (some ⟨rb, 0, none⟩)] w (Ops2 rb A n c (p + 800) w) := by
  have hlt := h.box.lt
  have hB0 : Below w.heap.size w (w.alloc (.cells #[] 42)) := (Below.refl _ _).alloc (Nat.le_refl _) _
  have h0 := h.below hB0
  have HB0 := hide hB0
  clear h hB0
  go_enter Tryd.func11, Tryd.ntmps11
  go_upto_region 2 with fail
  generalize w.alloc (.cells #[] 42) = W at h0 HB0 ⊢
  go_wp2_with fail
  refine (pick_any rb A n c p 2 W h0 (by omega) (by omega)).mono ?_
  rintro e w1 ⟨⟨y, rfl, hy, _⟩, hr1, ht1⟩
  have HG1 := hide ((Grew.of_below HB0.out).trans (Grew.of_turn ht1))
  clear h0 HB0 ht1 hy
  by_cases y0 : y = 0
  · subst y0
    go_wp2_with fail
    refine (likelyOps_any rb A n c (p + 1) w1 hr1 (by omega)).mono ?_
    rintro e wx ⟨os, B, cb, p', rfl, ho, hok, hl, hp', hr, hg⟩
    have HS := hide (show SoS w wx rb A n c (p + 500) B cb os from ⟨HG1.out.trans hg, ⟨p', by omega, hr⟩, ho.mono HG1.out.size, fun o h => odIn64 (hok o h), by omega, hlt⟩)
    clear ho hok hr hg hr1 HG1
    go_upto_region 9 with fail
    have HN := hide HS.out.nr
    by_cases hz : 0 < os.length
    · have hz' : (0 : Int) < (os.length : Int) := by omega
      obtain ⟨g, rfl, hgb, hgl⟩ := HS.out.row hz
      obtain ⟨px, hpx, hrx⟩ := HS.out.rd
      obtain ⟨o0, ho0⟩ : ∃ o, os[0]? = some o := ⟨_, List.getElem?_eq_getElem hz⟩
      obtain ⟨oe, hoe⟩ : ∃ o, os[os.length - 1]? = some o := ⟨_, List.getElem?_eq_getElem (by omega)⟩
      have Ho0 := hide ho0
      have Hoe := hide hoe
      have Hfew := hide HS.out.few
      clear ho0 hoe
      go_wp2_with fail
      refine (pick_any rb A n c px 24 wx hrx (by omega) (by omega)).mono ?_
      rintro e w2 ⟨⟨y, rfl, hy, _⟩, hr2, ht2⟩
      have HS2 := hide (HS.out.turned (P' := p + 740) (Grew.of_turn ht2) hr2 (by omega))
      clear HS hrx ht2 hr2 hy
      by_cases y0 : y = 0
      · subst y0
        have hbA := (Below.refl w2.heap.size w2).alloc (Nat.le_refl _) (.cells #[.int .i64 (-1), .int .i64 20] 3)
        have HA := hide (HS2.out.later hbA)
        have lA := Lies.new w2 #[.int .i64 (-1), .int .i64 20] 3
        obtain ⟨pa, hpa, hra⟩ := HA.out.rd
        have hne : w2.heap.size ≠ rb := by have := HN.out; have := HS2.out.grew.size; omega
        have hgn : g ≠ rb := by have := HN.out; omega
        clear HS2 hbA
        go_wp2_with fail
        refine (one_any rb A n c pa w2.heap.size 2 2 [-1, 20] _ hra (by omega) rfl (by omega) (by omega) hne (fun k z hz => by
          have := lA.cell k
          rw [this]
          match k, hz with
          | 0, hz => simpa using hz
          | 1, hz => simpa using hz
          | k + 2, hz => simp at hz)).mono ?_
        rintro e w3 ⟨⟨x, hx, rfl⟩, hr3, ht3⟩
        have hx64 : In64 x := by
          simp at hx
          rcases hx with rfl | rfl <;> constructor <;> omega
        have HS3 := hide (HA.out.turned (P' := p + 760) (Grew.of_turn ht3) hr3 (by omega))
        obtain ⟨c0, _, f0, _⟩ := HS3.out.cells Ho0.out
        have HF0 := hide (HS3.out.setCode Ho0.out hx64)
        rw [Nat.zero_mul] at HF0 c0 f0
        have HF := hide (show Ops2 rb A n c (p + 800) w (.returned (.slice (some ⟨g, 0, none⟩) os.length cb)) (w3.setCell ⟨g, 0, none⟩ (.int .i64 x)) from ⟨_, _, cb, by rw [List.length_set], HF0.out.more (by omega)⟩)
        clear hra lA HA hx hx64 hr3 ht3 HS3 HF0
        go_wp2
        go_ret
        exact HF.out
      · have y0' : ¬ (y : Int) = 0 := by omega
        by_cases y1 : y = 1
        · subst y1
          have hbA := (Below.refl w2.heap.size w2).alloc (Nat.le_refl _) (.cells #[.int .i64 (-1), .int .i64 1000, .int .i64 1] 3)
          have HA := hide (HS2.out.later hbA)
          have lA := Lies.new w2 #[.int .i64 (-1), .int .i64 1000, .int .i64 1] 3
          obtain ⟨pa, hpa, hra⟩ := HA.out.rd
          have hne : w2.heap.size ≠ rb := by have := HN.out; have := HS2.out.grew.size; omega
          have hgn : g ≠ rb := by have := HN.out; omega
          have hfw := Hfew.out
          have hi0 : (0 : Int) ≤ (os.length : Int) - 1 := by omega
          have hi1 : (os.length : Int) - 1 < (os.length : Int) := by omega
          clear HS2 hbA
          go_wp2_with fail
          refine (one_any rb A n c pa w2.heap.size 3 3 [-1, 1000, 1] _ hra (by omega) rfl (by omega) (by omega) hne (fun k z hz => by
            have := lA.cell k
            rw [this]
            match k, hz with
            | 0, hz => simpa using hz
            | 1, hz => simpa using hz
            | 2, hz => simpa using hz
            | k + 3, hz => simp at hz)).mono ?_
          rintro e w3 ⟨⟨x, hx, rfl⟩, hr3, ht3⟩
          have hx64 : In64 x := by
            simp at hx
            rcases hx with rfl | rfl | rfl <;> constructor <;> omega
          have HS3 := hide (HA.out.turned (P' := p + 760) (Grew.of_turn ht3) hr3 (by omega))
          obtain ⟨_, c0, _, f0⟩ := HS3.out.cells Hoe.out
          have HF0 := hide (HS3.out.setArg Hoe.out hx64)
          have HF := hide (show Ops2 rb A n c (p + 800) w (.returned (.slice (some ⟨g, 0, none⟩) os.length cb)) (w3.setCell ⟨g, (os.length - 1) * 2 + 1, none⟩ (.int .i64 x)) from ⟨_, _, cb, by rw [List.length_set], HF0.out.more (by omega)⟩)
          clear hra lA HA hx hx64 hr3 ht3 HS3 HF0
          go_wp2
          go_ret
          exact HF.out
        · have y1' : ¬ (y : Int) = 1 := by omega
          have HF := hide (show Ops2 rb A n c (p + 800) w (.returned (.slice (some ⟨g, 0, none⟩) os.length cb)) w2 from ⟨os, _, cb, rfl, HS2.out.more (by omega)⟩)
          clear HS2
          go_wp2
          go_ret
          exact HF.out
    · have hz' : ¬ (0 : Int) < (os.length : Int) := by omega
      have HF := hide (show Ops2 rb A n c (p + 800) w (.returned (.slice B os.length cb)) wx from ⟨os, B, cb, rfl, HS.out.more (by omega)⟩)
      clear HS
      go_wp2
      go_ret
      exact HF.out
  · have y0' : ¬ (y : Int) = 0 := by omega
    go_wp2_with fail
    refine (someGraph_any rb A n c (p + 1) w1 hr1 (by omega)).mono ?_
    rintro e w2 ⟨gn, cap, p2, ns, r, rfl, hp2, hr2, hg2, hgn, hl1, hl10, hr64, ⟨hsv, hr0, hrl⟩, hG2, _⟩
    have HG2 := hide (HG1.out.trans hG2)
    have Hsv := hide hsv
    have hgl := hg2.lt
    clear hr1 HG1 hG2 hsv
    go_wp2_with fail
    refine (pick_any rb A n c p2 2 w2 hr2 (by omega) (by omega)).mono ?_
    rintro e w3 ⟨⟨lev, rfl, _, _⟩, hr3, ht3⟩
    have hgr3 : GrAt w3 (some ⟨gn, 0, none⟩) ns := (hg2.grew (Grew.of_turn ht3)).gr
    have HG3 := hide (HG2.out.trans (Grew.of_turn ht3))
    clear hg2 HG2 hr2 ht3
    go_wp2_with fail
    refine (written_any Hsv.out (by omega) (some ⟨gn, 0, none⟩) cap r (lev : Int) w3 hgr3 hr0 hrl).mono ?_
    rintro e wx ⟨B, cb, os, rfl, hl1, hl2, ho, hwf, hb⟩
    have HS := hide (show SoS w wx rb A n c (p + 500) B cb os from ⟨HG3.out.trans (Grew.of_below hb), ⟨_, by omega, hr3.below hb⟩, ho.mono HG3.out.size, hwf, by omega, hlt⟩)
    clear ho hwf hb hr3 HG3 hgr3
    obtain ⟨g, rfl, hgb, hgl⟩ := HS.out.row hl1
    obtain ⟨px, hpx, hrx⟩ := HS.out.rd
    have hz' : (0 : Int) < (os.length : Int) := by omega
    go_wp2_with fail
    refine (pick_any rb A n c px 4 wx hrx (by omega) (by omega)).mono ?_
    rintro e w5 ⟨⟨y, rfl, hy, _⟩, hr5, ht5⟩
    have HS5 := hide (HS.out.turned (P' := p + 600) (Grew.of_turn ht5) hr5 (by omega))
    clear HS hrx ht5 hr5 hy
    by_cases e0 : y = 0
    · subst e0
      obtain ⟨px, hpx, hrx⟩ := HS5.out.rd
      have hfew := HS5.out.few
      go_wp2_with fail
      refine (pick_any rb A n c px (os.length : Int) w5 hrx (by omega) (by omega)).mono ?_
      rintro e w6 ⟨⟨k, rfl, hk, _⟩, hr6, ht6⟩
      have hkl : k < os.length := by have := hk (by omega); omega
      have HS6 := hide (HS5.out.turned (P' := p + 650) (Grew.of_turn ht6) hr6 (by omega))
      clear HS5 hrx ht6 hr6 hk
      obtain ⟨px, hpx, hrx⟩ := HS6.out.rd
      go_wp2_with fail
      refine (someOp_any rb A n c px w6 hrx (by omega)).mono ?_
      rintro e w8 ⟨o, p8, hok8, rfl, hp8, hr8, hG8⟩
      obtain ⟨ok, hok⟩ : ∃ o, os[k]? = some o := ⟨_, List.getElem?_eq_getElem hkl⟩
      have HS8 := hide (HS6.out.turned (P' := p + 690) hG8 hr8 (by omega))
      obtain ⟨c0, c1, f0, f1⟩ := HS8.out.cells hok
      have HS9 := hide ((HS8.out.setCode hok (odIn64 hok8).1).setArg (o := ⟨o.code, ok.arg⟩) (by rw [List.getElem?_set, if_pos rfl, if_pos hkl]) (odIn64 hok8).2)
      have hkI : (k : Int) < (os.length : Int) := by omega
      have hk0 : (0 : Int) ≤ (k : Int) := by omega
      have hlset : (((os.set k ⟨o.code, ok.arg⟩).set k ⟨o.code, o.arg⟩ : List Od)).length = os.length := by rw [List.length_set, List.length_set]
      clear HS6 hrx hok hok8 hr8 hG8 HS8
      go_upto_region 7 with fail
      clear c0 c1 f0 f1
      generalize (w8.setCell ⟨g, k * 2, none⟩ (.int .i64 o.code)).setCell ⟨g, k * 2 + 1, none⟩ (.int .i64 o.arg) = wx at HS9 ⊢
      generalize (os.set k ⟨o.code, ok.arg⟩).set k ⟨o.code, o.arg⟩ = os6 at HS9 hlset
      clear hz' hkI hkl hfew hl1 hl2
      rw [← hlset]
      clear hlset
      obtain ⟨os, rfl⟩ : ∃ os, os = os6 := ⟨_, rfl⟩
      have HS := hide (HS9.out.more (P' := p + 700) (by omega))
      clear HS9
      obtain ⟨px, hpx, hrx⟩ := HS.out.rd
      go_wp2_with fail
      refine (pick_any rb A n c px 6 wx hrx (by omega) (by omega)).mono ?_
      rintro e w7 ⟨⟨y, rfl, hy, _⟩, hr7, ht7⟩
      have HS7 := hide (HS.out.turned (P' := p + 720) (Grew.of_turn ht7) hr7 (by omega))
      clear HS hrx ht7 hr7 hy
      by_cases y0 : y = 0
      · subst y0
        obtain ⟨px, hpx, hrx⟩ := HS7.out.rd
        have hfew := HS7.out.few
        have hcap := HS7.out.own.capLen
        go_wp2_with fail
        refine (pick_any rb A n c px ((os.length : Int) + 1) w7 hrx (by omega) (by omega)).mono ?_
        rintro e wx ⟨⟨k, rfl, hk, _⟩, hr8, ht8⟩
        have hkl : k ≤ os.length := by have := hk (by omega); omega
        have hlk : (os.take k).length = k := by simp; omega
        have HS8 := hide ((HS7.out.turned (P' := p + 730) (Grew.of_turn ht8) hr8 (by omega)).cut hkl)
        have hk1 : (0 : Int) ≤ (k : Int) := by omega
        have hk2 : (k : Int) ≤ (cb : Int) := by omega
        clear HS7 hrx ht8 hr8 hk
        go_upto_region 9 with fail
        generalize os.take k = os at HS8 hlk
        subst hlk
        have HS := HS8
        clear HS8 hk1 hk2 hkl hfew hcap
        try clear e0
        obtain ⟨B, hB⟩ : ∃ B, B = some (⟨g, 0, none⟩ : Addr) := ⟨_, rfl⟩
        rw [← hB] at HS ⊢
        clear hB
        have HN := hide HS.out.nr
        by_cases hz : 0 < os.length
        · have hz' : (0 : Int) < (os.length : Int) := by omega
          obtain ⟨g, rfl, hgb, hgl⟩ := HS.out.row hz
          obtain ⟨px, hpx, hrx⟩ := HS.out.rd
          obtain ⟨o0, ho0⟩ : ∃ o, os[0]? = some o := ⟨_, List.getElem?_eq_getElem hz⟩
          obtain ⟨oe, hoe⟩ : ∃ o, os[os.length - 1]? = some o := ⟨_, List.getElem?_eq_getElem (by omega)⟩
          have Ho0 := hide ho0
          have Hoe := hide hoe
          have Hfew := hide HS.out.few
          clear ho0 hoe
          go_wp2_with fail
          refine (pick_any rb A n c px 24 wx hrx (by omega) (by omega)).mono ?_
          rintro e w2 ⟨⟨y, rfl, hy, _⟩, hr2, ht2⟩
          have HS2 := hide (HS.out.turned (P' := p + 740) (Grew.of_turn ht2) hr2 (by omega))
          clear HS hrx ht2 hr2 hy
          by_cases y0 : y = 0
          · subst y0
            have hbA := (Below.refl w2.heap.size w2).alloc (Nat.le_refl _) (.cells #[.int .i64 (-1), .int .i64 20] 3)
            have HA := hide (HS2.out.later hbA)
            have lA := Lies.new w2 #[.int .i64 (-1), .int .i64 20] 3
            obtain ⟨pa, hpa, hra⟩ := HA.out.rd
            have hne : w2.heap.size ≠ rb := by have := HN.out; have := HS2.out.grew.size; omega
            have hgn : g ≠ rb := by have := HN.out; omega
            clear HS2 hbA
            go_wp2_with fail
            refine (one_any rb A n c pa w2.heap.size 2 2 [-1, 20] _ hra (by omega) rfl (by omega) (by omega) hne (fun k z hz => by
              have := lA.cell k
              rw [this]
              match k, hz with
              | 0, hz => simpa using hz
              | 1, hz => simpa using hz
              | k + 2, hz => simp at hz)).mono ?_
            rintro e w3 ⟨⟨x, hx, rfl⟩, hr3, ht3⟩
            have hx64 : In64 x := by
              simp at hx
              rcases hx with rfl | rfl <;> constructor <;> omega
            have HS3 := hide (HA.out.turned (P' := p + 760) (Grew.of_turn ht3) hr3 (by omega))
            obtain ⟨c0, _, f0, _⟩ := HS3.out.cells Ho0.out
            have HF0 := hide (HS3.out.setCode Ho0.out hx64)
            rw [Nat.zero_mul] at HF0 c0 f0
            have HF := hide (show Ops2 rb A n c (p + 800) w (.returned (.slice (some ⟨g, 0, none⟩) os.length cb)) (w3.setCell ⟨g, 0, none⟩ (.int .i64 x)) from ⟨_, _, cb, by rw [List.length_set], HF0.out.more (by omega)⟩)
            clear hra lA HA hx hx64 hr3 ht3 HS3 HF0
            go_wp2
            go_ret
            exact HF.out
          · have y0' : ¬ (y : Int) = 0 := by omega
            by_cases y1 : y = 1
            · subst y1
              have hbA := (Below.refl w2.heap.size w2).alloc (Nat.le_refl _) (.cells #[.int .i64 (-1), .int .i64 1000, .int .i64 1] 3)
              have HA := hide (HS2.out.later hbA)
              have lA := Lies.new w2 #[.int .i64 (-1), .int .i64 1000, .int .i64 1] 3
              obtain ⟨pa, hpa, hra⟩ := HA.out.rd
              have hne : w2.heap.size ≠ rb := by have := HN.out; have := HS2.out.grew.size; omega
              have hgn : g ≠ rb := by have := HN.out; omega
              have hfw := Hfew.out
              have hi0 : (0 : Int) ≤ (os.length : Int) - 1 := by omega
              have hi1 : (os.length : Int) - 1 < (os.length : Int) := by omega
              clear HS2 hbA
              go_wp2_with fail
              refine (one_any rb A n c pa w2.heap.size 3 3 [-1, 1000, 1] _ hra (by omega) rfl (by omega) (by omega) hne (fun k z hz => by
                have := lA.cell k
                rw [this]
                match k, hz with
                | 0, hz => simpa using hz
                | 1, hz => simpa using hz
                | 2, hz => simpa using hz
                | k + 3, hz => simp at hz)).mono ?_
              rintro e w3 ⟨⟨x, hx, rfl⟩, hr3, ht3⟩
              have hx64 : In64 x := by
                simp at hx
                rcases hx with rfl | rfl | rfl <;> constructor <;> omega
              have HS3 := hide (HA.out.turned (P' := p + 760) (Grew.of_turn ht3) hr3 (by omega))
              obtain ⟨_, c0, _, f0⟩ := HS3.out.cells Hoe.out
              have HF0 := hide (HS3.out.setArg Hoe.out hx64)
              have HF := hide (show Ops2 rb A n c (p + 800) w (.returned (.slice (some ⟨g, 0, none⟩) os.length cb)) (w3.setCell ⟨g, (os.length - 1) * 2 + 1, none⟩ (.int .i64 x)) from ⟨_, _, cb, by rw [List.length_set], HF0.out.more (by omega)⟩)
              clear hra lA HA hx hx64 hr3 ht3 HS3 HF0
              go_wp2
              go_ret
              exact HF.out
            · have y1' : ¬ (y : Int) = 1 := by omega
              have HF := hide (show Ops2 rb A n c (p + 800) w (.returned (.slice (some ⟨g, 0, none⟩) os.length cb)) w2 from ⟨os, _, cb, rfl, HS2.out.more (by omega)⟩)
              clear HS2
              go_wp2
              go_ret
              exact HF.out
        · have hz' : ¬ (0 : Int) < (os.length : Int) := by omega
          have HF := hide (show Ops2 rb A n c (p + 800) w (.returned (.slice B os.length cb)) wx from ⟨os, B, cb, rfl, HS.out.more (by omega)⟩)
          clear HS
          go_wp2
          go_ret
          exact HF.out
      · have y0' : ¬ (y : Int) = 0 := by omega
        have HS := HS7
        clear HS7
        go_upto_region 9 with fail
        generalize w7 = wx at HS ⊢
        obtain ⟨B, hB⟩ : ∃ B, B = some (⟨g, 0, none⟩ : Addr) := ⟨_, rfl⟩
        rw [← hB] at HS ⊢
        clear hB
        have HN := hide HS.out.nr
        by_cases hz : 0 < os.length
        · have hz' : (0 : Int) < (os.length : Int) := by omega
          obtain ⟨g, rfl, hgb, hgl⟩ := HS.out.row hz
          obtain ⟨px, hpx, hrx⟩ := HS.out.rd
          obtain ⟨o0, ho0⟩ : ∃ o, os[0]? = some o := ⟨_, List.getElem?_eq_getElem hz⟩
          obtain ⟨oe, hoe⟩ : ∃ o, os[os.length - 1]? = some o := ⟨_, List.getElem?_eq_getElem (by omega)⟩
          have Ho0 := hide ho0
          have Hoe := hide hoe
          have Hfew := hide HS.out.few
          clear ho0 hoe
          go_wp2_with fail
          refine (pick_any rb A n c px 24 wx hrx (by omega) (by omega)).mono ?_
          rintro e w2 ⟨⟨y, rfl, hy, _⟩, hr2, ht2⟩
          have HS2 := hide (HS.out.turned (P' := p + 740) (Grew.of_turn ht2) hr2 (by omega))
          clear HS hrx ht2 hr2 hy
          by_cases y0 : y = 0
          · subst y0
            have hbA := (Below.refl w2.heap.size w2).alloc (Nat.le_refl _) (.cells #[.int .i64 (-1), .int .i64 20] 3)
            have HA := hide (HS2.out.later hbA)
            have lA := Lies.new w2 #[.int .i64 (-1), .int .i64 20] 3
            obtain ⟨pa, hpa, hra⟩ := HA.out.rd
            have hne : w2.heap.size ≠ rb := by have := HN.out; have := HS2.out.grew.size; omega
            have hgn : g ≠ rb := by have := HN.out; omega
            clear HS2 hbA
            go_wp2_with fail
            refine (one_any rb A n c pa w2.heap.size 2 2 [-1, 20] _ hra (by omega) rfl (by omega) (by omega) hne (fun k z hz => by
              have := lA.cell k
              rw [this]
              match k, hz with
              | 0, hz => simpa using hz
              | 1, hz => simpa using hz
              | k + 2, hz => simp at hz)).mono ?_
            rintro e w3 ⟨⟨x, hx, rfl⟩, hr3, ht3⟩
            have hx64 : In64 x := by
              simp at hx
              rcases hx with rfl | rfl <;> constructor <;> omega
            have HS3 := hide (HA.out.turned (P' := p + 760) (Grew.of_turn ht3) hr3 (by omega))
            obtain ⟨c0, _, f0, _⟩ := HS3.out.cells Ho0.out
            have HF0 := hide (HS3.out.setCode Ho0.out hx64)
            rw [Nat.zero_mul] at HF0 c0 f0
            have HF := hide (show Ops2 rb A n c (p + 800) w (.returned (.slice (some ⟨g, 0, none⟩) os.length cb)) (w3.setCell ⟨g, 0, none⟩ (.int .i64 x)) from ⟨_, _, cb, by rw [List.length_set], HF0.out.more (by omega)⟩)
            clear hra lA HA hx hx64 hr3 ht3 HS3 HF0
            go_wp2
            go_ret
            exact HF.out
          · have y0' : ¬ (y : Int) = 0 := by omega
            by_cases y1 : y = 1
            · subst y1
              have hbA := (Below.refl w2.heap.size w2).alloc (Nat.le_refl _) (.cells #[.int .i64 (-1), .int .i64 1000, .int .i64 1] 3)
              have HA := hide (HS2.out.later hbA)
              have lA := Lies.new w2 #[.int .i64 (-1), .int .i64 1000, .int .i64 1] 3
              obtain ⟨pa, hpa, hra⟩ := HA.out.rd
              have hne : w2.heap.size ≠ rb := by have := HN.out; have := HS2.out.grew.size; omega
              have hgn : g ≠ rb := by have := HN.out; omega
              have hfw := Hfew.out
              have hi0 : (0 : Int) ≤ (os.length : Int) - 1 := by omega
              have hi1 : (os.length : Int) - 1 < (os.length : Int) := by omega
              clear HS2 hbA
              go_wp2_with fail
              refine (one_any rb A n c pa w2.heap.size 3 3 [-1, 1000, 1] _ hra (by omega) rfl (by omega) (by omega) hne (fun k z hz => by
                have := lA.cell k
                rw [this]
                match k, hz with
                | 0, hz => simpa using hz
                | 1, hz => simpa using hz
                | 2, hz => simpa using hz
                | k + 3, hz => simp at hz)).mono ?_
              rintro e w3 ⟨⟨x, hx, rfl⟩, hr3, ht3⟩
              have hx64 : In64 x := by
                simp at hx
                rcases hx with rfl | rfl | rfl <;> constructor <;> omega
              have HS3 := hide (HA.out.turned (P' := p + 760) (Grew.of_turn ht3) hr3 (by omega))
              obtain ⟨_, c0, _, f0⟩ := HS3.out.cells Hoe.out
              have HF0 := hide (HS3.out.setArg Hoe.out hx64)
              have HF := hide (show Ops2 rb A n c (p + 800) w (.returned (.slice (some ⟨g, 0, none⟩) os.length cb)) (w3.setCell ⟨g, (os.length - 1) * 2 + 1, none⟩ (.int .i64 x)) from ⟨_, _, cb, by rw [List.length_set], HF0.out.more (by omega)⟩)
              clear hra lA HA hx hx64 hr3 ht3 HS3 HF0
              go_wp2
              go_ret
              exact HF.out
            · have y1' : ¬ (y : Int) = 1 := by omega
              have HF := hide (show Ops2 rb A n c (p + 800) w (.returned (.slice (some ⟨g, 0, none⟩) os.length cb)) w2 from ⟨os, _, cb, rfl, HS2.out.more (by omega)⟩)
              clear HS2
              go_wp2
              go_ret
              exact HF.out
        · have hz' : ¬ (0 : Int) < (os.length : Int) := by omega
          have HF := hide (show Ops2 rb A n c (p + 800) w (.returned (.slice B os.length cb)) wx from ⟨os, B, cb, rfl, HS.out.more (by omega)⟩)
          clear HS
          go_wp2
          go_ret
          exact HF.out
    · have e0' : ¬ (y : Int) = 0 := by omega
      have HS := hide (HS5.out.more (P' := p + 700) (by omega))
      go_upto_region 7 with fail
      generalize w5 = wx at HS ⊢
      clear HS5
      obtain ⟨px, hpx, hrx⟩ := HS.out.rd
      go_wp2_with fail
      refine (pick_any rb A n c px 6 wx hrx (by omega) (by omega)).mono ?_
      rintro e w7 ⟨⟨y, rfl, hy, _⟩, hr7, ht7⟩
      have HS7 := hide (HS.out.turned (P' := p + 720) (Grew.of_turn ht7) hr7 (by omega))
      clear HS hrx ht7 hr7 hy
      by_cases y0 : y = 0
      · subst y0
        obtain ⟨px, hpx, hrx⟩ := HS7.out.rd
        have hfew := HS7.out.few
        have hcap := HS7.out.own.capLen
        go_wp2_with fail
        refine (pick_any rb A n c px ((os.length : Int) + 1) w7 hrx (by omega) (by omega)).mono ?_
        rintro e wx ⟨⟨k, rfl, hk, _⟩, hr8, ht8⟩
        have hkl : k ≤ os.length := by have := hk (by omega); omega
        have hlk : (os.take k).length = k := by simp; omega
        have HS8 := hide ((HS7.out.turned (P' := p + 730) (Grew.of_turn ht8) hr8 (by omega)).cut hkl)
        have hk1 : (0 : Int) ≤ (k : Int) := by omega
        have hk2 : (k : Int) ≤ (cb : Int) := by omega
        clear HS7 hrx ht8 hr8 hk
        go_upto_region 9 with fail
        generalize os.take k = os at HS8 hlk
        subst hlk
        have HS := HS8
        clear HS8 hk1 hk2 hkl hfew hcap
        try clear e0
        obtain ⟨B, hB⟩ : ∃ B, B = some (⟨g, 0, none⟩ : Addr) := ⟨_, rfl⟩
        rw [← hB] at HS ⊢
        clear hB
        have HN := hide HS.out.nr
        by_cases hz : 0 < os.length
        · have hz' : (0 : Int) < (os.length : Int) := by omega
          obtain ⟨g, rfl, hgb, hgl⟩ := HS.out.row hz
          obtain ⟨px, hpx, hrx⟩ := HS.out.rd
          obtain ⟨o0, ho0⟩ : ∃ o, os[0]? = some o := ⟨_, List.getElem?_eq_getElem hz⟩
          obtain ⟨oe, hoe⟩ : ∃ o, os[os.length - 1]? = some o := ⟨_, List.getElem?_eq_getElem (by omega)⟩
          have Ho0 := hide ho0
          have Hoe := hide hoe
          have Hfew := hide HS.out.few
          clear ho0 hoe
          go_wp2_with fail
          refine (pick_any rb A n c px 24 wx hrx (by omega) (by omega)).mono ?_
          rintro e w2 ⟨⟨y, rfl, hy, _⟩, hr2, ht2⟩
          have HS2 := hide (HS.out.turned (P' := p + 740) (Grew.of_turn ht2) hr2 (by omega))
          clear HS hrx ht2 hr2 hy
          by_cases y0 : y = 0
          · subst y0
            have hbA := (Below.refl w2.heap.size w2).alloc (Nat.le_refl _) (.cells #[.int .i64 (-1), .int .i64 20] 3)
            have HA := hide (HS2.out.later hbA)
            have lA := Lies.new w2 #[.int .i64 (-1), .int .i64 20] 3
            obtain ⟨pa, hpa, hra⟩ := HA.out.rd
            have hne : w2.heap.size ≠ rb := by have := HN.out; have := HS2.out.grew.size; omega
            have hgn : g ≠ rb := by have := HN.out; omega
            clear HS2 hbA
            go_wp2_with fail
            refine (one_any rb A n c pa w2.heap.size 2 2 [-1, 20] _ hra (by omega) rfl (by omega) (by omega) hne (fun k z hz => by
              have := lA.cell k
              rw [this]
              match k, hz with
              | 0, hz => simpa using hz
              | 1, hz => simpa using hz
              | k + 2, hz => simp at hz)).mono ?_
            rintro e w3 ⟨⟨x, hx, rfl⟩, hr3, ht3⟩
            have hx64 : In64 x := by
              simp at hx
              rcases hx with rfl | rfl <;> constructor <;> omega
            have HS3 := hide (HA.out.turned (P' := p + 760) (Grew.of_turn ht3) hr3 (by omega))
            obtain ⟨c0, _, f0, _⟩ := HS3.out.cells Ho0.out
            have HF0 := hide (HS3.out.setCode Ho0.out hx64)
            rw [Nat.zero_mul] at HF0 c0 f0
            have HF := hide (show Ops2 rb A n c (p + 800) w (.returned (.slice (some ⟨g, 0, none⟩) os.length cb)) (w3.setCell ⟨g, 0, none⟩ (.int .i64 x)) from ⟨_, _, cb, by rw [List.length_set], HF0.out.more (by omega)⟩)
            clear hra lA HA hx hx64 hr3 ht3 HS3 HF0
            go_wp2
            go_ret
            exact HF.out
          · have y0' : ¬ (y : Int) = 0 := by omega
            by_cases y1 : y = 1
            · subst y1
              have hbA := (Below.refl w2.heap.size w2).alloc (Nat.le_refl _) (.cells #[.int .i64 (-1), .int .i64 1000, .int .i64 1] 3)
              have HA := hide (HS2.out.later hbA)
              have lA := Lies.new w2 #[.int .i64 (-1), .int .i64 1000, .int .i64 1] 3
              obtain ⟨pa, hpa, hra⟩ := HA.out.rd
              have hne : w2.heap.size ≠ rb := by have := HN.out; have := HS2.out.grew.size; omega
              have hgn : g ≠ rb := by have := HN.out; omega
              have hfw := Hfew.out
              have hi0 : (0 : Int) ≤ (os.length : Int) - 1 := by omega
              have hi1 : (os.length : Int) - 1 < (os.length : Int) := by omega
              clear HS2 hbA
              go_wp2_with fail
              refine (one_any rb A n c pa w2.heap.size 3 3 [-1, 1000, 1] _ hra (by omega) rfl (by omega) (by omega) hne (fun k z hz => by
                have := lA.cell k
                rw [this]
                match k, hz with
                | 0, hz => simpa using hz
                | 1, hz => simpa using hz
                | 2, hz => simpa using hz
                | k + 3, hz => simp at hz)).mono ?_
              rintro e w3 ⟨⟨x, hx, rfl⟩, hr3, ht3⟩
              have hx64 : In64 x := by
                simp at hx
                rcases hx with rfl | rfl | rfl <;> constructor <;> omega
              have HS3 := hide (HA.out.turned (P' := p + 760) (Grew.of_turn ht3) hr3 (by omega))
              obtain ⟨_, c0, _, f0⟩ := HS3.out.cells Hoe.out
              have HF0 := hide (HS3.out.setArg Hoe.out hx64)
              have HF := hide (show Ops2 rb A n c (p + 800) w (.returned (.slice (some ⟨g, 0, none⟩) os.length cb)) (w3.setCell ⟨g, (os.length - 1) * 2 + 1, none⟩ (.int .i64 x)) from ⟨_, _, cb, by rw [List.length_set], HF0.out.more (by omega)⟩)
              clear hra lA HA hx hx64 hr3 ht3 HS3 HF0
              go_wp2
              go_ret
              exact HF.out
            · have y1' : ¬ (y : Int) = 1 := by omega
              have HF := hide (show Ops2 rb A n c (p + 800) w (.returned (.slice (some ⟨g, 0, none⟩) os.length cb)) w2 from ⟨os, _, cb, rfl, HS2.out.more (by omega)⟩)
              clear HS2
              go_wp2
              go_ret
              exact HF.out
        · have hz' : ¬ (0 : Int) < (os.length : Int) := by omega
          have HF := hide (show Ops2 rb A n c (p + 800) w (.returned (.slice B os.length cb)) wx from ⟨os, B, cb, rfl, HS.out.more (by omega)⟩)
          clear HS
          go_wp2
          go_ret
          exact HF.out
      · have y0' : ¬ (y : Int) = 0 := by omega
        have HS := HS7
        clear HS7
        go_upto_region 9 with fail
        generalize w7 = wx at HS ⊢
        obtain ⟨B, hB⟩ : ∃ B, B = some (⟨g, 0, none⟩ : Addr) := ⟨_, rfl⟩
        rw [← hB] at HS ⊢
        clear hB
        have HN := hide HS.out.nr
        by_cases hz : 0 < os.length
        · have hz' : (0 : Int) < (os.length : Int) := by omega
          obtain ⟨g, rfl, hgb, hgl⟩ := HS.out.row hz
          obtain ⟨px, hpx, hrx⟩ := HS.out.rd
          obtain ⟨o0, ho0⟩ : ∃ o, os[0]? = some o := ⟨_, List.getElem?_eq_getElem hz⟩
          obtain ⟨oe, hoe⟩ : ∃ o, os[os.length - 1]? = some o := ⟨_, List.getElem?_eq_getElem (by omega)⟩
          have Ho0 := hide ho0
          have Hoe := hide hoe
          have Hfew := hide HS.out.few
          clear ho0 hoe
          go_wp2_with fail
          refine (pick_any rb A n c px 24 wx hrx (by omega) (by omega)).mono ?_
          rintro e w2 ⟨⟨y, rfl, hy, _⟩, hr2, ht2⟩
          have HS2 := hide (HS.out.turned (P' := p + 740) (Grew.of_turn ht2) hr2 (by omega))
          clear HS hrx ht2 hr2 hy
          by_cases y0 : y = 0
          · subst y0
            have hbA := (Below.refl w2.heap.size w2).alloc (Nat.le_refl _) (.cells #[.int .i64 (-1), .int .i64 20] 3)
            have HA := hide (HS2.out.later hbA)
            have lA := Lies.new w2 #[.int .i64 (-1), .int .i64 20] 3
            obtain ⟨pa, hpa, hra⟩ := HA.out.rd
            have hne : w2.heap.size ≠ rb := by have := HN.out; have := HS2.out.grew.size; omega
            have hgn : g ≠ rb := by have := HN.out; omega
            clear HS2 hbA
            go_wp2_with fail
            refine (one_any rb A n c pa w2.heap.size 2 2 [-1, 20] _ hra (by omega) rfl (by omega) (by omega) hne (fun k z hz => by
              have := lA.cell k
              rw [this]
              match k, hz with
              | 0, hz => simpa using hz
              | 1, hz => simpa using hz
              | k + 2, hz => simp at hz)).mono ?_
            rintro e w3 ⟨⟨x, hx, rfl⟩, hr3, ht3⟩
            have hx64 : In64 x := by
              simp at hx
              rcases hx with rfl | rfl <;> constructor <;> omega
            have HS3 := hide (HA.out.turned (P' := p + 760) (Grew.of_turn ht3) hr3 (by omega))
            obtain ⟨c0, _, f0, _⟩ := HS3.out.cells Ho0.out
            have HF0 := hide (HS3.out.setCode Ho0.out hx64)
            rw [Nat.zero_mul] at HF0 c0 f0
            have HF := hide (show Ops2 rb A n c (p + 800) w (.returned (.slice (some ⟨g, 0, none⟩) os.length cb)) (w3.setCell ⟨g, 0, none⟩ (.int .i64 x)) from ⟨_, _, cb, by rw [List.length_set], HF0.out.more (by omega)⟩)
            clear hra lA HA hx hx64 hr3 ht3 HS3 HF0
            go_wp2
            go_ret
            exact HF.out
          · have y0' : ¬ (y : Int) = 0 := by omega
            by_cases y1 : y = 1
            · subst y1
              have hbA := (Below.refl w2.heap.size w2).alloc (Nat.le_refl _) (.cells #[.int .i64 (-1), .int .i64 1000, .int .i64 1] 3)
              have HA := hide (HS2.out.later hbA)
              have lA := Lies.new w2 #[.int .i64 (-1), .int .i64 1000, .int .i64 1] 3
              obtain ⟨pa, hpa, hra⟩ := HA.out.rd
              have hne : w2.heap.size ≠ rb := by have := HN.out; have := HS2.out.grew.size; omega
              have hgn : g ≠ rb := by have := HN.out; omega
              have hfw := Hfew.out
              have hi0 : (0 : Int) ≤ (os.length : Int) - 1 := by omega
              have hi1 : (os.length : Int) - 1 < (os.length : Int) := by omega
              clear HS2 hbA
              go_wp2_with fail
              refine (one_any rb A n c pa w2.heap.size 3 3 [-1, 1000, 1] _ hra (by omega) rfl (by omega) (by omega) hne (fun k z hz => by
                have := lA.cell k
                rw [this]
                match k, hz with
                | 0, hz => simpa using hz
                | 1, hz => simpa using hz
                | 2, hz => simpa using hz
                | k + 3, hz => simp at hz)).mono ?_
              rintro e w3 ⟨⟨x, hx, rfl⟩, hr3, ht3⟩
              have hx64 : In64 x := by
                simp at hx
                rcases hx with rfl | rfl | rfl <;> constructor <;> omega
              have HS3 := hide (HA.out.turned (P' := p + 760) (Grew.of_turn ht3) hr3 (by omega))
              obtain ⟨_, c0, _, f0⟩ := HS3.out.cells Hoe.out
              have HF0 := hide (HS3.out.setArg Hoe.out hx64)
              have HF := hide (show Ops2 rb A n c (p + 800) w (.returned (.slice (some ⟨g, 0, none⟩) os.length cb)) (w3.setCell ⟨g, (os.length - 1) * 2 + 1, none⟩ (.int .i64 x)) from ⟨_, _, cb, by rw [List.length_set], HF0.out.more (by omega)⟩)
              clear hra lA HA hx hx64 hr3 ht3 HS3 HF0
              go_wp2
              go_ret
              exact HF.out
            · have y1' : ¬ (y : Int) = 1 := by omega
              have HF := hide (show Ops2 rb A n c (p + 800) w (.returned (.slice (some ⟨g, 0, none⟩) os.length cb)) w2 from ⟨os, _, cb, rfl, HS2.out.more (by omega)⟩)
              clear HS2
              go_wp2
              go_ret
              exact HF.out
        · have hz' : ¬ (0 : Int) < (os.length : Int) := by omega
          have HF := hide (show Ops2 rb A n c (p + 800) w (.returned (.slice B os.length cb)) wx from ⟨os, B, cb, rfl, HS.out.more (by omega)⟩)
          clear HS
          go_wp2
          go_ret
          exact HF.out
end Go.Proofs.YtbihgafkmmcjlaaDoor
