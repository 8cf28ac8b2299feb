/-
  The walk of the law FnRenumberGraph: for every text it returns true and writes nothing that was there.
-/
import Derived.Test.YtigelbilfddhgabDrawRN
import Derived.Test.YtigelbilfddhgabRenI
import Derived.Test.YtigelbilfddhgabRenS
import Derived.Test.YtigelbilfddhgabPjAk
import Derived.Test.YtigelbilfddhgabSameGI
import Derived.Test.YtigelbilfddhgabPjAc
import Derived.Test.YtigelbilfddhgabPjAd
import Derived.Deep.RegionHeld3
namespace Go.Proofs.Ytigelbilfddhgab
open Go.RowKit Go.Maps
set_option linter.unusedVariables false

/-- what stays while the law looks at the renumbered graph -/
structure LawN (w wr : World) (bg g cap : Nat) (ns : List Nd) (r : Int) (Aq : Option Addr) (os : List Int) (bo : Nat) (Ao : Option Addr) (co : Nat) (ms : List Nd) (rt : Int) : Prop where
  bel : Below w.heap.size w wr
  l : Lies wr bg #[.slice (some ⟨g, 0, none⟩) ns.length cap, .int .i64 r] 25
  nd : NdsAt wr wr.heap.size (some ⟨g, 0, none⟩) ns
  ord : IntsAt wr wr.heap.size Aq os
  lo : Lies wr bo #[.slice Ao ms.length co, .int .i64 rt] 25
  out : NdsAt wr wr.heap.size Ao ms

theorem LawN.below {w wr w' : World} {bg g cap : Nat} {ns : List Nd} {r : Int} {Aq : Option Addr} {os : List Int} {bo : Nat} {Ao : Option Addr} {co : Nat} {ms : List Nd} {rt : Int} (h : LawN w wr bg g cap ns r Aq os bo Ao co ms rt) (hb : Below wr.heap.size wr w') : LawN w w' bg g cap ns r Aq os bo Ao co ms rt :=
  ⟨h.bel.trans (hb.mono h.bel.size), h.l.below hb h.l.lt, h.nd.later hb (Nat.le_refl _), h.ord.later hb (Nat.le_refl _), h.lo.below hb h.lo.lt, h.out.later hb (Nat.le_refl _)⟩

theorem LawN.cells {w wr : World} {bg g cap : Nat} {ns : List Nd} {r : Int} {Aq : Option Addr} {os : List Int} {bo : Nat} {Ao : Option Addr} {co : Nat} {ms : List Nd} {rt : Int} (h : LawN w wr bg g cap ns r Aq os bo Ao co ms rt) :
    wr.cell? ⟨bg, 0, none⟩ = some (.slice (some ⟨g, 0, none⟩) ns.length cap) ∧ wr.cell? ⟨bg, 1, none⟩ = some (.int .i64 r) ∧ wr.cell? ⟨bo, 0, none⟩ = some (.slice Ao ms.length co) ∧ wr.cell? ⟨bo, 1, none⟩ = some (.int .i64 rt) := by
  have e0 := h.l.cell 0
  have e1 := h.l.cell 1
  have e2 := h.lo.cell 0
  have e3 := h.lo.cell 1
  simp at e0 e1 e2 e3
  exact ⟨e0, e1, e2, e3⟩

theorem renNs_facts' (ns : List Nd) (r : Int) (os : List Int) : SmallN (renNs ns r os) ∧ WfN (renNs ns r os) := by
  unfold renNs
  split
  · next h =>
    have hp := h.2.pickable h.1
    have hv := pick_valid h.1 hp
    refine ⟨⟨by rw [pickNs_len]; have := hp.few; omega, fun n hn => ?_⟩, pick_wf h.1 hp⟩
    have := (hv.nodes n hn).few
    omega
  · exact ⟨⟨by simp, fun n hn => by simp at hn⟩, fun n hn => by simp at hn⟩

set_option maxRecDepth 100000 in
set_option maxHeartbeats 4000000 in
theorem lawRN_any (A : Option Addr) (n c : Nat) (w : World) (h : BytesAt w w.heap.size A n) (hc : n ≤ c) (hn : n ≤ 9223372036854775807) :
    Calls Try.prog 3 #[.slice A n c] w fun e w' => e = .returned (.bool true) ∧ Below w.heap.size w w' := by
  by_cases hbig : 1048576 < n
  · have d : decide ((1048576 : Int) < (n : Int)) = true := by simp; omega
    go_enter Try.func3, Try.ntmps3
    go_wp2
    go_ret
    exact ⟨rfl, Below.refl _ _⟩
  · have d : decide ((1048576 : Int) < (n : Int)) = false := by simp; omega
    go_enter Try.func3, Try.ntmps3
    go_wp2_with fail
    refine (drawRenumber_any A n c w h hc hn).mono ?_
    rintro e w1 ⟨g, cap, ns, r, Aq, os, cq, rfl, hnds, hr64, hiq, hcq, hb1⟩
    have hb2 := hb1.alloc hb1.size (.cells #[.slice (some ⟨g, 0, none⟩) ns.length cap, .int .i64 r] 25)
    have l2 := Lies.new w1 #[.slice (some ⟨g, 0, none⟩) ns.length cap, .int .i64 r] 25
    have hba := (Below.refl w1.heap.size w1).alloc (Nat.le_refl _) (.cells #[.slice (some ⟨g, 0, none⟩) ns.length cap, .int .i64 r] 25)
    have hn2 := hnds.later hba (Nat.le_refl _)
    have hq2 := hiq.later hba (Nat.le_refl _)
    have hsz := hb1.size
    have hwf := hide hnds.wf
    have e0 := l2.cell 0
    have e1 := l2.cell 1
    simp at e0 e1
    clear hnds hb1 h hiq hba
    go_wp2_with fail
    generalize w1.alloc (.cells #[.slice (some ⟨g, 0, none⟩) ns.length cap, .int .i64 r] 25) = w2 at hb2 l2 hn2 hq2 e0 e1 ⊢
    generalize w1.heap.size = bg at l2 hsz e0 e1 ⊢
    have HPd : Hid ((ValidG ns r ∧ IsOrd os ns.length ∧ ValidG (renNs ns r os) (renR ns r os) ∧ codeOf (renNs ns r os) (renR ns r os) = codeOf ns r ∧ renNs (renNs ns r os) (renR ns r os) (invOf os) = ns ∧ renR (renNs ns r os) (renR ns r os) (invOf os) = r ∧ 0 < (renNs ns r os).length) ∨ renNs ns r os = []) := hide (by
      by_cases hv : ValidG ns r ∧ IsOrd os ns.length
      · obtain ⟨h1, h2, h3⟩ := ren_valid hv.1 hv.2
        obtain ⟨h4, h5⟩ := ren_back hv.1 hv.2
        refine .inl ⟨hv.1, hv.2, h1, h2, h4, h5, ?_⟩
        rw [h3]
        have := hv.1.root0
        have := hv.1.root
        omega
      · refine .inr ?_
        unfold renNs
        rw [if_neg hv])
    obtain ⟨hmsm, hmwf⟩ := renNs_facts' ns r os
    have Hmwf := hide hmwf
    have HI := implRenumber_any (some ⟨g, 0, none⟩) ns cap r Aq os cq w2 hn2 hq2
    have HSP := hide (fun (w : World) (hr : NdsAt w w.heap.size (some ⟨g, 0, none⟩) ns) (ho : IntsAt w w.heap.size Aq os) => specRenumber_any (some ⟨g, 0, none⟩) ns cap r Aq os cq w hr ho hcq)
    refine HI.mono ?_
    clear HI hmwf
    rintro e w3 ⟨Ao, co, rfl, hoO, hb3⟩
    generalize hmd : renNs ns r os = ms at hoO hmsm Hmwf HPd HSP ⊢
    generalize hrd : renR ns r os = rt at HPd HSP ⊢
    have hml := hmsm.len
    clear hmd hrd
    have hba : Below w3.heap.size w3 (w3.alloc (.cells #[.slice Ao ms.length co, .int .i64 rt] 25)) := (Below.refl _ _).alloc (Nat.le_refl _) _
    have hb4 := hb3.trans (hba.mono hb3.size)
    have P4 : LawN w (w3.alloc (.cells #[.slice Ao ms.length co, .int .i64 rt] 25)) bg g cap ns r Aq os w3.heap.size Ao co ms rt :=
      ⟨hb2.trans (hb4.mono hb2.size), l2.below hb4 l2.lt, hn2.later hb4 (Nat.le_refl _), hq2.later hb4 (Nat.le_refl _), Lies.new _ _ _, (hoO.nds Hmwf.out (by omega)).later hba (Nat.le_refl _)⟩
    clear l2 hn2 hq2 hb2 hb3 hb4 hba hoO e0 e1
    obtain ⟨e0, e1, e2, e3⟩ := P4.cells
    have hlg : bg < (w3.alloc (.cells #[.slice Ao ms.length co, .int .i64 rt] 25)).heap.size := P4.l.lt
    have hlo : w3.heap.size < (w3.alloc (.cells #[.slice Ao ms.length co, .int .i64 rt] 25)).heap.size := P4.lo.lt
    go_wp2_with fail
    generalize w3.alloc (.cells #[.slice Ao ms.length co, .int .i64 rt] 25) = w4 at P4 e0 e1 e2 e3 hlg hlo ⊢
    generalize w3.heap.size = bo at P4 e2 e3 hlo ⊢
    have P4h := hide P4
    clear P4
    rcases HPd.out with ⟨hv, hio, hvm, hcode, hback, hbackr, hpos⟩ | hnil
    · have HVv := hide hv
      have HIo := hide hio
      have HVm := hide (tf_true hvm)
      have HSm := hide (show tf (SameG ms rt ns r) = true from tf_true ⟨hvm, hv, hcode⟩)
      have HBk := hide hback
      have HBr := hide hbackr
      have hz : ((ms.length : Int) == 0) = false := beq_eq_false_iff_ne.2 (by omega)
      clear hv hio hvm hcode hback hbackr HPd
      go_region_held3 (fun w' => w'.cell? ⟨bg, 0, none⟩ = some (.slice (some ⟨g, 0, none⟩) ns.length cap) ∧ w'.cell? ⟨bg, 1, none⟩ = some (.int .i64 r) ∧ w'.cell? ⟨bo, 0, none⟩ = some (.slice Ao ms.length co) ∧ w'.cell? ⟨bo, 1, none⟩ = some (.int .i64 rt))
        (first
          | (go_split_ands; refine ⟨?_, ?_, ?_, ?_⟩ <;> assumption))
        (first
          | (go_at_call 7; refine (HSP.out w4.drew (P4h.out.nd.later (Below.refl _ _).drew (Nat.le_refl _)) (P4h.out.ord.later (Below.refl _ _).drew (Nat.le_refl _))).mono ?_; rintro e w5 ⟨Ap, cp, rfl, hrow, hb5⟩; have hbw : Below w4.heap.size w4 w5 := (Below.refl _ _).drew.trans (hb5.mono (by simp)); have p0 := (hbw.cell (p := ⟨bg, 0, none⟩) hlg).trans e0; have p1 := (hbw.cell (p := ⟨bg, 1, none⟩) hlg).trans e1; have p2 := (hbw.cell (p := ⟨bo, 0, none⟩) hlo).trans e2; have p3 := (hbw.cell (p := ⟨bo, 1, none⟩) hlo).trans e3)
          | (go_at_call 6; refine (equalGraph_same Ao Ap ms rt co cp w5 (P4h.out.out.later hbw (Nat.le_refl _)) (hrow.nds Hmwf.out (by omega))).mono ?_; rintro e w6 ⟨rfl, hb6⟩; have hbx : Below w4.heap.size w4 w6 := hbw.trans (hb6.mono hbw.size); have o0 := (hbx.cell (p := ⟨bg, 0, none⟩) hlg).trans e0; have o1 := (hbx.cell (p := ⟨bg, 1, none⟩) hlg).trans e1; have o2 := (hbx.cell (p := ⟨bo, 0, none⟩) hlo).trans e2; have o3 := (hbx.cell (p := ⟨bo, 1, none⟩) hlo).trans e3))
      have P6 := hide (P4h.out.below hbx)
      clear hbx hbw hb5 hb6 hrow p0 p1 p2 p3 o0 o1 o2 o3 e0 e1 e2 e3 hlg hlo P4h
      have hol := HIo.out.len
      have hnsl := HVv.out.few
      have hmk := run_make_row' (P := Try.prog) 26 3 (.int .i64 0) 8 Try.underlying26 infoInt rfl .i64 .i64 os.length (by omega) (by omega)
      have hrow0 := World.rowIs_made w6 (.int .i64 0) os.length 3
      have hS0 : RenS w6 (w6.alloc (.cells (madeCells #[.int .i64 0] os.length) 3)) os 0 := ⟨(Below.refl _ _).alloc (Nat.le_refl _) _, ⟨_, hrow0, fun i x hi => absurd hi (by omega)⟩⟩
      have HS0 := hide hS0
      have hos12 : os.length ≤ 12 := by omega
      clear hS0 hrow0 hol
      go_wp2_with fail
      clear hmk
      generalize w6.alloc (.cells (madeCells #[.int .i64 0] os.length) 3) = W2 at HS0 ⊢
      go_loopg [7] os.length (fun gk iv wr => ∃ k : Nat, k ≤ os.length ∧ gk = os.length - k ∧ iv = .int .i64 (k : Int) ∧ RenS w6 wr os k)
      case atStart => exact ⟨0, Nat.zero_le _, rfl, rfl, HS0.out⟩
      case round =>
        clear HS0
        obtain ⟨k, hk, rfl, rfl, hS⟩ := hrel
        by_cases hlt : k < os.length
        · obtain ⟨b, off, x, rfl, hbl, hx, hm, hc⟩ := (P6.out.ord.below hS.bel).at_ hlt
          have hxr := HIo.out.rng x hm
          obtain ⟨j, rfl⟩ := Int.eq_ofNat_of_zero_le hxr.1
          have hj : j < os.length := by have := HIo.out.len; omega
          have HX := hide hx
          have HS := hide hS
          obtain ⟨f, hf, _⟩ := hS.row
          have q1 := World.rowIs.cell hf hj
          have q2 := World.rowIs.frozen hf j
          have hk1 : (0 : Int) ≤ (k : Int) := by omega
          have hk2 : (k : Int) < (os.length : Int) := by omega
          have hk3 : (0 : Int) ≤ (j : Int) := by omega
          have hk4 : (j : Int) < (os.length : Int) := by omega
          have HN2 := hide (HS.out.step HIo.out HX.out)
          clear hx hS hm hbl hxr hf
          go_wp2
          go_roundg (os.length - (k + 1))
          case measure => omega
          case rel => exact ⟨k + 1, by omega, rfl, by go_num, HN2.out⟩
        · obtain rfl : k = os.length := by omega
          have hi := hS.fin HIo.out (by have := HIo.out.len; have := HVv.out.few; omega)
          have HP := hide (P6.out.below hS.bel)
          have HBI := hide hi
          obtain ⟨e0, e1, e2, e3⟩ := HP.out.cells
          have hlg := HP.out.l.lt
          have hlo := HP.out.lo.lt
          have hil := invOf_len os
          have HIL := hide hil
          have HJ0 := hide (fun (w : World) (hr : NdsAt w w.heap.size Ao ms) (ho : IntsAt w w.heap.size (some ⟨w6.heap.size, 0, none⟩) (invOf os)) => by
            have := implRenumber_any Ao ms co rt (some ⟨w6.heap.size, 0, none⟩) (invOf os) os.length w hr ho
            rw [HBk.out, HBr.out, HIL.out] at this
            exact this)
          have HWn : Hid (WfN ns) := hide (fun n hn => hwf.out n hn)
          have hnsl2 := HVv.out.few
          clear hlt hS hi hil HIo HBk HBr P6
          go_wp2_with fail
          go_region_held3 (fun w' => w'.cell? ⟨bg, 0, none⟩ = some (.slice (some ⟨g, 0, none⟩) ns.length cap) ∧ w'.cell? ⟨bg, 1, none⟩ = some (.int .i64 r) ∧ w'.cell? ⟨bo, 0, none⟩ = some (.slice Ao ms.length co) ∧ w'.cell? ⟨bo, 1, none⟩ = some (.int .i64 rt))
            (first
              | (go_split_ands; refine ⟨?_, ?_, ?_, ?_⟩ <;> assumption))
            (first
              | (go_at_call 8; have HJ := implValid_any Ao ms co rt wr.drew (HP.out.out.later (Below.refl _ _).drew (Nat.le_refl _)); rw [HVm.out] at HJ; refine HJ.mono ?_; clear HJ; rintro e w7 ⟨rfl, hb7⟩; have hbv : Below wr.heap.size wr w7 := (Below.refl _ _).drew.trans (hb7.mono (by simp)); have v0 := (hbv.cell (p := ⟨bg, 0, none⟩) hlg).trans e0; have v1 := (hbv.cell (p := ⟨bg, 1, none⟩) hlg).trans e1; have v2 := (hbv.cell (p := ⟨bo, 0, none⟩) hlo).trans e2; have v3 := (hbv.cell (p := ⟨bo, 1, none⟩) hlo).trans e3)
              | (go_at_call 9; have HJ := implSame_any Ao (some ⟨g, 0, none⟩) ms ns co cap rt r w7 (HP.out.out.later hbv (Nat.le_refl _)) (HP.out.nd.later hbv (Nat.le_refl _)); rw [HSm.out] at HJ; refine HJ.mono ?_; clear HJ; rintro e w8 ⟨rfl, hb8⟩; have hbw : Below wr.heap.size wr w8 := hbv.trans (hb8.mono hbv.size); have p0 := (hbw.cell (p := ⟨bg, 0, none⟩) hlg).trans e0; have p1 := (hbw.cell (p := ⟨bg, 1, none⟩) hlg).trans e1; have p2 := (hbw.cell (p := ⟨bo, 0, none⟩) hlo).trans e2; have p3 := (hbw.cell (p := ⟨bo, 1, none⟩) hlo).trans e3)
              | (go_at_call 5; refine (HJ0.out w8 (HP.out.out.later hbw (Nat.le_refl _)) (HBI.out.later hbw (Nat.le_refl _))).mono ?_; rintro e w9 ⟨Az, cz, rfl, hoQ, hb9⟩; have hbx : Below wr.heap.size wr w9 := hbw.trans (hb9.mono hbw.size); have o0 := (hbx.cell (p := ⟨bg, 0, none⟩) hlg).trans e0; have o1 := (hbx.cell (p := ⟨bg, 1, none⟩) hlg).trans e1; have o2 := (hbx.cell (p := ⟨bo, 0, none⟩) hlo).trans e2; have o3 := (hbx.cell (p := ⟨bo, 1, none⟩) hlo).trans e3)
              | (go_at_call 6; refine (equalGraph_same Az (some ⟨g, 0, none⟩) ns r cz cap w9 (hoQ.nds HWn.out (by omega)) (HP.out.nd.later hbx (Nat.le_refl _))).mono ?_; rintro e w10 ⟨rfl, hb10⟩; have hby : Below wr.heap.size wr w10 := hbx.trans (hb10.mono hbx.size); have n0 := (hby.cell (p := ⟨bg, 0, none⟩) hlg).trans e0; have n1 := (hby.cell (p := ⟨bg, 1, none⟩) hlg).trans e1; have n2 := (hby.cell (p := ⟨bo, 0, none⟩) hlo).trans e2; have n3 := (hby.cell (p := ⟨bo, 1, none⟩) hlo).trans e3))
          have HB := hide (HP.out.below hby).bel
          clear hby hbx hbw hbv hb7 hb8 hb9 hb10 hoQ
          go_wp2
          go_ret
          exact ⟨rfl, HB.out⟩
    · have hz : ((ms.length : Int) == 0) = true := by rw [hnil]; rfl
      have HNil := hide hnil
      clear hnil HPd
      go_region_held3 (fun w' => w'.cell? ⟨bg, 0, none⟩ = some (.slice (some ⟨g, 0, none⟩) ns.length cap) ∧ w'.cell? ⟨bg, 1, none⟩ = some (.int .i64 r) ∧ w'.cell? ⟨bo, 0, none⟩ = some (.slice Ao ms.length co) ∧ w'.cell? ⟨bo, 1, none⟩ = some (.int .i64 rt))
        (first
          | (go_split_ands; refine ⟨?_, ?_, ?_, ?_⟩ <;> assumption))
        (first
          | (go_at_call 7; refine (HSP.out w4.drew (P4h.out.nd.later (Below.refl _ _).drew (Nat.le_refl _)) (P4h.out.ord.later (Below.refl _ _).drew (Nat.le_refl _))).mono ?_; rintro e w5 ⟨Ap, cp, rfl, hrow, hb5⟩; have hbw : Below w4.heap.size w4 w5 := (Below.refl _ _).drew.trans (hb5.mono (by simp)); have p0 := (hbw.cell (p := ⟨bg, 0, none⟩) hlg).trans e0; have p1 := (hbw.cell (p := ⟨bg, 1, none⟩) hlg).trans e1; have p2 := (hbw.cell (p := ⟨bo, 0, none⟩) hlo).trans e2; have p3 := (hbw.cell (p := ⟨bo, 1, none⟩) hlo).trans e3)
          | (go_at_call 6; refine (equalGraph_same Ao Ap ms rt co cp w5 (P4h.out.out.later hbw (Nat.le_refl _)) (hrow.nds Hmwf.out (by omega))).mono ?_; rintro e w6 ⟨rfl, hb6⟩; have hbx : Below w4.heap.size w4 w6 := hbw.trans (hb6.mono hbw.size); have o0 := (hbx.cell (p := ⟨bg, 0, none⟩) hlg).trans e0; have o1 := (hbx.cell (p := ⟨bg, 1, none⟩) hlg).trans e1; have o2 := (hbx.cell (p := ⟨bo, 0, none⟩) hlo).trans e2; have o3 := (hbx.cell (p := ⟨bo, 1, none⟩) hlo).trans e3))
      have P6 := P4h.out.below hbx
      clear hbx hbw hb5 hb6 hrow p0 p1 p2 p3 o0 o1 o2 o3 e0 e1 e2 e3 hlg hlo
      obtain ⟨e0, e1, e2, e3⟩ := P6.cells
      have P6h := hide P6
      have hlg := P6.l.lt
      have hlo := P6.lo.lt
      clear P6
      go_wp2_with fail
      go_region_held3 (fun w' => w'.cell? ⟨bg, 0, none⟩ = some (.slice (some ⟨g, 0, none⟩) ns.length cap) ∧ w'.cell? ⟨bg, 1, none⟩ = some (.int .i64 r) ∧ w'.cell? ⟨bo, 0, none⟩ = some (.slice Ao ms.length co) ∧ w'.cell? ⟨bo, 1, none⟩ = some (.int .i64 rt))
        (first
          | (go_split_ands; refine ⟨?_, ?_, ?_, ?_⟩ <;> assumption))
        (first
          | (go_at_call 7; refine (HSP.out w6.drew (P6h.out.nd.later (Below.refl _ _).drew (Nat.le_refl _)) (P6h.out.ord.later (Below.refl _ _).drew (Nat.le_refl _))).mono ?_; rintro e w7 ⟨Ap, cp, rfl, hrow, hb7⟩; have hbw : Below w6.heap.size w6 w7 := (Below.refl _ _).drew.trans (hb7.mono (by simp)); have p0 := (hbw.cell (p := ⟨bg, 0, none⟩) hlg).trans e0; have p1 := (hbw.cell (p := ⟨bg, 1, none⟩) hlg).trans e1; have p2 := (hbw.cell (p := ⟨bo, 0, none⟩) hlo).trans e2; have p3 := (hbw.cell (p := ⟨bo, 1, none⟩) hlo).trans e3)
          | (go_at_call 6; refine (equalGraph_same Ao Ap ms rt co cp w7 (P6h.out.out.later hbw (Nat.le_refl _)) (hrow.nds Hmwf.out (by omega))).mono ?_; rintro e w8 ⟨rfl, hb8⟩; have hbx : Below w6.heap.size w6 w8 := hbw.trans (hb8.mono hbw.size); have o0 := (hbx.cell (p := ⟨bg, 0, none⟩) hlg).trans e0; have o1 := (hbx.cell (p := ⟨bg, 1, none⟩) hlg).trans e1; have o2 := (hbx.cell (p := ⟨bo, 0, none⟩) hlo).trans e2; have o3 := (hbx.cell (p := ⟨bo, 1, none⟩) hlo).trans e3))
      have HB := hide (P6h.out.below hbx).bel
      clear hbx hbw hb7 hb8 hrow
      go_wp2
      go_ret
      exact ⟨rfl, HB.out⟩

end Go.Proofs.Ytigelbilfddhgab
