/-
  The walk of the law FnLeastGraph: for every text it returns true and writes nothing that was there. Made by wip/gen/genpl.py.
-/
import Derived.Test.YtcblcmdfeoijpabDrawLL
import Derived.Test.YtcblcmdfeoijpabLstS
import Derived.Test.YtcblcmdfeoijpabPjAw
import Derived.Test.YtcblcmdfeoijpabPjAx
import Derived.Test.YtcblcmdfeoijpabPjAr
import Derived.Test.YtcblcmdfeoijpabPjAb
import Derived.Test.YtcblcmdfeoijpabPjAv
import Derived.Deep.RegionHeld3
namespace Go.Proofs.Ytcblcmdfeoijpab
open Go.RowKit Go.Maps
set_option linter.unusedVariables false
set_option linter.unusedSimpArgs false

/-- what stays while the law looks at the answer -/
structure LawQ (w wr : World) (bg g cap : Nat) (ns : List Nd) (r : Int) (bo : Nat) (Ao : Option Addr) (co : Nat) (ms : List Nd) (rt : Int) : Prop where
  bel : Below w.heap.size w wr
  l : Lies wr bg #[.slice (some ⟨g, 0, none⟩) ns.length cap, .int .i64 r] 25
  nd : NdsAt wr wr.heap.size (some ⟨g, 0, none⟩) ns
  lo : Lies wr bo #[.slice Ao ms.length co, .int .i64 rt] 25
  out : NdsAt wr wr.heap.size Ao ms

theorem LawQ.below {w wr w' : World} {bg g cap : Nat} {ns : List Nd} {r : Int} {bo : Nat} {Ao : Option Addr} {co : Nat} {ms : List Nd} {rt : Int} (h : LawQ w wr bg g cap ns r bo Ao co ms rt) (hb : Below wr.heap.size wr w') : LawQ w w' bg g cap ns r bo Ao co ms rt :=
  ⟨h.bel.trans (hb.mono h.bel.size), h.l.below hb h.l.lt, h.nd.later hb (Nat.le_refl _), h.lo.below hb h.lo.lt, h.out.later hb (Nat.le_refl _)⟩

theorem LawQ.cells {w wr : World} {bg g cap : Nat} {ns : List Nd} {r : Int} {bo : Nat} {Ao : Option Addr} {co : Nat} {ms : List Nd} {rt : Int} (h : LawQ w wr bg g cap ns r bo Ao co ms rt) :
    wr.cell? ⟨bg, 0, none⟩ = some (.slice (some ⟨g, 0, none⟩) ns.length cap) ∧ wr.cell? ⟨bg, 1, none⟩ = some (.int .i64 r) ∧ wr.cell? ⟨bo, 0, none⟩ = some (.slice Ao ms.length co) ∧ wr.cell? ⟨bo, 1, none⟩ = some (.int .i64 rt) := by
  have e0 := h.l.cell 0
  have e1 := h.l.cell 1
  have e2 := h.lo.cell 0
  have e3 := h.lo.cell 1
  simp at e0 e1 e2 e3
  exact ⟨e0, e1, e2, e3⟩

theorem OwnNs.capQ {w : World} {lo hi : Nat} {A : Option Addr} {c : Nat} {ns : List Nd} (h : OwnNs w lo hi A c ns) : ns.length ≤ c := by
  rcases h with ⟨_, _, h⟩ | ⟨g, _, h⟩
  · subst h; exact Nat.zero_le _
  · exact h.le

/-- the root of a least graph -/
def lstR (ns : List Nd) (r : Int) : Int := 0
theorem implLeastR_any (A : Option Addr) (ns : List Nd) (c : Nat) (r : Int) (w : World) (hr : NdsAt w w.heap.size A ns) (hcap : ns.length ≤ c) :
    Calls Try.prog 5 #[.agg #[.slice A ns.length c, .int .i64 r]] w (GivesG w (lstN ns r) (lstR ns r)) := implLeast_any A ns c r w hr hcap
theorem specLeastR_any (A : Option Addr) (ns : List Nd) (c : Nat) (r : Int) (w : World) (hr : NdsAt w w.heap.size A ns) :
    Calls Try.prog 7 #[.agg #[.slice A ns.length c, .int .i64 r]] w (ReadsG w (lstN ns r) (lstR ns r)) := specLeast_any A ns c r w hr

theorem lstN_wf {ns : List Nd} (r : Int) : WfN (lstN ns r) := by
  by_cases h : ValidG ns r
  · rw [lstN_yes h]
    have hg := least_valid h
    rw [pruned_yes hg]
    exact pick_wf hg (reach_pickable hg)
  · rw [lstN_no h]
    intro n hn
    simp at hn

set_option maxRecDepth 100000 in
set_option maxHeartbeats 4000000 in
theorem lawLL_any (A : Option Addr) (n c : Nat) (w : World) (h : BytesAt w w.heap.size A n) (hc : n ≤ c) (hn : n ≤ 9223372036854775807) :
    Calls Try.prog 3 #[.slice A n c] w fun e w' => e = .returned (.bool true) ∧ Below w.heap.size w w' := by
  by_cases hbig : 1048576 < n
  · have d : decide ((1048576 : Int) < (n : Int)) = true := by simp; omega
    go_enter Try.func3, Try.ntmps3
    go_wp2
    go_ret
    exact ⟨rfl, Below.refl _ _⟩
  · have d : decide ((1048576 : Int) < (n : Int)) = false := by simp; omega
    go_enter Try.func3, Try.ntmps3
    go_wp2_with fail
    refine (drawLeastGraph_any A n c w h hc hn).mono ?_
    rintro e w1 ⟨g, cap, ns, r, rfl, hnds, h1, h10, hr64, hb1, hcap⟩
    have hb2 := hb1.alloc hb1.size (.cells #[.slice (some ⟨g, 0, none⟩) ns.length cap, .int .i64 r] 25)
    have l2 := Lies.new w1 #[.slice (some ⟨g, 0, none⟩) ns.length cap, .int .i64 r] 25
    have hn2 := hnds.later ((Below.refl w1.heap.size w1).alloc (Nat.le_refl _) (.cells #[.slice (some ⟨g, 0, none⟩) ns.length cap, .int .i64 r] 25)) (Nat.le_refl _)
    have hsz := hb1.size
    have hwf := hide hnds.wf
    have e0 := l2.cell 0
    have e1 := l2.cell 1
    simp at e0 e1
    clear hnds hb1 h
    go_wp2_with fail
    generalize w1.alloc (.cells #[.slice (some ⟨g, 0, none⟩) ns.length cap, .int .i64 r] 25) = w2 at hb2 l2 hn2 e0 e1 ⊢
    generalize w1.heap.size = bg at l2 hsz e0 e1 ⊢
    have HPd : Hid ((ValidG ns r ∧ ValidG (lstN ns r) (lstR ns r) ∧ EqDeepG (lstN ns r) (lstR ns r) ns r ∧ clsN (lstN ns r) (lstN ns r).length = idNums (lstN ns r).length ∧ lstN (lstN ns r) (lstR ns r) = lstN ns r ∧ (lstN ns r).length ≤ (reachOf ns r).length ∧ 0 < (lstN ns r).length) ∨ (¬ ValidG ns r ∧ lstN ns r = [])) := hide (by
      by_cases hv : ValidG ns r
      · exact .inl ⟨hv, least_facts hv⟩
      · exact .inr ⟨hv, lstN_no hv⟩)
    have hmsm := lstN_smallN ns r
    have Hmwf : Hid (WfN (lstN ns r)) := hide (lstN_wf r)
    have HI := implLeastR_any (some ⟨g, 0, none⟩) ns cap r w2 hn2 hcap
    refine HI.mono ?_
    clear HI
    rintro e w3 ⟨Ao, co, rfl, hoO, hb3⟩
    generalize hmd : lstN ns r = ms at hoO hmsm Hmwf HPd ⊢
    have HMD := hide hmd
    have hml := hmsm.len
    clear hmd
    generalize hrd : lstR ns r = rt at hoO HPd ⊢
    have HRT := hide hrd
    clear hrd
    have hba : Below w3.heap.size w3 (w3.alloc (.cells #[.slice Ao ms.length co, .int .i64 rt] 25)) := (Below.refl _ _).alloc (Nat.le_refl _) _
    have hb4 := hb3.trans (hba.mono hb3.size)
    have hoc := hoO.capQ
    have P4 : LawQ w (w3.alloc (.cells #[.slice Ao ms.length co, .int .i64 rt] 25)) bg g cap ns r w3.heap.size Ao co ms rt :=
      ⟨hb2.trans (hb4.mono hb2.size), l2.below hb4 l2.lt, hn2.later hb4 (Nat.le_refl _), Lies.new _ _ _, (hoO.nds Hmwf.out (by omega)).later hba (Nat.le_refl _)⟩
    clear l2 hn2 hb2 hb3 hb4 hba hoO e0 e1
    obtain ⟨e0, e1, e2, e3⟩ := P4.cells
    have hlg : bg < (w3.alloc (.cells #[.slice Ao ms.length co, .int .i64 rt] 25)).heap.size := P4.l.lt
    have hlo : w3.heap.size < (w3.alloc (.cells #[.slice Ao ms.length co, .int .i64 rt] 25)).heap.size := P4.lo.lt
    go_wp2_with fail
    generalize w3.alloc (.cells #[.slice Ao ms.length co, .int .i64 rt] 25) = w4 at P4 e0 e1 e2 e3 hlg hlo ⊢
    generalize w3.heap.size = bo at P4 e2 e3 hlo ⊢
    have P4h := hide P4
    clear P4
    rcases HPd.out with ⟨hv, hvm, hed, hcls, hag, hle, hpos⟩ | ⟨hv, hnil⟩
    · have hz : ((ms.length : Int) == 0) = false := beq_eq_false_iff_ne.2 (by omega)
      have HVv := hide hv
      have HVm := hide hvm
      have HED := hide hed
      have HCls := hide hcls
      have HAg := hide hag
      have HLe := hide hle
      have HPos := hide hpos
      clear hv hvm hed hcls hag hle
      clear HPd
      go_region_held3 (fun w' => w'.cell? ⟨bg, 0, none⟩ = some (.slice (some ⟨g, 0, none⟩) ns.length cap) ∧ w'.cell? ⟨bg, 1, none⟩ = some (.int .i64 r) ∧ w'.cell? ⟨bo, 0, none⟩ = some (.slice Ao ms.length co) ∧ w'.cell? ⟨bo, 1, none⟩ = some (.int .i64 rt))
        (first
          | (go_split_ands; refine ⟨?_, ?_, ?_, ?_⟩ <;> assumption))
        (first
          | (go_at_call 7; have HJ := specLeastR_any (some ⟨g, 0, none⟩) ns cap r w4.drew (P4h.out.nd.later (Below.refl _ _).drew (Nat.le_refl _)); rw [HMD.out, HRT.out] at HJ; refine HJ.mono ?_; clear HJ; rintro e w5 ⟨Ap, cp, rfl, hrow, _, hb5⟩; have hbw : Below w4.heap.size w4 w5 := (Below.refl _ _).drew.trans (hb5.mono (by simp)); have p0 := (hbw.cell (p := ⟨bg, 0, none⟩) hlg).trans e0; have p1 := (hbw.cell (p := ⟨bg, 1, none⟩) hlg).trans e1; have p2 := (hbw.cell (p := ⟨bo, 0, none⟩) hlo).trans e2; have p3 := (hbw.cell (p := ⟨bo, 1, none⟩) hlo).trans e3)
          | (go_at_call 6; refine (equalGraph_same Ao Ap ms rt co cp w5 (P4h.out.out.later hbw (Nat.le_refl _)) (hrow.nds Hmwf.out (by omega))).mono ?_; rintro e w6 ⟨rfl, hb6⟩; have hbx : Below w4.heap.size w4 w6 := hbw.trans (hb6.mono hbw.size); have o0 := (hbx.cell (p := ⟨bg, 0, none⟩) hlg).trans e0; have o1 := (hbx.cell (p := ⟨bg, 1, none⟩) hlg).trans e1; have o2 := (hbx.cell (p := ⟨bo, 0, none⟩) hlo).trans e2; have o3 := (hbx.cell (p := ⟨bo, 1, none⟩) hlo).trans e3))
      have P6 := P4h.out.below hbx
      clear hbx hbw hb5 hb6 hrow p0 p1 p2 p3 o0 o1 o2 o3 e0 e1 e2 e3 hlg hlo
      have P6h := hide P6
      obtain ⟨e0, e1, e2, e3⟩ := P6.cells
      have hlg := P6.l.lt
      have hlo := P6.lo.lt
      clear P6
      go_wp2_with fail
      have HJ := implClassesOf_any Ao ms co rt w6 P6h.out.out hoc
      rw [cls_yes HVm.out, HCls.out] at HJ
      refine HJ.mono ?_
      clear HJ
      rintro e w7 ⟨Al, cl, rfl, hoL, hb7⟩
      have hll := idNums_len ms.length
      have P7 := hide (P6h.out.below hb7)
      have i7 := hide (hoL.ints (idNums_64 (by omega)) (by omega))
      have hat : ∀ k, k < ms.length → (idNums ms.length)[k]? = some (k : Int) := fun k hk => idNums_at hk
      generalize idNums ms.length = Rg at *
      have Hat := hide hat
      have Hll := hide hll
      clear hb7 hoL e0 e1 e2 e3 hat hlg hlo
      go_wp2_with fail
      go_loopg [6] Rg.length (fun gk iv wr => ∃ k : Nat, k ≤ Rg.length ∧ gk = Rg.length - k ∧ iv = .int .i64 (k : Int) ∧ LawQ w wr bg g cap ns r bo Ao co ms rt ∧ IntsAt wr wr.heap.size Al Rg)
      case atStart => exact ⟨0, Nat.zero_le _, rfl, rfl, P7.out, i7.out⟩
      case round =>
        clear P7 i7
        obtain ⟨k, hk, rfl, rfl, hP, hi⟩ := hrel
        have HP := hide hP
        have HI := hide hi
        by_cases hlt : k < Rg.length
        · obtain ⟨b, off, x, rfl, hbl, hx, hm, hc⟩ := hi.at_ hlt
          rw [Hat.out k (by rw [← Hll.out]; exact hlt)] at hx
          injection hx with hx
          subst hx
          have q1 : (0 : Int) ≤ (k : Int) := by omega
          have q2 : (k : Int) < (Rg.length : Int) := by omega
          have t0 : ((k : Int) != (k : Int)) = false := by simp
          clear hm hP hi
          go_wp2
          go_roundg (Rg.length - (k + 1))
          case measure => omega
          case rel => exact ⟨k + 1, by omega, rfl, by go_num, HP.out, HI.out⟩
        · obtain rfl : k = Rg.length := by omega
          have hdl : decide ((Rg.length : Int) < (Rg.length : Int)) = false := by simp
          obtain ⟨e0, e1, e2, e3⟩ := HP.out.cells
          have hlg := HP.out.l.lt
          have hlo := HP.out.lo.lt
          have HRL := hide (show decide ((ms.length : Int) ≤ ((reachOf ns r).length : Int)) = true from decide_eq_true (by have := HLe.out; omega))
          have HQt : Hid (lstR ms rt = rt) := HRT.out
          clear hlt hP hi
          go_wp2_with fail
          go_region_held3 (fun w' => w'.cell? ⟨bg, 0, none⟩ = some (.slice (some ⟨g, 0, none⟩) ns.length cap) ∧ w'.cell? ⟨bg, 1, none⟩ = some (.int .i64 r) ∧ w'.cell? ⟨bo, 0, none⟩ = some (.slice Ao ms.length co) ∧ w'.cell? ⟨bo, 1, none⟩ = some (.int .i64 rt))
            (first
              | (go_split_ands; refine ⟨?_, ?_, ?_, ?_⟩ <;> assumption))
            (first
              | (go_at_call 9; have HJ := implValid_any Ao ms co rt wr.drew (HP.out.out.later (Below.refl _ _).drew (Nat.le_refl _)); rw [tf_true HVm.out] at HJ; refine HJ.mono ?_; clear HJ; rintro e x1 ⟨rfl, hb7⟩; have hb_1 : Below wr.heap.size wr x1 := (Below.refl _ _).drew.trans (hb7.mono (by simp)); clear hb7; have p10 := (hb_1.cell (p := ⟨bg, 0, none⟩) hlg).trans e0; have p11 := (hb_1.cell (p := ⟨bg, 1, none⟩) hlg).trans e1; have p12 := (hb_1.cell (p := ⟨bo, 0, none⟩) hlo).trans e2; have p13 := (hb_1.cell (p := ⟨bo, 1, none⟩) hlo).trans e3)
              | (go_at_call 10; have HJ := implEqualDeep_any Ao (some ⟨g, 0, none⟩) ms ns co cap rt r x1 (HP.out.out.later hb_1 (Nat.le_refl _)) (HP.out.nd.later hb_1 (Nat.le_refl _)); rw [tf_true HED.out] at HJ; refine HJ.mono ?_; clear HJ; rintro e x2 ⟨rfl, hb8⟩; have hb_2 : Below wr.heap.size wr x2 := hb_1.trans (hb8.mono hb_1.size); clear hb8; have p20 := (hb_2.cell (p := ⟨bg, 0, none⟩) hlg).trans e0; have p21 := (hb_2.cell (p := ⟨bg, 1, none⟩) hlg).trans e1; have p22 := (hb_2.cell (p := ⟨bo, 0, none⟩) hlo).trans e2; have p23 := (hb_2.cell (p := ⟨bo, 1, none⟩) hlo).trans e3)
              | (go_at_call 5; have HJ := implLeastR_any Ao ms co rt x2 (HP.out.out.later hb_2 (Nat.le_refl _)) hoc; rw [HAg.out, HQt.out] at HJ; refine HJ.mono ?_; clear HJ; rintro e x3 ⟨Az, cz, rfl, hoZ, hb9⟩; have hb_3 : Below wr.heap.size wr x3 := hb_2.trans (hb9.mono hb_2.size); clear hb9; have p30 := (hb_3.cell (p := ⟨bg, 0, none⟩) hlg).trans e0; have p31 := (hb_3.cell (p := ⟨bg, 1, none⟩) hlg).trans e1; have p32 := (hb_3.cell (p := ⟨bo, 0, none⟩) hlo).trans e2; have p33 := (hb_3.cell (p := ⟨bo, 1, none⟩) hlo).trans e3)
              | (go_at_call 6; refine (equalGraph_same Az Ao ms rt cz co x3 (hoZ.nds Hmwf.out (by omega)) (HP.out.out.later hb_3 (Nat.le_refl _))).mono ?_; rintro e x4 ⟨rfl, hb10⟩; have hb_4 : Below wr.heap.size wr x4 := hb_3.trans (hb10.mono hb_3.size); clear hb10; have p40 := (hb_4.cell (p := ⟨bg, 0, none⟩) hlg).trans e0; have p41 := (hb_4.cell (p := ⟨bg, 1, none⟩) hlg).trans e1; have p42 := (hb_4.cell (p := ⟨bo, 0, none⟩) hlo).trans e2; have p43 := (hb_4.cell (p := ⟨bo, 1, none⟩) hlo).trans e3)
              | (go_at_call 11; refine (implReachOf_any (some ⟨g, 0, none⟩) ns cap r x4 (HP.out.nd.later hb_4 (Nat.le_refl _))).mono ?_; rintro e x5 ⟨Ar, cr, rfl, hoR, hb11⟩; have hb_5 : Below wr.heap.size wr x5 := hb_4.trans (hb11.mono hb_4.size); clear hb11 hoR; have p50 := (hb_5.cell (p := ⟨bg, 0, none⟩) hlg).trans e0; have p51 := (hb_5.cell (p := ⟨bg, 1, none⟩) hlg).trans e1; have p52 := (hb_5.cell (p := ⟨bo, 0, none⟩) hlo).trans e2; have p53 := (hb_5.cell (p := ⟨bo, 1, none⟩) hlo).trans e3; have hll2 := HRL.out))
          have HB := hide (HP.out.below hb_5).bel
          clear hb_1 hb_2 hb_3 hb_4 hb_5 hoZ
          go_wp2
          go_ret
          exact ⟨by rw [show decide (ms.length ≤ (reachOf ns r).length) = true from decide_eq_true (by have := HLe.out; omega)]; rfl, HB.out⟩
    · have HN := hide hv
      have hz : ((ms.length : Int) == 0) = true := by rw [hnil]; rfl
      have HNil := hide hnil
      clear hv hnil HPd
      go_region_held3 (fun w' => w'.cell? ⟨bg, 0, none⟩ = some (.slice (some ⟨g, 0, none⟩) ns.length cap) ∧ w'.cell? ⟨bg, 1, none⟩ = some (.int .i64 r) ∧ w'.cell? ⟨bo, 0, none⟩ = some (.slice Ao ms.length co) ∧ w'.cell? ⟨bo, 1, none⟩ = some (.int .i64 rt))
        (first
          | (go_split_ands; refine ⟨?_, ?_, ?_, ?_⟩ <;> assumption))
        (first
          | (go_at_call 7; have HJ := specLeastR_any (some ⟨g, 0, none⟩) ns cap r w4.drew (P4h.out.nd.later (Below.refl _ _).drew (Nat.le_refl _)); rw [HMD.out, HRT.out] at HJ; refine HJ.mono ?_; clear HJ; rintro e w5 ⟨Ap, cp, rfl, hrow, _, hb5⟩; have hbw : Below w4.heap.size w4 w5 := (Below.refl _ _).drew.trans (hb5.mono (by simp)); have p0 := (hbw.cell (p := ⟨bg, 0, none⟩) hlg).trans e0; have p1 := (hbw.cell (p := ⟨bg, 1, none⟩) hlg).trans e1; have p2 := (hbw.cell (p := ⟨bo, 0, none⟩) hlo).trans e2; have p3 := (hbw.cell (p := ⟨bo, 1, none⟩) hlo).trans e3)
          | (go_at_call 6; refine (equalGraph_same Ao Ap ms rt co cp w5 (P4h.out.out.later hbw (Nat.le_refl _)) (hrow.nds Hmwf.out (by omega))).mono ?_; rintro e w6 ⟨rfl, hb6⟩; have hbx : Below w4.heap.size w4 w6 := hbw.trans (hb6.mono hbw.size); have o0 := (hbx.cell (p := ⟨bg, 0, none⟩) hlg).trans e0; have o1 := (hbx.cell (p := ⟨bg, 1, none⟩) hlg).trans e1; have o2 := (hbx.cell (p := ⟨bo, 0, none⟩) hlo).trans e2; have o3 := (hbx.cell (p := ⟨bo, 1, none⟩) hlo).trans e3))
      have P6 := P4h.out.below hbx
      clear hbx hbw hb5 hb6 hrow p0 p1 p2 p3 o0 o1 o2 o3 e0 e1 e2 e3 hlg hlo
      obtain ⟨e0, e1, e2, e3⟩ := P6.cells
      have P6h := hide P6
      have hlg := P6.l.lt
      have hlo := P6.lo.lt
      clear P6
      go_wp2_with fail
      go_region_held3 (fun w' => w'.cell? ⟨bg, 0, none⟩ = some (.slice (some ⟨g, 0, none⟩) ns.length cap) ∧ w'.cell? ⟨bg, 1, none⟩ = some (.int .i64 r) ∧ w'.cell? ⟨bo, 0, none⟩ = some (.slice Ao ms.length co) ∧ w'.cell? ⟨bo, 1, none⟩ = some (.int .i64 rt))
        (first
          | (go_split_ands; refine ⟨?_, ?_, ?_, ?_⟩ <;> assumption))
        (first
          | (go_at_call 7; have HJ := specLeastR_any (some ⟨g, 0, none⟩) ns cap r w6.drew (P6h.out.nd.later (Below.refl _ _).drew (Nat.le_refl _)); rw [HMD.out, HRT.out] at HJ; refine HJ.mono ?_; clear HJ; rintro e w7 ⟨Ap, cp, rfl, hrow, _, hb5⟩; have hbw : Below w6.heap.size w6 w7 := (Below.refl _ _).drew.trans (hb5.mono (by simp)); have p0 := (hbw.cell (p := ⟨bg, 0, none⟩) hlg).trans e0; have p1 := (hbw.cell (p := ⟨bg, 1, none⟩) hlg).trans e1; have p2 := (hbw.cell (p := ⟨bo, 0, none⟩) hlo).trans e2; have p3 := (hbw.cell (p := ⟨bo, 1, none⟩) hlo).trans e3)
          | (go_at_call 6; refine (equalGraph_same Ao Ap ms rt co cp w7 (P6h.out.out.later hbw (Nat.le_refl _)) (hrow.nds Hmwf.out (by omega))).mono ?_; rintro e w8 ⟨rfl, hb6⟩; have hbx : Below w6.heap.size w6 w8 := hbw.trans (hb6.mono hbw.size); have o0 := (hbx.cell (p := ⟨bg, 0, none⟩) hlg).trans e0; have o1 := (hbx.cell (p := ⟨bg, 1, none⟩) hlg).trans e1; have o2 := (hbx.cell (p := ⟨bo, 0, none⟩) hlo).trans e2; have o3 := (hbx.cell (p := ⟨bo, 1, none⟩) hlo).trans e3))
      have HB := hide (P6h.out.below hbx).bel
      clear hbx hbw hb5 hb6 hrow
      go_wp2
      go_ret
      exact ⟨rfl, HB.out⟩

end Go.Proofs.Ytcblcmdfeoijpab
