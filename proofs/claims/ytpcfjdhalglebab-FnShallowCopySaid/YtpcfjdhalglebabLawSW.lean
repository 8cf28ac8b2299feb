/-
  The walk of the law FnShallowCopy: for every text it returns true and writes nothing that was there. Made by wip/gen/genpl.py.
-/
import Derived.Test.YtpcfjdhalglebabDrawSW
import Derived.Test.YtpcfjdhalglebabShcS
import Derived.Test.YtpcfjdhalglebabPjAr
import Derived.Test.YtpcfjdhalglebabPjAs
import Derived.Test.YtpcfjdhalglebabPjAo
import Derived.Test.YtpcfjdhalglebabPjAq
import Derived.Deep.RegionHeld3
namespace Go.Proofs.Ytpcfjdhalglebab
open Go.RowKit Go.Maps
set_option linter.unusedVariables false
set_option linter.unusedSimpArgs false

/-- what stays while the law looks at the answer -/
structure LawQ (w wr : World) (bg g cap : Nat) (ns : List Nd) (r : Int) (bo : Nat) (Ao : Option Addr) (co : Nat) (ms : List Nd) (rt : Int) : Prop where
  bel : Below w.heap.size w wr
  l : Lies wr bg #[.slice (some ⟨g, 0, none⟩) ns.length cap, .int .i64 r] 25
  nd : NdsAt wr wr.heap.size (some ⟨g, 0, none⟩) ns
  lo : Lies wr bo #[.slice Ao ms.length co, .int .i64 rt] 25
  out : NdsAt wr wr.heap.size Ao ms

theorem LawQ.below {w wr w' : World} {bg g cap : Nat} {ns : List Nd} {r : Int} {bo : Nat} {Ao : Option Addr} {co : Nat} {ms : List Nd} {rt : Int} (h : LawQ w wr bg g cap ns r bo Ao co ms rt) (hb : Below wr.heap.size wr w') : LawQ w w' bg g cap ns r bo Ao co ms rt :=
  ⟨h.bel.trans (hb.mono h.bel.size), h.l.below hb h.l.lt, h.nd.later hb (Nat.le_refl _), h.lo.below hb h.lo.lt, h.out.later hb (Nat.le_refl _)⟩

theorem LawQ.cells {w wr : World} {bg g cap : Nat} {ns : List Nd} {r : Int} {bo : Nat} {Ao : Option Addr} {co : Nat} {ms : List Nd} {rt : Int} (h : LawQ w wr bg g cap ns r bo Ao co ms rt) :
    wr.cell? ⟨bg, 0, none⟩ = some (.slice (some ⟨g, 0, none⟩) ns.length cap) ∧ wr.cell? ⟨bg, 1, none⟩ = some (.int .i64 r) ∧ wr.cell? ⟨bo, 0, none⟩ = some (.slice Ao ms.length co) ∧ wr.cell? ⟨bo, 1, none⟩ = some (.int .i64 rt) := by
  have e0 := h.l.cell 0
  have e1 := h.l.cell 1
  have e2 := h.lo.cell 0
  have e3 := h.lo.cell 1
  simp at e0 e1 e2 e3
  exact ⟨e0, e1, e2, e3⟩

set_option maxRecDepth 100000 in
set_option maxHeartbeats 4000000 in
theorem lawSW_any (A : Option Addr) (n c : Nat) (w : World) (h : BytesAt w w.heap.size A n) (hc : n ≤ c) (hn : n ≤ 9223372036854775807) :
    Calls Try.prog 3 #[.slice A n c] w fun e w' => e = .returned (.bool true) ∧ Below w.heap.size w w' := by
  by_cases hbig : 1048576 < n
  · have d : decide ((1048576 : Int) < (n : Int)) = true := by simp; omega
    go_enter Try.func3, Try.ntmps3
    go_wp2
    go_ret
    exact ⟨rfl, Below.refl _ _⟩
  · have d : decide ((1048576 : Int) < (n : Int)) = false := by simp; omega
    go_enter Try.func3, Try.ntmps3
    go_wp2_with fail
    refine (drawShallowCopy_any A n c w h hc hn).mono ?_
    rintro e w1 ⟨g, cap, ns, r, rfl, hnds, h1, h10, hr64, hb1, hcap⟩
    have hb2 := hb1.alloc hb1.size (.cells #[.slice (some ⟨g, 0, none⟩) ns.length cap, .int .i64 r] 25)
    have l2 := Lies.new w1 #[.slice (some ⟨g, 0, none⟩) ns.length cap, .int .i64 r] 25
    have hn2 := hnds.later ((Below.refl w1.heap.size w1).alloc (Nat.le_refl _) (.cells #[.slice (some ⟨g, 0, none⟩) ns.length cap, .int .i64 r] 25)) (Nat.le_refl _)
    have hsz := hb1.size
    have hwf := hide hnds.wf
    have e0 := l2.cell 0
    have e1 := l2.cell 1
    simp at e0 e1
    clear hnds hb1 h
    go_wp2_with fail
    generalize w1.alloc (.cells #[.slice (some ⟨g, 0, none⟩) ns.length cap, .int .i64 r] 25) = w2 at hb2 l2 hn2 e0 e1 ⊢
    generalize w1.heap.size = bg at l2 hsz e0 e1 ⊢
    have HPd : Hid ((ValidG ns r ∧ ValidG (shalN ns r) (shalR ns r) ∧ EqDeepG (shalN ns r) (shalR ns r) ns r ∧ SameG (shalN ns r) r ns r ∧ 0 < (shalN ns r).length ∧ ∀ (i j : Nat) (m m2 : Nd), r = (i : Int) → shalR ns r = (j : Int) → ns[i]? = some m → (shalN ns r)[j]? = some m2 → m2.kids = m.kids) ∨ (¬ (ValidG ns r ∧ ns.length ≠ 12) ∧ shalN ns r = [])) := hide (by
      by_cases hv : ValidG ns r ∧ ns.length ≠ 12
      · obtain ⟨f1, f2, f3⟩ := shal_facts hv.1 hv.2 hwf.out
        refine .inl ⟨hv.1, ?_⟩
        rw [shalN_yes hv.1 hv.2, shalR_yes hv.1 hv.2]
        refine ⟨f1, f2, f3, by simp, fun i j m m2 hi hj hm hm2 => ?_⟩
        obtain rfl : j = ns.length := by omega
        rw [snoc_new] at hm2
        injection hm2 with hm2
        rw [← hm2, hi, rootNd_at hm]
      · exact .inr ⟨hv, shalN_no hv⟩)
    have hmsm := shalN_smallN ns r
    have Hmwf : Hid (WfN (shalN ns r)) := hide (shalN_wf r hwf.out)
    have HI := implShallow_any (some ⟨g, 0, none⟩) ns cap r w2 hn2
    refine HI.mono ?_
    clear HI
    rintro e w3 ⟨Ao, co, rfl, hoO, hb3⟩
    generalize hmd : shalN ns r = ms at hoO hmsm Hmwf HPd ⊢
    have HMD := hide hmd
    have hml := hmsm.len
    clear hmd
    generalize hrd : shalR ns r = rt at hoO HPd ⊢
    have HRT := hide hrd
    clear hrd
    have hba : Below w3.heap.size w3 (w3.alloc (.cells #[.slice Ao ms.length co, .int .i64 rt] 25)) := (Below.refl _ _).alloc (Nat.le_refl _) _
    have hb4 := hb3.trans (hba.mono hb3.size)
    
    have P4 : LawQ w (w3.alloc (.cells #[.slice Ao ms.length co, .int .i64 rt] 25)) bg g cap ns r w3.heap.size Ao co ms rt :=
      ⟨hb2.trans (hb4.mono hb2.size), l2.below hb4 l2.lt, hn2.later hb4 (Nat.le_refl _), Lies.new _ _ _, (hoO.nds Hmwf.out (by omega)).later hba (Nat.le_refl _)⟩
    clear l2 hn2 hb2 hb3 hb4 hba hoO e0 e1
    obtain ⟨e0, e1, e2, e3⟩ := P4.cells
    have hlg : bg < (w3.alloc (.cells #[.slice Ao ms.length co, .int .i64 rt] 25)).heap.size := P4.l.lt
    have hlo : w3.heap.size < (w3.alloc (.cells #[.slice Ao ms.length co, .int .i64 rt] 25)).heap.size := P4.lo.lt
    go_wp2_with fail
    generalize w3.alloc (.cells #[.slice Ao ms.length co, .int .i64 rt] 25) = w4 at P4 e0 e1 e2 e3 hlg hlo ⊢
    generalize w3.heap.size = bo at P4 e2 e3 hlo ⊢
    have P4h := hide P4
    clear P4
    rcases HPd.out with ⟨hv, hvm, hed, hsm, hpos, hkid⟩ | ⟨hv, hnil⟩
    · have hz : ((ms.length : Int) == 0) = false := beq_eq_false_iff_ne.2 (by omega)
      have HVv := hide hv
      have HVm := hide hvm
      have HED := hide hed
      have HSm := hide hsm
      have HKid := hide hkid
      have HPos := hide hpos
      clear hv hvm hed hsm hkid
      clear HPd
      go_region_held3 (fun w' => w'.cell? ⟨bg, 0, none⟩ = some (.slice (some ⟨g, 0, none⟩) ns.length cap) ∧ w'.cell? ⟨bg, 1, none⟩ = some (.int .i64 r) ∧ w'.cell? ⟨bo, 0, none⟩ = some (.slice Ao ms.length co) ∧ w'.cell? ⟨bo, 1, none⟩ = some (.int .i64 rt))
        (first
          | (go_split_ands; refine ⟨?_, ?_, ?_, ?_⟩ <;> assumption))
        (first
          | (go_at_call 7; have HJ := specShallow_any (some ⟨g, 0, none⟩) ns cap r w4.drew (P4h.out.nd.later (Below.refl _ _).drew (Nat.le_refl _)); rw [HMD.out, HRT.out] at HJ; refine HJ.mono ?_; clear HJ; rintro e w5 ⟨Ap, cp, rfl, hrow, hb5⟩; have hbw : Below w4.heap.size w4 w5 := (Below.refl _ _).drew.trans (hb5.mono (by simp)); have p0 := (hbw.cell (p := ⟨bg, 0, none⟩) hlg).trans e0; have p1 := (hbw.cell (p := ⟨bg, 1, none⟩) hlg).trans e1; have p2 := (hbw.cell (p := ⟨bo, 0, none⟩) hlo).trans e2; have p3 := (hbw.cell (p := ⟨bo, 1, none⟩) hlo).trans e3)
          | (go_at_call 6; refine (equalGraph_same Ao Ap ms rt co cp w5 (P4h.out.out.later hbw (Nat.le_refl _)) (hrow.nds Hmwf.out (by omega))).mono ?_; rintro e w6 ⟨rfl, hb6⟩; have hbx : Below w4.heap.size w4 w6 := hbw.trans (hb6.mono hbw.size); have o0 := (hbx.cell (p := ⟨bg, 0, none⟩) hlg).trans e0; have o1 := (hbx.cell (p := ⟨bg, 1, none⟩) hlg).trans e1; have o2 := (hbx.cell (p := ⟨bo, 0, none⟩) hlo).trans e2; have o3 := (hbx.cell (p := ⟨bo, 1, none⟩) hlo).trans e3))
      have P6 := P4h.out.below hbx
      clear hbx hbw hb5 hb6 hrow p0 p1 p2 p3 o0 o1 o2 o3 e0 e1 e2 e3 hlg hlo
      have P6h := hide P6
      obtain ⟨e0, e1, e2, e3⟩ := P6.cells
      have hlg := P6.l.lt
      have hlo := P6.lo.lt
      clear P6
      go_wp2_with fail
      obtain ⟨i, rfl⟩ := Int.eq_ofNat_of_zero_le HVv.out.root0
      have hil : i < ns.length := by have := HVv.out.root; omega
      obtain ⟨j, rfl⟩ := Int.eq_ofNat_of_zero_le HVm.out.root0
      have hjl : j < ms.length := by have := HVm.out.root; omega
      obtain ⟨gb, goff, m, e4, hgb, hm, _, hmd⟩ := P6h.out.nd.at_ hil
      injection e4 with e4
      injection e4 with a1 a2 _
      subst a1
      subst a2
      obtain ⟨Ak, ck, km, kmi, _⟩ := hmd.kids
      rw [Nat.zero_add] at km
      obtain ⟨ob, off, m2, rfl, hob, hm2, _, hmd2⟩ := P6h.out.out.at_ hjl
      obtain ⟨Aj, cj, kj, kji, _⟩ := hmd2.kids
      have hkk : m2.kids = m.kids := HKid.out i j m m2 rfl rfl hm hm2
      rw [hkk] at kj kji
      have Hki := hide kmi
      have Hkj := hide kji
      have q1 : (0 : Int) ≤ (i : Int) := by omega
      have q2 : (i : Int) < (ns.length : Int) := by omega
      have q3 : (0 : Int) ≤ (j : Int) := by omega
      have q4 : (j : Int) < (ms.length : Int) := by omega
      clear hm hmd hm2 hmd2 hkk kmi kji
      go_region_held3 (fun w' => w'.cell? ⟨bg, 0, none⟩ = some (.slice (some ⟨g, 0, none⟩) ns.length cap) ∧ w'.cell? ⟨bg, 1, none⟩ = some (.int .i64 (i : Int)) ∧ w'.cell? ⟨bo, 0, none⟩ = some (.slice (some ⟨ob, off, none⟩) ms.length co) ∧ w'.cell? ⟨bo, 1, none⟩ = some (.int .i64 (j : Int)) ∧ w'.cell? ⟨g, i * 3 + 2, none⟩ = some (.slice Ak m.kids.length ck) ∧ w'.cell? ⟨ob, off + j * 3 + 2, none⟩ = some (.slice Aj m.kids.length cj))
        (first
          | (go_split_ands; refine ⟨?_, ?_, ?_, ?_, ?_, ?_⟩ <;> assumption))
        (first
          | (go_at_call 8; have HJ := implValid_any (some ⟨ob, off, none⟩) ms co (j : Int) w6.drew (P6h.out.out.later (Below.refl _ _).drew (Nat.le_refl _)); rw [tf_true HVm.out] at HJ; refine HJ.mono ?_; clear HJ; rintro e x1 ⟨rfl, hb7⟩; have hb_1 : Below w6.heap.size w6 x1 := (Below.refl _ _).drew.trans (hb7.mono (by simp)); clear hb7; have p10 := (hb_1.cell (p := ⟨bg, 0, none⟩) hlg).trans e0; have p11 := (hb_1.cell (p := ⟨bg, 1, none⟩) hlg).trans e1; have p12 := (hb_1.cell (p := ⟨bo, 0, none⟩) hlo).trans e2; have p13 := (hb_1.cell (p := ⟨bo, 1, none⟩) hlo).trans e3; have p14 := (hb_1.cell (p := ⟨g, i * 3 + 2, none⟩) hgb).trans km; have p15 := (hb_1.cell (p := ⟨ob, off + j * 3 + 2, none⟩) hob).trans kj)
          | (go_at_call 9; have HJ := implEqualDeep_any (some ⟨ob, off, none⟩) (some ⟨g, 0, none⟩) ms ns co cap (j : Int) (i : Int) x1 (P6h.out.out.later hb_1 (Nat.le_refl _)) (P6h.out.nd.later hb_1 (Nat.le_refl _)); rw [tf_true HED.out] at HJ; refine HJ.mono ?_; clear HJ; rintro e x2 ⟨rfl, hb8⟩; have hb_2 : Below w6.heap.size w6 x2 := hb_1.trans (hb8.mono hb_1.size); clear hb8; have p20 := (hb_2.cell (p := ⟨bg, 0, none⟩) hlg).trans e0; have p21 := (hb_2.cell (p := ⟨bg, 1, none⟩) hlg).trans e1; have p22 := (hb_2.cell (p := ⟨bo, 0, none⟩) hlo).trans e2; have p23 := (hb_2.cell (p := ⟨bo, 1, none⟩) hlo).trans e3; have p24 := (hb_2.cell (p := ⟨g, i * 3 + 2, none⟩) hgb).trans km; have p25 := (hb_2.cell (p := ⟨ob, off + j * 3 + 2, none⟩) hob).trans kj)
          | (go_at_call 10; refine (equalInts_q Aj Ak m.kids cj ck x2 (Hkj.out.later hb_2 (Nat.le_refl _)) (Hki.out.later hb_2 (Nat.le_refl _))).mono ?_; rintro e x3 ⟨rfl, n9, hx3⟩; have hb_3 : Below w6.heap.size w6 x3 := hb_2.trans ((drewN_below hx3).mono hb_2.size); clear hx3; have p30 := (hb_3.cell (p := ⟨bg, 0, none⟩) hlg).trans e0; have p31 := (hb_3.cell (p := ⟨bg, 1, none⟩) hlg).trans e1; have p32 := (hb_3.cell (p := ⟨bo, 0, none⟩) hlo).trans e2; have p33 := (hb_3.cell (p := ⟨bo, 1, none⟩) hlo).trans e3; have p34 := (hb_3.cell (p := ⟨g, i * 3 + 2, none⟩) hgb).trans km; have p35 := (hb_3.cell (p := ⟨ob, off + j * 3 + 2, none⟩) hob).trans kj)
          | (go_at_call 11; have HJ := implSame_any (some ⟨ob, off, none⟩) (some ⟨g, 0, none⟩) ms ns co cap (i : Int) (i : Int) x3 (P6h.out.out.later hb_3 (Nat.le_refl _)) (P6h.out.nd.later hb_3 (Nat.le_refl _)); rw [tf_true HSm.out] at HJ; refine HJ.mono ?_; clear HJ; rintro e x4 ⟨rfl, hb10⟩; have hb_4 : Below w6.heap.size w6 x4 := hb_3.trans (hb10.mono hb_3.size); clear hb10; have p40 := (hb_4.cell (p := ⟨bg, 0, none⟩) hlg).trans e0; have p41 := (hb_4.cell (p := ⟨bg, 1, none⟩) hlg).trans e1; have p42 := (hb_4.cell (p := ⟨bo, 0, none⟩) hlo).trans e2; have p43 := (hb_4.cell (p := ⟨bo, 1, none⟩) hlo).trans e3; have p44 := (hb_4.cell (p := ⟨g, i * 3 + 2, none⟩) hgb).trans km; have p45 := (hb_4.cell (p := ⟨ob, off + j * 3 + 2, none⟩) hob).trans kj))
      have HB := hide (P6h.out.below hb_4).bel
      clear hb_1 hb_2 hb_3 hb_4
      go_wp2
      go_ret
      exact ⟨rfl, HB.out⟩
    · have HN := hide hv
      have hz : ((ms.length : Int) == 0) = true := by rw [hnil]; rfl
      have HNil := hide hnil
      clear hv hnil HPd
      go_region_held3 (fun w' => w'.cell? ⟨bg, 0, none⟩ = some (.slice (some ⟨g, 0, none⟩) ns.length cap) ∧ w'.cell? ⟨bg, 1, none⟩ = some (.int .i64 r) ∧ w'.cell? ⟨bo, 0, none⟩ = some (.slice Ao ms.length co) ∧ w'.cell? ⟨bo, 1, none⟩ = some (.int .i64 rt))
        (first
          | (go_split_ands; refine ⟨?_, ?_, ?_, ?_⟩ <;> assumption))
        (first
          | (go_at_call 7; have HJ := specShallow_any (some ⟨g, 0, none⟩) ns cap r w4.drew (P4h.out.nd.later (Below.refl _ _).drew (Nat.le_refl _)); rw [HMD.out, HRT.out] at HJ; refine HJ.mono ?_; clear HJ; rintro e w5 ⟨Ap, cp, rfl, hrow, hb5⟩; have hbw : Below w4.heap.size w4 w5 := (Below.refl _ _).drew.trans (hb5.mono (by simp)); have p0 := (hbw.cell (p := ⟨bg, 0, none⟩) hlg).trans e0; have p1 := (hbw.cell (p := ⟨bg, 1, none⟩) hlg).trans e1; have p2 := (hbw.cell (p := ⟨bo, 0, none⟩) hlo).trans e2; have p3 := (hbw.cell (p := ⟨bo, 1, none⟩) hlo).trans e3)
          | (go_at_call 6; refine (equalGraph_same Ao Ap ms rt co cp w5 (P4h.out.out.later hbw (Nat.le_refl _)) (hrow.nds Hmwf.out (by omega))).mono ?_; rintro e w6 ⟨rfl, hb6⟩; have hbx : Below w4.heap.size w4 w6 := hbw.trans (hb6.mono hbw.size); have o0 := (hbx.cell (p := ⟨bg, 0, none⟩) hlg).trans e0; have o1 := (hbx.cell (p := ⟨bg, 1, none⟩) hlg).trans e1; have o2 := (hbx.cell (p := ⟨bo, 0, none⟩) hlo).trans e2; have o3 := (hbx.cell (p := ⟨bo, 1, none⟩) hlo).trans e3))
      have P6 := P4h.out.below hbx
      clear hbx hbw hb5 hb6 hrow p0 p1 p2 p3 o0 o1 o2 o3 e0 e1 e2 e3 hlg hlo
      obtain ⟨e0, e1, e2, e3⟩ := P6.cells
      have P6h := hide P6
      have hlg := P6.l.lt
      have hlo := P6.lo.lt
      clear P6
      go_wp2_with fail
      go_region_held3 (fun w' => w'.cell? ⟨bg, 0, none⟩ = some (.slice (some ⟨g, 0, none⟩) ns.length cap) ∧ w'.cell? ⟨bg, 1, none⟩ = some (.int .i64 r) ∧ w'.cell? ⟨bo, 0, none⟩ = some (.slice Ao ms.length co) ∧ w'.cell? ⟨bo, 1, none⟩ = some (.int .i64 rt))
        (first
          | (go_split_ands; refine ⟨?_, ?_, ?_, ?_⟩ <;> assumption))
        (first
          | (go_at_call 7; have HJ := specShallow_any (some ⟨g, 0, none⟩) ns cap r w6.drew (P6h.out.nd.later (Below.refl _ _).drew (Nat.le_refl _)); rw [HMD.out, HRT.out] at HJ; refine HJ.mono ?_; clear HJ; rintro e w7 ⟨Ap, cp, rfl, hrow, hb5⟩; have hbw : Below w6.heap.size w6 w7 := (Below.refl _ _).drew.trans (hb5.mono (by simp)); have p0 := (hbw.cell (p := ⟨bg, 0, none⟩) hlg).trans e0; have p1 := (hbw.cell (p := ⟨bg, 1, none⟩) hlg).trans e1; have p2 := (hbw.cell (p := ⟨bo, 0, none⟩) hlo).trans e2; have p3 := (hbw.cell (p := ⟨bo, 1, none⟩) hlo).trans e3)
          | (go_at_call 6; refine (equalGraph_same Ao Ap ms rt co cp w7 (P6h.out.out.later hbw (Nat.le_refl _)) (hrow.nds Hmwf.out (by omega))).mono ?_; rintro e w8 ⟨rfl, hb6⟩; have hbx : Below w6.heap.size w6 w8 := hbw.trans (hb6.mono hbw.size); have o0 := (hbx.cell (p := ⟨bg, 0, none⟩) hlg).trans e0; have o1 := (hbx.cell (p := ⟨bg, 1, none⟩) hlg).trans e1; have o2 := (hbx.cell (p := ⟨bo, 0, none⟩) hlo).trans e2; have o3 := (hbx.cell (p := ⟨bo, 1, none⟩) hlo).trans e3))
      have HB := hide (P6h.out.below hbx).bel
      clear hbx hbw hb5 hb6 hrow
      go_wp2
      go_ret
      exact ⟨rfl, HB.out⟩

end Go.Proofs.Ytpcfjdhalglebab
