/-
  The walk of the law FnMergeTexts: for every text it returns true and writes nothing that was there. Made by wip/gen/genpl.py.
-/
import Derived.Test.YtcblcmdfeoijpaaDrawMT
import Derived.Test.YtcblcmdfeoijpaaMrgS
import Derived.Test.YtcblcmdfeoijpaaMrgI
import Derived.Test.YtcblcmdfeoijpaaPjAl
import Derived.Test.YtcblcmdfeoijpaaPjAr
import Derived.Test.YtcblcmdfeoijpaaPjAq
import Derived.Test.YtcblcmdfeoijpaaPjAb
import Derived.Deep.RegionHeld3
namespace Go.Proofs.Ytcblcmdfeoijpaa
open Go.RowKit Go.Maps
set_option linter.unusedVariables false
set_option linter.unusedSimpArgs false

/-- what stays while the law looks at the answer -/
structure LawQ (w wr : World) (bg g cap : Nat) (ns : List Nd) (r : Int) (bo : Nat) (Ao : Option Addr) (co : Nat) (ms : List Nd) (rt : Int) : Prop where
  bel : Below w.heap.size w wr
  l : Lies wr bg #[.slice (some ⟨g, 0, none⟩) ns.length cap, .int .i64 r] 25
  nd : NdsAt wr wr.heap.size (some ⟨g, 0, none⟩) ns
  lo : Lies wr bo #[.slice Ao ms.length co, .int .i64 rt] 25
  out : NdsAt wr wr.heap.size Ao ms

theorem LawQ.below {w wr w' : World} {bg g cap : Nat} {ns : List Nd} {r : Int} {bo : Nat} {Ao : Option Addr} {co : Nat} {ms : List Nd} {rt : Int} (h : LawQ w wr bg g cap ns r bo Ao co ms rt) (hb : Below wr.heap.size wr w') : LawQ w w' bg g cap ns r bo Ao co ms rt :=
  ⟨h.bel.trans (hb.mono h.bel.size), h.l.below hb h.l.lt, h.nd.later hb (Nat.le_refl _), h.lo.below hb h.lo.lt, h.out.later hb (Nat.le_refl _)⟩

theorem LawQ.cells {w wr : World} {bg g cap : Nat} {ns : List Nd} {r : Int} {bo : Nat} {Ao : Option Addr} {co : Nat} {ms : List Nd} {rt : Int} (h : LawQ w wr bg g cap ns r bo Ao co ms rt) :
    wr.cell? ⟨bg, 0, none⟩ = some (.slice (some ⟨g, 0, none⟩) ns.length cap) ∧ wr.cell? ⟨bg, 1, none⟩ = some (.int .i64 r) ∧ wr.cell? ⟨bo, 0, none⟩ = some (.slice Ao ms.length co) ∧ wr.cell? ⟨bo, 1, none⟩ = some (.int .i64 rt) := by
  have e0 := h.l.cell 0
  have e1 := h.l.cell 1
  have e2 := h.lo.cell 0
  have e3 := h.lo.cell 1
  simp at e0 e1 e2 e3
  exact ⟨e0, e1, e2, e3⟩

set_option maxRecDepth 100000 in
set_option maxHeartbeats 4000000 in
theorem lawMT_any (A : Option Addr) (n c : Nat) (w : World) (h : BytesAt w w.heap.size A n) (hc : n ≤ c) (hn : n ≤ 9223372036854775807) :
    Calls Try.prog 3 #[.slice A n c] w fun e w' => e = .returned (.bool true) ∧ Below w.heap.size w w' := by
  by_cases hbig : 1048576 < n
  · have d : decide ((1048576 : Int) < (n : Int)) = true := by simp; omega
    go_enter Try.func3, Try.ntmps3
    go_wp2
    go_ret
    exact ⟨rfl, Below.refl _ _⟩
  · have d : decide ((1048576 : Int) < (n : Int)) = false := by simp; omega
    go_enter Try.func3, Try.ntmps3
    go_wp2_with fail
    refine (drawMergeTexts_any A n c w h hc hn).mono ?_
    rintro e w1 ⟨g, cap, ns, r, rfl, hnds, h1, h10, hr64, hb1, hcap⟩
    have hb2 := hb1.alloc hb1.size (.cells #[.slice (some ⟨g, 0, none⟩) ns.length cap, .int .i64 r] 25)
    have l2 := Lies.new w1 #[.slice (some ⟨g, 0, none⟩) ns.length cap, .int .i64 r] 25
    have hn2 := hnds.later ((Below.refl w1.heap.size w1).alloc (Nat.le_refl _) (.cells #[.slice (some ⟨g, 0, none⟩) ns.length cap, .int .i64 r] 25)) (Nat.le_refl _)
    have hsz := hb1.size
    have hwf := hide hnds.wf
    have e0 := l2.cell 0
    have e1 := l2.cell 1
    simp at e0 e1
    clear hnds hb1 h
    go_wp2_with fail
    generalize w1.alloc (.cells #[.slice (some ⟨g, 0, none⟩) ns.length cap, .int .i64 r] 25) = w2 at hb2 l2 hn2 e0 e1 ⊢
    generalize w1.heap.size = bg at l2 hsz e0 e1 ⊢
    have HPd : Hid ((ValidG ns r ∧ ValidG (mrgN ns r) (mrgR ns r) ∧ EqDeepG (mrgN ns r) (mrgR ns r) ns r ∧ (mrgN (mrgN ns r) (mrgR ns r) = mrgN ns r ∧ mrgR (mrgN ns r) (mrgR ns r) = mrgR ns r) ∧ 0 < (mrgN ns r).length ∧ ∀ (L : List Int), Reached (mrgN ns r) (mrgR ns r) L → ∀ (i k : Nat), k < i → ∀ (x y : Nat) (m q : Nd), L[i]? = some (x : Int) → L[k]? = some (y : Int) → (mrgN ns r)[x]? = some m → (mrgN ns r)[y]? = some q → ¬ (m.kind = 1 ∧ q.kind = 1 ∧ m.value = q.value)) ∨ (¬ ValidG ns r ∧ mrgN ns r = [])) := hide (by
      by_cases hv : ValidG ns r
      · refine .inl ⟨hv, mrg_valid hv, mrg_equal hv, mrg_again hv, ?_, fun L hR i k hk x y m q hx hy hm hq => mrg_texts hv hR hk hx hy hm hq⟩
        rw [mrgN_yes hv, replNs_len]
        exact hv.one
      · exact .inr ⟨hv, mrgN_no hv⟩)
    have hmsm := mrgN_smallN ns r
    have Hmwf : Hid (WfN (mrgN ns r)) := hide (mrgN_wf r hwf.out)
    have HI := implMerge_any (some ⟨g, 0, none⟩) ns cap r w2 hn2
    refine HI.mono ?_
    clear HI
    rintro e w3 ⟨Ao, co, rfl, hoO, hb3⟩
    generalize hmd : mrgN ns r = ms at hoO hmsm Hmwf HPd ⊢
    have HMD := hide hmd
    have hml := hmsm.len
    clear hmd
    generalize hrd : mrgR ns r = rt at hoO HPd ⊢
    have HRT := hide hrd
    clear hrd
    have hba : Below w3.heap.size w3 (w3.alloc (.cells #[.slice Ao ms.length co, .int .i64 rt] 25)) := (Below.refl _ _).alloc (Nat.le_refl _) _
    have hb4 := hb3.trans (hba.mono hb3.size)
    
    have P4 : LawQ w (w3.alloc (.cells #[.slice Ao ms.length co, .int .i64 rt] 25)) bg g cap ns r w3.heap.size Ao co ms rt :=
      ⟨hb2.trans (hb4.mono hb2.size), l2.below hb4 l2.lt, hn2.later hb4 (Nat.le_refl _), Lies.new _ _ _, (hoO.nds Hmwf.out (by omega)).later hba (Nat.le_refl _)⟩
    clear l2 hn2 hb2 hb3 hb4 hba hoO e0 e1
    obtain ⟨e0, e1, e2, e3⟩ := P4.cells
    have hlg : bg < (w3.alloc (.cells #[.slice Ao ms.length co, .int .i64 rt] 25)).heap.size := P4.l.lt
    have hlo : w3.heap.size < (w3.alloc (.cells #[.slice Ao ms.length co, .int .i64 rt] 25)).heap.size := P4.lo.lt
    go_wp2_with fail
    generalize w3.alloc (.cells #[.slice Ao ms.length co, .int .i64 rt] 25) = w4 at P4 e0 e1 e2 e3 hlg hlo ⊢
    generalize w3.heap.size = bo at P4 e2 e3 hlo ⊢
    have P4h := hide P4
    clear P4
    rcases HPd.out with ⟨hv, hvm, hed, hag, hpos, htxt⟩ | ⟨hv, hnil⟩
    · have hz : ((ms.length : Int) == 0) = false := beq_eq_false_iff_ne.2 (by omega)
      have HVv := hide hv
      have HVm := hide hvm
      have HED := hide hed
      have HAg := hide hag
      have HTxt := hide htxt
      have HPos := hide hpos
      clear hv hvm hed hag htxt
      clear HPd
      go_region_held3 (fun w' => w'.cell? ⟨bg, 0, none⟩ = some (.slice (some ⟨g, 0, none⟩) ns.length cap) ∧ w'.cell? ⟨bg, 1, none⟩ = some (.int .i64 r) ∧ w'.cell? ⟨bo, 0, none⟩ = some (.slice Ao ms.length co) ∧ w'.cell? ⟨bo, 1, none⟩ = some (.int .i64 rt))
        (first
          | (go_split_ands; refine ⟨?_, ?_, ?_, ?_⟩ <;> assumption))
        (first
          | (go_at_call 7; have HJ := specMerge_any (some ⟨g, 0, none⟩) ns cap r w4.drew (P4h.out.nd.later (Below.refl _ _).drew (Nat.le_refl _)); rw [HMD.out, HRT.out] at HJ; refine HJ.mono ?_; clear HJ; rintro e w5 ⟨Ap, cp, rfl, hrow, hb5⟩; have hbw : Below w4.heap.size w4 w5 := (Below.refl _ _).drew.trans (hb5.mono (by simp)); have p0 := (hbw.cell (p := ⟨bg, 0, none⟩) hlg).trans e0; have p1 := (hbw.cell (p := ⟨bg, 1, none⟩) hlg).trans e1; have p2 := (hbw.cell (p := ⟨bo, 0, none⟩) hlo).trans e2; have p3 := (hbw.cell (p := ⟨bo, 1, none⟩) hlo).trans e3)
          | (go_at_call 6; refine (equalGraph_same Ao Ap ms rt co cp w5 (P4h.out.out.later hbw (Nat.le_refl _)) (hrow.nds Hmwf.out (by omega))).mono ?_; rintro e w6 ⟨rfl, hb6⟩; have hbx : Below w4.heap.size w4 w6 := hbw.trans (hb6.mono hbw.size); have o0 := (hbx.cell (p := ⟨bg, 0, none⟩) hlg).trans e0; have o1 := (hbx.cell (p := ⟨bg, 1, none⟩) hlg).trans e1; have o2 := (hbx.cell (p := ⟨bo, 0, none⟩) hlo).trans e2; have o3 := (hbx.cell (p := ⟨bo, 1, none⟩) hlo).trans e3))
      have P6 := P4h.out.below hbx
      clear hbx hbw hb5 hb6 hrow p0 p1 p2 p3 o0 o1 o2 o3 e0 e1 e2 e3 hlg hlo
      have P6h := hide P6
      obtain ⟨e0, e1, e2, e3⟩ := P6.cells
      have hlg := P6.l.lt
      have hlo := P6.lo.lt
      clear P6
      go_wp2_with fail
      have HJ := implReachOf_any Ao ms co rt w6 P6h.out.out
      refine HJ.mono ?_
      clear HJ
      rintro e w7 ⟨Al, cl, rfl, hoL, hb7⟩
      have HRch := hide (reachOf_reached HVm.out)
      have hRf : (reachOf ms rt).length ≤ 12 := reachOf_few
      have H64 : Hid (∀ x ∈ reachOf ms rt, In64 x) := hide (fun x hx => by have := HRch.out.met.range x hx; constructor <;> omega)
      have P7 := hide (P6h.out.below hb7)
      have i7 := hide (hoL.ints H64.out (by omega))
      have HTx := hide (fun (i k : Nat) (hk : k < i) (x y : Nat) (m q : Nd) (hx : (reachOf ms rt)[i]? = some (x : Int)) (hy : (reachOf ms rt)[k]? = some (y : Int)) (hm : ms[x]? = some m) (hq : ms[y]? = some q) => HTxt.out (reachOf ms rt) HRch.out i k hk x y m q hx hy hm hq)
      generalize reachOf ms rt = Rg at *
      clear hb7 hoL e0 e1 e2 e3 hlg hlo
      go_wp2_with fail
      go_loopg [6, 7, 8, 9] Rg.length (fun gk iv _ _ _ wr => ∃ i : Nat, i ≤ Rg.length ∧ gk = Rg.length - i ∧ iv = .int .i64 (i : Int) ∧ LawQ w wr bg g cap ns r bo Ao co ms rt ∧ IntsAt wr wr.heap.size Al Rg)
      case atStart => exact ⟨0, Nat.zero_le _, rfl, rfl, P7.out, i7.out⟩
      case round =>
        clear P7 i7
        obtain ⟨i, hi, rfl, rfl, hP, hiL⟩ := hrel
        have HP := hide hP
        have HI := hide hiL
        clear hP hiL
        by_cases hli : i < Rg.length
        · have hdl : decide ((i : Int) < (Rg.length : Int)) = true := by simp; omega
          go_wp2_with fail
          go_loopg [7, 8, 9] i (fun gk kv _ _ wr => ∃ k : Nat, k ≤ i ∧ gk = i - k ∧ kv = .int .i64 (k : Int) ∧ LawQ w wr bg g cap ns r bo Ao co ms rt ∧ IntsAt wr wr.heap.size Al Rg)
          case atStart => exact ⟨0, Nat.zero_le _, rfl, rfl, HP.out, HI.out⟩
          case round =>
            clear HP HI
            obtain ⟨wq, hwq⟩ : ∃ x, x = wr := ⟨_, rfl⟩
            subst hwq
            obtain ⟨k, hk, rfl, rfl, hP, hiL⟩ := hrel
            have HP := hide hP
            have HI := hide hiL
            by_cases hlk : k < i
            · have hdk : decide ((k : Int) < (i : Int)) = true := by simp; omega
              obtain ⟨lb, lf, x, rfl, hlb, hx, hxm, hxc⟩ := hiL.at_ (k := i) hli
              obtain ⟨lb2, lf2, y, e5, _, hy, hym, hyc⟩ := hiL.at_ (k := k) (by omega)
              injection e5 with e5
              injection e5 with a1 a2 _
              subst a1
              subst a2
              obtain ⟨x0, x1⟩ := HRch.out.met.range x hxm
              obtain ⟨y0, y1⟩ := HRch.out.met.range y hym
              obtain ⟨xn, rfl⟩ := Int.eq_ofNat_of_zero_le x0
              obtain ⟨yn, rfl⟩ := Int.eq_ofNat_of_zero_le y0
              obtain ⟨ob, off, m, rfl, hob, hm, _, hmd⟩ := hP.out.at_ (k := xn) (by omega)
              obtain ⟨ob2, off2, q, e5, _, hq, _, hqd⟩ := hP.out.at_ (k := yn) (by omega)
              injection e5 with e5
              injection e5 with a1 a2 _
              subst a1
              subst a2
              obtain ⟨Am, cm, km2, _, _⟩ := hmd.kids
              obtain ⟨Aq, cq, kq2, _, _⟩ := hqd.kids
              have km0 := hmd.kind
              have km1 := hmd.value
              have kq0 := hqd.kind
              have kq1 := hqd.value
              obtain ⟨_, _, e2, _⟩ := hP.cells
              have hno := HTx.out i k hlk xn yn m q hx hy hm hq
              have Hno := hide hno
              have hlo := hP.lo.lt
              have q1 : (0 : Int) ≤ (i : Int) := by omega
              have q2 : (i : Int) < (Rg.length : Int) := by omega
              have q3 : (0 : Int) ≤ (k : Int) := by omega
              have q4 : (k : Int) < (Rg.length : Int) := by omega
              have q5 : (0 : Int) ≤ (xn : Int) := by omega
              have q6 : (0 : Int) ≤ (yn : Int) := by omega
              have u0 := World.new_ne wq _ e2
              have u1 := World.new_ne wq _ hxc
              have u2 := World.new_ne wq _ km0
              clear hx hy hxm hym hm hq hmd hqd hP hiL hno
              go_wp2_with fail
              go_region_held3 (fun w' => w'.cell? ⟨bo, 0, none⟩ = some (.slice (some ⟨ob, off, none⟩) ms.length co) ∧ w'.cell? ⟨lb, lf + i, none⟩ = some (.int .i64 (xn : Int)) ∧ w'.cell? ⟨ob, off + xn * 3, none⟩ = some (.int .i64 m.kind) ∧ w'.cell? ⟨ob, off + xn * 3 + 1, none⟩ = some (.int .i64 m.value) ∧ w'.cell? ⟨ob, off + xn * 3 + 2, none⟩ = some (.slice Am m.kids.length cm))
                (first
                  | (go_split_ands; refine ⟨?_, ?_, ?_, ?_, ?_⟩ <;> assumption)
                  | go_keep)
                (fail)
              have hbA : Below wq.heap.size wq ((wq.alloc (.cells #[.int .i64 m.kind, .int .i64 m.value, .slice Am m.kids.length cm] 32)).drew) := ((Below.refl _ _).alloc (Nat.le_refl _) _).drew
              have lA : Lies ((wq.alloc (.cells #[.int .i64 m.kind, .int .i64 m.value, .slice Am m.kids.length cm] 32)).drew) wq.heap.size #[.int .i64 m.kind, .int .i64 m.value, .slice Am m.kids.length cm] 32 := Lies.new wq _ _
              clear u0 u1 u2
              have e2 := (hbA.cell (p := ⟨bo, 0, none⟩) hlo).trans e2
              have hyc := (hbA.cell (p := ⟨lb, lf + k, none⟩) hlb).trans hyc
              have kq0 := (hbA.cell (p := ⟨ob, off + yn * 3, none⟩) hob).trans kq0
              have kq1 := (hbA.cell (p := ⟨ob, off + yn * 3 + 1, none⟩) hob).trans kq1
              have kq2 := (hbA.cell (p := ⟨ob, off + yn * 3 + 2, none⟩) hob).trans kq2
              clear hxc km0 km1 km2
              go_upto_region 15 with fail
              generalize (wq.alloc (.cells #[.int .i64 m.kind, .int .i64 m.value, .slice Am m.kids.length cm] 32)).drew = X at hbA lA e2 hyc kq0 kq1 kq2 ⊢
              have u0 := World.new_ne X _ e2
              have u1 := World.new_ne X _ hyc
              have u2 := World.new_ne X _ kq0
              go_region_held3 (fun w' => w'.cell? ⟨bo, 0, none⟩ = some (.slice (some ⟨ob, off, none⟩) ms.length co) ∧ w'.cell? ⟨lb, lf + k, none⟩ = some (.int .i64 (yn : Int)) ∧ w'.cell? ⟨ob, off + yn * 3, none⟩ = some (.int .i64 q.kind) ∧ w'.cell? ⟨ob, off + yn * 3 + 1, none⟩ = some (.int .i64 q.value) ∧ w'.cell? ⟨ob, off + yn * 3 + 2, none⟩ = some (.slice Aq q.kids.length cq))
                (first
                  | (go_split_ands; refine ⟨?_, ?_, ?_, ?_, ?_⟩ <;> assumption)
                  | go_keep)
                (fail)
              have hbB : Below X.heap.size X ((X.alloc (.cells #[.int .i64 q.kind, .int .i64 q.value, .slice Aq q.kids.length cq] 32)).drew) := ((Below.refl _ _).alloc (Nat.le_refl _) _).drew
              have lB : Lies ((X.alloc (.cells #[.int .i64 q.kind, .int .i64 q.value, .slice Aq q.kids.length cq] 32)).drew) X.heap.size #[.int .i64 q.kind, .int .i64 q.value, .slice Aq q.kids.length cq] 32 := Lies.new X _ _
              clear u0 u1 u2
              have lA2 := lA.below hbB lA.lt
              clear e2 hyc kq0 kq1 kq2 lA
              go_upto_region 16 with fail
              generalize (X.alloc (.cells #[.int .i64 q.kind, .int .i64 q.value, .slice Aq q.kids.length cq] 32)).drew = Y at hbB lB lA2 ⊢
              have a0 := lA2.cell 0
              have a1 := lA2.cell 1
              have b0 := lB.cell 0
              have b1 := lB.cell 1
              simp only [List.getElem?_toArray, List.getElem?_cons_zero, List.getElem?_cons_succ] at a0 a1 b0 b1
              have hbY := hbA.trans (hbB.mono hbA.size)
              have HPY := hide (HP.out.below hbY)
              have HIY := hide (HI.out.later hbY (Nat.le_refl _))
              clear hbA hbB hbY lA2 lB
              by_cases c1 : m.kind = 1
              · have t1 : (m.kind == 1) = true := by simpa using c1
                by_cases c2 : q.kind = 1
                · have t2 : (q.kind == 1) = true := by simpa using c2
                  have t3 : (m.value == q.value) = false := by
                    have : ¬ m.value = q.value := fun c3 => Hno.out ⟨c1, c2, c3⟩
                    simpa using this
                  clear c1 c2
                  go_wp2
                  go_roundg (i - (k + 1))
                  case measure => omega
                  case rel => exact ⟨k + 1, by omega, rfl, by go_num, HPY.out, HIY.out⟩
                · have t2 : (q.kind == 1) = false := by simpa using c2
                  clear c1 c2
                  go_wp2
                  go_roundg (i - (k + 1))
                  case measure => omega
                  case rel => exact ⟨k + 1, by omega, rfl, by go_num, HPY.out, HIY.out⟩
              · have t1 : (m.kind == 1) = false := by simpa using c1
                clear c1
                go_wp2
                go_roundg (i - (k + 1))
                case measure => omega
                case rel => exact ⟨k + 1, by omega, rfl, by go_num, HPY.out, HIY.out⟩
            · obtain rfl : k = i := by omega
              have hdk : decide ((k : Int) < (k : Int)) = false := by simp
              clear hP hiL hlk
              go_wp2
              go_roundg (Rg.length - (k + 1))
              case measure => omega
              case rel => exact ⟨k + 1, by omega, rfl, by go_num, HP.out, HI.out⟩
        · obtain rfl : i = Rg.length := by omega
          have hdl : decide ((Rg.length : Int) < (Rg.length : Int)) = false := by simp
          obtain ⟨e0, e1, e2, e3⟩ := HP.out.cells
          have hlg := HP.out.l.lt
          have hlo := HP.out.lo.lt
          clear hli
          go_wp2_with fail
          go_region_held3 (fun w' => w'.cell? ⟨bg, 0, none⟩ = some (.slice (some ⟨g, 0, none⟩) ns.length cap) ∧ w'.cell? ⟨bg, 1, none⟩ = some (.int .i64 r) ∧ w'.cell? ⟨bo, 0, none⟩ = some (.slice Ao ms.length co) ∧ w'.cell? ⟨bo, 1, none⟩ = some (.int .i64 rt))
            (first
              | (go_split_ands; refine ⟨?_, ?_, ?_, ?_⟩ <;> assumption))
            (first
              | (go_at_call 9; have HJ := implValid_any Ao ms co rt wr.drew (HP.out.out.later (Below.refl _ _).drew (Nat.le_refl _)); rw [tf_true HVm.out] at HJ; refine HJ.mono ?_; clear HJ; rintro e x1 ⟨rfl, hb7⟩; have hb_1 : Below wr.heap.size wr x1 := (Below.refl _ _).drew.trans (hb7.mono (by simp)); clear hb7; have p10 := (hb_1.cell (p := ⟨bg, 0, none⟩) hlg).trans e0; have p11 := (hb_1.cell (p := ⟨bg, 1, none⟩) hlg).trans e1; have p12 := (hb_1.cell (p := ⟨bo, 0, none⟩) hlo).trans e2; have p13 := (hb_1.cell (p := ⟨bo, 1, none⟩) hlo).trans e3)
              | (go_at_call 10; have HJ := implEqualDeep_any Ao (some ⟨g, 0, none⟩) ms ns co cap rt r x1 (HP.out.out.later hb_1 (Nat.le_refl _)) (HP.out.nd.later hb_1 (Nat.le_refl _)); rw [tf_true HED.out] at HJ; refine HJ.mono ?_; clear HJ; rintro e x2 ⟨rfl, hb8⟩; have hb_2 : Below wr.heap.size wr x2 := hb_1.trans (hb8.mono hb_1.size); clear hb8; have p20 := (hb_2.cell (p := ⟨bg, 0, none⟩) hlg).trans e0; have p21 := (hb_2.cell (p := ⟨bg, 1, none⟩) hlg).trans e1; have p22 := (hb_2.cell (p := ⟨bo, 0, none⟩) hlo).trans e2; have p23 := (hb_2.cell (p := ⟨bo, 1, none⟩) hlo).trans e3)
              | (go_at_call 5; have HJ := implMerge_any Ao ms co rt x2 (HP.out.out.later hb_2 (Nat.le_refl _)); rw [HAg.out.1, HAg.out.2] at HJ; refine HJ.mono ?_; clear HJ; rintro e x3 ⟨Az, cz, rfl, hoZ, hb9⟩; have hb_3 : Below wr.heap.size wr x3 := hb_2.trans (hb9.mono hb_2.size); clear hb9; have p30 := (hb_3.cell (p := ⟨bg, 0, none⟩) hlg).trans e0; have p31 := (hb_3.cell (p := ⟨bg, 1, none⟩) hlg).trans e1; have p32 := (hb_3.cell (p := ⟨bo, 0, none⟩) hlo).trans e2; have p33 := (hb_3.cell (p := ⟨bo, 1, none⟩) hlo).trans e3)
              | (go_at_call 6; refine (equalGraph_same Az Ao ms rt cz co x3 (hoZ.nds Hmwf.out (by omega)) (HP.out.out.later hb_3 (Nat.le_refl _))).mono ?_; rintro e x4 ⟨rfl, hb10⟩; have hb_4 : Below wr.heap.size wr x4 := hb_3.trans (hb10.mono hb_3.size); clear hb10; have p40 := (hb_4.cell (p := ⟨bg, 0, none⟩) hlg).trans e0; have p41 := (hb_4.cell (p := ⟨bg, 1, none⟩) hlg).trans e1; have p42 := (hb_4.cell (p := ⟨bo, 0, none⟩) hlo).trans e2; have p43 := (hb_4.cell (p := ⟨bo, 1, none⟩) hlo).trans e3))
          have HB := hide (HP.out.below hb_4).bel
          clear hb_1 hb_2 hb_3 hb_4 hoZ
          go_wp2
          go_ret
          exact ⟨rfl, HB.out⟩
    · have HN := hide hv
      have hz : ((ms.length : Int) == 0) = true := by rw [hnil]; rfl
      have HNil := hide hnil
      clear hv hnil HPd
      go_region_held3 (fun w' => w'.cell? ⟨bg, 0, none⟩ = some (.slice (some ⟨g, 0, none⟩) ns.length cap) ∧ w'.cell? ⟨bg, 1, none⟩ = some (.int .i64 r) ∧ w'.cell? ⟨bo, 0, none⟩ = some (.slice Ao ms.length co) ∧ w'.cell? ⟨bo, 1, none⟩ = some (.int .i64 rt))
        (first
          | (go_split_ands; refine ⟨?_, ?_, ?_, ?_⟩ <;> assumption))
        (first
          | (go_at_call 7; have HJ := specMerge_any (some ⟨g, 0, none⟩) ns cap r w4.drew (P4h.out.nd.later (Below.refl _ _).drew (Nat.le_refl _)); rw [HMD.out, HRT.out] at HJ; refine HJ.mono ?_; clear HJ; rintro e w5 ⟨Ap, cp, rfl, hrow, hb5⟩; have hbw : Below w4.heap.size w4 w5 := (Below.refl _ _).drew.trans (hb5.mono (by simp)); have p0 := (hbw.cell (p := ⟨bg, 0, none⟩) hlg).trans e0; have p1 := (hbw.cell (p := ⟨bg, 1, none⟩) hlg).trans e1; have p2 := (hbw.cell (p := ⟨bo, 0, none⟩) hlo).trans e2; have p3 := (hbw.cell (p := ⟨bo, 1, none⟩) hlo).trans e3)
          | (go_at_call 6; refine (equalGraph_same Ao Ap ms rt co cp w5 (P4h.out.out.later hbw (Nat.le_refl _)) (hrow.nds Hmwf.out (by omega))).mono ?_; rintro e w6 ⟨rfl, hb6⟩; have hbx : Below w4.heap.size w4 w6 := hbw.trans (hb6.mono hbw.size); have o0 := (hbx.cell (p := ⟨bg, 0, none⟩) hlg).trans e0; have o1 := (hbx.cell (p := ⟨bg, 1, none⟩) hlg).trans e1; have o2 := (hbx.cell (p := ⟨bo, 0, none⟩) hlo).trans e2; have o3 := (hbx.cell (p := ⟨bo, 1, none⟩) hlo).trans e3))
      have P6 := P4h.out.below hbx
      clear hbx hbw hb5 hb6 hrow p0 p1 p2 p3 o0 o1 o2 o3 e0 e1 e2 e3 hlg hlo
      obtain ⟨e0, e1, e2, e3⟩ := P6.cells
      have P6h := hide P6
      have hlg := P6.l.lt
      have hlo := P6.lo.lt
      clear P6
      go_wp2_with fail
      go_region_held3 (fun w' => w'.cell? ⟨bg, 0, none⟩ = some (.slice (some ⟨g, 0, none⟩) ns.length cap) ∧ w'.cell? ⟨bg, 1, none⟩ = some (.int .i64 r) ∧ w'.cell? ⟨bo, 0, none⟩ = some (.slice Ao ms.length co) ∧ w'.cell? ⟨bo, 1, none⟩ = some (.int .i64 rt))
        (first
          | (go_split_ands; refine ⟨?_, ?_, ?_, ?_⟩ <;> assumption))
        (first
          | (go_at_call 7; have HJ := specMerge_any (some ⟨g, 0, none⟩) ns cap r w6.drew (P6h.out.nd.later (Below.refl _ _).drew (Nat.le_refl _)); rw [HMD.out, HRT.out] at HJ; refine HJ.mono ?_; clear HJ; rintro e w7 ⟨Ap, cp, rfl, hrow, hb5⟩; have hbw : Below w6.heap.size w6 w7 := (Below.refl _ _).drew.trans (hb5.mono (by simp)); have p0 := (hbw.cell (p := ⟨bg, 0, none⟩) hlg).trans e0; have p1 := (hbw.cell (p := ⟨bg, 1, none⟩) hlg).trans e1; have p2 := (hbw.cell (p := ⟨bo, 0, none⟩) hlo).trans e2; have p3 := (hbw.cell (p := ⟨bo, 1, none⟩) hlo).trans e3)
          | (go_at_call 6; refine (equalGraph_same Ao Ap ms rt co cp w7 (P6h.out.out.later hbw (Nat.le_refl _)) (hrow.nds Hmwf.out (by omega))).mono ?_; rintro e w8 ⟨rfl, hb6⟩; have hbx : Below w6.heap.size w6 w8 := hbw.trans (hb6.mono hbw.size); have o0 := (hbx.cell (p := ⟨bg, 0, none⟩) hlg).trans e0; have o1 := (hbx.cell (p := ⟨bg, 1, none⟩) hlg).trans e1; have o2 := (hbx.cell (p := ⟨bo, 0, none⟩) hlo).trans e2; have o3 := (hbx.cell (p := ⟨bo, 1, none⟩) hlo).trans e3))
      have HB := hide (P6h.out.below hbx).bel
      clear hbx hbw hb5 hb6 hrow
      go_wp2
      go_ret
      exact ⟨rfl, HB.out⟩

end Go.Proofs.Ytcblcmdfeoijpaa
