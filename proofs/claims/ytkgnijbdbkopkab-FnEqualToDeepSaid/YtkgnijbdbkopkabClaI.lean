/-
  The program's classesUpTo, deepClasses: what they return.
-/
import Derived.Test.YtkgnijbdbkopkabPjAf
import Derived.Test.YtkgnijbdbkopkabPjAd
import Derived.Test.YtkgnijbdbkopkabPjAe
import Derived.Test.YtkgnijbdbkopkabPjAg
import Derived.Test.YtkgnijbdbkopkabPjAh
import Derived.Deep.LoopGhost
import Derived.Deep.Cut
import Derived.Deep.RegionLaw
import Derived.WalkMore
namespace Go.Proofs.Ytkgnijbdbkopkab
open Go.RowKit
set_option linter.unusedVariables false

theorem cls_64 {ns : List Nd} (hn : ns.length ≤ 1000) (d : Nat) : ∀ x ∈ clsN ns d, In64 x := by
  intro x hx
  have := clsN_in ns d x hx
  constructor <;> omega

set_option maxRecDepth 100000 in
set_option maxHeartbeats 4000000 in
theorem classesUpTo_any (A : Option Addr) (ns : List Nd) (c : Nat) (d : Nat) (w : World) (hr : NdsAt w w.heap.size A ns) (hK : KidsIn ns) (hn : ns.length ≤ 1000) (hd : d ≤ 1000) (hc : ns.length ≤ c) :
    Calls Try.prog 13 #[.slice A ns.length c, .int .i64 (d : Int)] w (GivesInts w (clsN ns d)) := by
  have hmk : ∀ w : World, _ := run_make_row' (P := Try.prog) 37 3 (.int .i64 0) 8 Try.underlying37 infoInt rfl .i64 .i64 ns.length (by omega) (by omega)
  have Hr := hide hr
  have HK := hide hK
  have hB0 := ((Below.refl w.heap.size w).alloc (Nat.le_refl _) (.cells (madeCells #[.int .i64 0] ns.length) 3)).alloc (by simp) (.cells (madeCells #[.int .i64 0] ns.length) 3)
  have hR1 := RowL.made w ns.length
  have hR1' : RowL ((w.alloc (.cells (madeCells #[.int .i64 0] ns.length) 3)).alloc (.cells (madeCells #[.int .i64 0] ns.length) 3)) w.heap.size (List.replicate ns.length 0) := hR1.later ((Below.refl _ _).alloc (Nat.le_refl _) _)
  have hR2 := RowL.made (w.alloc (.cells (madeCells #[.int .i64 0] ns.length) 3)) ns.length
  simp only [World.size_alloc] at hR2
  clear hr hK hR1
  go_enter Try.func13, Try.ntmps13
  go_wp2_with fail
  clear hmk
  generalize (w.alloc (.cells (madeCells #[.int .i64 0] ns.length) 3)).alloc (.cells (madeCells #[.int .i64 0] ns.length) 3) = W at hB0 hR1' hR2 ⊢
  have HB0 := hide hB0
  have HR1 := hide hR1'
  have HR2 := hide hR2
  have hW2 : w.heap.size + 1 < W.heap.size := hR2.lt
  clear hB0 hR1' hR2
  go_loopg [7, 8, 9, 10, 18, 25, 34] d (fun gk _ _ _ _ rv _ _ wr => ∃ (r : Nat) (bs : List Int), r ≤ d ∧ gk = d - r ∧ rv = .int .i64 (r : Int) ∧ Hid (bs.length = ns.length) ∧ RowL wr w.heap.size (clsN ns r) ∧ RowL wr (w.heap.size + 1) bs ∧ Below w.heap.size w wr)
  case atStart => exact ⟨0, List.replicate ns.length 0, Nat.zero_le _, rfl, rfl, hide (by simp), HR1.out, HR2.out, HB0.out⟩
  case round =>
    clear HR1 HR2
    obtain ⟨r, bs, hrd, rfl, rfl, hbs, h1, h2, hb⟩ := hrel
    have hC64 := hide (cls_64 hn r)
    have hl0 : Hid ((clsN ns r).length = ns.length) := clsN_len ns r
    have hl1 : Hid ((finer ns (clsN ns r)).length = ns.length) := finer_len ns _
    have hin := hide (clsN_in ns r)
    have HK2 := hide (fun (x : Int) (hx : 0 ≤ x ∧ x < ns.length) => show 0 ≤ x ∧ x < ((clsN ns r).length : Int) by rw [hl0.out]; exact hx)
    have Hb := hide hb
    have H1 := hide h1
    have H2 := hide h2
    clear h1 h2 hb
    by_cases hlt : r < d
    · have hlt2 : (r : Int) < (d : Int) := by omega
      have HSt : Hid (finer ns (clsN ns r) = clsN ns (r + 1)) := rfl
      generalize hC : clsN ns r = C at *
      have HC := hide hC
      clear hC
      have hcl : C.length ≤ 1000 := by rw [hl0.out]; exact hn
      have hw1 : w.heap.size + 1 < wr.heap.size := H2.out.lt
      have hg12 : w.heap.size < w.heap.size + 1 := by omega
      go_wp2_with fail
      go_step3
      go_wp2_with (with_reducible refine copy_rowL rfl (.tmp 20) (.tmp 21) rfl ns.length w.heap.size (w.heap.size + 1) rfl rfl C bs H1.out H2.out hl0.out hbs.out ?_; intro w2 hc2 hb2)
      go_step3
      have HR1 := hide (H1.out.below hb2 hg12)
      have HR2 := hide hc2
      have HB2 := hide (Hb.out.trans (hb2.mono (by omega)))
      have hs2 := hb2.size
      clear hc2 hb2
      generalize hC1 : finer ns C = C1 at hl1 HSt
      have HC1 := hide hC1
      clear hC1
      go_wp2_with fail
      go_loopg [7, 8, 9, 10, 25, 34] ns.length (fun gk _ _ _ _ iv _ wi => ∃ i : Nat, i ≤ ns.length ∧ gk = ns.length - i ∧ iv = .int .i64 (i : Int) ∧ RowL wi w.heap.size (mixL C1 C i) ∧ RowL wi (w.heap.size + 1) C ∧ Below w.heap.size w wi)
      case atStart => exact ⟨0, Nat.zero_le _, rfl, rfl, by rw [mixL_zero]; exact HR1.out, HR2.out, HB2.out⟩
      case round =>
        clear HR1 HR2 HB2 H1 H2 Hb
        obtain ⟨i, hi, rfl, rfl, h1, h2, hb⟩ := hrel
        have H1 := hide h1
        have H2 := hide h2
        have Hb := hide hb
        clear h1 h2 hb
        by_cases hli : i < ns.length
        · obtain ⟨b, off, n, rfl, hbn, hn', hmn, hnd⟩ := (Hr.out.below Hb.out).at_ hli
          obtain ⟨An, cn, kn2, hkn, _⟩ := hnd.kids
          have kn0 := hnd.kind
          have kn1 := hnd.value
          have HN := hide hn'
          have HKn := hide (HK.out n hmn)
          have Hkl := hide hkn.len
          have hi0 : (0 : Int) ≤ (i : Int) := by omega
          have hi1 : (i : Int) < (ns.length : Int) := by omega
          have hi2 : (i : Int) ≤ (ns.length : Int) := by omega
          have hi3 : (i : Int) ≤ (c : Int) := by omega
          have hwle : w.heap.size ≤ wr.heap.size := Hb.out.size
          have hb8 := (Below.refl wr.heap.size wr).alloc (Nat.le_refl _) (.cells #[.int .i64 n.kind, .int .i64 n.value, .slice An n.kids.length cn] 45)
          have l8 := Lies.new wr #[.int .i64 n.kind, .int .i64 n.value, .slice An n.kids.length cn] 45
          have HR1 := hide (H1.out.later hb8)
          have HR2 := hide (H2.out.later hb8)
          have HB8 := hide (Hb.out.trans (hb8.mono hwle))
          have HkN := hide (hkn.below (hb8.mono hwle))
          have hw1 : w.heap.size + 1 < wr.heap.size := H2.out.lt
          clear hn' hmn hnd hkn
          go_wp2_with fail
          generalize wr.alloc (.cells #[.int .i64 n.kind, .int .i64 n.value, .slice An n.kids.length cn] 45) = w8 at HR1 HR2 HB8 HkN l8 ⊢
          have HL8 := hide l8
          generalize wr.heap.size = b8 at HL8 hw1 hwle ⊢
          have hb8l : b8 < w8.heap.size := HL8.out.lt
          clear l8 hb8 H1 H2 Hb
          go_loopg [9, 10, 34] i (fun gk _ _ jv wi => ∃ j : Nat, j ≤ i ∧ gk = i - j ∧ jv = .int .i64 (j : Int) ∧ Below w8.heap.size w8 wi ∧ ∀ (k : Nat) (q : Nd), k < j → ns[k]? = some q → sigOf C q ≠ sigOf C n)
          case atStart => exact ⟨0, Nat.zero_le _, rfl, rfl, Below.refl _ _, fun k q hk => absurd hk (by omega)⟩
          case round =>
            obtain ⟨j, hj, rfl, rfl, hb, hall0⟩ := hrel
            have hall := hide hall0
            have Hb := hide hb
            have hszw := hb.size
            clear hall0 hb
            have HBw := hide (HB8.out.trans (Hb.out.mono HB8.out.size))
            have H1 := hide (HR1.out.later Hb.out)
            have H2 := hide (HR2.out.later Hb.out)
            have hLi := HL8.out.below Hb.out hb8l
            have g0 := hLi.cell 0
            have g1 := hLi.cell 1
            have g2 := hLi.cell 2
            simp only [List.getElem?_toArray, List.getElem?_cons_zero, List.getElem?_cons_succ] at g0 g1 g2
            clear hLi
            by_cases hlj : j < i
            · obtain ⟨b', off', m, e1, hbm, hm, hmm, hmd⟩ := (Hr.out.below HBw.out).at_ (k := j) (by omega)
              injection e1 with e1
              injection e1 with e2 e3
              subst e2 e3
              obtain ⟨Am, cm, km2, hkm, _⟩ := hmd.kids
              have km0 := hmd.kind
              have km1 := hmd.value
              have HM := hide hm
              have HKm := hide (HK.out m hmm)
              have hj0 : (0 : Int) ≤ (j : Int) := by omega
              have hj1 : (j : Int) < (i : Int) := by omega
              have hbx := (Below.refl wr.heap.size wr).alloc (Nat.le_refl _) (.cells #[.int .i64 m.kind, .int .i64 m.value, .slice Am m.kids.length cm] 45)
              have hww : w.heap.size ≤ wr.heap.size := HBw.out.size
              have hw8 : w.heap.size ≤ w8.heap.size := HB8.out.size
              have hwx : w.heap.size ≤ (wr.alloc (.cells #[.int .i64 m.kind, .int .i64 m.value, .slice Am m.kids.length cm] 45)).heap.size := by simp; omega
              have hcall := hide (areAlike_any Am An m n cm cn (some ⟨w.heap.size + 1, 0, none⟩) C ns.length (wr.alloc (.cells #[.int .i64 m.kind, .int .i64 m.value, .slice Am m.kids.length cm] 45)) ((H2.out.later hbx).ints hC64.out (by omega)) ((hkm.below (hbx.mono hww)).more hwx) (((HkN.out.below (Hb.out.mono hw8)).below (hbx.mono hww)).more hwx) (fun x hx => HK2.out x (HKm.out x hx)) (fun x hx => HK2.out x (HKn.out x hx)))
              rw [hl0.out] at hcall
              have hrow1 := hide (H1.out.later hbx)
              have hrow2 := hide (H2.out.later hbx)
              have HBx := hide (HBw.out.trans (hbx.mono HBw.out.size))
              have HBx8 := hide (Hb.out.trans (hbx.mono hszw))
              have lx := Lies.new wr #[.int .i64 m.kind, .int .i64 m.value, .slice Am m.kids.length cm] 45
              have x0 := lx.cell 0
              have x1 := lx.cell 1
              have x2 := lx.cell 2
              simp only [List.getElem?_toArray, List.getElem?_cons_zero, List.getElem?_cons_succ] at x0 x1 x2
              have f0 := (hbx.cell (p := ⟨b8, 0, none⟩) (by show b8 < _; omega)).trans g0
              have f1 := (hbx.cell (p := ⟨b8, 1, none⟩) (by show b8 < _; omega)).trans g1
              have f2 := (hbx.cell (p := ⟨b8, 2, none⟩) (by show b8 < _; omega)).trans g2
              clear hm hmm hmd hkm lx hbx g0 g1 g2 hwx
              go_upto_region 12 with fail
              generalize wr.alloc (.cells #[.int .i64 m.kind, .int .i64 m.value, .slice Am m.kids.length cm] 45) = wx at hcall hrow1 hrow2 HBx HBx8 x0 x1 x2 f0 f1 f2 ⊢
              generalize wr.heap.size = bx at x0 x1 x2 hww hszw ⊢
              by_cases hs : sigOf C m = sigOf C n
              · have hfin := hide (finer_first (cl := C) HN.out HM.out hs (fun k q hk hq => hall.out k q hk hq))
                rw [tf_true hs] at hcall
                clear hs
                go_wp2_with fail
                refine hcall.out.mono ?_
                rintro e wy ⟨rfl, hby⟩
                have hR1 := hrow1.out.later hby
                have hR2 := hrow2.out.later hby
                have HBy := hide (HBx.out.trans (hby.mono HBx.out.size))
                have hfr := hR1.frozen i
                have hml : (mixL C1 C i).length = C.length := mixL_len (by rw [hl1.out, hl0.out])
                obtain ⟨v0, hv0⟩ : ∃ v, (mixL C1 C i)[i]? = some v := ⟨_, List.getElem?_eq_getElem (by rw [hml, hl0.out]; exact hli)⟩
                have hce := hR1.cell hv0
                have hset := hR1.set i (j : Int)
                have hfi : C1[i]? = some (j : Int) := by rw [← HC1.out]; exact hfin.out
                rw [mixL_set (by rw [hl1.out, hl0.out]) hfi] at hset
                have HS1 := hide hset
                have HS2 := hide (hR2.far (q := w.heap.size) (j := i) (v := .int .i64 (j : Int)) (by omega))
                have HBs := hide (HBy.out.setCell (p := ⟨w.heap.size, i, none⟩) (Nat.le_refl _) (.int .i64 (j : Int)))
                clear hby hR1 hR2 hset hv0 hml hfi hfin hcall x0 x1 x2 f0 f1 f2
                go_wp2
                go_roundg (ns.length - (i + 1))
                case measure => omega
                case rel => exact ⟨i + 1, by omega, rfl, by go_num, HS1.out, HS2.out, HBs.out⟩
              · have Hs := hide hs
                rw [tf_false hs] at hcall
                clear hs
                go_wp2_with fail
                refine hcall.out.mono ?_
                rintro e wy ⟨rfl, hby⟩
                have HBy := hide (HBx8.out.trans (hby.mono HBx8.out.size))
                clear hby hcall x0 x1 x2 f0 f1 f2
                go_wp2
                go_roundg (i - (j + 1))
                case measure => omega
                case rel => exact ⟨j + 1, by omega, rfl, by go_num, HBy.out, fun k q hk hq => by
                  by_cases e : k = j
                  · subst e
                    rw [HM.out] at hq
                    injection hq with hq
                    rw [← hq]
                    exact Hs.out
                  · exact hall.out k q (by omega) hq⟩
            · obtain rfl : j = i := by omega
              have hfin := hide (finer_first (cl := C) HN.out HN.out rfl (fun k q hk hq => hall.out k q hk hq))
              have hjj : decide ((j : Int) < (j : Int)) = false := by simp
              have hR1 := H1.out
              have hfr := hR1.frozen j
              have hml : (mixL C1 C j).length = C.length := mixL_len (by rw [hl1.out, hl0.out])
              obtain ⟨v0, hv0⟩ : ∃ v, (mixL C1 C j)[j]? = some v := ⟨_, List.getElem?_eq_getElem (by rw [hml, hl0.out]; exact hli)⟩
              have hce := hR1.cell hv0
              have hset := hR1.set j (j : Int)
              have hfi : C1[j]? = some (j : Int) := by rw [← HC1.out]; exact hfin.out
              rw [mixL_set (by rw [hl1.out, hl0.out]) hfi] at hset
              have HS1 := hide hset
              have HS2 := hide (H2.out.far (q := w.heap.size) (j := j) (v := .int .i64 (j : Int)) (by omega))
              have HBs := hide (HBw.out.setCell (p := ⟨w.heap.size, j, none⟩) (Nat.le_refl _) (.int .i64 (j : Int)))
              clear hR1 hset hv0 hml hfi hfin g0 g1 g2 hlj
              go_wp2
              go_roundg (ns.length - (j + 1))
              case measure => omega
              case rel => exact ⟨j + 1, by omega, rfl, by go_num, HS1.out, HS2.out, HBs.out⟩
        · obtain rfl : i = ns.length := by omega
          have hii : decide ((ns.length : Int) < (ns.length : Int)) = false := by simp
          have H1' : Hid (RowL wr w.heap.size C1) := by
            have := H1.out
            rw [← hl0.out, mixL_all (by rw [hl1.out, hl0.out])] at this
            exact this
          clear H1
          have hcl1 : C1.length ≤ 1000 := by rw [hl1.out]; exact hn
          have h164 : ∀ x ∈ C1, In64 x := by rw [HSt.out]; exact cls_64 hn (r + 1)
          have hi1 := H1'.out.ints h164 (by omega)
          have hi2 := H2.out.ints hC64.out (by omega)
          have HEQ := hide (equalI_any (some ⟨w.heap.size + 1, 0, none⟩) (some ⟨w.heap.size, 0, none⟩) C C1 ns.length ns.length wr hi2 hi1)
          rw [hl0.out, hl1.out] at HEQ
          clear hi1 hi2 h164
          by_cases he : C = C1
          · have hst : clsN ns d = C1 := by
              have h1 : clsN ns (r + 1) = clsN ns r := by rw [← HSt.out, HC.out, ← he]
              have h2 := cls_stays h1 (d - r)
              rw [show r + (d - r) = d by omega] at h2
              rw [h2, HC.out, he]
            have HE := hide he
            rw [decide_eq_true he] at HEQ
            clear he
            go_wp2_with fail
            refine HEQ.out.mono ?_
            rintro e wy ⟨rfl, hby⟩
            have HO := hide ((H1'.out.later hby).own (base := w.heap.size) (Nat.le_refl _) (by unfold maxLen; omega))
            have HBy := hide (Hb.out.trans (hby.mono Hb.out.size))
            clear hby HEQ
            have Hst := hide hst
            clear hst
            go_wp2
            rw [Exit.noGoto_exit]
            go_wp2
            go_ret
            refine ⟨some ⟨w.heap.size, 0, none⟩, ns.length, by rw [Hst.out, hl1.out]; rfl, ?_, HBy.out⟩
            have h3 := HO.out
            rw [hl1.out] at h3
            rw [Hst.out]
            exact h3
          · rw [decide_eq_false he] at HEQ
            have HL : Hid (bs.length = ns.length) := hbs
            go_wp2_with fail
            refine HEQ.out.mono ?_
            rintro e wy ⟨rfl, hby⟩
            have HBy := hide (Hb.out.trans (hby.mono Hb.out.size))
            have HR1 := hide (H1'.out.later hby)
            have HR2 := hide (H2.out.later hby)
            clear hby HEQ
            go_wp2
            rw [Exit.noGoto_normal]
            go_wp2
            go_roundg (d - (r + 1))
            case measure => omega
            case rel => exact ⟨r + 1, C, by omega, rfl, by go_num, hl0, by rw [← HSt.out]; exact HR1.out, HR2.out, HBy.out⟩
    · obtain rfl : r = d := by omega
      have hlt2 : decide ((r : Int) < (r : Int)) = false := by simp
      have HO := hide (H1.out.own (Nat.le_refl _) (by rw [hl0.out]; unfold maxLen; omega))
      have HE : Hid ((clsN ns r).length = ns.length) := hl0
      go_wp2
      go_ret
      refine ⟨some ⟨w.heap.size, 0, none⟩, ns.length, by rw [HE.out]; rfl, ?_, Hb.out⟩
      have := HO.out
      rw [HE.out] at this
      exact this

end Go.Proofs.Ytkgnijbdbkopkab
