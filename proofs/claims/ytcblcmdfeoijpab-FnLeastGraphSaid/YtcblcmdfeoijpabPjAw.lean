/-
  Lemmas, several texts in one: ReadB, ClaO, LstI.
-/
import Derived.Test.YtcblcmdfeoijpabPjAc
import Derived.Test.YtcblcmdfeoijpabRows
import Derived.ProofKit
import Derived.OpenShut
import Derived.ShutString
import Derived.ChangeOld
import Derived.Deep.Slices
import Derived.Deep.Fields
import Derived.Lib.SmallJoins
import Derived.Test.YtcblcmdfeoijpabPjAu
import Derived.Test.YtcblcmdfeoijpabPjAj
import Derived.Test.YtcblcmdfeoijpabPjAr
import Derived.Test.YtcblcmdfeoijpabPjAv
import Derived.Deep.RegionHeld3
namespace Go.Proofs.Ytcblcmdfeoijpab
open Go.ChangeShapes Go.WideShapes Go.ChangeAt Go.RowKit Go.Deep
set_option linter.unusedVariables false

theorem readCellsB : Try.prog.cellsOf 5 = 1 := by kernel_rfl
theorem readOwnB : ownKnob Try.prog.godebug = none := by kernel_rfl
theorem readLaidB : laidOutB Try.prog = true := by kernel_rfl

theorem addr_add_b (b off j : Nat) : (⟨b, off, none⟩ : Addr).add j = ⟨b, off + j, none⟩ := by
  unfold Addr.add
  split
  · rename_i h0; subst h0; rfl
  · rfl

/-- a slice of bytes that came in -/
theorem read_bytes {H : Type} {enc : TypeId × Value → H} {w : World} {base : Nat} {spare : Nat → Bool} {held : Bool} {m : Nat} {v : Value} {y : DataW H × List MemPlace} (h : DataW.trod enc Try.prog w base spare held m 22 [v] = some y) :
    ∃ (A : Option Addr) (n c : Nat), v = .slice A n c ∧ BytesAt w w.heap.size A n ∧ n ≤ c ∧ n ≤ 9223372036854775807 := by
  rcases open_ints Try.underlying22 Try.underlying5 readCellsB h with ⟨hcs, _⟩ | ⟨a, len, cap, zs, hcs, _, hl, hm, hz, _, hcell, hwz⟩
  · simp at hcs
    subst hcs
    exact ⟨none, 0, 0, rfl, fun k hk => absurd hk (by omega), Nat.le_refl _, by omega⟩
  · simp at hcs
    subst hcs
    have hzl : len ≤ zs.length := by rw [hz]; split <;> omega
    refine ⟨some a, len, cap, rfl, fun k hk => ?_, hl, by unfold maxLen at hm; omega⟩
    have hz0 := hcell 0 (by omega)
    have hc0 := hcell k (by omega)
    obtain ⟨b, off, sp⟩ := a
    have hsp : sp = none := by simpa [Addr.add] using World.cell?_spot hz0
    subst hsp
    rw [addr_add_b] at hc0
    have hb := range_u8 hwz k
    rw [List.getD_eq_getElem?_getD] at hc0
    obtain ⟨x, hx⟩ := Int.eq_ofNat_of_zero_le hb.1
    refine ⟨b, off, x, rfl, World.block_lt_of_cell? w _ hc0, ?_, by omega⟩
    rw [hc0, hx]

end Go.Proofs.Ytcblcmdfeoijpab

namespace Go.Proofs.Ytcblcmdfeoijpab
open Go.RowKit Go.Maps
set_option linter.unusedVariables false

set_option maxHeartbeats 1000000 in
theorem implClassesOf_any (A : Option Addr) (ns : List Nd) (c : Nat) (r : Int) (w : World) (hr : NdsAt w w.heap.size A ns) (hc : ns.length ≤ c) :
    Calls Try.prog 8 #[.agg #[.slice A ns.length c, .int .i64 r]] w (GivesInts w (clsOf ns r)) := by
  have hB : Below w.heap.size w (w.alloc (.cells #[.slice A ns.length c, .int .i64 r] 25)) := (Below.refl _ _).alloc (Nat.le_refl _) _
  have l1 := Lies.new w #[.slice A ns.length c, .int .i64 r] 25
  have hr2 := hr.later hB (Nat.le_refl _)
  clear hr
  go_enter Try.func8, Try.ntmps8
  go_wp2_with fail
  generalize w.alloc (.cells #[.slice A ns.length c, .int .i64 r] 25) = W at hB l1 hr2 ⊢
  refine (implValid_any A ns c r W hr2).mono ?_
  rintro e w1 ⟨rfl, hb1⟩
  have l2 := l1.below hb1 l1.lt
  have hr3 := hr2.later hb1 (Nat.le_refl _)
  have hB1 := hB.trans (hb1.mono hB.size)
  have e0 := l2.cell 0
  simp at e0
  clear l1 hr2 hb1 hB l2
  by_cases hv : ValidG ns r
  · have HE := hide (cls_yes hv)
    have hK := validG_kids hv
    have h12 := hv.few
    rw [tf_true hv]
    clear hv
    go_wp2_with fail
    refine (deepClasses_any A ns c w1 hr3 hK (by omega) hc).mono ?_
    rintro e w2 ⟨Ag, cg, rfl, ho, hb⟩
    have H := hide (And.intro (ho.mono hB1.size) (hB1.trans (hb.mono hB1.size)))
    rw [← HE.out] at H ⊢
    clear ho hb e0 hr3 hK
    go_wp2
    go_ret
    exact ⟨Ag, cg, rfl, H.out.1, H.out.2⟩
  · have HE := hide (cls_no hv)
    rw [tf_false hv]
    have HB := hide hB1
    clear hv e0 hr3 hB1
    go_wp2
    go_ret
    rw [HE.out]
    exact ⟨none, 0, rfl, OwnI.empty _ _, HB.out⟩

end Go.Proofs.Ytcblcmdfeoijpab

namespace Go.Proofs.Ytcblcmdfeoijpab
open Go.RowKit Go.Maps
set_option linter.unusedVariables false
set_option linter.unusedSimpArgs false

set_option maxHeartbeats 2000000 in
theorem implLeast_any (A : Option Addr) (ns : List Nd) (c : Nat) (r : Int) (w : World) (hr : NdsAt w w.heap.size A ns) (hcap : ns.length ≤ c) :
    Calls Try.prog 5 #[.agg #[.slice A ns.length c, .int .i64 r]] w (GivesG w (lstN ns r) 0) := by
  have hB2 : Below w.heap.size w ((w.alloc (.cells #[.slice A ns.length c, .int .i64 r] 25)).alloc (.cells #[.slice none 0 0, .int .i64 0] 25)) := ((Below.refl _ _).alloc (Nat.le_refl _) _).alloc (by simp) _
  have lG := (Lies.new w #[.slice A ns.length c, .int .i64 r] 25).alloc (.cells #[.slice none 0 0, .int .i64 0] 25)
  have lR := Lies.new (w.alloc (.cells #[.slice A ns.length c, .int .i64 r] 25)) #[.slice none 0 0, .int .i64 0] 25
  simp only [World.size_alloc] at lR
  have hr2 := hr.later hB2 (Nat.le_refl _)
  clear hr
  go_enter Try.func5, Try.ntmps5
  go_wp2_with fail
  generalize (w.alloc (.cells #[.slice A ns.length c, .int .i64 r] 25)).alloc (.cells #[.slice none 0 0, .int .i64 0] 25) = W at hB2 lG lR hr2 ⊢
  refine (implValid_any A ns c r W hr2).mono ?_
  rintro e w1 ⟨rfl, hb1⟩
  have lG1 := lG.below hb1 lG.lt
  have lR1 := lR.below hb1 lR.lt
  have hr3 := hr2.later hb1 (Nat.le_refl _)
  have hB3 := hB2.trans (hb1.mono hB2.size)
  have e0 := lG1.cell 0
  have e1 := lG1.cell 1
  simp at e0 e1
  clear lG lR hr2 hB2 hb1
  by_cases hv : ValidG ns r
  · rw [tf_true hv]
    have HV := hide hv
    have hGl := lG1.lt
    have hRl := lR1.lt
    have hne : w.heap.size + 1 ≠ w.heap.size := by omega
    have hr3d : NdsAt w1.drew w1.drew.heap.size A ns := hr3.later (Below.refl _ _).drew (Nat.le_refl _)
    have lRd : Lies w1.drew (w.heap.size + 1) #[.slice none 0 0, .int .i64 0] 25 := lR1
    have hGd : w.heap.size < w1.drew.heap.size := hGl
    have hRd : w.heap.size + 1 < w1.drew.heap.size := hRl
    have hBd : Below w.heap.size w w1.drew := hB3.drew
    have hfew := hv.few
    have hcl := hide (clsN_len ns ns.length)
    have H64 := hide (clsN_64 (ns := ns) (d := ns.length) (by omega))
    have HWf := hide (replNs_wf hr3.wf (validG_kids hv) (clsN_len ns ns.length) (clsN_64 (ns := ns) (d := ns.length) (by omega)))
    have HC := implClassesOf_any A ns c r w1.drew hr3d hcap
    rw [cls_yes hv] at HC
    have HC := hide HC
    have HP : Hid (∀ (Ap : Option Addr) (cp : Nat) (X : World), NdsAt X X.heap.size Ap (replNs ns (clsN ns ns.length)) → Calls Try.prog 14 #[.agg #[.slice Ap (replNs ns (clsN ns ns.length)).length cp, .int .i64 (look (clsN ns ns.length) r)]] X (GivesG X (lstN ns r) 0)) := hide (fun Ap cp X hX => by
      rw [lstN_yes hv]
      exact implPruned_any Ap _ cp _ X hX)
    have HRp := hide (fun (Ac : Option Addr) (cc : Nat) (X : World) (hX : NdsAt X X.heap.size A ns) (hI : IntsAt X X.heap.size Ac (clsN ns ns.length)) => replacedGraph_any A ns c r Ac (clsN ns ns.length) cc X hX hI hcl.out (validG_kids hv) (fun n hn => by have := (hv.nodes n hn).few; omega) (by omega) hv.root0 hv.root)
    have hrl := hide (replNs_len ns (clsN ns ns.length))
    clear hv
    generalize clsN ns ns.length = CL at *
    generalize lstN ns r = LN at *
    generalize look CL r = rt at *
    generalize hRN : replNs ns CL = RN at *
    clear hRN
    go_wp2_with fail
    go_region_held3 (fun w' => w'.cell? ⟨w.heap.size, 0, none⟩ = some (.slice A ns.length c) ∧ w'.cell? ⟨w.heap.size, 1, none⟩ = some (.int .i64 r))
      (first
        | (go_split_ands; refine ⟨?_, ?_⟩ <;> assumption)
        | go_keep)
      (first
        | (go_at_call 8; refine HC.out.mono ?_; rintro e w2 ⟨Ac, cc, rfl, hoC, hb2⟩; have q0 := (hb2.cell (p := ⟨w.heap.size, 0, none⟩) hGd).trans e0; have q1 := (hb2.cell (p := ⟨w.heap.size, 1, none⟩) hGd).trans e1; have lR2 := lRd.below hb2 hRd; have HI2 := hide (hoC.ints H64.out (by rw [hcl.out]; omega)); have Hr4 := hide (hr3d.later hb2 (Nat.le_refl _)); have hs2 := hb2.size; have HB4 := hide (hBd.trans (hb2.mono (by omega))); clear hoC hb2)
        | (go_at_call 15; refine (HRp.out Ac cc w2 Hr4.out HI2.out).mono ?_; rintro e w3 ⟨Ap, cp, rfl, hoP, hb3⟩; have z0 := (hb3.cell (p := ⟨w.heap.size, 0, none⟩) (by show w.heap.size < w2.heap.size; omega)).trans q0; have z1 := (hb3.cell (p := ⟨w.heap.size, 1, none⟩) (by show w.heap.size < w2.heap.size; omega)).trans q1; have lR3 := lR2.below hb3 lR2.lt; have HN3 := hide (hoP.nds HWf.out (by rw [hrl.out]; omega)); have hs3 := hb3.size; have HB5 := hide (HB4.out.trans (hb3.mono (by omega))); clear hoP hb3)
        | (go_at_call 14; refine (HP.out Ap cp w3 HN3.out).mono ?_; rintro e w4 ⟨Ag, cg, rfl, hoG, hb4⟩; have y0 := (hb4.cell (p := ⟨w.heap.size, 0, none⟩) (by show w.heap.size < w3.heap.size; omega)).trans z0; have y1 := (hb4.cell (p := ⟨w.heap.size, 1, none⟩) (by show w.heap.size < w3.heap.size; omega)).trans z1; have lR4 := lR3.below hb4 lR3.lt; have HoG := hide hoG; have Hb4 := hide hb4; have b0 := lR4.cell 0; have b1 := lR4.cell 1; have f0 := lR4.frozen 0; have f1 := lR4.frozen 1; simp at b0 b1; clear hoG hb4))
    have l5 := (lR4.set 0 (.slice Ag LN.length cg)).set 1 (.int .i64 0)
    simp only [List.setIfInBounds_toArray, List.set_cons_succ, List.set_cons_zero] at l5
    have s0 := l5.cell 0
    have s1 := l5.cell 1
    simp only [List.getElem?_toArray, List.getElem?_cons_zero, List.getElem?_cons_succ] at s0 s1
    have HG := hide (GivesG.putQ (q := w.heap.size + 1) (r := 0) (by omega) (by show w.heap.size + 1 < w3.heap.size; omega) HB5.out (Below.refl _ _) Hb4.out HoG.out)
    clear l5 lR4 lR3 lR2 q0 q1 z0 z1 y0 y1 b0 b1 f0 f1 lR1 lG1 hr3 hr3d lRd hBd hB3 e0 e1
    go_wp2
    refine bodyPost_ret (v := .agg #[.slice Ag LN.length cg, .int .i64 0]) (by simp [results, Try.results5, go_sem, s0, s1]) rfl ?_
    exact HG.out
  · have HY := hide hv
    have l5 := (lR1.set 0 (.slice none 0 0)).set 1 (.int .i64 0)
    simp only [List.setIfInBounds_toArray, List.set_cons_succ, List.set_cons_zero] at l5
    have s0 := l5.cell 0
    have s1 := l5.cell 1
    have b0 := lR1.cell 0
    have b1 := lR1.cell 1
    have f0 := lR1.frozen 0
    have f1 := lR1.frozen 1
    simp only [List.getElem?_toArray, List.getElem?_cons_zero, List.getElem?_cons_succ] at s0 s1 b0 b1
    have HB := hide ((hB3.setCell (p := ⟨w.heap.size + 1, 0, none⟩) (by show w.heap.size ≤ w.heap.size + 1; omega) (.slice none 0 0)).setCell (p := ⟨w.heap.size + 1, 1, none⟩) (by show w.heap.size ≤ w.heap.size + 1; omega) (.int .i64 0))
    rw [tf_false hv]
    clear hv l5 lR1 lG1 hr3 hB3 e0 e1
    go_wp2
    refine bodyPost_ret (v := .agg #[.slice none 0 0, .int .i64 0]) (by simp [results, Try.results5, go_sem, s0, s1]) rfl ?_
    rw [lstN_no HY.out]
    exact GivesG.zero _ _ HB.out

end Go.Proofs.Ytcblcmdfeoijpab
