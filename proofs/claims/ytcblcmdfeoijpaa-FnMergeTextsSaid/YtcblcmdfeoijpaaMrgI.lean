/-
  The program's firstText and MergeTexts: what they return.
-/
import Derived.Test.YtcblcmdfeoijpaaPjAl
import Derived.Test.YtcblcmdfeoijpaaPjAp
import Derived.Test.YtcblcmdfeoijpaaPjAc
import Derived.Test.YtcblcmdfeoijpaaPjAh
import Derived.Test.YtcblcmdfeoijpaaImplD
namespace Go.Proofs.Ytcblcmdfeoijpaa
open Go.RowKit Go.Maps
set_option linter.unusedVariables false
set_option linter.unusedSimpArgs false

set_option maxHeartbeats 1000000 in
theorem firstText1_any (n : Nd) (A : Option Addr) (c q : Nat) (v : Int) (w : World) (h : w.cell? ⟨q, 0, none⟩ = some (.int .i64 v)) (hq : q < w.heap.size) :
    Calls Try.prog 31 #[.agg #[.int .i64 n.kind, .int .i64 n.value, .slice A n.kids.length c], .pointer (some ⟨q, 0, none⟩)] w fun e w' => e = .returned (.bool (decide (IsTx v n))) ∧ Below w.heap.size w w' := by
  have hB : Below w.heap.size w (w.alloc (.cells #[.int .i64 n.kind, .int .i64 n.value, .slice A n.kids.length c] 32)) := (Below.refl _ _).alloc (Nat.le_refl _) _
  have l1 := Lies.new w #[.int .i64 n.kind, .int .i64 n.value, .slice A n.kids.length c] 32
  have h2 := (hB.cell (p := ⟨q, 0, none⟩) hq).trans h
  have HB := hide hB
  clear h
  go_enter Try.func31, Try.ntmps31
  go_upto_region 1 with fail
  generalize w.alloc (.cells #[.int .i64 n.kind, .int .i64 n.value, .slice A n.kids.length c] 32) = W at hB HB l1 h2 ⊢
  have e0 := l1.cell 0
  have e1 := l1.cell 1
  simp only [List.getElem?_toArray, List.getElem?_cons_zero, List.getElem?_cons_succ] at e0 e1
  clear hB l1
  by_cases hk : n.kind = 1
  · have t : (n.kind == 1) = true := by simpa using hk
    by_cases hv : n.value = v
    · have t1 : (n.value == v) = true := by simpa using hv
      have HF := hide (show decide (IsTx v n) = true from decide_eq_true ⟨hk, hv⟩)
      clear hk hv
      go_wp2
      go_ret
      exact ⟨ret_bool HF.out.symm, HB.out⟩
    · have t1 : (n.value == v) = false := by simpa using hv
      have HF := hide (show decide (IsTx v n) = false from decide_eq_false (fun h => hv h.2))
      clear hk hv
      go_wp2
      go_ret
      exact ⟨ret_bool HF.out.symm, HB.out⟩
  · have t : (n.kind == 1) = false := by simpa using hk
    have HF := hide (show decide (IsTx v n) = false from decide_eq_false (fun h => hk h.1))
    clear hk
    go_wp2
    go_ret
    exact ⟨ret_bool HF.out.symm, HB.out⟩

set_option maxRecDepth 100000 in
set_option maxHeartbeats 1000000 in
theorem indexText_any (A : Option Addr) (ns : List Nd) (c q : Nat) (v : Int) (w : World) (hr : NdsAt w w.heap.size A ns) (h : w.cell? ⟨q, 0, none⟩ = some (.int .i64 v)) (hq : q < w.heap.size) (hex : ∃ n ∈ ns, IsTx v n) :
    Calls Try.prog 30 #[.slice A ns.length c, .func (.func 31) #[] #[.pointer (some ⟨q, 0, none⟩)]] w fun e w' => e = .returned (.int .i64 (firstT ns v : Int)) ∧ Below w.heap.size w w' := by
  have hl := hr.len
  have HR := hide hr
  have HQ := hide h
  have HX := hide hex
  clear hr h hex
  go_enter Try.func30, Try.ntmps30
  go_wp2_with fail
  go_loopw [8] (fun iv wr => ∃ k : Nat, k ≤ ns.length ∧ iv = .int .i64 k ∧ Below w.heap.size w wr ∧ ∀ (j : Nat) (o : Nd), j < k → ns[j]? = some o → ¬ IsTx v o) (fun iv _ => ns.length - (intOf iv).toNat)
  case atStart => exact ⟨0, Nat.zero_le _, rfl, Below.refl _ _, fun j _ hj => absurd hj (by omega)⟩
  case round =>
    obtain ⟨k, hk, rfl, hb, he0⟩ := hrel
    have he := hide he0
    have Hb := hide hb
    clear he0
    by_cases hlt : k < ns.length
    · obtain ⟨b, off, n, rfl, hbl, hx, hmem, hnd⟩ := (HR.out.below hb).at_ hlt
      obtain ⟨A1, c1, k2, _, _⟩ := hnd.kids
      have k0 := hnd.kind
      have k1 := hnd.value
      have hk1 : (0 : Int) ≤ (k : Int) := by omega
      have hk2 : (k : Int) < (ns.length : Int) := by omega
      have HN := hide hx
      have HC := hide (firstText1_any n A1 c1 q v wr ((hb.cell (p := ⟨q, 0, none⟩) hq).trans HQ.out) (by have := hb.size; omega))
      clear hx hmem hnd hb
      go_wp2_with fail
      refine HC.out.mono ?_
      clear HC
      rintro e w2 ⟨rfl, hb2⟩
      have hb3 := Hb.out.trans (hb2.mono Hb.out.size)
      clear hb2
      by_cases hs : IsTx v n
      · rw [decide_eq_true hs]
        have HF := hide (firstT_is HN.out hs he.out)
        clear hs he k0 k1 k2
        go_wp2
        go_ret
        exact ⟨by rw [HF.out]; rfl, hb3⟩
      · rw [decide_eq_false hs]
        have HE := hide (show ∀ (j : Nat) (o : Nd), j < k + 1 → ns[j]? = some o → ¬ IsTx v o from fun j o hj ho => by
          by_cases e : j = k
          · subst e
            rw [HN.out] at ho
            injection ho with ho
            rw [← ho]; exact hs
          · exact he.out j o (by omega) ho)
        clear hs he k0 k1 k2
        go_wp2
        go_roundw
        case rel => exact ⟨k + 1, by omega, by go_num, hb3, HE.out⟩
        case measure => simp [intOf]; omega
    · exfalso
      obtain ⟨n, hm, ht⟩ := HX.out
      obtain ⟨j, hj, e⟩ := List.getElem_of_mem hm
      exact he.out j n (by omega) (by rw [List.getElem?_eq_getElem hj, e]) ht

set_option maxHeartbeats 1000000 in
theorem firstText_any (A : Option Addr) (ns : List Nd) (c : Nat) (v : Int) (w : World) (hr : NdsAt w w.heap.size A ns) (hex : ∃ n ∈ ns, IsTx v n) :
    Calls Try.prog 13 #[.slice A ns.length c, .int .i64 v] w fun e w' => e = .returned (.int .i64 (firstT ns v : Int)) ∧ Below w.heap.size w w' := by
  have hB : Below w.heap.size w (w.alloc (.cells #[.int .i64 v] 3)) := (Below.refl _ _).alloc (Nat.le_refl _) _
  have l1 := Lies.new w #[.int .i64 v] 3
  have e0 := l1.cell 0
  simp only [List.getElem?_toArray, List.getElem?_cons_zero, List.getElem?_cons_succ] at e0
  have HC := hide (indexText_any A ns c w.heap.size v _ (hr.later hB (Nat.le_refl _)) e0 l1.lt hex)
  clear hr hex l1 e0
  go_enter Try.func13, Try.ntmps13
  go_upto_region 1 with fail
  generalize w.alloc (.cells #[.int .i64 v] 3) = W at hB HC ⊢
  go_wp2_with fail
  refine HC.out.mono ?_
  rintro e w2 ⟨rfl, hb2⟩
  have HB := hide (hB.trans (hb2.mono hB.size))
  clear hB hb2 HC
  go_wp2
  go_ret
  exact ⟨rfl, HB.out⟩

set_option maxHeartbeats 2000000 in
theorem implMerge_any (A : Option Addr) (ns : List Nd) (c : Nat) (r : Int) (w : World) (hr : NdsAt w w.heap.size A ns) :
    Calls Try.prog 5 #[.agg #[.slice A ns.length c, .int .i64 r]] w (GivesG w (mrgN ns r) (mrgR ns r)) := by
  have hB2 : Below w.heap.size w ((w.alloc (.cells #[.slice A ns.length c, .int .i64 r] 25)).alloc (.cells #[.slice none 0 0, .int .i64 0] 25)) := ((Below.refl _ _).alloc (Nat.le_refl _) _).alloc (by simp) _
  have lG := (Lies.new w #[.slice A ns.length c, .int .i64 r] 25).alloc (.cells #[.slice none 0 0, .int .i64 0] 25)
  have lR := Lies.new (w.alloc (.cells #[.slice A ns.length c, .int .i64 r] 25)) #[.slice none 0 0, .int .i64 0] 25
  simp only [World.size_alloc] at lR
  have hr2 := hr.later hB2 (Nat.le_refl _)
  clear hr
  go_enter Try.func5, Try.ntmps5
  go_upto_region 1 with fail
  generalize (w.alloc (.cells #[.slice A ns.length c, .int .i64 r] 25)).alloc (.cells #[.slice none 0 0, .int .i64 0] 25) = W at hB2 lG lR hr2 ⊢
  have g0 := lG.cell 0
  have g1 := lG.cell 1
  simp at g0 g1
  go_wp2_with fail
  clear g0 g1
  refine (implValid_any A ns c r W hr2).mono ?_
  rintro e w1 ⟨rfl, hb1⟩
  have lG1 := lG.below hb1 lG.lt
  have lR1 := lR.below hb1 lR.lt
  have hr3 := hr2.later hb1 (Nat.le_refl _)
  have hB3 := hB2.trans (hb1.mono hB2.size)
  have e0 := lG1.cell 0
  have e1 := lG1.cell 1
  simp at e0 e1
  clear lG lR hr2 hB2 hb1
  by_cases hv : ValidG ns r
  · rw [tf_true hv]
    have hfew := hv.few
    have HV := hide hv
    have hmk : ∀ w : World, _ := run_make_row' (P := Try.prog) 29 3 (.int .i64 0) 8 Try.underlying29 infoInt rfl .i64 .i64 ns.length (by omega) (by omega)
    have hba : Below w1.heap.size w1 (w1.alloc (.cells (madeCells #[.int .i64 0] ns.length) 3)) := (Below.refl _ _).alloc (Nat.le_refl _) _
    have hRw := RowL.made w1 ns.length
    have hGl := lG1.lt
    have hRl := lR1.lt
    have HLG := hide lG1
    have HLR := hide lR1
    have e0W := (lG1.below hba lG1.lt).cell 0
    simp only [List.getElem?_toArray, List.getElem?_cons_zero, List.getElem?_cons_succ] at e0W
    have HR3 := hide hr3
    have HB3 := hide hB3
    clear hv hr3 hB3 lG1 lR1
    go_upto_region 4 with fail
    clear hmk
    have hba2 := hide hba
    have HRw := hide hRw
    clear hba hRw e0 e1
    generalize w1.alloc (.cells (madeCells #[.int .i64 0] ns.length) 3) = W2 at hba2 HRw e0W ⊢
    have hgl : w1.heap.size < W2.heap.size := HRw.out.lt
    have Htl := hide (txtCl_len ns)
    have Hzl : Hid ((List.replicate ns.length (0 : Int)).length = ns.length) := hide (by simp)
    go_wp2_with fail
    clear e0W
    go_loopg [4, 5, 17] ns.length (fun gk _ _ iv wr => ∃ k : Nat, k ≤ ns.length ∧ gk = ns.length - k ∧ iv = .int .i64 (k : Int) ∧ RowL wr w1.heap.size (mixL (txtCl ns) (List.replicate ns.length 0) k) ∧ Below w1.heap.size w1 wr ∧ w1.heap.size < wr.heap.size)
    case atStart => exact ⟨0, Nat.zero_le _, rfl, rfl, by rw [mixL_zero]; exact HRw.out, hba2.out, hgl⟩
    case round =>
      clear HRw hba2 hgl
      obtain ⟨k, hk, rfl, rfl, hrow, hbw, hgl⟩ := hrel
      have Hrow := hide hrow
      have Hbw := hide hbw
      have hws := HB3.out.size
      have hml : Hid ((mixL (txtCl ns) (List.replicate ns.length (0 : Int)) k).length = ns.length) := hide (by rw [mixL_len (by rw [Htl.out, Hzl.out]), Hzl.out])
      clear hrow hbw
      by_cases hlt : k < ns.length
      · obtain ⟨b, off, n, rfl, hbl, hn2, hm, hnd⟩ := ((HR3.out.below Hbw.out).more (B' := wr.heap.size) Hbw.out.size).at_ hlt
        obtain ⟨A1, c1, k2, hki, hnil⟩ := hnd.kids
        have k0 := hnd.kind
        have k1 := hnd.value
        have HN := hide hn2
        have HM := hide hm
        have hk1 : (0 : Int) ≤ (k : Int) := by omega
        have hk2 : (k : Int) < (ns.length : Int) := by omega
        have Hset := hide (fun (x : Int) (hx : x = ftx ns k) => mixL_set (xs := txtCl ns) (ys := List.replicate ns.length (0 : Int)) (i := k) (v := x) (by rw [Htl.out, Hzl.out]) (by rw [txtCl_at hlt, hx]))
        have hba : Below wr.heap.size wr (wr.alloc (.cells #[.int .i64 n.kind, .int .i64 n.value, .slice A1 n.kids.length c1] 32)) := (Below.refl _ _).alloc (Nat.le_refl _) _
        have l1 := Lies.new wr #[.int .i64 n.kind, .int .i64 n.value, .slice A1 n.kids.length c1] 32
        clear hn2 hm hnd hki
        go_upto_region 7 with fail
        clear k0 k1 k2
        generalize wr.alloc (.cells #[.int .i64 n.kind, .int .i64 n.value, .slice A1 n.kids.length c1] 32) = W3 at hba l1 ⊢
        have hs3 := hba.size
        have hrow3 := Hrow.out.below hba hgl
        have q0 : W3.cell? ⟨w1.heap.size, k, none⟩ = some (.int .i64 ((mixL (txtCl ns) (List.replicate ns.length 0) k)[k]'(by rw [hml.out]; exact hlt))) := hrow3.cell (List.getElem?_eq_getElem (by rw [hml.out]; exact hlt))
        have q1 := hrow3.frozen k
        have hrow4 := hrow3.set k (k : Int)
        have HB4 := hide ((Hbw.out.trans (hba.mono Hbw.out.size)).setCell (p := ⟨w1.heap.size, k, none⟩) (Nat.le_refl _) (.int .i64 (k : Int)))
        have l4 : Lies (W3.setCell ⟨w1.heap.size, k, none⟩ (.int .i64 (k : Int))) wr.heap.size _ _ := l1.far (p := ⟨w1.heap.size, k, none⟩) (by show wr.heap.size ≠ w1.heap.size; omega) _
        have d0 := l4.cell 0
        have d1 := l4.cell 1
        simp only [List.getElem?_toArray, List.getElem?_cons_zero, List.getElem?_cons_succ] at d0 d1
        have hsz4 : (W3.setCell ⟨w1.heap.size, k, none⟩ (.int .i64 (k : Int))).heap.size = W3.heap.size := by simp
        have hsz5 : wr.heap.size ≤ (W3.setCell ⟨w1.heap.size, k, none⟩ (.int .i64 (k : Int))).heap.size := by omega
        have Hrow4 := hide hrow4
        clear hsz4 hrow3 hrow4 hba l1 l4
        go_upto_region 8 with fail
        clear q0 q1
        generalize W3.setCell ⟨w1.heap.size, k, none⟩ (.int .i64 (k : Int)) = W4 at HB4 Hrow4 d0 d1 hsz5 ⊢
        clear hs3
        by_cases hkt : n.kind = 1
        · have t : (n.kind == 1) = true := by simpa using hkt
          have HX := hide (ftx_text HN.out hkt)
          have HC := hide (firstText_any (some ⟨b, off, none⟩) ns c n.value W4 ((HR3.out.below HB4.out).more HB4.out.size) ⟨n, HM.out, hkt, rfl⟩)
          have lG4 := (HLG.out.below HB4.out hGl).cell 0
          simp only [List.getElem?_toArray, List.getElem?_cons_zero, List.getElem?_cons_succ] at lG4
          clear hkt
          go_wp2_with fail
          refine HC.out.mono ?_
          clear HC
          rintro e w5 ⟨rfl, hb5⟩
          have hrow5 := Hrow4.out.below hb5 (by omega)
          have hs5 := hb5.size
          have q0 : w5.cell? ⟨w1.heap.size, k, none⟩ = some (.int .i64 (k : Int)) := hrow5.cell (by rw [List.getElem?_set, if_pos rfl, if_pos (by rw [hml.out]; exact hlt)])
          have q1 := hrow5.frozen k
          have hrow6 := hrow5.set k (firstT ns n.value : Int)
          rw [List.set_set, Hset.out _ HX.out.symm] at hrow6
          have Hrow6 := hide hrow6
          have HB6 := hide ((HB4.out.trans (hb5.mono HB4.out.size)).setCell (p := ⟨w1.heap.size, k, none⟩) (Nat.le_refl _) (.int .i64 (firstT ns n.value : Int)))
          have hsz6 : w1.heap.size < (w5.setCell ⟨w1.heap.size, k, none⟩ (.int .i64 (firstT ns n.value : Int))).heap.size := by simp; omega
          clear hrow5 hrow6 hb5 Hrow4 HB4 Hset
          go_wp2_with fail
          go_roundg (ns.length - (k + 1))
          case measure => omega
          case rel => exact ⟨k + 1, by omega, rfl, by go_num, Hrow6.out, HB6.out, hsz6⟩
        · have t : (n.kind == 1) = false := by simpa using hkt
          have hrow6 := Hrow4.out
          rw [Hset.out _ (ftx_else HN.out hkt).symm] at hrow6
          have Hrow6 := hide hrow6
          clear hkt hrow6 Hset
          go_wp2_with fail
          go_roundg (ns.length - (k + 1))
          case measure => omega
          case rel => exact ⟨k + 1, by omega, rfl, by go_num, Hrow6.out, HB4.out, by omega⟩
      · obtain rfl : k = ns.length := by omega
        have hrow := Hrow.out
        rw [show mixL (txtCl ns) (List.replicate ns.length 0) ns.length = txtCl ns from by
          have := mixL_all (xs := txtCl ns) (ys := List.replicate ns.length (0 : Int)) (by rw [Htl.out, Hzl.out])
          rwa [Hzl.out] at this] at hrow
        have hI := hrow.ints (txtCl_64 (by omega)) (by rw [Htl.out]; omega)
        have lG4 := HLG.out.below Hbw.out hGl
        have lR4 := HLR.out.below Hbw.out hRl
        have d0 := lG4.cell 0
        have d1 := lG4.cell 1
        simp only [List.getElem?_toArray, List.getElem?_cons_zero, List.getElem?_cons_succ] at d0 d1
        have HC := hide (replacedGraph_any A ns c r (some ⟨w1.heap.size, 0, none⟩) (txtCl ns) ns.length wr ((HR3.out.below Hbw.out).more Hbw.out.size) hI Htl.out (fun n hn => (HV.out.nodes n hn).inn) (fun n hn => by have := (HV.out.nodes n hn).few; omega) (by omega) HV.out.root0 HV.out.root)
        rw [Htl.out] at HC
        have HLR4 := hide lR4
        clear lG4 lR4 hrow hI hlt
        go_wp2_with fail
        refine HC.out.mono ?_
        clear HC
        rintro e w5 ⟨Ag, cg, rfl, hoG, hb5⟩
        have lR5 := HLR4.out.below hb5 (by omega)
        have l6 := (lR5.set 0 (.slice Ag (replNs ns (txtCl ns)).length cg)).set 1 (.int .i64 (look (txtCl ns) r))
        simp only [List.setIfInBounds_toArray, List.set_cons_succ, List.set_cons_zero] at l6
        have s0 := l6.cell 0
        have s1 := l6.cell 1
        have b0 := lR5.cell 0
        have b1 := lR5.cell 1
        have f0 := lR5.frozen 0
        have f1 := lR5.frozen 1
        simp only [List.getElem?_toArray, List.getElem?_cons_zero, List.getElem?_cons_succ] at s0 s1 b0 b1
        have HG := hide (GivesG.putQ (q := w.heap.size + 1) (r := look (txtCl ns) r) (by omega) hRl HB3.out Hbw.out hb5 hoG)
        clear lR5 l6 hoG hb5 d0 d1
        go_wp2
        refine bodyPost_ret (v := .agg #[.slice Ag (replNs ns (txtCl ns)).length cg, .int .i64 (look (txtCl ns) r)]) (by simp [results, Try.results5, go_sem, s0, s1]) rfl ?_
        rw [mrgN_yes HV.out, mrgR_yes HV.out]
        exact HG.out
  · have HY := hide hv
    have l5 := (lR1.set 0 (.slice none 0 0)).set 1 (.int .i64 0)
    simp only [List.setIfInBounds_toArray, List.set_cons_succ, List.set_cons_zero] at l5
    have s0 := l5.cell 0
    have s1 := l5.cell 1
    have b0 := lR1.cell 0
    have b1 := lR1.cell 1
    have f0 := lR1.frozen 0
    have f1 := lR1.frozen 1
    simp only [List.getElem?_toArray, List.getElem?_cons_zero, List.getElem?_cons_succ] at s0 s1 b0 b1
    have HB := hide ((hB3.setCell (p := ⟨w.heap.size + 1, 0, none⟩) (by show w.heap.size ≤ w.heap.size + 1; omega) (.slice none 0 0)).setCell (p := ⟨w.heap.size + 1, 1, none⟩) (by show w.heap.size ≤ w.heap.size + 1; omega) (.int .i64 0))
    rw [tf_false hv]
    clear hv l5 lR1 lG1 hr3 hB3 e0 e1
    go_wp2
    refine bodyPost_ret (v := .agg #[.slice none 0 0, .int .i64 0]) (by simp [results, Try.results5, go_sem, s0, s1]) rfl ?_
    rw [mrgN_no HY.out, mrgR_no HY.out]
    exact GivesG.zero _ _ HB.out

end Go.Proofs.Ytcblcmdfeoijpaa
