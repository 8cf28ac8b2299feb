/-
  Lemmas, several texts in one: ImplD, ShcI.
-/
import Derived.Test.YtjpikloecadhkabImplC
import Derived.Test.YtjpikloecadhkabPjAb
import Derived.Test.YtjpikloecadhkabPjAh
import Derived.Test.YtjpikloecadhkabClnL
namespace Go.Proofs.Ytjpikloecadhkab
open Go.RowKit Go.Maps
set_option linter.unusedVariables false

theorem kidsIn_of_ok {ns : List Nd} (h : ∀ n ∈ ns, NodeOk ns n) : KidsIn ns := fun n hn => (h n hn).inn

set_option maxRecDepth 100000 in
set_option maxHeartbeats 4000000 in
theorem implValid_in (A : Option Addr) (ns : List Nd) (c : Nat) (r : Int) (w : World) (hr : NdsAt w w.heap.size A ns) (h1 : 1 ≤ ns.length) (h12 : ns.length ≤ 12) (hr0 : 0 ≤ r) (hrl : r < ns.length) :
    Calls Try.prog 16 #[.agg #[.slice A ns.length c, .int .i64 r]] w fun e w' => e = .returned (.bool (tf (ValidG ns r))) ∧ Below w.heap.size w w' := by
  have hB : Below w.heap.size w (w.alloc (.cells #[.slice A ns.length c, .int .i64 r] 28)) := (Below.refl _ _).alloc (Nat.le_refl _) _
  have l1 := Lies.new w #[.slice A ns.length c, .int .i64 r] 28
  have hr2 := hr.later hB (Nat.le_refl _)
  clear hr
  have a1 : (1 : Int) ≤ (ns.length : Int) := by omega
  have a2 : (ns.length : Int) ≤ 12 := by omega
  have a3 : r ≤ (ns.length : Int) - 1 := by omega
  have d1 : decide ((ns.length : Int) < 1) = false := by simp; omega
  have d2 : decide ((12 : Int) < (ns.length : Int)) = false := by simp; omega
  go_enter Try.func16, Try.ntmps16
  go_wp2_with fail
  refine (isUpTo_yes r ((ns.length : Int) - 1) _ hr0 a3).mono ?_
  rintro e w' ⟨rfl, rfl⟩
  go_wp2_with fail
  generalize w.alloc (.cells #[.slice A ns.length c, .int .i64 r] 28) = W at hB l1 hr2 ⊢
  have hW1 := l1.lt
  go_loopw [26] (fun i wr => ∃ k : Nat, k ≤ ns.length ∧ i = .int .i64 k ∧ Below W.heap.size W wr ∧ (∀ j n, j < k → ns[j]? = some n → NodeOk ns n)) (fun i _ => ns.length - (intOf i).toNat)
  case atStart => exact ⟨0, Nat.zero_le _, rfl, Below.refl _ _, fun j n hj => absurd hj (by omega)⟩
  case round =>
    obtain ⟨k, hkl, rfl, hb, hok0⟩ := hrel
    have hok := hide hok0
    clear hok0
    by_cases hlt : k < ns.length
    · obtain ⟨b, off, n, rfl, hbl, hat, hmem, hN⟩ := (hr2.below hb).at_ hlt
      obtain ⟨hn_k, hn_v, ⟨A1, c1, hn_s, hI1', _⟩, _, _⟩ := hN
      have Hat := hide hat
      have hbA : Below W.heap.size W (wr.alloc (.cells #[.int .i64 n.kind, .int .i64 n.value, .slice A1 n.kids.length c1] 38)) := hb.alloc hb.size _
      have lv := Lies.new wr #[.int .i64 n.kind, .int .i64 n.value, .slice A1 n.kids.length c1] 38
      have hI1 : IntsAt (wr.alloc (.cells #[.int .i64 n.kind, .int .i64 n.value, .slice A1 n.kids.length c1] 38)) (wr.alloc (.cells #[.int .i64 n.kind, .int .i64 n.value, .slice A1 n.kids.length c1] 38)).heap.size A1 n.kids :=
        hI1'.later ((Below.refl _ _).alloc hb.size _) hb.size
      clear hI1' hat
      by_cases h6 : n.kids.length ≤ 6
      · have t6 : decide ((6 : Int) < (n.kids.length : Int)) = false := by simp; omega
        go_wp2_with fail
        refine (areNodes_any A1 n.kids c1 ns.length _ hI1 (by omega)).mono ?_
        rintro e w2 ⟨rfl, rfl⟩
        have hlv := lv.lt
        generalize hw2 : wr.alloc (.cells #[.int .i64 n.kind, .int .i64 n.value, .slice A1 n.kids.length c1] 38) = w2 at hbA lv hI1 hlv ⊢
        clear hw2
        by_cases hkk : Among ns.length n.kids
        · rw [tf_true hkk]
          have hr3 := hr2.later hbA (Nat.le_refl _)
          have e0 := (l1.below hbA hW1).cell 0
          have v0 := lv.cell 0
          have v1 := lv.cell 1
          have v2 := lv.cell 2
          simp at e0 v0 v1 v2
          have Hin := hide hkk
          clear hkk lv
          go_wp2_with fail
          refine (fitsKind_any _ ns c A1 n c1 w2 hr3 hI1 h6 Hin.out).mono ?_
          rintro e w4 ⟨rfl, hb4⟩
          have hb5 := hbA.trans (hb4.mono hbA.size)
          clear hb4 hbA hr3 hI1 e0 v0 v1 v2 hlv
          by_cases hkd : KindOk ns n
          · rw [tf_true hkd]
            have hnk : NodeOk ns n := ⟨h6, Hin.out, hkd⟩
            have Hnk := hide hnk
            clear hnk hkd
            go_wp2
            go_roundw
            case rel => exact ⟨k + 1, by omega, by go_num, hb5, fun j m hj hm => by
                by_cases e : j = k
                · subst e
                  obtain rfl := Option.some.inj (Hat.out.symm.trans hm)
                  exact Hnk.out
                · exact hok.out j m (by omega) hm⟩
            case measure => simp [intOf]; omega
          · rw [tf_false hkd]
            have HF := hide (show tf (ValidG ns r) = false from tf_false fun h => hkd (h.nodes n hmem).kind)
            clear hkd hmem
            go_wp2
            go_ret
            exact ⟨ret_bool HF.out.symm, hB.trans (hb5.mono hB.size)⟩
        · rw [tf_false hkk]
          have HF := hide (show tf (ValidG ns r) = false from tf_false fun h => hkk (h.nodes n hmem).inn)
          clear hkk hmem hI1 lv
          go_wp2
          go_ret
          exact ⟨ret_bool HF.out.symm, hB.trans (hbA.mono hB.size)⟩
      · have t6 : decide ((6 : Int) < (n.kids.length : Int)) = true := by simp; omega
        have HF := hide (show tf (ValidG ns r) = false from tf_false fun h => h6 (h.nodes n hmem).few)
        clear hmem hI1
        go_wp2
        go_ret
        exact ⟨ret_bool HF.out.symm, hB.trans (hbA.mono hB.size)⟩
    · obtain rfl : k = ns.length := by omega
      have hall : ∀ n ∈ ns, NodeOk ns n := fun n hn => by
        obtain ⟨j, hj, rfl⟩ := List.getElem_of_mem hn
        exact hok.out j _ hj (List.getElem?_eq_getElem hj)
      have Hall := hide hall
      have hr3 := hr2.later hb (Nat.le_refl _)
      have e0 := (l1.below hb hW1).cell 0
      simp at e0
      clear hall hok hlt
      go_wp2_with fail
      refine (hasTupleCycle_any A ns c wr hr3 (kidsIn_of_ok Hall.out) (by omega)).mono ?_
      rintro e w2 ⟨rfl, hb2⟩
      have hb3 := hb.trans (hb2.mono hb.size)
      clear hb2 hr3 e0
      by_cases htc : TupleCycle ns
      · rw [tf_true htc]
        have HF := hide (show tf (ValidG ns r) = false from tf_false fun h => by
          obtain ⟨i, n, h1, h2, h3⟩ := htc
          exact h.tuples i n h1 h2 h3)
        clear htc
        go_wp2
        go_ret
        exact ⟨ret_bool HF.out.symm, hB.trans (hb3.mono hB.size)⟩
      · rw [tf_false htc]
        have HF := hide (show tf (ValidG ns r) = true from tf_true ⟨h1, h12, hr0, hrl, Hall.out, fun i n hn h2 ht => htc ⟨i, n, hn, h2, ht⟩⟩)
        clear htc
        go_wp2
        go_ret
        exact ⟨ret_bool HF.out.symm, hB.trans (hb3.mono hB.size)⟩

set_option maxHeartbeats 1000000 in
theorem implValid_zero (A : Option Addr) (ns : List Nd) (c : Nat) (r : Int) (w : World) (h : ns.length < 1) :
    Calls Try.prog 16 #[.agg #[.slice A ns.length c, .int .i64 r]] w fun e w' => e = .returned (.bool (tf (ValidG ns r))) ∧ Below w.heap.size w w' := by
  have hB : Below w.heap.size w (w.alloc (.cells #[.slice A ns.length c, .int .i64 r] 28)) := (Below.refl _ _).alloc (Nat.le_refl _) _
  have HF := hide (show tf (ValidG ns r) = false from tf_false fun hv => by have := hv.one; omega)
  have d1 : decide ((ns.length : Int) < 1) = true := by simp; omega
  have h' : (ns.length : Int) < 1 := by omega
  clear h
  go_enter Try.func16, Try.ntmps16
  go_wp2
  go_ret
  exact ⟨ret_bool HF.out.symm, hB⟩

set_option maxHeartbeats 1000000 in
theorem implValid_many (A : Option Addr) (ns : List Nd) (c : Nat) (r : Int) (w : World) (h : 12 < ns.length) (hl : ns.length ≤ 9223372036854775807) :
    Calls Try.prog 16 #[.agg #[.slice A ns.length c, .int .i64 r]] w fun e w' => e = .returned (.bool (tf (ValidG ns r))) ∧ Below w.heap.size w w' := by
  have hB : Below w.heap.size w (w.alloc (.cells #[.slice A ns.length c, .int .i64 r] 28)) := (Below.refl _ _).alloc (Nat.le_refl _) _
  have HF := hide (show tf (ValidG ns r) = false from tf_false fun hv => by have := hv.few; omega)
  have d1 : decide ((ns.length : Int) < 1) = false := by simp; omega
  have d2 : decide ((12 : Int) < (ns.length : Int)) = true := by simp; omega
  have h' : (12 : Int) < (ns.length : Int) := by omega
  clear h
  go_enter Try.func16, Try.ntmps16
  go_wp2
  go_ret
  exact ⟨ret_bool HF.out.symm, hB⟩

set_option maxHeartbeats 1000000 in
theorem implValid_root (A : Option Addr) (ns : List Nd) (c : Nat) (r : Int) (w : World) (h1 : 1 ≤ ns.length) (h12 : ns.length ≤ 12) (h : r < 0 ∨ (ns.length : Int) ≤ r) :
    Calls Try.prog 16 #[.agg #[.slice A ns.length c, .int .i64 r]] w fun e w' => e = .returned (.bool (tf (ValidG ns r))) ∧ Below w.heap.size w w' := by
  have hB : Below w.heap.size w (w.alloc (.cells #[.slice A ns.length c, .int .i64 r] 28)) := (Below.refl _ _).alloc (Nat.le_refl _) _
  have HF := hide (show tf (ValidG ns r) = false from tf_false fun hv => by have := hv.root0; have := hv.root; omega)
  have a1 : (1 : Int) ≤ (ns.length : Int) := by omega
  have a2 : (ns.length : Int) ≤ 12 := by omega
  have d1 : decide ((ns.length : Int) < 1) = false := by simp; omega
  have d2 : decide ((12 : Int) < (ns.length : Int)) = false := by simp; omega
  have h' : r < 0 ∨ (ns.length : Int) - 1 < r := by omega
  have H' := hide h'
  clear h h'
  go_enter Try.func16, Try.ntmps16
  go_wp2_with fail
  refine (isUpTo_no r ((ns.length : Int) - 1) _ H'.out).mono ?_
  rintro e w' ⟨rfl, rfl⟩
  go_wp2
  go_ret
  exact ⟨ret_bool HF.out.symm, hB⟩

theorem implValid_any (A : Option Addr) (ns : List Nd) (c : Nat) (r : Int) (w : World) (hr : NdsAt w w.heap.size A ns) :
    Calls Try.prog 16 #[.agg #[.slice A ns.length c, .int .i64 r]] w fun e w' => e = .returned (.bool (tf (ValidG ns r))) ∧ Below w.heap.size w w' := by
  by_cases h0 : ns.length < 1
  · exact implValid_zero A ns c r w h0
  · by_cases h : 12 < ns.length
    · exact implValid_many A ns c r w h hr.len
    · by_cases h2 : 0 ≤ r ∧ r < ns.length
      · exact implValid_in A ns c r w hr (by omega) (by omega) h2.1 h2.2
      · exact implValid_root A ns c r w (by omega) (by omega) (by omega)

end Go.Proofs.Ytjpikloecadhkab

namespace Go.Proofs.Ytjpikloecadhkab
open Go.RowKit Go.Maps
set_option linter.unusedVariables false

set_option maxHeartbeats 2000000 in
theorem implShallow_any (A : Option Addr) (ns : List Nd) (c : Nat) (r : Int) (w : World) (hr : NdsAt w w.heap.size A ns) :
    Calls Try.prog 7 #[.agg #[.slice A ns.length c, .int .i64 r]] w (GivesG w (shalN ns r) (shalR ns r)) := by
  have hB2 : Below w.heap.size w ((w.alloc (.cells #[.slice A ns.length c, .int .i64 r] 28)).alloc (.cells #[.slice none 0 0, .int .i64 0] 28)) := ((Below.refl _ _).alloc (Nat.le_refl _) _).alloc (by simp) _
  have lG := (Lies.new w #[.slice A ns.length c, .int .i64 r] 28).alloc (.cells #[.slice none 0 0, .int .i64 0] 28)
  have lR := Lies.new (w.alloc (.cells #[.slice A ns.length c, .int .i64 r] 28)) #[.slice none 0 0, .int .i64 0] 28
  simp only [World.size_alloc] at lR
  have hr2 := hr.later hB2 (Nat.le_refl _)
  clear hr
  go_enter Try.func7, Try.ntmps7
  go_upto_region 1 with fail
  generalize (w.alloc (.cells #[.slice A ns.length c, .int .i64 r] 28)).alloc (.cells #[.slice none 0 0, .int .i64 0] 28) = W at hB2 lG lR hr2 ⊢
  have g0 := lG.cell 0
  have g1 := lG.cell 1
  simp at g0 g1
  go_wp2_with fail
  clear g0 g1
  refine (implValid_any A ns c r W hr2).mono ?_
  rintro e w1 ⟨rfl, hb1⟩
  have lG1 := lG.below hb1 lG.lt
  have lR1 := lR.below hb1 lR.lt
  have hr3 := hr2.later hb1 (Nat.le_refl _)
  have hB3 := hB2.trans (hb1.mono hB2.size)
  have e0 := lG1.cell 0
  have e1 := lG1.cell 1
  simp at e0 e1
  clear lG lR hr2 hB2 hb1
  by_cases hy : ValidG ns r ∧ ns.length ≠ 12
  · obtain ⟨hv, h12⟩ := hy
    rw [tf_true hv]
    obtain ⟨i, rfl⟩ := Int.eq_ofNat_of_zero_le hv.root0
    have hil : i < ns.length := by have := hv.root; omega
    have hfew := hv.few
    have HK : Hid (∀ n ∈ ns, n.kids.length ≤ 1000) := hide (fun n hn => by have := (hv.nodes n hn).few; omega)
    have HV := hide hv
    have hRl := lR1.lt
    have hGl := lG1.lt
    have hd : decide ((ns.length : Int) = 12) = false := by simp; omega
    clear hv
    go_wp2_with fail
    refine (clonedNodes_any A ns c w1 hr3 (by omega) HK.out).mono ?_
    rintro e w2 ⟨g, rfl, hrow, hb2⟩
    obtain ⟨b, off, n, rfl, hbl, hn, hm, hnd⟩ := (hr3.below hb2).at_ hil
    obtain ⟨A1, c1, k2, hki, hnil⟩ := hnd.kids
    have k0 := hnd.kind
    have k1 := hnd.value
    have e0 := (hb2.cell (p := ⟨w.heap.size, 0, none⟩) hGl).trans e0
    have e1 := (hb2.cell (p := ⟨w.heap.size, 1, none⟩) hGl).trans e1
    have HC := hide (clonedNode_any n A1 c1 w2 (hki.later (Below.refl _ _) hb2.size) hnil (HK.out n hm))
    have HD := hide (hrow.rowD (by unfold maxLen; omega))
    have hlo := hrow.hlo
    have HN := hide hn
    have hs2 := hb2.size
    have Hb2 := hide hb2
    have hi3 : (0 : Int) ≤ (i : Int) := by omega
    have hi4 : (i : Int) < (ns.length : Int) := by omega
    clear hrow hki hnd hn hm hbl hr3 hnil hb2
    go_wp2_with fail
    refine HC.out.mono ?_
    clear HC
    rintro e w3 ⟨Ak, ck, rfl, hown, hb3⟩
    have hs3 := hb3.size
    have hba : Below w3.heap.size w3 (w3.alloc (.cells #[.int .i64 n.kind, .int .i64 n.value, .slice Ak n.kids.length ck] 38)) := (Below.refl _ _).alloc (Nat.le_refl _) _
    have HD3 := hide ((HD.out.below hb3).below hba)
    have HO3 := hide ((hown.below hba).lowB (base' := w1.heap.size) hs2)
    have HOb := hide hown.blocks
    have Hb3 := hide ((Hb2.out.trans (hb3.mono hs2)).trans (hba.mono (by omega)))
    have l6 := Lies.new w3 #[.int .i64 n.kind, .int .i64 n.value, .slice Ak n.kids.length ck] 38
    have HL6 := hide l6
    clear hown hb3 hba l6 HD k0 k1 k2 e0 e1
    go_wp2_with (at_builtin; refine append_ndD rfl (.tmp 19) (.tmp 27) rfl w1.heap.size w2.heap.size w3.heap.size _ _ ns rfl HD3.out w3.heap.size n Ak ck _ rfl HL6.out HO3.out (by simp; omega) (by omega) (fun q hq => HOb.out q hq) hs3 ?_; intro A5 c5 w5 hD5 hg5; have HD5 := hide hD5; have hs5 : w3.heap.size ≤ w5.heap.size := (by have := hg5.size; simp at this; omega); have Hb5 := hide (below_grown Hb3.out hg5 (by simp; omega) (fun q hq => (HD3.out.rowN.blocks q hq).1)); clear hD5 hg5; have lR5 := lR1.below Hb5.out hRl; have b0 := lR5.cell 0; have b1 := lR5.cell 1; have f0 := lR5.frozen 0; have f1 := lR5.frozen 1; simp only [List.getElem?_toArray, List.getElem?_cons_zero, List.getElem?_cons_succ] at b0 b1; have l7 := (lR5.set 0 (.slice A5 (ns.length + 1) c5)).set 1 (.int .i64 (ns.length : Int)); simp only [List.setIfInBounds_toArray, List.set_cons_succ, List.set_cons_zero] at l7; have s0 := l7.cell 0; have s1 := l7.cell 1; simp only [List.getElem?_toArray, List.getElem?_cons_zero, List.getElem?_cons_succ] at s0 s1; clear lR5 l7)
    refine bodyPost_ret (v := .agg #[.slice A5 (ns.length + 1) c5, .int .i64 (ns.length : Int)]) (by simp [results, Try.results7, go_sem, s0, s1]) rfl ?_
    have hG := GivesG.put (r := (ns.length : Int)) hRl hB3 (Below.refl _ _) Hb5.out (HD5.out.own hs5)
    rw [shalN_yes HV.out h12, shalR_yes HV.out h12, rootNd_at HN.out]
    simpa using hG
  · have HY := hide hy
    have l5 := (lR1.set 0 (.slice none 0 0)).set 1 (.int .i64 0)
    simp only [List.setIfInBounds_toArray, List.set_cons_succ, List.set_cons_zero] at l5
    have s0 := l5.cell 0
    have s1 := l5.cell 1
    have b0 := lR1.cell 0
    have b1 := lR1.cell 1
    have f0 := lR1.frozen 0
    have f1 := lR1.frozen 1
    simp only [List.getElem?_toArray, List.getElem?_cons_zero, List.getElem?_cons_succ] at s0 s1 b0 b1
    have HB := hide ((hB3.setCell (p := ⟨w.heap.size + 1, 0, none⟩) (by show w.heap.size ≤ w.heap.size + 1; omega) (.slice none 0 0)).setCell (p := ⟨w.heap.size + 1, 1, none⟩) (by show w.heap.size ≤ w.heap.size + 1; omega) (.int .i64 0))
    have hcase : tf (ValidG ns r) = false ∨ (tf (ValidG ns r) = true ∧ ns.length = 12) := by
      by_cases hv : ValidG ns r
      · exact .inr ⟨tf_true hv, Classical.byContradiction fun h => hy ⟨hv, h⟩⟩
      · exact .inl (tf_false hv)
    clear hy l5 lR1 lG1 hr3 hB3 e0 e1
    rcases hcase with hc | ⟨hc, h12⟩
    · rw [hc]
      clear hc
      go_wp2
      refine bodyPost_ret (v := .agg #[.slice none 0 0, .int .i64 0]) (by simp [results, Try.results7, go_sem, s0, s1]) rfl ?_
      rw [shalN_no HY.out, shalR_no HY.out]
      exact GivesG.zero _ _ HB.out
    · rw [hc]
      have hd : decide ((ns.length : Int) = 12) = true := by simp; omega
      clear hc
      go_wp2
      refine bodyPost_ret (v := .agg #[.slice none 0 0, .int .i64 0]) (by simp [results, Try.results7, go_sem, s0, s1]) rfl ?_
      rw [shalN_no HY.out, shalR_no HY.out]
      exact GivesG.zero _ _ HB.out

end Go.Proofs.Ytjpikloecadhkab
