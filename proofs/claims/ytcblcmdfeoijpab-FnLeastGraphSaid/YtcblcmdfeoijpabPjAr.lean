/-
  Lemmas, several texts in one: ImplD, ImplR, OwnC, PickM.
-/
import Derived.Test.YtcblcmdfeoijpabPjAn
import Derived.Test.YtcblcmdfeoijpabWalkA
import Derived.Test.YtcblcmdfeoijpabPjAj
import Derived.Test.YtcblcmdfeoijpabPjAa
import Derived.Maps.RangeWalk
import Derived.Test.YtcblcmdfeoijpabPickG
namespace Go.Proofs.Ytcblcmdfeoijpab
open Go.RowKit Go.Maps
set_option linter.unusedVariables false

theorem kidsIn_of_ok {ns : List Nd} (h : ∀ n ∈ ns, NodeOk ns n) : KidsIn ns := fun n hn => (h n hn).inn

set_option maxRecDepth 100000 in
set_option maxHeartbeats 4000000 in
theorem implValid_in (A : Option Addr) (ns : List Nd) (c : Nat) (r : Int) (w : World) (hr : NdsAt w w.heap.size A ns) (h1 : 1 ≤ ns.length) (h12 : ns.length ≤ 12) (hr0 : 0 ≤ r) (hrl : r < ns.length) :
    Calls Try.prog 9 #[.agg #[.slice A ns.length c, .int .i64 r]] w fun e w' => e = .returned (.bool (tf (ValidG ns r))) ∧ Below w.heap.size w w' := by
  have hB : Below w.heap.size w (w.alloc (.cells #[.slice A ns.length c, .int .i64 r] 25)) := (Below.refl _ _).alloc (Nat.le_refl _) _
  have l1 := Lies.new w #[.slice A ns.length c, .int .i64 r] 25
  have hr2 := hr.later hB (Nat.le_refl _)
  clear hr
  have a1 : (1 : Int) ≤ (ns.length : Int) := by omega
  have a2 : (ns.length : Int) ≤ 12 := by omega
  have a3 : r ≤ (ns.length : Int) - 1 := by omega
  have d1 : decide ((ns.length : Int) < 1) = false := by simp; omega
  have d2 : decide ((12 : Int) < (ns.length : Int)) = false := by simp; omega
  go_enter Try.func9, Try.ntmps9
  go_wp2_with fail
  refine (isUpTo_yes r ((ns.length : Int) - 1) _ hr0 a3).mono ?_
  rintro e w' ⟨rfl, rfl⟩
  go_wp2_with fail
  generalize w.alloc (.cells #[.slice A ns.length c, .int .i64 r] 25) = W at hB l1 hr2 ⊢
  have hW1 := l1.lt
  go_loopw [26] (fun i wr => ∃ k : Nat, k ≤ ns.length ∧ i = .int .i64 k ∧ Below W.heap.size W wr ∧ (∀ j n, j < k → ns[j]? = some n → NodeOk ns n)) (fun i _ => ns.length - (intOf i).toNat)
  case atStart => exact ⟨0, Nat.zero_le _, rfl, Below.refl _ _, fun j n hj => absurd hj (by omega)⟩
  case round =>
    obtain ⟨k, hkl, rfl, hb, hok0⟩ := hrel
    have hok := hide hok0
    clear hok0
    by_cases hlt : k < ns.length
    · obtain ⟨b, off, n, rfl, hbl, hat, hmem, hN⟩ := (hr2.below hb).at_ hlt
      obtain ⟨hn_k, hn_v, ⟨A1, c1, hn_s, hI1', _⟩, _, _⟩ := hN
      have Hat := hide hat
      have hbA : Below W.heap.size W (wr.alloc (.cells #[.int .i64 n.kind, .int .i64 n.value, .slice A1 n.kids.length c1] 41)) := hb.alloc hb.size _
      have lv := Lies.new wr #[.int .i64 n.kind, .int .i64 n.value, .slice A1 n.kids.length c1] 41
      have hI1 : IntsAt (wr.alloc (.cells #[.int .i64 n.kind, .int .i64 n.value, .slice A1 n.kids.length c1] 41)) (wr.alloc (.cells #[.int .i64 n.kind, .int .i64 n.value, .slice A1 n.kids.length c1] 41)).heap.size A1 n.kids :=
        hI1'.later ((Below.refl _ _).alloc hb.size _) hb.size
      clear hI1' hat
      by_cases h6 : n.kids.length ≤ 6
      · have t6 : decide ((6 : Int) < (n.kids.length : Int)) = false := by simp; omega
        go_wp2_with fail
        refine (areNodes_any A1 n.kids c1 ns.length _ hI1 (by omega)).mono ?_
        rintro e w2 ⟨rfl, rfl⟩
        have hlv := lv.lt
        generalize hw2 : wr.alloc (.cells #[.int .i64 n.kind, .int .i64 n.value, .slice A1 n.kids.length c1] 41) = w2 at hbA lv hI1 hlv ⊢
        clear hw2
        by_cases hkk : Among ns.length n.kids
        · rw [tf_true hkk]
          have hr3 := hr2.later hbA (Nat.le_refl _)
          have e0 := (l1.below hbA hW1).cell 0
          have v0 := lv.cell 0
          have v1 := lv.cell 1
          have v2 := lv.cell 2
          simp at e0 v0 v1 v2
          have Hin := hide hkk
          clear hkk lv
          go_wp2_with fail
          refine (fitsKind_any _ ns c A1 n c1 w2 hr3 hI1 h6 Hin.out).mono ?_
          rintro e w4 ⟨rfl, hb4⟩
          have hb5 := hbA.trans (hb4.mono hbA.size)
          clear hb4 hbA hr3 hI1 e0 v0 v1 v2 hlv
          by_cases hkd : KindOk ns n
          · rw [tf_true hkd]
            have hnk : NodeOk ns n := ⟨h6, Hin.out, hkd⟩
            have Hnk := hide hnk
            clear hnk hkd
            go_wp2
            go_roundw
            case rel => exact ⟨k + 1, by omega, by go_num, hb5, fun j m hj hm => by
                by_cases e : j = k
                · subst e
                  obtain rfl := Option.some.inj (Hat.out.symm.trans hm)
                  exact Hnk.out
                · exact hok.out j m (by omega) hm⟩
            case measure => simp [intOf]; omega
          · rw [tf_false hkd]
            have HF := hide (show tf (ValidG ns r) = false from tf_false fun h => hkd (h.nodes n hmem).kind)
            clear hkd hmem
            go_wp2
            go_ret
            exact ⟨ret_bool HF.out.symm, hB.trans (hb5.mono hB.size)⟩
        · rw [tf_false hkk]
          have HF := hide (show tf (ValidG ns r) = false from tf_false fun h => hkk (h.nodes n hmem).inn)
          clear hkk hmem hI1 lv
          go_wp2
          go_ret
          exact ⟨ret_bool HF.out.symm, hB.trans (hbA.mono hB.size)⟩
      · have t6 : decide ((6 : Int) < (n.kids.length : Int)) = true := by simp; omega
        have HF := hide (show tf (ValidG ns r) = false from tf_false fun h => h6 (h.nodes n hmem).few)
        clear hmem hI1
        go_wp2
        go_ret
        exact ⟨ret_bool HF.out.symm, hB.trans (hbA.mono hB.size)⟩
    · obtain rfl : k = ns.length := by omega
      have hall : ∀ n ∈ ns, NodeOk ns n := fun n hn => by
        obtain ⟨j, hj, rfl⟩ := List.getElem_of_mem hn
        exact hok.out j _ hj (List.getElem?_eq_getElem hj)
      have Hall := hide hall
      have hr3 := hr2.later hb (Nat.le_refl _)
      have e0 := (l1.below hb hW1).cell 0
      simp at e0
      clear hall hok hlt
      go_wp2_with fail
      refine (hasTupleCycle_any A ns c wr hr3 (kidsIn_of_ok Hall.out) (by omega)).mono ?_
      rintro e w2 ⟨rfl, hb2⟩
      have hb3 := hb.trans (hb2.mono hb.size)
      clear hb2 hr3 e0
      by_cases htc : TupleCycle ns
      · rw [tf_true htc]
        have HF := hide (show tf (ValidG ns r) = false from tf_false fun h => by
          obtain ⟨i, n, h1, h2, h3⟩ := htc
          exact h.tuples i n h1 h2 h3)
        clear htc
        go_wp2
        go_ret
        exact ⟨ret_bool HF.out.symm, hB.trans (hb3.mono hB.size)⟩
      · rw [tf_false htc]
        have HF := hide (show tf (ValidG ns r) = true from tf_true ⟨h1, h12, hr0, hrl, Hall.out, fun i n hn h2 ht => htc ⟨i, n, hn, h2, ht⟩⟩)
        clear htc
        go_wp2
        go_ret
        exact ⟨ret_bool HF.out.symm, hB.trans (hb3.mono hB.size)⟩

set_option maxHeartbeats 1000000 in
theorem implValid_zero (A : Option Addr) (ns : List Nd) (c : Nat) (r : Int) (w : World) (h : ns.length < 1) :
    Calls Try.prog 9 #[.agg #[.slice A ns.length c, .int .i64 r]] w fun e w' => e = .returned (.bool (tf (ValidG ns r))) ∧ Below w.heap.size w w' := by
  have hB : Below w.heap.size w (w.alloc (.cells #[.slice A ns.length c, .int .i64 r] 25)) := (Below.refl _ _).alloc (Nat.le_refl _) _
  have HF := hide (show tf (ValidG ns r) = false from tf_false fun hv => by have := hv.one; omega)
  have d1 : decide ((ns.length : Int) < 1) = true := by simp; omega
  have h' : (ns.length : Int) < 1 := by omega
  clear h
  go_enter Try.func9, Try.ntmps9
  go_wp2
  go_ret
  exact ⟨ret_bool HF.out.symm, hB⟩

set_option maxHeartbeats 1000000 in
theorem implValid_many (A : Option Addr) (ns : List Nd) (c : Nat) (r : Int) (w : World) (h : 12 < ns.length) (hl : ns.length ≤ 9223372036854775807) :
    Calls Try.prog 9 #[.agg #[.slice A ns.length c, .int .i64 r]] w fun e w' => e = .returned (.bool (tf (ValidG ns r))) ∧ Below w.heap.size w w' := by
  have hB : Below w.heap.size w (w.alloc (.cells #[.slice A ns.length c, .int .i64 r] 25)) := (Below.refl _ _).alloc (Nat.le_refl _) _
  have HF := hide (show tf (ValidG ns r) = false from tf_false fun hv => by have := hv.few; omega)
  have d1 : decide ((ns.length : Int) < 1) = false := by simp; omega
  have d2 : decide ((12 : Int) < (ns.length : Int)) = true := by simp; omega
  have h' : (12 : Int) < (ns.length : Int) := by omega
  clear h
  go_enter Try.func9, Try.ntmps9
  go_wp2
  go_ret
  exact ⟨ret_bool HF.out.symm, hB⟩

set_option maxHeartbeats 1000000 in
theorem implValid_root (A : Option Addr) (ns : List Nd) (c : Nat) (r : Int) (w : World) (h1 : 1 ≤ ns.length) (h12 : ns.length ≤ 12) (h : r < 0 ∨ (ns.length : Int) ≤ r) :
    Calls Try.prog 9 #[.agg #[.slice A ns.length c, .int .i64 r]] w fun e w' => e = .returned (.bool (tf (ValidG ns r))) ∧ Below w.heap.size w w' := by
  have hB : Below w.heap.size w (w.alloc (.cells #[.slice A ns.length c, .int .i64 r] 25)) := (Below.refl _ _).alloc (Nat.le_refl _) _
  have HF := hide (show tf (ValidG ns r) = false from tf_false fun hv => by have := hv.root0; have := hv.root; omega)
  have a1 : (1 : Int) ≤ (ns.length : Int) := by omega
  have a2 : (ns.length : Int) ≤ 12 := by omega
  have d1 : decide ((ns.length : Int) < 1) = false := by simp; omega
  have d2 : decide ((12 : Int) < (ns.length : Int)) = false := by simp; omega
  have h' : r < 0 ∨ (ns.length : Int) - 1 < r := by omega
  have H' := hide h'
  clear h h'
  go_enter Try.func9, Try.ntmps9
  go_wp2_with fail
  refine (isUpTo_no r ((ns.length : Int) - 1) _ H'.out).mono ?_
  rintro e w' ⟨rfl, rfl⟩
  go_wp2
  go_ret
  exact ⟨ret_bool HF.out.symm, hB⟩

theorem implValid_any (A : Option Addr) (ns : List Nd) (c : Nat) (r : Int) (w : World) (hr : NdsAt w w.heap.size A ns) :
    Calls Try.prog 9 #[.agg #[.slice A ns.length c, .int .i64 r]] w fun e w' => e = .returned (.bool (tf (ValidG ns r))) ∧ Below w.heap.size w w' := by
  by_cases h0 : ns.length < 1
  · exact implValid_zero A ns c r w h0
  · by_cases h : 12 < ns.length
    · exact implValid_many A ns c r w h hr.len
    · by_cases h2 : 0 ≤ r ∧ r < ns.length
      · exact implValid_in A ns c r w hr (by omega) (by omega) h2.1 h2.2
      · exact implValid_root A ns c r w (by omega) (by omega) (by omega)

end Go.Proofs.Ytcblcmdfeoijpab

namespace Go.Proofs.Ytcblcmdfeoijpab
open Go.RowKit Go.Maps
set_option linter.unusedVariables false

set_option maxHeartbeats 400000 in
theorem enters_any (ns : List Nd) : WalkA.Enters ns anyB := by
  intro k n A c w _
  go_enter Try.func49, Try.ntmps49
  go_wp2
  go_ret
  exact ⟨rfl, (Below.refl _ _).alloc (Nat.le_refl _) _⟩

set_option maxHeartbeats 1000000 in
theorem reachFrom_yes (A : Option Addr) (ns : List Nd) (c : Nat) (i : Nat) (w : World) (hr : NdsAt w w.heap.size A ns) (hv : ValidG ns (i : Int)) :
    Calls Try.prog 26 #[.agg #[.slice A ns.length c, .int .i64 (i : Int)]] w (GivesInts w (reachOf ns i)) := by
  have hB : Below w.heap.size w (w.alloc (.cells #[.slice A ns.length c, .int .i64 (i : Int)] 25)) := (Below.refl _ _).alloc (Nat.le_refl _) _
  have l1 := Lies.new w #[.slice A ns.length c, .int .i64 (i : Int)] 25
  have hr3 := hr.later hB (Nat.le_refl _)
  have hi : i < ns.length := by have := hv.root; omega
  have hi12 := hv.few
  have HV := hide hv
  clear hr hv
  go_enter Try.func26, Try.ntmps26
  go_wp2_with fail
  have l2 := l1
  have hzz : (w.alloc (.cells #[.slice A ns.length c, .int .i64 (i : Int)] 25)).heap.size = w.heap.size + 1 := by simp
  have HZZ := hide hzz
  clear hzz
  generalize w.alloc (.cells #[.slice A ns.length c, .int .i64 (i : Int)] 25) = w1 at hB l1 l2 hr3 HZZ ⊢
  have hB1 := hB
  have hsz := l2.lt
  clear l1 hB
  have hb2 : Below w1.heap.size w1 (w1.alloc (.cells #[.int .i64 (i : Int)] 3)) := (Below.refl _ _).alloc (Nat.le_refl _) _
  have hr4 := hr3.later hb2 (Nat.le_refl _)
  have hB2 := hB1.trans (hb2.mono (by omega))
  have hI : IntsAt (w1.alloc (.cells #[.int .i64 (i : Int)] 3)) (w1.alloc (.cells #[.int .i64 (i : Int)] 3)).heap.size (some ⟨w.heap.size + 1, 0, none⟩) [(i : Int)] := by
    have := IntsAt.one w1 (i : Int) (by constructor <;> omega)
    rw [← HZZ.out]
    simpa using this
  generalize w1.alloc (.cells #[.int .i64 (i : Int)] 3) = w2 at hb2 hr4 hB2 hI ⊢
  refine (WalkA.walkFrom_any ns anyB (enters_any ns) (kidsIn_of_valid HV.out) (by omega) A c (some ⟨w.heap.size + 1, 0, none⟩) [(i : Int)] 1 w2 hr4 hI (fun x hx => by simp at hx; omega)).mono ?_
  rintro e w3 ⟨A', c', rfl, hown, hb3⟩
  have HG : Hid (GivesInts w (reachOf ns i) (.returned (.slice A' (dfsL ns anyB (ns.length + 1) [(i : Int)] []).length c')) w3) := by
    show GivesInts _ _ _ _
    have e : reachOf ns i = dfsL ns anyB (ns.length + 1) [(i : Int)] [] := by
      unfold reachOf
      rw [if_pos HV.out, dfsL_cons, dfsL_nil]
    rw [e]
    exact ⟨A', c', rfl, hown.mono hB2.size, hB2.trans (hb3.mono hB2.size)⟩
  clear hown hb3
  go_wp2
  go_ret
  exact HG.out

set_option maxHeartbeats 1000000 in
theorem implReachOf_yes (A : Option Addr) (ns : List Nd) (c : Nat) (i : Nat) (w : World) (hr : NdsAt w w.heap.size A ns) (hv : ValidG ns (i : Int)) :
    Calls Try.prog 11 #[.agg #[.slice A ns.length c, .int .i64 (i : Int)]] w (GivesInts w (reachOf ns i)) := by
  have hB : Below w.heap.size w (w.alloc (.cells #[.slice A ns.length c, .int .i64 (i : Int)] 25)) := (Below.refl _ _).alloc (Nat.le_refl _) _
  have l1 := Lies.new w #[.slice A ns.length c, .int .i64 (i : Int)] 25
  have hr2 := hr.later hB (Nat.le_refl _)
  have HV := hide hv
  clear hr hv
  go_enter Try.func11, Try.ntmps11
  go_wp2_with fail
  generalize w.alloc (.cells #[.slice A ns.length c, .int .i64 (i : Int)] 25) = W at hB l1 hr2 ⊢
  refine (implValid_any A ns c i W hr2).mono ?_
  rintro e w1 ⟨rfl, hb1⟩
  rw [tf_true HV.out]
  have l2 := l1.below hb1 l1.lt
  have hr3 := hr2.later hb1 (Nat.le_refl _)
  have hB1 := hB.trans (hb1.mono hB.size)
  have e0 := l2.cell 0
  have e1 := l2.cell 1
  simp at e0 e1
  clear l1 hr2 hb1 hB
  go_wp2_with fail
  refine (reachFrom_yes A ns c i w1 hr3 HV.out).mono ?_
  rintro e w3 ⟨A', c', rfl, hown, hb3⟩
  have HG : Hid (∃ n, n = (reachOf ns i).length ∧ OwnI w3 w.heap.size A' c' (reachOf ns i) ∧ Below w.heap.size w w3) := ⟨_, rfl, hown.mono hB1.size, hB1.trans (hb3.mono hB1.size)⟩
  clear hown hb3 l2 hr3
  go_wp2
  go_ret
  obtain ⟨_, _, h1, h2⟩ := HG.out
  exact ⟨A', c', rfl, h1, h2⟩

set_option maxHeartbeats 1000000 in
theorem implReachOf_any (A : Option Addr) (ns : List Nd) (c : Nat) (r : Int) (w : World) (hr : NdsAt w w.heap.size A ns) :
    Calls Try.prog 11 #[.agg #[.slice A ns.length c, .int .i64 r]] w (GivesInts w (reachOf ns r)) := by
  by_cases hv : ValidG ns r
  · obtain ⟨i, rfl⟩ := Int.eq_ofNat_of_zero_le hv.root0
    exact implReachOf_yes A ns c i w hr hv
  · have hB : Below w.heap.size w (w.alloc (.cells #[.slice A ns.length c, .int .i64 r] 25)) := (Below.refl _ _).alloc (Nat.le_refl _) _
    have hr2 := hr.later hB (Nat.le_refl _)
    have HV := hide hv
    clear hr hv
    go_enter Try.func11, Try.ntmps11
    go_wp2_with fail
    refine (implValid_any A ns c r _ hr2).mono ?_
    rintro e w1 ⟨rfl, hb1⟩
    rw [tf_false HV.out]
    have hB1 := hB.trans (hb1.mono hB.size)
    clear hb1 hB hr2
    go_wp2
    go_ret
    unfold reachOf
    rw [if_neg HV.out]
    exact ⟨none, 0, rfl, OwnI.empty _ _, hB1⟩

end Go.Proofs.Ytcblcmdfeoijpab

namespace Go.Proofs.Ytcblcmdfeoijpab
open Go.RowKit
set_option linter.unusedVariables false

theorem OwnI.ofB {w w' : World} {base : Nat} {A : Option Addr} {c : Nat} {xs : List Int} (h : OwnI w base A c xs) (hA : ∀ g, blockOf A = some g → w'.heap[g]? = w.heap[g]?) : OwnI w' base A c xs := by
  refine ⟨h.own.1, ?_⟩
  rcases h.own.2 with h2 | ⟨g, cap, cur, hv, hg, hh, r⟩
  · exact .inl h2
  · refine .inr ⟨g, cap, cur, hv, hg, ?_, r⟩
    rw [hA g (by injection hv with hv; rw [hv]; rfl)]
    exact hh

theorem OwnI.setAt {w : World} {base g : Nat} {c : Nat} {xs : List Int} (h : OwnI w base (some ⟨g, 0, none⟩) c xs) (j : Nat) (x : Int) :
    OwnI (w.setCell ⟨g, j, none⟩ (.int .i64 x)) base (some ⟨g, 0, none⟩) c (xs.set j x) := by
  have := (h.own.stored j (.int .i64 x)).1
  refine ⟨?_⟩
  rw [List.length_set, List.map_set]
  exact this

/-- the first of its elements, with the same room behind them -/
theorem OwnI.cutAt {w : World} {base : Nat} {A : Option Addr} {c : Nat} {xs : List Int} (h : OwnI w base A c xs) {k : Nat} (hk : k ≤ xs.length) : OwnI w base A c (xs.take k) := by
  have hl : (xs.take k).length = k := by simp; omega
  obtain ⟨h1, h2⟩ := h.own
  refine ⟨⟨by simp, ?_⟩⟩
  rcases h2 with ⟨h3, h4⟩ | ⟨g, cap, cur, hv, hg, hh, hn, hm, hs, ht⟩
  · have : xs = [] := List.eq_nil_of_length_eq_zero h4
    subst this
    exact .inl ⟨by simpa using h3, by simp⟩
  · refine .inr ⟨g, cap, cur, ?_, hg, hh, by omega, hm, hs, ?_⟩
    · injection hv with e1 _ e3
      rw [e1, e3]
    · rw [hl]
      have := congrArg (fun l => l.take k) ht
      simp only [List.take_take, Nat.mul_one] at this
      rw [Nat.min_eq_left hk] at this
      rw [Nat.mul_one, this, List.map_take]

theorem OwnI.capLen {w : World} {base : Nat} {A : Option Addr} {c : Nat} {xs : List Int} (h : OwnI w base A c xs) : xs.length ≤ c := by
  rcases h.own with ⟨hl, hh⟩
  rcases hh with ⟨h1, h2⟩ | ⟨g, cap, cur, hv, hg, hh, hle, hm, hs, hx⟩
  · rw [h2]; exact Nat.zero_le _
  · injection hv with _ _ h3
    subst h3
    exact hle

theorem OwnI.frozenM {w : World} {base g : Nat} {c : Nat} {xs : List Int} (h : OwnI w base (some ⟨g, 0, none⟩) c xs) (j : Nat) : w.frozen? ⟨g, j, none⟩ = false := by
  rcases h.own.2 with ⟨h1, _⟩ | ⟨g', cap, cur, hv, hg, hh, _⟩
  · injection h1 with h1
    cases h1
  · injection hv with hv _ hc
    obtain rfl : g = g' := by simpa using hv
    exact Lies.frozen hh j
theorem OwnI.cellM {w : World} {base g : Nat} {c : Nat} {xs : List Int} (h : OwnI w base (some ⟨g, 0, none⟩) c xs) {j : Nat} {x : Int} (hj : xs[j]? = some x) : w.cell? ⟨g, j, none⟩ = some (.int .i64 x) := by
  rw [h.own.cellAt j (by have := (List.getElem?_eq_some_iff.1 hj).1; omega), List.getElem?_map, hj]
  rfl

end Go.Proofs.Ytcblcmdfeoijpab

namespace Go.Proofs.Ytcblcmdfeoijpab
open Go.RowKit
set_option linter.unusedVariables false

theorem pick_at {ns : List Nd} {L : List Int} {j i : Nat} {n : Nd} (hj : L[j]? = some (i : Int)) (hn : ns[i]? = some n) : (pickNs ns L)[j]? = some ⟨n.kind, n.value, n.kids.map (place L)⟩ := by
  unfold pickNs
  rw [List.getElem?_map, hj]
  simp [pickN_at hn]

theorem place_inj {L : List Int} {x y : Int} (hx : x ∈ L) (hy : y ∈ L) (h : place L x = place L y) : x = y := by
  rw [place_pos hx, place_pos hy] at h
  have h1 : L.idxOf x = L.idxOf y := by omega
  have h2 := List.getElem_idxOf (List.idxOf_lt_length_of_mem hx)
  have h3 := List.getElem_idxOf (List.idxOf_lt_length_of_mem hy)
  rw [← h2, ← h3]
  congr 1

theorem place_get {L : List Int} (hn : L.Nodup) {j : Nat} {x : Int} (hj : L[j]? = some x) : place L x = (j : Int) := by
  refine place_at hj (fun i hi e => ?_)
  obtain ⟨h1, h2⟩ := List.getElem?_eq_some_iff.1 hj
  obtain ⟨h3, h4⟩ := List.getElem?_eq_some_iff.1 e
  have := (List.getElem_inj hn).1 (h4.trans h2.symm)
  omega

theorem iso_pick {ns : List Nd} {r : Int} {L : List Int} (hp : Pickable ns r L) : Iso ns (pickNs ns L) (fun x => x ∈ L) (place L) := by
  refine ⟨hp.range, fun x hx => ?_, fun x y hx hy => place_inj hx hy, fun i n hi hn => ?_, fun i n hi hn => (hp.closed i n hi hn).2⟩
  · have := place_lt hx
    rw [pickNs_len]
    exact this
  · rw [place_pos hi, Int.toNat_natCast]
    refine pick_at ?_ hn
    have h := List.idxOf_lt_length_of_mem hi
    rw [List.getElem?_eq_getElem h, List.getElem_idxOf h]

theorem pick_onto {ns : List Nd} {r : Int} {L : List Int} (hp : Pickable ns r L) : ∀ j : Nat, j < (pickNs ns L).length → ∃ x, x ∈ L ∧ place L x = (j : Int) := by
  intro j hj
  rw [pickNs_len] at hj
  exact ⟨L[j], List.getElem_mem hj, place_get hp.nodup (List.getElem?_eq_getElem hj)⟩

theorem pick_valid {ns : List Nd} {r : Int} {L : List Int} (hv : ValidG ns r) (hp : Pickable ns r L) : ValidG (pickNs ns L) (place L r) :=
  (iso_pick hp).valid hv hp.root (pick_onto hp) (by rw [pickNs_len]; exact hp.few)

theorem pick_wf {ns : List Nd} {r : Int} {L : List Int} (hv : ValidG ns r) (hp : Pickable ns r L) : Wf (pickNs ns L) := by
  have hw := pick_valid hv hp
  intro n hn
  have hok := hw.nodes n hn
  have hk := hok.kind
  unfold KindOk at hk
  have h6 := hok.few
  have hf := hw.few
  refine ⟨?_, ?_, fun x hx => ?_, by omega⟩
  · constructor <;> omega
  · constructor <;> omega
  · have := hok.inn x hx
    constructor <;> omega

theorem pick_code {ns : List Nd} {r : Int} {L : List Int} (hv : ValidG ns r) (hp : Pickable ns r L) : codeOf (pickNs ns L) (place L r) = codeOf ns r := by
  have hw := pick_valid hv hp
  unfold codeOf
  rw [if_pos hv, if_pos hw]
  refine (iso_pick hp).code hv hw (pick_wf hv hp) hp.root ?_
  rw [pickNs_len]
  exact nodup_le _ _ hp.nodup hp.range

end Go.Proofs.Ytcblcmdfeoijpab
