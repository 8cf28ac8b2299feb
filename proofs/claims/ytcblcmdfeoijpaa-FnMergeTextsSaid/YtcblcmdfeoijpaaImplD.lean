/-
  The program's ValidGraph: it reports whether a graph that memory holds is valid.
-/
import Derived.Test.YtcblcmdfeoijpaaPjAp
namespace Go.Proofs.Ytcblcmdfeoijpaa
open Go.RowKit Go.Maps
set_option linter.unusedVariables false

theorem kidsIn_of_ok {ns : List Nd} (h : ∀ n ∈ ns, NodeOk ns n) : KidsIn ns := fun n hn => (h n hn).inn

set_option maxRecDepth 100000 in
set_option maxHeartbeats 4000000 in
theorem implValid_in (A : Option Addr) (ns : List Nd) (c : Nat) (r : Int) (w : World) (hr : NdsAt w w.heap.size A ns) (h1 : 1 ≤ ns.length) (h12 : ns.length ≤ 12) (hr0 : 0 ≤ r) (hrl : r < ns.length) :
    Calls Try.prog 9 #[.agg #[.slice A ns.length c, .int .i64 r]] w fun e w' => e = .returned (.bool (tf (ValidG ns r))) ∧ Below w.heap.size w w' := by
  have hB : Below w.heap.size w (w.alloc (.cells #[.slice A ns.length c, .int .i64 r] 25)) := (Below.refl _ _).alloc (Nat.le_refl _) _
  have l1 := Lies.new w #[.slice A ns.length c, .int .i64 r] 25
  have hr2 := hr.later hB (Nat.le_refl _)
  clear hr
  have a1 : (1 : Int) ≤ (ns.length : Int) := by omega
  have a2 : (ns.length : Int) ≤ 12 := by omega
  have a3 : r ≤ (ns.length : Int) - 1 := by omega
  have d1 : decide ((ns.length : Int) < 1) = false := by simp; omega
  have d2 : decide ((12 : Int) < (ns.length : Int)) = false := by simp; omega
  go_enter Try.func9, Try.ntmps9
  go_wp2_with fail
  refine (isUpTo_yes r ((ns.length : Int) - 1) _ hr0 a3).mono ?_
  rintro e w' ⟨rfl, rfl⟩
  go_wp2_with fail
  generalize w.alloc (.cells #[.slice A ns.length c, .int .i64 r] 25) = W at hB l1 hr2 ⊢
  have hW1 := l1.lt
  go_loopw [26] (fun i wr => ∃ k : Nat, k ≤ ns.length ∧ i = .int .i64 k ∧ Below W.heap.size W wr ∧ (∀ j n, j < k → ns[j]? = some n → NodeOk ns n)) (fun i _ => ns.length - (intOf i).toNat)
  case atStart => exact ⟨0, Nat.zero_le _, rfl, Below.refl _ _, fun j n hj => absurd hj (by omega)⟩
  case round =>
    obtain ⟨k, hkl, rfl, hb, hok0⟩ := hrel
    have hok := hide hok0
    clear hok0
    by_cases hlt : k < ns.length
    · obtain ⟨b, off, n, rfl, hbl, hat, hmem, hN⟩ := (hr2.below hb).at_ hlt
      obtain ⟨hn_k, hn_v, ⟨A1, c1, hn_s, hI1', _⟩, _, _⟩ := hN
      have Hat := hide hat
      have hbA : Below W.heap.size W (wr.alloc (.cells #[.int .i64 n.kind, .int .i64 n.value, .slice A1 n.kids.length c1] 32)) := hb.alloc hb.size _
      have lv := Lies.new wr #[.int .i64 n.kind, .int .i64 n.value, .slice A1 n.kids.length c1] 32
      have hI1 : IntsAt (wr.alloc (.cells #[.int .i64 n.kind, .int .i64 n.value, .slice A1 n.kids.length c1] 32)) (wr.alloc (.cells #[.int .i64 n.kind, .int .i64 n.value, .slice A1 n.kids.length c1] 32)).heap.size A1 n.kids :=
        hI1'.later ((Below.refl _ _).alloc hb.size _) hb.size
      clear hI1' hat
      by_cases h6 : n.kids.length ≤ 6
      · have t6 : decide ((6 : Int) < (n.kids.length : Int)) = false := by simp; omega
        go_wp2_with fail
        refine (areNodes_any A1 n.kids c1 ns.length _ hI1 (by omega)).mono ?_
        rintro e w2 ⟨rfl, rfl⟩
        have hlv := lv.lt
        generalize hw2 : wr.alloc (.cells #[.int .i64 n.kind, .int .i64 n.value, .slice A1 n.kids.length c1] 32) = w2 at hbA lv hI1 hlv ⊢
        clear hw2
        by_cases hkk : Among ns.length n.kids
        · rw [tf_true hkk]
          have hr3 := hr2.later hbA (Nat.le_refl _)
          have e0 := (l1.below hbA hW1).cell 0
          have v0 := lv.cell 0
          have v1 := lv.cell 1
          have v2 := lv.cell 2
          simp at e0 v0 v1 v2
          have Hin := hide hkk
          clear hkk lv
          go_wp2_with fail
          refine (fitsKind_any _ ns c A1 n c1 w2 hr3 hI1 h6 Hin.out).mono ?_
          rintro e w4 ⟨rfl, hb4⟩
          have hb5 := hbA.trans (hb4.mono hbA.size)
          clear hb4 hbA hr3 hI1 e0 v0 v1 v2 hlv
          by_cases hkd : KindOk ns n
          · rw [tf_true hkd]
            have hnk : NodeOk ns n := ⟨h6, Hin.out, hkd⟩
            have Hnk := hide hnk
            clear hnk hkd
            go_wp2
            go_roundw
            case rel => exact ⟨k + 1, by omega, by go_num, hb5, fun j m hj hm => by
                by_cases e : j = k
                · subst e
                  obtain rfl := Option.some.inj (Hat.out.symm.trans hm)
                  exact Hnk.out
                · exact hok.out j m (by omega) hm⟩
            case measure => simp [intOf]; omega
          · rw [tf_false hkd]
            have HF := hide (show tf (ValidG ns r) = false from tf_false fun h => hkd (h.nodes n hmem).kind)
            clear hkd hmem
            go_wp2
            go_ret
            exact ⟨ret_bool HF.out.symm, hB.trans (hb5.mono hB.size)⟩
        · rw [tf_false hkk]
          have HF := hide (show tf (ValidG ns r) = false from tf_false fun h => hkk (h.nodes n hmem).inn)
          clear hkk hmem hI1 lv
          go_wp2
          go_ret
          exact ⟨ret_bool HF.out.symm, hB.trans (hbA.mono hB.size)⟩
      · have t6 : decide ((6 : Int) < (n.kids.length : Int)) = true := by simp; omega
        have HF := hide (show tf (ValidG ns r) = false from tf_false fun h => h6 (h.nodes n hmem).few)
        clear hmem hI1
        go_wp2
        go_ret
        exact ⟨ret_bool HF.out.symm, hB.trans (hbA.mono hB.size)⟩
    · obtain rfl : k = ns.length := by omega
      have hall : ∀ n ∈ ns, NodeOk ns n := fun n hn => by
        obtain ⟨j, hj, rfl⟩ := List.getElem_of_mem hn
        exact hok.out j _ hj (List.getElem?_eq_getElem hj)
      have Hall := hide hall
      have hr3 := hr2.later hb (Nat.le_refl _)
      have e0 := (l1.below hb hW1).cell 0
      simp at e0
      clear hall hok hlt
      go_wp2_with fail
      refine (hasTupleCycle_any A ns c wr hr3 (kidsIn_of_ok Hall.out) (by omega)).mono ?_
      rintro e w2 ⟨rfl, hb2⟩
      have hb3 := hb.trans (hb2.mono hb.size)
      clear hb2 hr3 e0
      by_cases htc : TupleCycle ns
      · rw [tf_true htc]
        have HF := hide (show tf (ValidG ns r) = false from tf_false fun h => by
          obtain ⟨i, n, h1, h2, h3⟩ := htc
          exact h.tuples i n h1 h2 h3)
        clear htc
        go_wp2
        go_ret
        exact ⟨ret_bool HF.out.symm, hB.trans (hb3.mono hB.size)⟩
      · rw [tf_false htc]
        have HF := hide (show tf (ValidG ns r) = true from tf_true ⟨h1, h12, hr0, hrl, Hall.out, fun i n hn h2 ht => htc ⟨i, n, hn, h2, ht⟩⟩)
        clear htc
        go_wp2
        go_ret
        exact ⟨ret_bool HF.out.symm, hB.trans (hb3.mono hB.size)⟩

set_option maxHeartbeats 1000000 in
theorem implValid_zero (A : Option Addr) (ns : List Nd) (c : Nat) (r : Int) (w : World) (h : ns.length < 1) :
    Calls Try.prog 9 #[.agg #[.slice A ns.length c, .int .i64 r]] w fun e w' => e = .returned (.bool (tf (ValidG ns r))) ∧ Below w.heap.size w w' := by
  have hB : Below w.heap.size w (w.alloc (.cells #[.slice A ns.length c, .int .i64 r] 25)) := (Below.refl _ _).alloc (Nat.le_refl _) _
  have HF := hide (show tf (ValidG ns r) = false from tf_false fun hv => by have := hv.one; omega)
  have d1 : decide ((ns.length : Int) < 1) = true := by simp; omega
  have h' : (ns.length : Int) < 1 := by omega
  clear h
  go_enter Try.func9, Try.ntmps9
  go_wp2
  go_ret
  exact ⟨ret_bool HF.out.symm, hB⟩

set_option maxHeartbeats 1000000 in
theorem implValid_many (A : Option Addr) (ns : List Nd) (c : Nat) (r : Int) (w : World) (h : 12 < ns.length) (hl : ns.length ≤ 9223372036854775807) :
    Calls Try.prog 9 #[.agg #[.slice A ns.length c, .int .i64 r]] w fun e w' => e = .returned (.bool (tf (ValidG ns r))) ∧ Below w.heap.size w w' := by
  have hB : Below w.heap.size w (w.alloc (.cells #[.slice A ns.length c, .int .i64 r] 25)) := (Below.refl _ _).alloc (Nat.le_refl _) _
  have HF := hide (show tf (ValidG ns r) = false from tf_false fun hv => by have := hv.few; omega)
  have d1 : decide ((ns.length : Int) < 1) = false := by simp; omega
  have d2 : decide ((12 : Int) < (ns.length : Int)) = true := by simp; omega
  have h' : (12 : Int) < (ns.length : Int) := by omega
  clear h
  go_enter Try.func9, Try.ntmps9
  go_wp2
  go_ret
  exact ⟨ret_bool HF.out.symm, hB⟩

set_option maxHeartbeats 1000000 in
theorem implValid_root (A : Option Addr) (ns : List Nd) (c : Nat) (r : Int) (w : World) (h1 : 1 ≤ ns.length) (h12 : ns.length ≤ 12) (h : r < 0 ∨ (ns.length : Int) ≤ r) :
    Calls Try.prog 9 #[.agg #[.slice A ns.length c, .int .i64 r]] w fun e w' => e = .returned (.bool (tf (ValidG ns r))) ∧ Below w.heap.size w w' := by
  have hB : Below w.heap.size w (w.alloc (.cells #[.slice A ns.length c, .int .i64 r] 25)) := (Below.refl _ _).alloc (Nat.le_refl _) _
  have HF := hide (show tf (ValidG ns r) = false from tf_false fun hv => by have := hv.root0; have := hv.root; omega)
  have a1 : (1 : Int) ≤ (ns.length : Int) := by omega
  have a2 : (ns.length : Int) ≤ 12 := by omega
  have d1 : decide ((ns.length : Int) < 1) = false := by simp; omega
  have d2 : decide ((12 : Int) < (ns.length : Int)) = false := by simp; omega
  have h' : r < 0 ∨ (ns.length : Int) - 1 < r := by omega
  have H' := hide h'
  clear h h'
  go_enter Try.func9, Try.ntmps9
  go_wp2_with fail
  refine (isUpTo_no r ((ns.length : Int) - 1) _ H'.out).mono ?_
  rintro e w' ⟨rfl, rfl⟩
  go_wp2
  go_ret
  exact ⟨ret_bool HF.out.symm, hB⟩

theorem implValid_any (A : Option Addr) (ns : List Nd) (c : Nat) (r : Int) (w : World) (hr : NdsAt w w.heap.size A ns) :
    Calls Try.prog 9 #[.agg #[.slice A ns.length c, .int .i64 r]] w fun e w' => e = .returned (.bool (tf (ValidG ns r))) ∧ Below w.heap.size w w' := by
  by_cases h0 : ns.length < 1
  · exact implValid_zero A ns c r w h0
  · by_cases h : 12 < ns.length
    · exact implValid_many A ns c r w h hr.len
    · by_cases h2 : 0 ≤ r ∧ r < ns.length
      · exact implValid_in A ns c r w hr (by omega) (by omega) h2.1 h2.2
      · exact implValid_root A ns c r w (by omega) (by omega) (by omega)

end Go.Proofs.Ytcblcmdfeoijpaa
