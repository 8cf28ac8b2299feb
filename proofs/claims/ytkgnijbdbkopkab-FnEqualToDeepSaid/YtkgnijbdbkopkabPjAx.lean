/-
  Lemmas, several texts in one: ImplC, ImplD, EqoI, EqdI.
-/
import Derived.Test.YtkgnijbdbkopkabPjAt
import Derived.Test.YtkgnijbdbkopkabImplB
import Derived.Test.YtkgnijbdbkopkabSpecE
import Derived.Test.YtkgnijbdbkopkabPjAq
import Derived.Test.YtkgnijbdbkopkabClaI
import Derived.Test.YtkgnijbdbkopkabPjAj
import Derived.Test.YtkgnijbdbkopkabPjAv
import Derived.Test.YtkgnijbdbkopkabPjAi
namespace Go.Proofs.Ytkgnijbdbkopkab
open Go.RowKit Go.Maps
set_option linter.unusedVariables false

set_option maxHeartbeats 400000 in
theorem enters_tup (ns : List Nd) : WalkT.Enters ns (isTup ns) := by
  intro k n A c w hat
  have hk := kindOf_at hat
  by_cases h2 : n.kind = 2
  · have t : (n.kind == 2) = true := by rw [beq_iff_eq]; exact h2
    have HF := hide (show isTup ns (k : Int) = true by unfold isTup; rw [hk]; exact t)
    clear h2 hk hat
    go_enter Try.func42, Try.ntmps42
    go_wp2
    go_ret
    exact ⟨ret_bool HF.out.symm, (Below.refl _ _).alloc (Nat.le_refl _) _⟩
  · have t : (n.kind == 2) = false := by rw [beq_eq_false_iff_ne]; exact h2
    have HF := hide (show isTup ns (k : Int) = false by unfold isTup; rw [hk]; exact t)
    clear h2 hk hat
    go_enter Try.func42, Try.ntmps42
    go_wp2
    go_ret
    exact ⟨ret_bool HF.out.symm, (Below.refl _ _).alloc (Nat.le_refl _) _⟩

set_option maxHeartbeats 1000000 in
theorem index_any (A : Option Addr) (xs : List Int) (c : Nat) (n : Int) (w : World) (h : IntsAt w w.heap.size A xs) :
    Calls Try.prog 64 #[.slice A xs.length c, .int .i64 n] w fun e w' => e = .returned (.int .i64 (place xs n)) ∧ w = w' := by
  have hl := h.len
  go_enter Try.func64, Try.ntmps64
  go_wp2_with fail
  go_loop [8] (fun i => ∃ k : Nat, k ≤ xs.length ∧ i = .int .i64 k ∧ ∀ j, j < k → xs[j]? ≠ some n) (fun i => xs.length - (intOf i).toNat)
  case atStart => exact ⟨0, Nat.zero_le _, rfl, fun j hj => absurd hj (by omega)⟩
  case round =>
    obtain ⟨k, hk, rfl, he0⟩ := hrel
    have he := hide he0
    clear he0
    by_cases hlt : k < xs.length
    · obtain ⟨b, off, x, rfl, hbl, hx, _, hc⟩ := h.at_ hlt
      have Hx := hide hx
      clear hx
      by_cases hxn : n = x
      · subst hxn
        have HF := hide (place_at Hx.out he.out)
        go_wp2
        go_ret
        exact ⟨ret_int HF.out.symm, rfl⟩
      · have t : (n == x) = false := by simpa using hxn
        have he2 : ∀ j, j < k + 1 → xs[j]? ≠ some n := by
          intro j hj
          by_cases e : j = k
          · subst e; rw [Hx.out]; intro e; injection e with e; exact hxn e.symm
          · exact he.out j (by omega)
        have He := hide he2
        clear he2 he hxn
        go_wp2
        go_round
        case rel => exact ⟨k + 1, by omega, by go_num, He.out⟩
        case measure => simp [intOf]; omega
    · obtain rfl : k = xs.length := by omega
      have HF := hide (place_none he.out)
      clear hlt
      go_wp2
      go_ret
      exact ⟨ret_int HF.out.symm, rfl⟩

set_option maxHeartbeats 400000 in
theorem contains_any (A : Option Addr) (xs : List Int) (c : Nat) (n : Int) (w : World) (h : IntsAt w w.heap.size A xs) :
    Calls Try.prog 58 #[.slice A xs.length c, .int .i64 n] w fun e w' => e = .returned (.bool (tf (n ∈ xs))) ∧ w = w' := by
  go_enter Try.func58, Try.ntmps58
  go_wp2_with fail
  refine (index_any A xs c n w h).mono ?_
  rintro e w' ⟨rfl, rfl⟩
  by_cases hin : n ∈ xs
  · have hp := place_lt hin
    have HF := hide (tf_true hin)
    have hd : decide (0 ≤ place xs n) = true := by simp; omega
    generalize place xs n = pl at hp hd ⊢
    clear hin
    go_wp2
    go_ret
    exact ⟨ret_bool HF.out.symm, rfl⟩
  · have HF := hide (tf_false hin)
    rw [place_neg hin]
    clear hin
    go_wp2
    go_ret
    exact ⟨ret_bool HF.out.symm, rfl⟩

set_option maxHeartbeats 1000000 in
theorem leadsBackT_any (A : Option Addr) (ns : List Nd) (c : Nat) (i : Nat) (w : World) (hr : NdsAt w w.heap.size A ns) (hk : KidsIn ns) (hsm : ns.length ≤ 1048576) (hi : i < ns.length) :
    Calls Try.prog 43 #[.slice A ns.length c, .int .i64 (i : Int), .func (.func 42) #[] #[]] w fun e w' =>
      e = .returned (.bool (tf ((i : Int) ∈ dfsL ns (isTup ns) (ns.length + 1) (kidsOf ns i) []))) ∧ Below w.heap.size w w' := by
  have hr2 := hr
  obtain ⟨b, off, n, rfl, hbl, hat, hmem, hN⟩ := hr.at_ hi
  obtain ⟨hn_k, hn_v, ⟨A1, c1, hn_s, hI1, _⟩, _, _⟩ := hN
  have hi1 : (0 : Int) ≤ (i : Int) := by omega
  have hi2 : (i : Int) < (ns.length : Int) := by omega
  have hkids := kidsOf_at hat
  have Hkids := hide hkids
  have hin : ∀ x ∈ n.kids, 0 ≤ x ∧ x < (ns.length : Int) := fun x hx => hk n hmem x hx
  have hw := walkedAll ns (isTup ns) hk n.kids [] (ns.length + 1) (Met.nil ns) hin (by simp)
  have Hin := hide hin
  have Hw := hide hw.met
  have hwl := hw.met.len
  clear hat hmem hkids hin hw
  go_enter Try.func43, Try.ntmps43
  go_wp2_with fail
  refine (WalkT.walkFrom_any ns (isTup ns) (enters_tup ns) hk hsm _ c A1 n.kids c1 w hr2 hI1 Hin.out).mono ?_
  rintro e w2 ⟨A2, c2, rfl, hown, hb⟩
  have hio := hown.ints (fun x hx => by have := Hw.out.range x hx; constructor <;> omega) (by omega)
  clear hown
  generalize hR : dfsL ns (isTup ns) (ns.length + 1) n.kids [] = R at hio ⊢
  have HR := hide hR
  clear hR hwl Hw
  go_wp2_with fail
  refine (contains_any A2 R c2 i w2 hio).mono ?_
  rintro e w3 ⟨rfl, rfl⟩
  generalize hx : tf ((i : Int) ∈ R) = x
  have HF := hide (show tf ((i : Int) ∈ dfsL ns (isTup ns) (ns.length + 1) (kidsOf ns i) []) = x by rw [Hkids.out, HR.out, hx])
  clear hx
  go_wp2
  go_ret
  exact ⟨ret_bool HF.out.symm, hb⟩

/-- a tuple from which a way over tuples leads back to it -/
def TupleCycle (ns : List Nd) : Prop := ∃ (i : Nat) (n : Nd), ns[i]? = some n ∧ n.kind = 2 ∧ TReach ns i i

set_option maxHeartbeats 2000000 in
theorem hasTupleCycle_any (A : Option Addr) (ns : List Nd) (c : Nat) (w : World) (hr : NdsAt w w.heap.size A ns) (hk : KidsIn ns) (hsm : ns.length ≤ 1048576) :
    Calls Try.prog 21 #[.slice A ns.length c] w fun e w' => e = .returned (.bool (tf (TupleCycle ns))) ∧ Below w.heap.size w w' := by
  go_enter Try.func21, Try.ntmps21
  go_wp2_with fail
  go_loopw [8] (fun i wr => ∃ k : Nat, k ≤ ns.length ∧ i = .int .i64 k ∧ Below w.heap.size w wr ∧ (∀ (j : Nat) (n : Nd), j < k → ns[j]? = some n → n.kind = 2 → ¬ TReach ns j j)) (fun i _ => ns.length - (intOf i).toNat)
  case atStart => exact ⟨0, Nat.zero_le _, rfl, Below.refl _ _, fun j n hj => absurd hj (by omega)⟩
  case round =>
    obtain ⟨k, hkl, rfl, hb, hok0⟩ := hrel
    have hok := hide hok0
    clear hok0
    by_cases hlt : k < ns.length
    · obtain ⟨b, off, n, rfl, hbl, hat, hmem, hN⟩ := (hr.below hb).at_ hlt
      obtain ⟨hn_k, hn_v, ⟨A1, c1, hn_s, hI1, _⟩, _, _⟩ := hN
      have Hat := hide hat
      have hbA : Below w.heap.size w (wr.alloc (.cells #[.int .i64 n.kind, .int .i64 n.value, .slice A1 n.kids.length c1] 45)) := hb.alloc hb.size _
      have htup := enters_tup ns k n A1 c1 (wr.alloc (.cells #[.int .i64 n.kind, .int .i64 n.value, .slice A1 n.kids.length c1] 45)) hat
      have Htup := hide htup
      have hkd := kindOf_at hat
      clear hat hmem hI1 htup
      go_wp2_with fail
      refine Htup.out.mono ?_
      rintro e w2 ⟨rfl, hb2⟩
      have hb3 := hbA.trans (hb2.mono (by have := hb.size; simp; omega))
      clear hb2 hbA
      by_cases h2 : n.kind = 2
      · have ht : isTup ns (k : Int) = true := by unfold isTup; rw [hkd, h2]; rfl
        rw [ht]
        have hr2 := hr.later hb3 (Nat.le_refl _)
        have H2 := hide h2
        have Hkd := hide (hkd.trans h2)
        clear ht hkd h2
        go_wp2_with fail
        refine (leadsBackT_any _ ns c k w2 hr2 hk hsm hlt).mono ?_
        rintro e w4 ⟨rfl, hb4⟩
        have hb5 := hb3.trans (hb4.mono hb3.size)
        rw [tf_congr (tuple_back ns hk k Hkd.out (ns.length + 1) (by omega))]
        clear hb4 hb3 hr2
        by_cases ht : TReach ns k k
        · rw [tf_true ht]
          have HF := hide (show tf (TupleCycle ns) = true from tf_true ⟨k, n, Hat.out, H2.out, ht⟩)
          clear ht
          go_wp2
          go_ret
          exact ⟨ret_bool HF.out.symm, hb5⟩
        · rw [tf_false ht]
          have Ht := hide ht
          clear ht
          go_wp2
          go_roundw
          case rel => exact ⟨k + 1, by omega, by go_num, hb5, fun j m hj hm hm2 => by
              by_cases e : j = k
              · subst e; exact Ht.out
              · exact hok.out j m (by omega) hm hm2⟩
          case measure => simp [intOf]; omega
      · have ht : isTup ns (k : Int) = false := by unfold isTup; rw [hkd, beq_eq_false_iff_ne]; exact h2
        rw [ht]
        have H2 := hide h2
        clear ht hkd h2
        go_wp2
        go_roundw
        case rel => exact ⟨k + 1, by omega, by go_num, hb3, fun j m hj hm hm2 => by
            by_cases e : j = k
            · subst e
              obtain rfl := Option.some.inj (Hat.out.symm.trans hm)
              exact absurd hm2 H2.out
            · exact hok.out j m (by omega) hm hm2⟩
        case measure => simp [intOf]; omega
    · obtain rfl : k = ns.length := by omega
      have HF := hide (show tf (TupleCycle ns) = false from tf_false fun ⟨i, n, h1, h2, h3⟩ => hok.out i n (List.getElem?_eq_some_iff.1 h1).1 h1 h2 h3)
      clear hlt
      go_wp2
      go_ret
      exact ⟨ret_bool HF.out.symm, hb⟩

end Go.Proofs.Ytkgnijbdbkopkab

namespace Go.Proofs.Ytkgnijbdbkopkab
open Go.RowKit Go.Maps
set_option linter.unusedVariables false

theorem kidsIn_of_ok {ns : List Nd} (h : ∀ n ∈ ns, NodeOk ns n) : KidsIn ns := fun n hn => (h n hn).inn

set_option maxRecDepth 100000 in
set_option maxHeartbeats 4000000 in
theorem implValid_in (A : Option Addr) (ns : List Nd) (c : Nat) (r : Int) (w : World) (hr : NdsAt w w.heap.size A ns) (h1 : 1 ≤ ns.length) (h12 : ns.length ≤ 12) (hr0 : 0 ≤ r) (hrl : r < ns.length) :
    Calls Try.prog 7 #[.agg #[.slice A ns.length c, .int .i64 r]] w fun e w' => e = .returned (.bool (tf (ValidG ns r))) ∧ Below w.heap.size w w' := by
  have hB : Below w.heap.size w (w.alloc (.cells #[.slice A ns.length c, .int .i64 r] 25)) := (Below.refl _ _).alloc (Nat.le_refl _) _
  have l1 := Lies.new w #[.slice A ns.length c, .int .i64 r] 25
  have hr2 := hr.later hB (Nat.le_refl _)
  clear hr
  have a1 : (1 : Int) ≤ (ns.length : Int) := by omega
  have a2 : (ns.length : Int) ≤ 12 := by omega
  have a3 : r ≤ (ns.length : Int) - 1 := by omega
  have d1 : decide ((ns.length : Int) < 1) = false := by simp; omega
  have d2 : decide ((12 : Int) < (ns.length : Int)) = false := by simp; omega
  go_enter Try.func7, Try.ntmps7
  go_wp2_with fail
  refine (isUpTo_yes r ((ns.length : Int) - 1) _ hr0 a3).mono ?_
  rintro e w' ⟨rfl, rfl⟩
  go_wp2_with fail
  generalize w.alloc (.cells #[.slice A ns.length c, .int .i64 r] 25) = W at hB l1 hr2 ⊢
  have hW1 := l1.lt
  go_loopw [26] (fun i wr => ∃ k : Nat, k ≤ ns.length ∧ i = .int .i64 k ∧ Below W.heap.size W wr ∧ (∀ j n, j < k → ns[j]? = some n → NodeOk ns n)) (fun i _ => ns.length - (intOf i).toNat)
  case atStart => exact ⟨0, Nat.zero_le _, rfl, Below.refl _ _, fun j n hj => absurd hj (by omega)⟩
  case round =>
    obtain ⟨k, hkl, rfl, hb, hok0⟩ := hrel
    have hok := hide hok0
    clear hok0
    by_cases hlt : k < ns.length
    · obtain ⟨b, off, n, rfl, hbl, hat, hmem, hN⟩ := (hr2.below hb).at_ hlt
      obtain ⟨hn_k, hn_v, ⟨A1, c1, hn_s, hI1', _⟩, _, _⟩ := hN
      have Hat := hide hat
      have hbA : Below W.heap.size W (wr.alloc (.cells #[.int .i64 n.kind, .int .i64 n.value, .slice A1 n.kids.length c1] 45)) := hb.alloc hb.size _
      have lv := Lies.new wr #[.int .i64 n.kind, .int .i64 n.value, .slice A1 n.kids.length c1] 45
      have hI1 : IntsAt (wr.alloc (.cells #[.int .i64 n.kind, .int .i64 n.value, .slice A1 n.kids.length c1] 45)) (wr.alloc (.cells #[.int .i64 n.kind, .int .i64 n.value, .slice A1 n.kids.length c1] 45)).heap.size A1 n.kids :=
        hI1'.later ((Below.refl _ _).alloc hb.size _) hb.size
      clear hI1' hat
      by_cases h6 : n.kids.length ≤ 6
      · have t6 : decide ((6 : Int) < (n.kids.length : Int)) = false := by simp; omega
        go_wp2_with fail
        refine (areNodes_any A1 n.kids c1 ns.length _ hI1 (by omega)).mono ?_
        rintro e w2 ⟨rfl, rfl⟩
        have hlv := lv.lt
        generalize hw2 : wr.alloc (.cells #[.int .i64 n.kind, .int .i64 n.value, .slice A1 n.kids.length c1] 45) = w2 at hbA lv hI1 hlv ⊢
        clear hw2
        by_cases hkk : Among ns.length n.kids
        · rw [tf_true hkk]
          have hr3 := hr2.later hbA (Nat.le_refl _)
          have e0 := (l1.below hbA hW1).cell 0
          have v0 := lv.cell 0
          have v1 := lv.cell 1
          have v2 := lv.cell 2
          simp at e0 v0 v1 v2
          have Hin := hide hkk
          clear hkk lv
          go_wp2_with fail
          refine (fitsKind_any _ ns c A1 n c1 w2 hr3 hI1 h6 Hin.out).mono ?_
          rintro e w4 ⟨rfl, hb4⟩
          have hb5 := hbA.trans (hb4.mono hbA.size)
          clear hb4 hbA hr3 hI1 e0 v0 v1 v2 hlv
          by_cases hkd : KindOk ns n
          · rw [tf_true hkd]
            have hnk : NodeOk ns n := ⟨h6, Hin.out, hkd⟩
            have Hnk := hide hnk
            clear hnk hkd
            go_wp2
            go_roundw
            case rel => exact ⟨k + 1, by omega, by go_num, hb5, fun j m hj hm => by
                by_cases e : j = k
                · subst e
                  obtain rfl := Option.some.inj (Hat.out.symm.trans hm)
                  exact Hnk.out
                · exact hok.out j m (by omega) hm⟩
            case measure => simp [intOf]; omega
          · rw [tf_false hkd]
            have HF := hide (show tf (ValidG ns r) = false from tf_false fun h => hkd (h.nodes n hmem).kind)
            clear hkd hmem
            go_wp2
            go_ret
            exact ⟨ret_bool HF.out.symm, hB.trans (hb5.mono hB.size)⟩
        · rw [tf_false hkk]
          have HF := hide (show tf (ValidG ns r) = false from tf_false fun h => hkk (h.nodes n hmem).inn)
          clear hkk hmem hI1 lv
          go_wp2
          go_ret
          exact ⟨ret_bool HF.out.symm, hB.trans (hbA.mono hB.size)⟩
      · have t6 : decide ((6 : Int) < (n.kids.length : Int)) = true := by simp; omega
        have HF := hide (show tf (ValidG ns r) = false from tf_false fun h => h6 (h.nodes n hmem).few)
        clear hmem hI1
        go_wp2
        go_ret
        exact ⟨ret_bool HF.out.symm, hB.trans (hbA.mono hB.size)⟩
    · obtain rfl : k = ns.length := by omega
      have hall : ∀ n ∈ ns, NodeOk ns n := fun n hn => by
        obtain ⟨j, hj, rfl⟩ := List.getElem_of_mem hn
        exact hok.out j _ hj (List.getElem?_eq_getElem hj)
      have Hall := hide hall
      have hr3 := hr2.later hb (Nat.le_refl _)
      have e0 := (l1.below hb hW1).cell 0
      simp at e0
      clear hall hok hlt
      go_wp2_with fail
      refine (hasTupleCycle_any A ns c wr hr3 (kidsIn_of_ok Hall.out) (by omega)).mono ?_
      rintro e w2 ⟨rfl, hb2⟩
      have hb3 := hb.trans (hb2.mono hb.size)
      clear hb2 hr3 e0
      by_cases htc : TupleCycle ns
      · rw [tf_true htc]
        have HF := hide (show tf (ValidG ns r) = false from tf_false fun h => by
          obtain ⟨i, n, h1, h2, h3⟩ := htc
          exact h.tuples i n h1 h2 h3)
        clear htc
        go_wp2
        go_ret
        exact ⟨ret_bool HF.out.symm, hB.trans (hb3.mono hB.size)⟩
      · rw [tf_false htc]
        have HF := hide (show tf (ValidG ns r) = true from tf_true ⟨h1, h12, hr0, hrl, Hall.out, fun i n hn h2 ht => htc ⟨i, n, hn, h2, ht⟩⟩)
        clear htc
        go_wp2
        go_ret
        exact ⟨ret_bool HF.out.symm, hB.trans (hb3.mono hB.size)⟩

set_option maxHeartbeats 1000000 in
theorem implValid_zero (A : Option Addr) (ns : List Nd) (c : Nat) (r : Int) (w : World) (h : ns.length < 1) :
    Calls Try.prog 7 #[.agg #[.slice A ns.length c, .int .i64 r]] w fun e w' => e = .returned (.bool (tf (ValidG ns r))) ∧ Below w.heap.size w w' := by
  have hB : Below w.heap.size w (w.alloc (.cells #[.slice A ns.length c, .int .i64 r] 25)) := (Below.refl _ _).alloc (Nat.le_refl _) _
  have HF := hide (show tf (ValidG ns r) = false from tf_false fun hv => by have := hv.one; omega)
  have d1 : decide ((ns.length : Int) < 1) = true := by simp; omega
  have h' : (ns.length : Int) < 1 := by omega
  clear h
  go_enter Try.func7, Try.ntmps7
  go_wp2
  go_ret
  exact ⟨ret_bool HF.out.symm, hB⟩

set_option maxHeartbeats 1000000 in
theorem implValid_many (A : Option Addr) (ns : List Nd) (c : Nat) (r : Int) (w : World) (h : 12 < ns.length) (hl : ns.length ≤ 9223372036854775807) :
    Calls Try.prog 7 #[.agg #[.slice A ns.length c, .int .i64 r]] w fun e w' => e = .returned (.bool (tf (ValidG ns r))) ∧ Below w.heap.size w w' := by
  have hB : Below w.heap.size w (w.alloc (.cells #[.slice A ns.length c, .int .i64 r] 25)) := (Below.refl _ _).alloc (Nat.le_refl _) _
  have HF := hide (show tf (ValidG ns r) = false from tf_false fun hv => by have := hv.few; omega)
  have d1 : decide ((ns.length : Int) < 1) = false := by simp; omega
  have d2 : decide ((12 : Int) < (ns.length : Int)) = true := by simp; omega
  have h' : (12 : Int) < (ns.length : Int) := by omega
  clear h
  go_enter Try.func7, Try.ntmps7
  go_wp2
  go_ret
  exact ⟨ret_bool HF.out.symm, hB⟩

set_option maxHeartbeats 1000000 in
theorem implValid_root (A : Option Addr) (ns : List Nd) (c : Nat) (r : Int) (w : World) (h1 : 1 ≤ ns.length) (h12 : ns.length ≤ 12) (h : r < 0 ∨ (ns.length : Int) ≤ r) :
    Calls Try.prog 7 #[.agg #[.slice A ns.length c, .int .i64 r]] w fun e w' => e = .returned (.bool (tf (ValidG ns r))) ∧ Below w.heap.size w w' := by
  have hB : Below w.heap.size w (w.alloc (.cells #[.slice A ns.length c, .int .i64 r] 25)) := (Below.refl _ _).alloc (Nat.le_refl _) _
  have HF := hide (show tf (ValidG ns r) = false from tf_false fun hv => by have := hv.root0; have := hv.root; omega)
  have a1 : (1 : Int) ≤ (ns.length : Int) := by omega
  have a2 : (ns.length : Int) ≤ 12 := by omega
  have d1 : decide ((ns.length : Int) < 1) = false := by simp; omega
  have d2 : decide ((12 : Int) < (ns.length : Int)) = false := by simp; omega
  have h' : r < 0 ∨ (ns.length : Int) - 1 < r := by omega
  have H' := hide h'
  clear h h'
  go_enter Try.func7, Try.ntmps7
  go_wp2_with fail
  refine (isUpTo_no r ((ns.length : Int) - 1) _ H'.out).mono ?_
  rintro e w' ⟨rfl, rfl⟩
  go_wp2
  go_ret
  exact ⟨ret_bool HF.out.symm, hB⟩

theorem implValid_any (A : Option Addr) (ns : List Nd) (c : Nat) (r : Int) (w : World) (hr : NdsAt w w.heap.size A ns) :
    Calls Try.prog 7 #[.agg #[.slice A ns.length c, .int .i64 r]] w fun e w' => e = .returned (.bool (tf (ValidG ns r))) ∧ Below w.heap.size w w' := by
  by_cases h0 : ns.length < 1
  · exact implValid_zero A ns c r w h0
  · by_cases h : 12 < ns.length
    · exact implValid_many A ns c r w h hr.len
    · by_cases h2 : 0 ≤ r ∧ r < ns.length
      · exact implValid_in A ns c r w hr (by omega) (by omega) h2.1 h2.2
      · exact implValid_root A ns c r w (by omega) (by omega) (by omega)

end Go.Proofs.Ytkgnijbdbkopkab

namespace Go.Proofs.Ytkgnijbdbkopkab
open Go.RowKit Go.Maps
set_option linter.unusedVariables false

set_option maxHeartbeats 2000000 in
theorem implEqualTo_any (A A' : Option Addr) (ns ms : List Nd) (c c' : Nat) (r s d : Int) (w : World) (hr : NdsAt w w.heap.size A ns) (hq : NdsAt w w.heap.size A' ms) :
    Calls Try.prog 5 #[.agg #[.slice A ns.length c, .int .i64 r], .agg #[.slice A' ms.length c', .int .i64 s], .int .i64 d] w fun e w' => e = .returned (.bool (tf (EqToG ns r ms s d))) ∧ Below w.heap.size w w' := by
  have hB2 : Below w.heap.size w ((w.alloc (.cells #[.slice A ns.length c, .int .i64 r] 25)).alloc (.cells #[.slice A' ms.length c', .int .i64 s] 25)) := ((Below.refl _ _).alloc (Nat.le_refl _) _).alloc (by simp) _
  have lA := (Lies.new w #[.slice A ns.length c, .int .i64 r] 25).alloc (.cells #[.slice A' ms.length c', .int .i64 s] 25)
  have lB := Lies.new (w.alloc (.cells #[.slice A ns.length c, .int .i64 r] 25)) #[.slice A' ms.length c', .int .i64 s] 25
  simp only [World.size_alloc] at lB
  have hr2 := hr.later hB2 (Nat.le_refl _)
  have hq2 := hq.later hB2 (Nat.le_refl _)
  clear hr hq
  go_enter Try.func5, Try.ntmps5
  go_wp2_with fail
  generalize (w.alloc (.cells #[.slice A ns.length c, .int .i64 r] 25)).alloc (.cells #[.slice A' ms.length c', .int .i64 s] 25) = W at hB2 lA lB hr2 hq2 ⊢
  refine (implValid_any A ns c r W hr2).mono ?_
  rintro e w1 ⟨rfl, hb1⟩
  have lA1 := lA.below hb1 lA.lt
  have lB1 := lB.below hb1 lB.lt
  have hr3 := hr2.later hb1 (Nat.le_refl _)
  have hq3 := hq2.later hb1 (Nat.le_refl _)
  have hB3 := hB2.trans (hb1.mono hB2.size)
  have e0 := lA1.cell 0
  have e1 := lA1.cell 1
  have d0 := lB1.cell 0
  have d1 := lB1.cell 1
  simp only [List.getElem?_toArray, List.getElem?_cons_zero, List.getElem?_cons_succ] at e0 e1 d0 d1
  clear lA lB hr2 hq2 hB2 hb1
  by_cases hv : ValidG ns r
  · rw [tf_true hv]
    go_wp2_with fail
    refine (implValid_any A' ms c' s w1 hq3).mono ?_
    rintro e w2 ⟨rfl, hb2⟩
    have lA2 := lA1.below hb2 lA1.lt
    have lB2 := lB1.below hb2 lB1.lt
    have hr4 := hr3.later hb2 (Nat.le_refl _)
    have hq4 := hq3.later hb2 (Nat.le_refl _)
    have hB4 := hB3.trans (hb2.mono hB3.size)
    clear e0 e1 d0 d1
    have e0 := lA2.cell 0
    have e1 := lA2.cell 1
    have d0 := lB2.cell 0
    have d1 := lB2.cell 1
    simp only [List.getElem?_toArray, List.getElem?_cons_zero, List.getElem?_cons_succ] at e0 e1 d0 d1
    clear lA1 lB1 hr3 hq3 hB3 hb2
    by_cases hwd : ValidG ms s ∧ 0 ≤ d ∧ d ≤ 8
    · obtain ⟨hw, hd0, hd8⟩ := hwd
      rw [tf_true hw]
      obtain ⟨dn, rfl⟩ := Int.eq_ofNat_of_zero_le hd0
      have HW := hide (RowN.wfJ hv hw hr4 hq4)
      have HK := hide (joinNs_kids (validG_kids hv) (validG_kids hw))
      have hjs := joined_small hv hw
      have HJ := hide (joinedNodes_any A ns c r A' ms c' s w2 hr4 hq4 (by have := hv.few; omega) (by have := hw.few; omega) (fun n hn => ((validG_bounds hv).2 n hn).1) (validG_bounds hw).2)
      have hr0 := hv.root0
      have hr1 := hv.root
      have hs0 := hw.root0
      have hs1 := hw.root
      have hlen := hide (joinNs_len ns ms)
      have hn1 : (ns.length : Int) ≤ (joinNs ns ms).length := by have := hlen.out; omega
      have hn2 : (ns.length : Int) + ms.length ≤ (joinNs ns ms).length := by have := hlen.out; omega
      have HE : Hid (tf (EqToG ns r ms s (dn : Int)) = tf (RootsEq ns r ms s dn)) := hide (tf_congr ⟨fun h => by simpa using h.2.2.2.2, fun h => ⟨hv, hw, hd0, hd8, by simpa using h⟩⟩)
      have HLA := hide lA2
      have HLB := hide lB2
      have HB4 := hide hB4
      clear hv hw lA2 lB2 hr4 hq4 hB4
      go_wp2_with fail
      refine (isUpTo_yes (dn : Int) 8 w2 hd0 hd8).mono ?_
      rintro e wx ⟨rfl, rfl⟩
      go_wp2_with fail
      refine HJ.out.mono ?_
      clear HJ
      rintro e w3 ⟨Aj, cj, rfl, hrow, hb3⟩
      have HN := hide (hrow.nds HW.out (by omega))
      have hcap := hrow.capJ
      have HB5 := hide (HB4.out.trans (hb3.mono HB4.out.size))
      have lA3 := HLA.out.below hb3 HLA.out.lt
      have lB3 := HLB.out.below hb3 HLB.out.lt
      clear e0 e1 d0 d1 hrow hb3 HLA HLB HB4
      have HLA := hide lA3
      have HLB := hide lB3
      clear lA3 lB3
      go_wp2_with fail
      refine (classesUpTo_any Aj (joinNs ns ms) cj dn w3 HN.out HK.out (by omega) (by omega) hcap).mono ?_
      rintro e w4 ⟨Ag, cg, rfl, ho, hb4⟩
      have lA4 := HLA.out.below hb4 HLA.out.lt
      have lB4 := HLB.out.below hb4 HLB.out.lt
      have e0 := lA4.cell 0
      have e1 := lA4.cell 1
      have d0 := lB4.cell 0
      have d1 := lB4.cell 1
      simp only [List.getElem?_toArray, List.getElem?_cons_zero, List.getElem?_cons_succ] at e0 e1 d0 d1
      have hcl := hide (clsN_len (joinNs ns ms) dn)
      have hIn : ∀ x ∈ clsN (joinNs ns ms) dn, In64 x := fun x hx => by
        have := clsN_in (joinNs ns ms) _ x hx
        constructor <;> omega
      have HI := hide (ho.ints hIn (by rw [hcl.out]; omega))
      have HH := hide (haveEqualRoots_any A A' Ag ns.length ms.length c c' cg r s (clsN (joinNs ns ms) dn) w4 HI.out hr0 (by rw [hcl.out]; omega) hs0 (by rw [hcl.out]; omega) (by rw [hcl.out]; omega))
      rw [RootsEq.tf_def, ← HE.out] at HH
      have HB6 := hide (HB5.out.trans (hb4.mono HB5.out.size))
      clear ho hb4 lA4 lB4 hIn HI HN HE
      go_wp2_with fail
      refine HH.out.mono ?_
      rintro e w5 ⟨rfl, hb5⟩
      have HB7 := hide (HB6.out.trans (hb5.mono HB6.out.size))
      clear hb5 e0 e1 d0 d1
      go_wp2
      go_ret
      exact ⟨rfl, HB7.out⟩
    · have HE : Hid (tf (EqToG ns r ms s d) = false) := hide (tf_false fun h => hwd ⟨h.2.1, h.2.2.1, h.2.2.2.1⟩)
      have HB := hide hB4
      clear hv lA2 lB2 hr4 hq4 hB4 e0 e1 d0 d1
      by_cases hw : ValidG ms s
      · have hd : d < 0 ∨ 8 < d := by
          rcases Int.lt_or_le d 0 with h | h
          · exact .inl h
          · exact .inr (by rcases Int.lt_or_le 8 d with h2 | h2; exact h2; exact absurd ⟨hw, h, h2⟩ hwd)
        rw [tf_true hw]
        clear hw hwd
        go_wp2_with fail
        refine (isUpTo_no d 8 w2 hd).mono ?_
        rintro e wx ⟨rfl, rfl⟩
        clear hd
        go_wp2
        go_ret
        exact ⟨ret_bool HE.out.symm, HB.out⟩
      · rw [tf_false hw]
        clear hw hwd
        go_wp2
        go_ret
        exact ⟨ret_bool HE.out.symm, HB.out⟩
  · have HE : Hid (tf (EqToG ns r ms s d) = false) := hide (tf_false fun h => hv h.1)
    rw [tf_false hv]
    have HB := hide hB3
    clear hv lA1 lB1 hr3 hq3 hB3 e0 e1 d0 d1
    go_wp2
    go_ret
    exact ⟨ret_bool HE.out.symm, HB.out⟩

end Go.Proofs.Ytkgnijbdbkopkab

namespace Go.Proofs.Ytkgnijbdbkopkab
open Go.RowKit Go.Maps
set_option linter.unusedVariables false

set_option maxHeartbeats 2000000 in
theorem implEqualDeep_any (A A' : Option Addr) (ns ms : List Nd) (c c' : Nat) (r s : Int) (w : World) (hr : NdsAt w w.heap.size A ns) (hq : NdsAt w w.heap.size A' ms) :
    Calls Try.prog 8 #[.agg #[.slice A ns.length c, .int .i64 r], .agg #[.slice A' ms.length c', .int .i64 s]] w fun e w' => e = .returned (.bool (tf (EqDeepG ns r ms s))) ∧ Below w.heap.size w w' := by
  have hB2 : Below w.heap.size w ((w.alloc (.cells #[.slice A ns.length c, .int .i64 r] 25)).alloc (.cells #[.slice A' ms.length c', .int .i64 s] 25)) := ((Below.refl _ _).alloc (Nat.le_refl _) _).alloc (by simp) _
  have lA := (Lies.new w #[.slice A ns.length c, .int .i64 r] 25).alloc (.cells #[.slice A' ms.length c', .int .i64 s] 25)
  have lB := Lies.new (w.alloc (.cells #[.slice A ns.length c, .int .i64 r] 25)) #[.slice A' ms.length c', .int .i64 s] 25
  simp only [World.size_alloc] at lB
  have hr2 := hr.later hB2 (Nat.le_refl _)
  have hq2 := hq.later hB2 (Nat.le_refl _)
  clear hr hq
  go_enter Try.func8, Try.ntmps8
  go_wp2_with fail
  generalize (w.alloc (.cells #[.slice A ns.length c, .int .i64 r] 25)).alloc (.cells #[.slice A' ms.length c', .int .i64 s] 25) = W at hB2 lA lB hr2 hq2 ⊢
  refine (implValid_any A ns c r W hr2).mono ?_
  rintro e w1 ⟨rfl, hb1⟩
  have lA1 := lA.below hb1 lA.lt
  have lB1 := lB.below hb1 lB.lt
  have hr3 := hr2.later hb1 (Nat.le_refl _)
  have hq3 := hq2.later hb1 (Nat.le_refl _)
  have hB3 := hB2.trans (hb1.mono hB2.size)
  have e0 := lA1.cell 0
  have e1 := lA1.cell 1
  have d0 := lB1.cell 0
  have d1 := lB1.cell 1
  simp only [List.getElem?_toArray, List.getElem?_cons_zero, List.getElem?_cons_succ] at e0 e1 d0 d1
  clear lA lB hr2 hq2 hB2 hb1
  by_cases hv : ValidG ns r
  · rw [tf_true hv]
    go_wp2_with fail
    refine (implValid_any A' ms c' s w1 hq3).mono ?_
    rintro e w2 ⟨rfl, hb2⟩
    have lA2 := lA1.below hb2 lA1.lt
    have lB2 := lB1.below hb2 lB1.lt
    have hr4 := hr3.later hb2 (Nat.le_refl _)
    have hq4 := hq3.later hb2 (Nat.le_refl _)
    have hB4 := hB3.trans (hb2.mono hB3.size)
    clear e0 e1 d0 d1
    have e0 := lA2.cell 0
    have e1 := lA2.cell 1
    have d0 := lB2.cell 0
    have d1 := lB2.cell 1
    simp only [List.getElem?_toArray, List.getElem?_cons_zero, List.getElem?_cons_succ] at e0 e1 d0 d1
    clear lA1 lB1 hr3 hq3 hB3 hb2
    by_cases hw : ValidG ms s
    · rw [tf_true hw]
      have HW := hide (RowN.wfJ hv hw hr4 hq4)
      have HK := hide (joinNs_kids (validG_kids hv) (validG_kids hw))
      have hjs := joined_small hv hw
      have HJ := hide (joinedNodes_any A ns c r A' ms c' s w2 hr4 hq4 (by have := hv.few; omega) (by have := hw.few; omega) (fun n hn => ((validG_bounds hv).2 n hn).1) (validG_bounds hw).2)
      have hr0 := hv.root0
      have hr1 := hv.root
      have hs0 := hw.root0
      have hs1 := hw.root
      have hlen := hide (joinNs_len ns ms)
      have hn1 : (ns.length : Int) ≤ (joinNs ns ms).length := by have := hlen.out; omega
      have hn2 : (ns.length : Int) + ms.length ≤ (joinNs ns ms).length := by have := hlen.out; omega
      have HE : Hid (tf (EqDeepG ns r ms s) = tf (RootsEq ns r ms s (joinNs ns ms).length)) := hide (tf_congr ⟨fun h => h.2.2, fun h => ⟨hv, hw, h⟩⟩)
      have HLA := hide lA2
      have HLB := hide lB2
      have HB4 := hide hB4
      clear hv hw lA2 lB2 hr4 hq4 hB4
      go_wp2_with fail
      refine HJ.out.mono ?_
      clear HJ
      rintro e w3 ⟨Aj, cj, rfl, hrow, hb3⟩
      have HN := hide (hrow.nds HW.out (by omega))
      have hcap := hrow.capJ
      have HB5 := hide (HB4.out.trans (hb3.mono HB4.out.size))
      have lA3 := HLA.out.below hb3 HLA.out.lt
      have lB3 := HLB.out.below hb3 HLB.out.lt
      clear e0 e1 d0 d1 hrow hb3 HLA HLB HB4
      have HLA := hide lA3
      have HLB := hide lB3
      clear lA3 lB3
      go_wp2_with fail
      refine (deepClasses_any Aj (joinNs ns ms) cj w3 HN.out HK.out (by omega) hcap).mono ?_
      rintro e w4 ⟨Ag, cg, rfl, ho, hb4⟩
      have lA4 := HLA.out.below hb4 HLA.out.lt
      have lB4 := HLB.out.below hb4 HLB.out.lt
      have e0 := lA4.cell 0
      have e1 := lA4.cell 1
      have d0 := lB4.cell 0
      have d1 := lB4.cell 1
      simp only [List.getElem?_toArray, List.getElem?_cons_zero, List.getElem?_cons_succ] at e0 e1 d0 d1
      have hcl := hide (clsN_len (joinNs ns ms) (joinNs ns ms).length)
      have hIn : ∀ x ∈ clsN (joinNs ns ms) (joinNs ns ms).length, In64 x := fun x hx => by
        have := clsN_in (joinNs ns ms) _ x hx
        constructor <;> omega
      have HI := hide (ho.ints hIn (by rw [hcl.out]; omega))
      have HH := hide (haveEqualRoots_any A A' Ag ns.length ms.length c c' cg r s (clsN (joinNs ns ms) (joinNs ns ms).length) w4 HI.out hr0 (by rw [hcl.out]; omega) hs0 (by rw [hcl.out]; omega) (by rw [hcl.out]; omega))
      rw [RootsEq.tf_def, ← HE.out] at HH
      have HB6 := hide (HB5.out.trans (hb4.mono HB5.out.size))
      clear ho hb4 lA4 lB4 hIn HI HN HE
      go_wp2_with fail
      refine HH.out.mono ?_
      rintro e w5 ⟨rfl, hb5⟩
      have HB7 := hide (HB6.out.trans (hb5.mono HB6.out.size))
      clear hb5 e0 e1 d0 d1
      go_wp2
      go_ret
      exact ⟨rfl, HB7.out⟩
    · have HE : Hid (tf (EqDeepG ns r ms s) = false) := hide (tf_false fun h => hw h.2.1)
      rw [tf_false hw]
      have HB := hide hB4
      clear hv hw lA2 lB2 hr4 hq4 hB4 e0 e1 d0 d1
      go_wp2
      go_ret
      exact ⟨ret_bool HE.out.symm, HB.out⟩
  · have HE : Hid (tf (EqDeepG ns r ms s) = false) := hide (tf_false fun h => hv h.1)
    rw [tf_false hv]
    have HB := hide hB3
    clear hv lA1 lB1 hr3 hq3 hB3 e0 e1 d0 d1
    go_wp2
    go_ret
    exact ⟨ret_bool HE.out.symm, HB.out⟩

end Go.Proofs.Ytkgnijbdbkopkab
