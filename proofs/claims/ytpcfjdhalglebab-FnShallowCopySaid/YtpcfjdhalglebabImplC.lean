/-
  The program's hasTupleCycle and ValidGraph: they report whether a way over tuples leads from a tuple back to it, and whether a graph is valid.
-/
import Derived.Test.YtpcfjdhalglebabWalkT
import Derived.Test.YtpcfjdhalglebabImplB
import Derived.Test.YtpcfjdhalglebabSpecE
namespace Go.Proofs.Ytpcfjdhalglebab
open Go.RowKit Go.Maps
set_option linter.unusedVariables false

set_option maxHeartbeats 400000 in
theorem enters_tup (ns : List Nd) : WalkT.Enters ns (isTup ns) := by
  intro k n A c w hat
  have hk := kindOf_at hat
  by_cases h2 : n.kind = 2
  · have t : (n.kind == 2) = true := by rw [beq_iff_eq]; exact h2
    have HF := hide (show isTup ns (k : Int) = true by unfold isTup; rw [hk]; exact t)
    clear h2 hk hat
    go_enter Try.func39, Try.ntmps39
    go_wp2
    go_ret
    exact ⟨ret_bool HF.out.symm, (Below.refl _ _).alloc (Nat.le_refl _) _⟩
  · have t : (n.kind == 2) = false := by rw [beq_eq_false_iff_ne]; exact h2
    have HF := hide (show isTup ns (k : Int) = false by unfold isTup; rw [hk]; exact t)
    clear h2 hk hat
    go_enter Try.func39, Try.ntmps39
    go_wp2
    go_ret
    exact ⟨ret_bool HF.out.symm, (Below.refl _ _).alloc (Nat.le_refl _) _⟩

set_option maxHeartbeats 1000000 in
theorem index_any (A : Option Addr) (xs : List Int) (c : Nat) (n : Int) (w : World) (h : IntsAt w w.heap.size A xs) :
    Calls Try.prog 60 #[.slice A xs.length c, .int .i64 n] w fun e w' => e = .returned (.int .i64 (place xs n)) ∧ w = w' := by
  have hl := h.len
  go_enter Try.func60, Try.ntmps60
  go_wp2_with fail
  go_loop [8] (fun i => ∃ k : Nat, k ≤ xs.length ∧ i = .int .i64 k ∧ ∀ j, j < k → xs[j]? ≠ some n) (fun i => xs.length - (intOf i).toNat)
  case atStart => exact ⟨0, Nat.zero_le _, rfl, fun j hj => absurd hj (by omega)⟩
  case round =>
    obtain ⟨k, hk, rfl, he0⟩ := hrel
    have he := hide he0
    clear he0
    by_cases hlt : k < xs.length
    · obtain ⟨b, off, x, rfl, hbl, hx, _, hc⟩ := h.at_ hlt
      have Hx := hide hx
      clear hx
      by_cases hxn : n = x
      · subst hxn
        have HF := hide (place_at Hx.out he.out)
        go_wp2
        go_ret
        exact ⟨ret_int HF.out.symm, rfl⟩
      · have t : (n == x) = false := by simpa using hxn
        have he2 : ∀ j, j < k + 1 → xs[j]? ≠ some n := by
          intro j hj
          by_cases e : j = k
          · subst e; rw [Hx.out]; intro e; injection e with e; exact hxn e.symm
          · exact he.out j (by omega)
        have He := hide he2
        clear he2 he hxn
        go_wp2
        go_round
        case rel => exact ⟨k + 1, by omega, by go_num, He.out⟩
        case measure => simp [intOf]; omega
    · obtain rfl : k = xs.length := by omega
      have HF := hide (place_none he.out)
      clear hlt
      go_wp2
      go_ret
      exact ⟨ret_int HF.out.symm, rfl⟩

set_option maxHeartbeats 400000 in
theorem contains_any (A : Option Addr) (xs : List Int) (c : Nat) (n : Int) (w : World) (h : IntsAt w w.heap.size A xs) :
    Calls Try.prog 51 #[.slice A xs.length c, .int .i64 n] w fun e w' => e = .returned (.bool (tf (n ∈ xs))) ∧ w = w' := by
  go_enter Try.func51, Try.ntmps51
  go_wp2_with fail
  refine (index_any A xs c n w h).mono ?_
  rintro e w' ⟨rfl, rfl⟩
  by_cases hin : n ∈ xs
  · have hp := place_lt hin
    have HF := hide (tf_true hin)
    have hd : decide (0 ≤ place xs n) = true := by simp; omega
    generalize place xs n = pl at hp hd ⊢
    clear hin
    go_wp2
    go_ret
    exact ⟨ret_bool HF.out.symm, rfl⟩
  · have HF := hide (tf_false hin)
    rw [place_neg hin]
    clear hin
    go_wp2
    go_ret
    exact ⟨ret_bool HF.out.symm, rfl⟩

set_option maxHeartbeats 1000000 in
theorem leadsBackT_any (A : Option Addr) (ns : List Nd) (c : Nat) (i : Nat) (w : World) (hr : NdsAt w w.heap.size A ns) (hk : KidsIn ns) (hsm : ns.length ≤ 1048576) (hi : i < ns.length) :
    Calls Try.prog 40 #[.slice A ns.length c, .int .i64 (i : Int), .func (.func 39) #[] #[]] w fun e w' =>
      e = .returned (.bool (tf ((i : Int) ∈ dfsL ns (isTup ns) (ns.length + 1) (kidsOf ns i) []))) ∧ Below w.heap.size w w' := by
  have hr2 := hr
  obtain ⟨b, off, n, rfl, hbl, hat, hmem, hN⟩ := hr.at_ hi
  obtain ⟨hn_k, hn_v, ⟨A1, c1, hn_s, hI1, _⟩, _, _⟩ := hN
  have hi1 : (0 : Int) ≤ (i : Int) := by omega
  have hi2 : (i : Int) < (ns.length : Int) := by omega
  have hkids := kidsOf_at hat
  have Hkids := hide hkids
  have hin : ∀ x ∈ n.kids, 0 ≤ x ∧ x < (ns.length : Int) := fun x hx => hk n hmem x hx
  have hw := walkedAll ns (isTup ns) hk n.kids [] (ns.length + 1) (Met.nil ns) hin (by simp)
  have Hin := hide hin
  have Hw := hide hw.met
  have hwl := hw.met.len
  clear hat hmem hkids hin hw
  go_enter Try.func40, Try.ntmps40
  go_wp2_with fail
  refine (WalkT.walkFrom_any ns (isTup ns) (enters_tup ns) hk hsm _ c A1 n.kids c1 w hr2 hI1 Hin.out).mono ?_
  rintro e w2 ⟨A2, c2, rfl, hown, hb⟩
  have hio := hown.ints (fun x hx => by have := Hw.out.range x hx; constructor <;> omega) (by omega)
  clear hown
  generalize hR : dfsL ns (isTup ns) (ns.length + 1) n.kids [] = R at hio ⊢
  have HR := hide hR
  clear hR hwl Hw
  go_wp2_with fail
  refine (contains_any A2 R c2 i w2 hio).mono ?_
  rintro e w3 ⟨rfl, rfl⟩
  generalize hx : tf ((i : Int) ∈ R) = x
  have HF := hide (show tf ((i : Int) ∈ dfsL ns (isTup ns) (ns.length + 1) (kidsOf ns i) []) = x by rw [Hkids.out, HR.out, hx])
  clear hx
  go_wp2
  go_ret
  exact ⟨ret_bool HF.out.symm, hb⟩

/-- a tuple from which a way over tuples leads back to it -/
def TupleCycle (ns : List Nd) : Prop := ∃ (i : Nat) (n : Nd), ns[i]? = some n ∧ n.kind = 2 ∧ TReach ns i i

set_option maxHeartbeats 2000000 in
theorem hasTupleCycle_any (A : Option Addr) (ns : List Nd) (c : Nat) (w : World) (hr : NdsAt w w.heap.size A ns) (hk : KidsIn ns) (hsm : ns.length ≤ 1048576) :
    Calls Try.prog 23 #[.slice A ns.length c] w fun e w' => e = .returned (.bool (tf (TupleCycle ns))) ∧ Below w.heap.size w w' := by
  go_enter Try.func23, Try.ntmps23
  go_wp2_with fail
  go_loopw [8] (fun i wr => ∃ k : Nat, k ≤ ns.length ∧ i = .int .i64 k ∧ Below w.heap.size w wr ∧ (∀ (j : Nat) (n : Nd), j < k → ns[j]? = some n → n.kind = 2 → ¬ TReach ns j j)) (fun i _ => ns.length - (intOf i).toNat)
  case atStart => exact ⟨0, Nat.zero_le _, rfl, Below.refl _ _, fun j n hj => absurd hj (by omega)⟩
  case round =>
    obtain ⟨k, hkl, rfl, hb, hok0⟩ := hrel
    have hok := hide hok0
    clear hok0
    by_cases hlt : k < ns.length
    · obtain ⟨b, off, n, rfl, hbl, hat, hmem, hN⟩ := (hr.below hb).at_ hlt
      obtain ⟨hn_k, hn_v, ⟨A1, c1, hn_s, hI1, _⟩, _, _⟩ := hN
      have Hat := hide hat
      have hbA : Below w.heap.size w (wr.alloc (.cells #[.int .i64 n.kind, .int .i64 n.value, .slice A1 n.kids.length c1] 33)) := hb.alloc hb.size _
      have htup := enters_tup ns k n A1 c1 (wr.alloc (.cells #[.int .i64 n.kind, .int .i64 n.value, .slice A1 n.kids.length c1] 33)) hat
      have Htup := hide htup
      have hkd := kindOf_at hat
      clear hat hmem hI1 htup
      go_wp2_with fail
      refine Htup.out.mono ?_
      rintro e w2 ⟨rfl, hb2⟩
      have hb3 := hbA.trans (hb2.mono (by have := hb.size; simp; omega))
      clear hb2 hbA
      by_cases h2 : n.kind = 2
      · have ht : isTup ns (k : Int) = true := by unfold isTup; rw [hkd, h2]; rfl
        rw [ht]
        have hr2 := hr.later hb3 (Nat.le_refl _)
        have H2 := hide h2
        have Hkd := hide (hkd.trans h2)
        clear ht hkd h2
        go_wp2_with fail
        refine (leadsBackT_any _ ns c k w2 hr2 hk hsm hlt).mono ?_
        rintro e w4 ⟨rfl, hb4⟩
        have hb5 := hb3.trans (hb4.mono hb3.size)
        rw [tf_congr (tuple_back ns hk k Hkd.out (ns.length + 1) (by omega))]
        clear hb4 hb3 hr2
        by_cases ht : TReach ns k k
        · rw [tf_true ht]
          have HF := hide (show tf (TupleCycle ns) = true from tf_true ⟨k, n, Hat.out, H2.out, ht⟩)
          clear ht
          go_wp2
          go_ret
          exact ⟨ret_bool HF.out.symm, hb5⟩
        · rw [tf_false ht]
          have Ht := hide ht
          clear ht
          go_wp2
          go_roundw
          case rel => exact ⟨k + 1, by omega, by go_num, hb5, fun j m hj hm hm2 => by
              by_cases e : j = k
              · subst e; exact Ht.out
              · exact hok.out j m (by omega) hm hm2⟩
          case measure => simp [intOf]; omega
      · have ht : isTup ns (k : Int) = false := by unfold isTup; rw [hkd, beq_eq_false_iff_ne]; exact h2
        rw [ht]
        have H2 := hide h2
        clear ht hkd h2
        go_wp2
        go_roundw
        case rel => exact ⟨k + 1, by omega, by go_num, hb3, fun j m hj hm hm2 => by
            by_cases e : j = k
            · subst e
              obtain rfl := Option.some.inj (Hat.out.symm.trans hm)
              exact absurd hm2 H2.out
            · exact hok.out j m (by omega) hm hm2⟩
        case measure => simp [intOf]; omega
    · obtain rfl : k = ns.length := by omega
      have HF := hide (show tf (TupleCycle ns) = false from tf_false fun ⟨i, n, h1, h2, h3⟩ => hok.out i n (List.getElem?_eq_some_iff.1 h1).1 h1 h2 h3)
      clear hlt
      go_wp2
      go_ret
      exact ⟨ret_bool HF.out.symm, hb⟩

end Go.Proofs.Ytpcfjdhalglebab
