/-
  Lemmas, several texts in one: ImplD, CodOI, LawM.
-/
import Derived.Test.YtpcfjdhalglebabImplC
import Derived.Test.YtpcfjdhalglebabPjAp
import Derived.Test.YtpcfjdhalglebabPjAa
import Derived.Deep.LoopGhost
import Derived.Deep.QuietTactic
import Derived.BigQuiet
namespace Go.Proofs.Ytpcfjdhalglebab
open Go.RowKit Go.Maps
set_option linter.unusedVariables false

theorem kidsIn_of_ok {ns : List Nd} (h : ∀ n ∈ ns, NodeOk ns n) : KidsIn ns := fun n hn => (h n hn).inn

set_option maxRecDepth 100000 in
set_option maxHeartbeats 4000000 in
theorem implValid_in (A : Option Addr) (ns : List Nd) (c : Nat) (r : Int) (w : World) (hr : NdsAt w w.heap.size A ns) (h1 : 1 ≤ ns.length) (h12 : ns.length ≤ 12) (hr0 : 0 ≤ r) (hrl : r < ns.length) :
    Calls Try.prog 8 #[.agg #[.slice A ns.length c, .int .i64 r]] w fun e w' => e = .returned (.bool (tf (ValidG ns r))) ∧ Below w.heap.size w w' := by
  have hB : Below w.heap.size w (w.alloc (.cells #[.slice A ns.length c, .int .i64 r] 25)) := (Below.refl _ _).alloc (Nat.le_refl _) _
  have l1 := Lies.new w #[.slice A ns.length c, .int .i64 r] 25
  have hr2 := hr.later hB (Nat.le_refl _)
  clear hr
  have a1 : (1 : Int) ≤ (ns.length : Int) := by omega
  have a2 : (ns.length : Int) ≤ 12 := by omega
  have a3 : r ≤ (ns.length : Int) - 1 := by omega
  have d1 : decide ((ns.length : Int) < 1) = false := by simp; omega
  have d2 : decide ((12 : Int) < (ns.length : Int)) = false := by simp; omega
  go_enter Try.func8, Try.ntmps8
  go_wp2_with fail
  refine (isUpTo_yes r ((ns.length : Int) - 1) _ hr0 a3).mono ?_
  rintro e w' ⟨rfl, rfl⟩
  go_wp2_with fail
  generalize w.alloc (.cells #[.slice A ns.length c, .int .i64 r] 25) = W at hB l1 hr2 ⊢
  have hW1 := l1.lt
  go_loopw [26] (fun i wr => ∃ k : Nat, k ≤ ns.length ∧ i = .int .i64 k ∧ Below W.heap.size W wr ∧ (∀ j n, j < k → ns[j]? = some n → NodeOk ns n)) (fun i _ => ns.length - (intOf i).toNat)
  case atStart => exact ⟨0, Nat.zero_le _, rfl, Below.refl _ _, fun j n hj => absurd hj (by omega)⟩
  case round =>
    obtain ⟨k, hkl, rfl, hb, hok0⟩ := hrel
    have hok := hide hok0
    clear hok0
    by_cases hlt : k < ns.length
    · obtain ⟨b, off, n, rfl, hbl, hat, hmem, hN⟩ := (hr2.below hb).at_ hlt
      obtain ⟨hn_k, hn_v, ⟨A1, c1, hn_s, hI1', _⟩, _, _⟩ := hN
      have Hat := hide hat
      have hbA : Below W.heap.size W (wr.alloc (.cells #[.int .i64 n.kind, .int .i64 n.value, .slice A1 n.kids.length c1] 33)) := hb.alloc hb.size _
      have lv := Lies.new wr #[.int .i64 n.kind, .int .i64 n.value, .slice A1 n.kids.length c1] 33
      have hI1 : IntsAt (wr.alloc (.cells #[.int .i64 n.kind, .int .i64 n.value, .slice A1 n.kids.length c1] 33)) (wr.alloc (.cells #[.int .i64 n.kind, .int .i64 n.value, .slice A1 n.kids.length c1] 33)).heap.size A1 n.kids :=
        hI1'.later ((Below.refl _ _).alloc hb.size _) hb.size
      clear hI1' hat
      by_cases h6 : n.kids.length ≤ 6
      · have t6 : decide ((6 : Int) < (n.kids.length : Int)) = false := by simp; omega
        go_wp2_with fail
        refine (areNodes_any A1 n.kids c1 ns.length _ hI1 (by omega)).mono ?_
        rintro e w2 ⟨rfl, rfl⟩
        have hlv := lv.lt
        generalize hw2 : wr.alloc (.cells #[.int .i64 n.kind, .int .i64 n.value, .slice A1 n.kids.length c1] 33) = w2 at hbA lv hI1 hlv ⊢
        clear hw2
        by_cases hkk : Among ns.length n.kids
        · rw [tf_true hkk]
          have hr3 := hr2.later hbA (Nat.le_refl _)
          have e0 := (l1.below hbA hW1).cell 0
          have v0 := lv.cell 0
          have v1 := lv.cell 1
          have v2 := lv.cell 2
          simp at e0 v0 v1 v2
          have Hin := hide hkk
          clear hkk lv
          go_wp2_with fail
          refine (fitsKind_any _ ns c A1 n c1 w2 hr3 hI1 h6 Hin.out).mono ?_
          rintro e w4 ⟨rfl, hb4⟩
          have hb5 := hbA.trans (hb4.mono hbA.size)
          clear hb4 hbA hr3 hI1 e0 v0 v1 v2 hlv
          by_cases hkd : KindOk ns n
          · rw [tf_true hkd]
            have hnk : NodeOk ns n := ⟨h6, Hin.out, hkd⟩
            have Hnk := hide hnk
            clear hnk hkd
            go_wp2
            go_roundw
            case rel => exact ⟨k + 1, by omega, by go_num, hb5, fun j m hj hm => by
                by_cases e : j = k
                · subst e
                  obtain rfl := Option.some.inj (Hat.out.symm.trans hm)
                  exact Hnk.out
                · exact hok.out j m (by omega) hm⟩
            case measure => simp [intOf]; omega
          · rw [tf_false hkd]
            have HF := hide (show tf (ValidG ns r) = false from tf_false fun h => hkd (h.nodes n hmem).kind)
            clear hkd hmem
            go_wp2
            go_ret
            exact ⟨ret_bool HF.out.symm, hB.trans (hb5.mono hB.size)⟩
        · rw [tf_false hkk]
          have HF := hide (show tf (ValidG ns r) = false from tf_false fun h => hkk (h.nodes n hmem).inn)
          clear hkk hmem hI1 lv
          go_wp2
          go_ret
          exact ⟨ret_bool HF.out.symm, hB.trans (hbA.mono hB.size)⟩
      · have t6 : decide ((6 : Int) < (n.kids.length : Int)) = true := by simp; omega
        have HF := hide (show tf (ValidG ns r) = false from tf_false fun h => h6 (h.nodes n hmem).few)
        clear hmem hI1
        go_wp2
        go_ret
        exact ⟨ret_bool HF.out.symm, hB.trans (hbA.mono hB.size)⟩
    · obtain rfl : k = ns.length := by omega
      have hall : ∀ n ∈ ns, NodeOk ns n := fun n hn => by
        obtain ⟨j, hj, rfl⟩ := List.getElem_of_mem hn
        exact hok.out j _ hj (List.getElem?_eq_getElem hj)
      have Hall := hide hall
      have hr3 := hr2.later hb (Nat.le_refl _)
      have e0 := (l1.below hb hW1).cell 0
      simp at e0
      clear hall hok hlt
      go_wp2_with fail
      refine (hasTupleCycle_any A ns c wr hr3 (kidsIn_of_ok Hall.out) (by omega)).mono ?_
      rintro e w2 ⟨rfl, hb2⟩
      have hb3 := hb.trans (hb2.mono hb.size)
      clear hb2 hr3 e0
      by_cases htc : TupleCycle ns
      · rw [tf_true htc]
        have HF := hide (show tf (ValidG ns r) = false from tf_false fun h => by
          obtain ⟨i, n, h1, h2, h3⟩ := htc
          exact h.tuples i n h1 h2 h3)
        clear htc
        go_wp2
        go_ret
        exact ⟨ret_bool HF.out.symm, hB.trans (hb3.mono hB.size)⟩
      · rw [tf_false htc]
        have HF := hide (show tf (ValidG ns r) = true from tf_true ⟨h1, h12, hr0, hrl, Hall.out, fun i n hn h2 ht => htc ⟨i, n, hn, h2, ht⟩⟩)
        clear htc
        go_wp2
        go_ret
        exact ⟨ret_bool HF.out.symm, hB.trans (hb3.mono hB.size)⟩

set_option maxHeartbeats 1000000 in
theorem implValid_zero (A : Option Addr) (ns : List Nd) (c : Nat) (r : Int) (w : World) (h : ns.length < 1) :
    Calls Try.prog 8 #[.agg #[.slice A ns.length c, .int .i64 r]] w fun e w' => e = .returned (.bool (tf (ValidG ns r))) ∧ Below w.heap.size w w' := by
  have hB : Below w.heap.size w (w.alloc (.cells #[.slice A ns.length c, .int .i64 r] 25)) := (Below.refl _ _).alloc (Nat.le_refl _) _
  have HF := hide (show tf (ValidG ns r) = false from tf_false fun hv => by have := hv.one; omega)
  have d1 : decide ((ns.length : Int) < 1) = true := by simp; omega
  have h' : (ns.length : Int) < 1 := by omega
  clear h
  go_enter Try.func8, Try.ntmps8
  go_wp2
  go_ret
  exact ⟨ret_bool HF.out.symm, hB⟩

set_option maxHeartbeats 1000000 in
theorem implValid_many (A : Option Addr) (ns : List Nd) (c : Nat) (r : Int) (w : World) (h : 12 < ns.length) (hl : ns.length ≤ 9223372036854775807) :
    Calls Try.prog 8 #[.agg #[.slice A ns.length c, .int .i64 r]] w fun e w' => e = .returned (.bool (tf (ValidG ns r))) ∧ Below w.heap.size w w' := by
  have hB : Below w.heap.size w (w.alloc (.cells #[.slice A ns.length c, .int .i64 r] 25)) := (Below.refl _ _).alloc (Nat.le_refl _) _
  have HF := hide (show tf (ValidG ns r) = false from tf_false fun hv => by have := hv.few; omega)
  have d1 : decide ((ns.length : Int) < 1) = false := by simp; omega
  have d2 : decide ((12 : Int) < (ns.length : Int)) = true := by simp; omega
  have h' : (12 : Int) < (ns.length : Int) := by omega
  clear h
  go_enter Try.func8, Try.ntmps8
  go_wp2
  go_ret
  exact ⟨ret_bool HF.out.symm, hB⟩

set_option maxHeartbeats 1000000 in
theorem implValid_root (A : Option Addr) (ns : List Nd) (c : Nat) (r : Int) (w : World) (h1 : 1 ≤ ns.length) (h12 : ns.length ≤ 12) (h : r < 0 ∨ (ns.length : Int) ≤ r) :
    Calls Try.prog 8 #[.agg #[.slice A ns.length c, .int .i64 r]] w fun e w' => e = .returned (.bool (tf (ValidG ns r))) ∧ Below w.heap.size w w' := by
  have hB : Below w.heap.size w (w.alloc (.cells #[.slice A ns.length c, .int .i64 r] 25)) := (Below.refl _ _).alloc (Nat.le_refl _) _
  have HF := hide (show tf (ValidG ns r) = false from tf_false fun hv => by have := hv.root0; have := hv.root; omega)
  have a1 : (1 : Int) ≤ (ns.length : Int) := by omega
  have a2 : (ns.length : Int) ≤ 12 := by omega
  have d1 : decide ((ns.length : Int) < 1) = false := by simp; omega
  have d2 : decide ((12 : Int) < (ns.length : Int)) = false := by simp; omega
  have h' : r < 0 ∨ (ns.length : Int) - 1 < r := by omega
  have H' := hide h'
  clear h h'
  go_enter Try.func8, Try.ntmps8
  go_wp2_with fail
  refine (isUpTo_no r ((ns.length : Int) - 1) _ H'.out).mono ?_
  rintro e w' ⟨rfl, rfl⟩
  go_wp2
  go_ret
  exact ⟨ret_bool HF.out.symm, hB⟩

theorem implValid_any (A : Option Addr) (ns : List Nd) (c : Nat) (r : Int) (w : World) (hr : NdsAt w w.heap.size A ns) :
    Calls Try.prog 8 #[.agg #[.slice A ns.length c, .int .i64 r]] w fun e w' => e = .returned (.bool (tf (ValidG ns r))) ∧ Below w.heap.size w w' := by
  by_cases h0 : ns.length < 1
  · exact implValid_zero A ns c r w h0
  · by_cases h : 12 < ns.length
    · exact implValid_many A ns c r w h hr.len
    · by_cases h2 : 0 ≤ r ∧ r < ns.length
      · exact implValid_in A ns c r w hr (by omega) (by omega) h2.1 h2.2
      · exact implValid_root A ns c r w (by omega) (by omega) (by omega)

end Go.Proofs.Ytpcfjdhalglebab

namespace Go.Proofs.Ytpcfjdhalglebab
open Go.RowKit Go.Maps
set_option linter.unusedVariables false

set_option maxHeartbeats 1000000 in
theorem implCodeOf_any (A : Option Addr) (ns : List Nd) (c : Nat) (r : Int) (w : World) (hr : NdsAt w w.heap.size A ns) :
    Calls Try.prog 28 #[.agg #[.slice A ns.length c, .int .i64 r]] w (GivesInts w (codeOf ns r)) := by
  have hB : Below w.heap.size w (w.alloc (.cells #[.slice A ns.length c, .int .i64 r] 25)) := (Below.refl _ _).alloc (Nat.le_refl _) _
  have l1 := Lies.new w #[.slice A ns.length c, .int .i64 r] 25
  have hr2 := hr.later hB (Nat.le_refl _)
  have hwf := hide hr.wf
  clear hr
  by_cases hv : ValidG ns r
  · obtain ⟨i, rfl⟩ := Int.eq_ofNat_of_zero_le hv.root0
    have hg := hide (codG_of_valid hv hwf.out)
    have h12 := hv.few
    have hi : i < ns.length := by have := hv.root; omega
    have HV := hide hv
    have he : Hid (codeOf ns i = (cod ns (ns.length + 1) i ([], [])).1) := by show _ = _; unfold codeOf; rw [if_pos hv]
    clear hv
    go_enter Try.func28, Try.ntmps28
    go_wp2_with fail
    generalize w.alloc (.cells #[.slice A ns.length c, .int .i64 (i : Int)] 25) = W at hB l1 hr2 ⊢
    refine (implValid_any A ns c i W hr2).mono ?_
    rintro e w1 ⟨rfl, hb1⟩
    rw [tf_true HV.out]
    have l2 := l1.below hb1 l1.lt
    have hr3 := hr2.later hb1 (Nat.le_refl _)
    have hB1 := hB.trans (hb1.mono hB.size)
    have e0 := l2.cell 0
    have e1 := l2.cell 1
    simp at e0 e1
    have hi64 : In64 (i : Int) := by constructor <;> omega
    have hb0 : Below w1.heap.size w1 (w1.alloc (.cells #[.int .i64 (i : Int)] 3)) := (Below.refl _ _).alloc (Nat.le_refl _) _
    have hB1 := hB1.trans (hb0.mono hB1.size)
    have HN := hide (hr3.later hb0 (Nat.le_refl _))
    have h1R := (IntsAt.one w1 (i : Int) hi64).more (show w1.heap.size + 1 ≤ (w1.alloc (.cells #[.int .i64 (i : Int)] 3)).heap.size by simp)
    have H1R := hide h1R
    clear l1 hr2 hb1 hB hr3 h1R hb0
    go_wp2_with fail
    refine (codeFroms_any ns 6 hg.out (by omega) A c (some ⟨w1.heap.size, 0, none⟩) 1 [(i : Int)] (by simp; omega) _ HN.out H1R.out (fun x hx => by simp at hx; subst hx; omega)).mono ?_
    rw [codL_one]
    rintro e w2 ⟨Ao, co, rfl, hown, hb2⟩
    have Hfin : Hid (GivesInts w (codeOf ns i) (.returned (.slice Ao (cod ns (ns.length + 1) i ([], [])).1.length co)) w2) := by
      show GivesInts _ _ _ _
      rw [he.out]
      exact ⟨Ao, co, rfl, hown.mono hB1.size, hB1.trans (hb2.mono hB1.size)⟩
    clear hown hb2 e0 e1
    go_wp2
    go_ret
    exact Hfin.out
  · have HV := hide hv
    clear hv
    go_enter Try.func28, Try.ntmps28
    go_wp2_with fail
    refine (implValid_any A ns c r _ hr2).mono ?_
    rintro e w1 ⟨rfl, hb1⟩
    rw [tf_false HV.out]
    have hB1 := hB.trans (hb1.mono hB.size)
    clear hb1 hB hr2
    go_wp2
    go_ret
    unfold codeOf
    rw [if_neg HV.out]
    exact ⟨none, 0, rfl, OwnI.empty _ _, hB1⟩

end Go.Proofs.Ytpcfjdhalglebab

namespace Go.Proofs.Ytpcfjdhalglebab
open Go.RowKit
set_option linter.unusedVariables false

theorem OwnI.capLe {w : World} {base : Nat} {A : Option Addr} {c : Nat} {xs : List Int} (h : OwnI w base A c xs) : xs.length ≤ c := by
  rcases h.own with ⟨hl, hh⟩
  rcases hh with ⟨h1, h2⟩ | ⟨g, cap, cur, hv, hg, hh, hle, hm, hs, hx⟩
  · rw [h2]; exact Nat.zero_le _
  · injection hv with _ _ h3
    subst h3
    exact hle

theorem IntsAt.take {w : World} {B : Nat} {A : Option Addr} {xs : List Int} (h : IntsAt w B A xs) (k : Nat) : IntsAt w B A (xs.take k) := by
  refine ⟨fun hx => ?_, fun x hx => h.wf x (List.mem_of_mem_take hx), Nat.le_trans (by simp; omega) h.len⟩
  obtain ⟨b, off, e, hlt, hc⟩ := h.row (by intro e; subst e; simp at hx)
  refine ⟨b, off, e, hlt, fun j x hj => hc j x ?_⟩
  rw [List.getElem?_take] at hj
  split at hj
  · exact hj
  · cases hj

theorem IntsAt.drewN {w : World} {A : Option Addr} {xs : List Int} (h : IntsAt w w.heap.size A xs) (n : Nat) : IntsAt (w.drewN n) (w.drewN n).heap.size A xs :=
  h.later (below_drewN (Below.refl _ _) n) (Nat.le_refl _)

/-- what stays while the law looks at the answer -/
structure LawS (w wr : World) (bg g cap : Nat) (Ag : Option Addr) (ns : List Nd) (r : Int) (R : List Int) : Prop where
  bel : Below w.heap.size w wr
  l : Lies wr bg #[.slice (some ⟨g, 0, none⟩) ns.length cap, .int .i64 r] 25
  nd : NdsAt wr wr.heap.size (some ⟨g, 0, none⟩) ns
  out : IntsAt wr wr.heap.size Ag R

theorem LawS.drewN {w wr : World} {bg g cap : Nat} {Ag : Option Addr} {ns : List Nd} {r : Int} {R : List Int} (h : LawS w wr bg g cap Ag ns r R) (n : Nat) : LawS w (wr.drewN n) bg g cap Ag ns r R :=
  ⟨below_drewN h.bel n, h.l.below (below_drewN (Below.refl _ _) n) h.l.lt, h.nd.later (below_drewN (Below.refl _ _) n) (Nat.le_refl _), h.out.drewN n⟩

/-- a node that the answer names, as the law reads it -/
theorem LawS.at_ {w wr : World} {bg g cap : Nat} {Ag : Option Addr} {ns : List Nd} {r : Int} {R : List Int} (h : LawS w wr bg g cap Ag ns r R) (hR : Reached ns r R) {k : Nat} (hk : k < R.length) :
    ∃ (b off i : Nat) (n : Nd) (Ak : Option Addr) (ck : Nat), Ag = some ⟨b, off, none⟩ ∧ R[k]? = some (i : Int) ∧ wr.cell? ⟨b, off + k, none⟩ = some (.int .i64 (i : Int)) ∧ i < ns.length ∧ wr.cell? ⟨g, i * 3 + 2, none⟩ = some (.slice Ak n.kids.length ck) ∧ IntsAt wr wr.heap.size Ak n.kids ∧ kidsOf ns (i : Int) = n.kids := by
  obtain ⟨b, off, x, e1, _, hx, hm, hc⟩ := h.out.at_ hk
  obtain ⟨h0, h1⟩ := hR.met.range x hm
  obtain ⟨i, rfl⟩ := Int.eq_ofNat_of_zero_le h0
  have hi : i < ns.length := by omega
  obtain ⟨b', off', n, e2, _, hn, _, hnd⟩ := h.nd.at_ hi
  injection e2 with e2
  injection e2 with e3 e4
  subst e3 e4
  obtain ⟨Ak, ck, k1, k2, _⟩ := hnd.kids
  rw [Nat.zero_add] at k1
  exact ⟨b, off, i, n, Ak, ck, e1, hx, hc, hi, k1, k2, kidsOf_at hn⟩

theorem not_in_take {R : List Int} {k : Nat} {x : Int} (h : R.Nodup) (hx : R[k]? = some x) : x ∉ R.take k := by
  intro hm
  obtain ⟨j, hj, e⟩ := List.getElem_of_mem hm
  have hj2 : j < k ∧ j < R.length := by simp at hj; omega
  rw [List.getElem_take] at e
  obtain ⟨hk, e2⟩ := List.getElem?_eq_some_iff.1 hx
  have := (List.getElem_inj h).1 (e.trans e2.symm)
  omega

theorem LawS.below {w wr w' : World} {bg g cap : Nat} {Ag : Option Addr} {ns : List Nd} {r : Int} {R : List Int} (h : LawS w wr bg g cap Ag ns r R) (hb : Below wr.heap.size wr w') : LawS w w' bg g cap Ag ns r R :=
  ⟨h.bel.trans (hb.mono h.bel.size), h.l.below hb h.l.lt, h.nd.later hb (Nat.le_refl _), h.out.later hb (Nat.le_refl _)⟩

theorem LawS.cells {w wr : World} {bg g cap : Nat} {Ag : Option Addr} {ns : List Nd} {r : Int} {R : List Int} (h : LawS w wr bg g cap Ag ns r R) : wr.cell? ⟨bg, 0, none⟩ = some (.slice (some ⟨g, 0, none⟩) ns.length cap) ∧ wr.cell? ⟨bg, 1, none⟩ = some (.int .i64 r) := by
  have e0 := h.l.cell 0
  have e1 := h.l.cell 1
  simp at e0 e1
  exact ⟨e0, e1⟩

/-- an element of the answer, and its node -/
theorem LawS.elem {w wr : World} {bg g cap : Nat} {Ag : Option Addr} {ns : List Nd} {r : Int} {S : List Int} (h : LawS w wr bg g cap Ag ns r S) (hS : ∀ x ∈ S, 0 ≤ x ∧ x < ns.length) {k : Nat} (hk : k < S.length) :
    ∃ (b off i : Nat) (n : Nd), Ag = some ⟨b, off, none⟩ ∧ S[k]? = some (i : Int) ∧ (i : Int) ∈ S ∧ wr.cell? ⟨b, off + k, none⟩ = some (.int .i64 (i : Int)) ∧ i < ns.length ∧ ns[i]? = some n ∧ wr.cell? ⟨g, i * 3, none⟩ = some (.int .i64 n.kind) := by
  obtain ⟨b, off, x, e1, _, hx, hm, hc⟩ := h.out.at_ hk
  obtain ⟨h0, h1⟩ := hS x hm
  obtain ⟨i, rfl⟩ := Int.eq_ofNat_of_zero_le h0
  have hi : i < ns.length := by omega
  obtain ⟨b', off', n, e2, _, hn, _, hnd⟩ := h.nd.at_ hi
  injection e2 with e2
  injection e2 with e3 e4
  subst e3 e4
  have hk2 := hnd.kind
  rw [Nat.zero_add] at hk2
  exact ⟨b, off, i, n, e1, hx, hm, hc, hi, hn, hk2⟩

end Go.Proofs.Ytpcfjdhalglebab
