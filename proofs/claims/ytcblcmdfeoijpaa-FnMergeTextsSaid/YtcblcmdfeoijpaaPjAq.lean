/-
  Lemmas, several texts in one: ImplR, LawM.
-/
import Derived.Test.YtcblcmdfeoijpaaWalkA
import Derived.Test.YtcblcmdfeoijpaaImplD
import Derived.Test.YtcblcmdfeoijpaaPjAl
import Derived.Test.YtcblcmdfeoijpaaPjAm
import Derived.Test.YtcblcmdfeoijpaaPjAa
import Derived.Deep.LoopGhost
import Derived.Deep.QuietTactic
import Derived.BigQuiet
namespace Go.Proofs.Ytcblcmdfeoijpaa
open Go.RowKit Go.Maps
set_option linter.unusedVariables false

set_option maxHeartbeats 400000 in
theorem enters_any (ns : List Nd) : WalkA.Enters ns anyB := by
  intro k n A c w _
  go_enter Try.func42, Try.ntmps42
  go_wp2
  go_ret
  exact ⟨rfl, (Below.refl _ _).alloc (Nat.le_refl _) _⟩

set_option maxHeartbeats 1000000 in
theorem reachFrom_yes (A : Option Addr) (ns : List Nd) (c : Nat) (i : Nat) (w : World) (hr : NdsAt w w.heap.size A ns) (hv : ValidG ns (i : Int)) :
    Calls Try.prog 19 #[.agg #[.slice A ns.length c, .int .i64 (i : Int)]] w (GivesInts w (reachOf ns i)) := by
  have hB : Below w.heap.size w (w.alloc (.cells #[.slice A ns.length c, .int .i64 (i : Int)] 25)) := (Below.refl _ _).alloc (Nat.le_refl _) _
  have l1 := Lies.new w #[.slice A ns.length c, .int .i64 (i : Int)] 25
  have hr3 := hr.later hB (Nat.le_refl _)
  have hi : i < ns.length := by have := hv.root; omega
  have hi12 := hv.few
  have HV := hide hv
  clear hr hv
  go_enter Try.func19, Try.ntmps19
  go_wp2_with fail
  have l2 := l1
  have hzz : (w.alloc (.cells #[.slice A ns.length c, .int .i64 (i : Int)] 25)).heap.size = w.heap.size + 1 := by simp
  have HZZ := hide hzz
  clear hzz
  generalize w.alloc (.cells #[.slice A ns.length c, .int .i64 (i : Int)] 25) = w1 at hB l1 l2 hr3 HZZ ⊢
  have hB1 := hB
  have hsz := l2.lt
  clear l1 hB
  have hb2 : Below w1.heap.size w1 (w1.alloc (.cells #[.int .i64 (i : Int)] 3)) := (Below.refl _ _).alloc (Nat.le_refl _) _
  have hr4 := hr3.later hb2 (Nat.le_refl _)
  have hB2 := hB1.trans (hb2.mono (by omega))
  have hI : IntsAt (w1.alloc (.cells #[.int .i64 (i : Int)] 3)) (w1.alloc (.cells #[.int .i64 (i : Int)] 3)).heap.size (some ⟨w.heap.size + 1, 0, none⟩) [(i : Int)] := by
    have := IntsAt.one w1 (i : Int) (by constructor <;> omega)
    rw [← HZZ.out]
    simpa using this
  generalize w1.alloc (.cells #[.int .i64 (i : Int)] 3) = w2 at hb2 hr4 hB2 hI ⊢
  refine (WalkA.walkFrom_any ns anyB (enters_any ns) (kidsIn_of_valid HV.out) (by omega) A c (some ⟨w.heap.size + 1, 0, none⟩) [(i : Int)] 1 w2 hr4 hI (fun x hx => by simp at hx; omega)).mono ?_
  rintro e w3 ⟨A', c', rfl, hown, hb3⟩
  have HG : Hid (GivesInts w (reachOf ns i) (.returned (.slice A' (dfsL ns anyB (ns.length + 1) [(i : Int)] []).length c')) w3) := by
    show GivesInts _ _ _ _
    have e : reachOf ns i = dfsL ns anyB (ns.length + 1) [(i : Int)] [] := by
      unfold reachOf
      rw [if_pos HV.out, dfsL_cons, dfsL_nil]
    rw [e]
    exact ⟨A', c', rfl, hown.mono hB2.size, hB2.trans (hb3.mono hB2.size)⟩
  clear hown hb3
  go_wp2
  go_ret
  exact HG.out

set_option maxHeartbeats 1000000 in
theorem implReachOf_yes (A : Option Addr) (ns : List Nd) (c : Nat) (i : Nat) (w : World) (hr : NdsAt w w.heap.size A ns) (hv : ValidG ns (i : Int)) :
    Calls Try.prog 8 #[.agg #[.slice A ns.length c, .int .i64 (i : Int)]] w (GivesInts w (reachOf ns i)) := by
  have hB : Below w.heap.size w (w.alloc (.cells #[.slice A ns.length c, .int .i64 (i : Int)] 25)) := (Below.refl _ _).alloc (Nat.le_refl _) _
  have l1 := Lies.new w #[.slice A ns.length c, .int .i64 (i : Int)] 25
  have hr2 := hr.later hB (Nat.le_refl _)
  have HV := hide hv
  clear hr hv
  go_enter Try.func8, Try.ntmps8
  go_wp2_with fail
  generalize w.alloc (.cells #[.slice A ns.length c, .int .i64 (i : Int)] 25) = W at hB l1 hr2 ⊢
  refine (implValid_any A ns c i W hr2).mono ?_
  rintro e w1 ⟨rfl, hb1⟩
  rw [tf_true HV.out]
  have l2 := l1.below hb1 l1.lt
  have hr3 := hr2.later hb1 (Nat.le_refl _)
  have hB1 := hB.trans (hb1.mono hB.size)
  have e0 := l2.cell 0
  have e1 := l2.cell 1
  simp at e0 e1
  clear l1 hr2 hb1 hB
  go_wp2_with fail
  refine (reachFrom_yes A ns c i w1 hr3 HV.out).mono ?_
  rintro e w3 ⟨A', c', rfl, hown, hb3⟩
  have HG : Hid (∃ n, n = (reachOf ns i).length ∧ OwnI w3 w.heap.size A' c' (reachOf ns i) ∧ Below w.heap.size w w3) := ⟨_, rfl, hown.mono hB1.size, hB1.trans (hb3.mono hB1.size)⟩
  clear hown hb3 l2 hr3
  go_wp2
  go_ret
  obtain ⟨_, _, h1, h2⟩ := HG.out
  exact ⟨A', c', rfl, h1, h2⟩

set_option maxHeartbeats 1000000 in
theorem implReachOf_any (A : Option Addr) (ns : List Nd) (c : Nat) (r : Int) (w : World) (hr : NdsAt w w.heap.size A ns) :
    Calls Try.prog 8 #[.agg #[.slice A ns.length c, .int .i64 r]] w (GivesInts w (reachOf ns r)) := by
  by_cases hv : ValidG ns r
  · obtain ⟨i, rfl⟩ := Int.eq_ofNat_of_zero_le hv.root0
    exact implReachOf_yes A ns c i w hr hv
  · have hB : Below w.heap.size w (w.alloc (.cells #[.slice A ns.length c, .int .i64 r] 25)) := (Below.refl _ _).alloc (Nat.le_refl _) _
    have hr2 := hr.later hB (Nat.le_refl _)
    have HV := hide hv
    clear hr hv
    go_enter Try.func8, Try.ntmps8
    go_wp2_with fail
    refine (implValid_any A ns c r _ hr2).mono ?_
    rintro e w1 ⟨rfl, hb1⟩
    rw [tf_false HV.out]
    have hB1 := hB.trans (hb1.mono hB.size)
    clear hb1 hB hr2
    go_wp2
    go_ret
    unfold reachOf
    rw [if_neg HV.out]
    exact ⟨none, 0, rfl, OwnI.empty _ _, hB1⟩

end Go.Proofs.Ytcblcmdfeoijpaa

namespace Go.Proofs.Ytcblcmdfeoijpaa
open Go.RowKit
set_option linter.unusedVariables false

theorem OwnI.capLe {w : World} {base : Nat} {A : Option Addr} {c : Nat} {xs : List Int} (h : OwnI w base A c xs) : xs.length ≤ c := by
  rcases h.own with ⟨hl, hh⟩
  rcases hh with ⟨h1, h2⟩ | ⟨g, cap, cur, hv, hg, hh, hle, hm, hs, hx⟩
  · rw [h2]; exact Nat.zero_le _
  · injection hv with _ _ h3
    subst h3
    exact hle

theorem IntsAt.take {w : World} {B : Nat} {A : Option Addr} {xs : List Int} (h : IntsAt w B A xs) (k : Nat) : IntsAt w B A (xs.take k) := by
  refine ⟨fun hx => ?_, fun x hx => h.wf x (List.mem_of_mem_take hx), Nat.le_trans (by simp; omega) h.len⟩
  obtain ⟨b, off, e, hlt, hc⟩ := h.row (by intro e; subst e; simp at hx)
  refine ⟨b, off, e, hlt, fun j x hj => hc j x ?_⟩
  rw [List.getElem?_take] at hj
  split at hj
  · exact hj
  · cases hj

theorem IntsAt.drewN {w : World} {A : Option Addr} {xs : List Int} (h : IntsAt w w.heap.size A xs) (n : Nat) : IntsAt (w.drewN n) (w.drewN n).heap.size A xs :=
  h.later (below_drewN (Below.refl _ _) n) (Nat.le_refl _)

/-- what stays while the law looks at the answer -/
structure LawS (w wr : World) (bg g cap : Nat) (Ag : Option Addr) (ns : List Nd) (r : Int) (R : List Int) : Prop where
  bel : Below w.heap.size w wr
  l : Lies wr bg #[.slice (some ⟨g, 0, none⟩) ns.length cap, .int .i64 r] 25
  nd : NdsAt wr wr.heap.size (some ⟨g, 0, none⟩) ns
  out : IntsAt wr wr.heap.size Ag R

theorem LawS.drewN {w wr : World} {bg g cap : Nat} {Ag : Option Addr} {ns : List Nd} {r : Int} {R : List Int} (h : LawS w wr bg g cap Ag ns r R) (n : Nat) : LawS w (wr.drewN n) bg g cap Ag ns r R :=
  ⟨below_drewN h.bel n, h.l.below (below_drewN (Below.refl _ _) n) h.l.lt, h.nd.later (below_drewN (Below.refl _ _) n) (Nat.le_refl _), h.out.drewN n⟩

/-- a node that the answer names, as the law reads it -/
theorem LawS.at_ {w wr : World} {bg g cap : Nat} {Ag : Option Addr} {ns : List Nd} {r : Int} {R : List Int} (h : LawS w wr bg g cap Ag ns r R) (hR : Reached ns r R) {k : Nat} (hk : k < R.length) :
    ∃ (b off i : Nat) (n : Nd) (Ak : Option Addr) (ck : Nat), Ag = some ⟨b, off, none⟩ ∧ R[k]? = some (i : Int) ∧ wr.cell? ⟨b, off + k, none⟩ = some (.int .i64 (i : Int)) ∧ i < ns.length ∧ wr.cell? ⟨g, i * 3 + 2, none⟩ = some (.slice Ak n.kids.length ck) ∧ IntsAt wr wr.heap.size Ak n.kids ∧ kidsOf ns (i : Int) = n.kids := by
  obtain ⟨b, off, x, e1, _, hx, hm, hc⟩ := h.out.at_ hk
  obtain ⟨h0, h1⟩ := hR.met.range x hm
  obtain ⟨i, rfl⟩ := Int.eq_ofNat_of_zero_le h0
  have hi : i < ns.length := by omega
  obtain ⟨b', off', n, e2, _, hn, _, hnd⟩ := h.nd.at_ hi
  injection e2 with e2
  injection e2 with e3 e4
  subst e3 e4
  obtain ⟨Ak, ck, k1, k2, _⟩ := hnd.kids
  rw [Nat.zero_add] at k1
  exact ⟨b, off, i, n, Ak, ck, e1, hx, hc, hi, k1, k2, kidsOf_at hn⟩

theorem not_in_take {R : List Int} {k : Nat} {x : Int} (h : R.Nodup) (hx : R[k]? = some x) : x ∉ R.take k := by
  intro hm
  obtain ⟨j, hj, e⟩ := List.getElem_of_mem hm
  have hj2 : j < k ∧ j < R.length := by simp at hj; omega
  rw [List.getElem_take] at e
  obtain ⟨hk, e2⟩ := List.getElem?_eq_some_iff.1 hx
  have := (List.getElem_inj h).1 (e.trans e2.symm)
  omega

theorem LawS.below {w wr w' : World} {bg g cap : Nat} {Ag : Option Addr} {ns : List Nd} {r : Int} {R : List Int} (h : LawS w wr bg g cap Ag ns r R) (hb : Below wr.heap.size wr w') : LawS w w' bg g cap Ag ns r R :=
  ⟨h.bel.trans (hb.mono h.bel.size), h.l.below hb h.l.lt, h.nd.later hb (Nat.le_refl _), h.out.later hb (Nat.le_refl _)⟩

theorem LawS.cells {w wr : World} {bg g cap : Nat} {Ag : Option Addr} {ns : List Nd} {r : Int} {R : List Int} (h : LawS w wr bg g cap Ag ns r R) : wr.cell? ⟨bg, 0, none⟩ = some (.slice (some ⟨g, 0, none⟩) ns.length cap) ∧ wr.cell? ⟨bg, 1, none⟩ = some (.int .i64 r) := by
  have e0 := h.l.cell 0
  have e1 := h.l.cell 1
  simp at e0 e1
  exact ⟨e0, e1⟩

/-- an element of the answer, and its node -/
theorem LawS.elem {w wr : World} {bg g cap : Nat} {Ag : Option Addr} {ns : List Nd} {r : Int} {S : List Int} (h : LawS w wr bg g cap Ag ns r S) (hS : ∀ x ∈ S, 0 ≤ x ∧ x < ns.length) {k : Nat} (hk : k < S.length) :
    ∃ (b off i : Nat) (n : Nd), Ag = some ⟨b, off, none⟩ ∧ S[k]? = some (i : Int) ∧ (i : Int) ∈ S ∧ wr.cell? ⟨b, off + k, none⟩ = some (.int .i64 (i : Int)) ∧ i < ns.length ∧ ns[i]? = some n ∧ wr.cell? ⟨g, i * 3, none⟩ = some (.int .i64 n.kind) := by
  obtain ⟨b, off, x, e1, _, hx, hm, hc⟩ := h.out.at_ hk
  obtain ⟨h0, h1⟩ := hS x hm
  obtain ⟨i, rfl⟩ := Int.eq_ofNat_of_zero_le h0
  have hi : i < ns.length := by omega
  obtain ⟨b', off', n, e2, _, hn, _, hnd⟩ := h.nd.at_ hi
  injection e2 with e2
  injection e2 with e3 e4
  subst e3 e4
  have hk2 := hnd.kind
  rw [Nat.zero_add] at hk2
  exact ⟨b, off, i, n, e1, hx, hm, hc, hi, hn, hk2⟩

end Go.Proofs.Ytcblcmdfeoijpaa
