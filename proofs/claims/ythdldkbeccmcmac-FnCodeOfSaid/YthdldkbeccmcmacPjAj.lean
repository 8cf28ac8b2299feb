/-
  Lemmas, several texts in one: CodX, PickM, LawM.
-/
import Derived.Test.YthdldkbeccmcmacPjAh
import Derived.Test.YthdldkbeccmcmacPjAi
import Derived.Test.YthdldkbeccmcmacPickG
import Derived.Test.YthdldkbeccmcmacIso
import Derived.Test.YthdldkbeccmcmacPjAa
import Derived.Deep.LoopGhost
import Derived.Deep.QuietTactic
import Derived.BigQuiet
namespace Go.Proofs.Ythdldkbeccmcmac
open Go.RowKit Go.Maps
set_option linter.unusedVariables false

set_option maxHeartbeats 1000000 in
theorem specCodeOf_any (A : Option Addr) (ns : List Nd) (c : Nat) (r : Int) (w : World) (hr : NdsAt w w.heap.size A ns) :
    Calls Try.prog 7 #[.agg #[.slice A ns.length c, .int .i64 r]] w (GivesInts w (codeOf ns r)) := by
  have hB : Below w.heap.size w (w.alloc (.cells #[.slice A ns.length c, .int .i64 r] 25)) := (Below.refl _ _).alloc (Nat.le_refl _) _
  have l1 := Lies.new w #[.slice A ns.length c, .int .i64 r] 25
  have hr2 := hr.later hB (Nat.le_refl _)
  have hwf := hide hr.wf
  clear hr
  by_cases hv : ValidG ns r
  · obtain ⟨i, rfl⟩ := Int.eq_ofNat_of_zero_le hv.root0
    have hg := hide (codG_of_valid hv hwf.out)
    have h12 := hv.few
    have hi : i < ns.length := by have := hv.root; omega
    have HV := hide hv
    have he : Hid (codeOf ns i = (cod ns (ns.length + 1) i ([], [])).1) := by show _ = _; unfold codeOf; rw [if_pos hv]
    clear hv
    go_enter Try.func7, Try.ntmps7
    go_wp2_with fail
    generalize w.alloc (.cells #[.slice A ns.length c, .int .i64 (i : Int)] 25) = W at hB l1 hr2 ⊢
    refine (specValidGraph_any A ns c i W hr2).mono ?_
    rintro e w1 ⟨rfl, hb1⟩
    rw [tf_true HV.out]
    have l2 := l1.below hb1 l1.lt
    have hr3 := hr2.later hb1 (Nat.le_refl _)
    have hB1 := hB.trans (hb1.mono hB.size)
    have e0 := l2.cell 0
    have e1 := l2.cell 1
    simp at e0 e1
    clear l1 hr2 hb1 hB
    go_wp2_with fail
    refine (specCodeOf1_any A ns 6 hg.out (by omega) (by omega) c i w1 hr3 hi).mono ?_
    rintro e w2 ⟨Ao, co, rfl, hown, hb2⟩
    have Hfin : Hid (GivesInts w (codeOf ns i) (.returned (.slice Ao (cod ns (ns.length + 1) i ([], [])).1.length co)) w2) := by
      show GivesInts _ _ _ _
      rw [he.out]
      exact ⟨Ao, co, rfl, hown.mono hB1.size, hB1.trans (hb2.mono hB1.size)⟩
    clear hown hb2 e0 e1
    go_wp2
    go_ret
    exact Hfin.out
  · have HV := hide hv
    clear hv
    go_enter Try.func7, Try.ntmps7
    go_wp2_with fail
    refine (specValidGraph_any A ns c r _ hr2).mono ?_
    rintro e w1 ⟨rfl, hb1⟩
    rw [tf_false HV.out]
    have hB1 := hB.trans (hb1.mono hB.size)
    clear hb1 hB hr2
    go_wp2
    go_ret
    unfold codeOf
    rw [if_neg HV.out]
    exact ⟨none, 0, rfl, OwnI.empty _ _, hB1⟩

end Go.Proofs.Ythdldkbeccmcmac

namespace Go.Proofs.Ythdldkbeccmcmac
open Go.RowKit
set_option linter.unusedVariables false

theorem pick_at {ns : List Nd} {L : List Int} {j i : Nat} {n : Nd} (hj : L[j]? = some (i : Int)) (hn : ns[i]? = some n) : (pickNs ns L)[j]? = some ⟨n.kind, n.value, n.kids.map (place L)⟩ := by
  unfold pickNs
  rw [List.getElem?_map, hj]
  simp [pickN_at hn]

theorem place_inj {L : List Int} {x y : Int} (hx : x ∈ L) (hy : y ∈ L) (h : place L x = place L y) : x = y := by
  rw [place_pos hx, place_pos hy] at h
  have h1 : L.idxOf x = L.idxOf y := by omega
  have h2 := List.getElem_idxOf (List.idxOf_lt_length_of_mem hx)
  have h3 := List.getElem_idxOf (List.idxOf_lt_length_of_mem hy)
  rw [← h2, ← h3]
  congr 1

theorem place_get {L : List Int} (hn : L.Nodup) {j : Nat} {x : Int} (hj : L[j]? = some x) : place L x = (j : Int) := by
  refine place_at hj (fun i hi e => ?_)
  obtain ⟨h1, h2⟩ := List.getElem?_eq_some_iff.1 hj
  obtain ⟨h3, h4⟩ := List.getElem?_eq_some_iff.1 e
  have := (List.getElem_inj hn).1 (h4.trans h2.symm)
  omega

theorem iso_pick {ns : List Nd} {r : Int} {L : List Int} (hp : Pickable ns r L) : Iso ns (pickNs ns L) (fun x => x ∈ L) (place L) := by
  refine ⟨hp.range, fun x hx => ?_, fun x y hx hy => place_inj hx hy, fun i n hi hn => ?_, fun i n hi hn => (hp.closed i n hi hn).2⟩
  · have := place_lt hx
    rw [pickNs_len]
    exact this
  · rw [place_pos hi, Int.toNat_natCast]
    refine pick_at ?_ hn
    have h := List.idxOf_lt_length_of_mem hi
    rw [List.getElem?_eq_getElem h, List.getElem_idxOf h]

theorem pick_onto {ns : List Nd} {r : Int} {L : List Int} (hp : Pickable ns r L) : ∀ j : Nat, j < (pickNs ns L).length → ∃ x, x ∈ L ∧ place L x = (j : Int) := by
  intro j hj
  rw [pickNs_len] at hj
  exact ⟨L[j], List.getElem_mem hj, place_get hp.nodup (List.getElem?_eq_getElem hj)⟩

theorem pick_valid {ns : List Nd} {r : Int} {L : List Int} (hv : ValidG ns r) (hp : Pickable ns r L) : ValidG (pickNs ns L) (place L r) :=
  (iso_pick hp).valid hv hp.root (pick_onto hp) (by rw [pickNs_len]; exact hp.few)

theorem pick_wf {ns : List Nd} {r : Int} {L : List Int} (hv : ValidG ns r) (hp : Pickable ns r L) : Wf (pickNs ns L) := by
  have hw := pick_valid hv hp
  intro n hn
  have hok := hw.nodes n hn
  have hk := hok.kind
  unfold KindOk at hk
  have h6 := hok.few
  have hf := hw.few
  refine ⟨?_, ?_, fun x hx => ?_, by omega⟩
  · constructor <;> omega
  · constructor <;> omega
  · have := hok.inn x hx
    constructor <;> omega

theorem pick_code {ns : List Nd} {r : Int} {L : List Int} (hv : ValidG ns r) (hp : Pickable ns r L) : codeOf (pickNs ns L) (place L r) = codeOf ns r := by
  have hw := pick_valid hv hp
  unfold codeOf
  rw [if_pos hv, if_pos hw]
  refine (iso_pick hp).code hv hw (pick_wf hv hp) hp.root ?_
  rw [pickNs_len]
  exact nodup_le _ _ hp.nodup hp.range

end Go.Proofs.Ythdldkbeccmcmac

namespace Go.Proofs.Ythdldkbeccmcmac
open Go.RowKit
set_option linter.unusedVariables false

theorem OwnI.capLe {w : World} {base : Nat} {A : Option Addr} {c : Nat} {xs : List Int} (h : OwnI w base A c xs) : xs.length ≤ c := by
  rcases h.own with ⟨hl, hh⟩
  rcases hh with ⟨h1, h2⟩ | ⟨g, cap, cur, hv, hg, hh, hle, hm, hs, hx⟩
  · rw [h2]; exact Nat.zero_le _
  · injection hv with _ _ h3
    subst h3
    exact hle

theorem IntsAt.take {w : World} {B : Nat} {A : Option Addr} {xs : List Int} (h : IntsAt w B A xs) (k : Nat) : IntsAt w B A (xs.take k) := by
  refine ⟨fun hx => ?_, fun x hx => h.wf x (List.mem_of_mem_take hx), Nat.le_trans (by simp; omega) h.len⟩
  obtain ⟨b, off, e, hlt, hc⟩ := h.row (by intro e; subst e; simp at hx)
  refine ⟨b, off, e, hlt, fun j x hj => hc j x ?_⟩
  rw [List.getElem?_take] at hj
  split at hj
  · exact hj
  · cases hj

theorem IntsAt.drewN {w : World} {A : Option Addr} {xs : List Int} (h : IntsAt w w.heap.size A xs) (n : Nat) : IntsAt (w.drewN n) (w.drewN n).heap.size A xs :=
  h.later (below_drewN (Below.refl _ _) n) (Nat.le_refl _)

/-- what stays while the law looks at the answer -/
structure LawS (w wr : World) (bg g cap : Nat) (Ag : Option Addr) (ns : List Nd) (r : Int) (R : List Int) : Prop where
  bel : Below w.heap.size w wr
  l : Lies wr bg #[.slice (some ⟨g, 0, none⟩) ns.length cap, .int .i64 r] 25
  nd : NdsAt wr wr.heap.size (some ⟨g, 0, none⟩) ns
  out : IntsAt wr wr.heap.size Ag R

theorem LawS.drewN {w wr : World} {bg g cap : Nat} {Ag : Option Addr} {ns : List Nd} {r : Int} {R : List Int} (h : LawS w wr bg g cap Ag ns r R) (n : Nat) : LawS w (wr.drewN n) bg g cap Ag ns r R :=
  ⟨below_drewN h.bel n, h.l.below (below_drewN (Below.refl _ _) n) h.l.lt, h.nd.later (below_drewN (Below.refl _ _) n) (Nat.le_refl _), h.out.drewN n⟩

/-- a node that the answer names, as the law reads it -/
theorem LawS.at_ {w wr : World} {bg g cap : Nat} {Ag : Option Addr} {ns : List Nd} {r : Int} {R : List Int} (h : LawS w wr bg g cap Ag ns r R) (hR : Reached ns r R) {k : Nat} (hk : k < R.length) :
    ∃ (b off i : Nat) (n : Nd) (Ak : Option Addr) (ck : Nat), Ag = some ⟨b, off, none⟩ ∧ R[k]? = some (i : Int) ∧ wr.cell? ⟨b, off + k, none⟩ = some (.int .i64 (i : Int)) ∧ i < ns.length ∧ wr.cell? ⟨g, i * 3 + 2, none⟩ = some (.slice Ak n.kids.length ck) ∧ IntsAt wr wr.heap.size Ak n.kids ∧ kidsOf ns (i : Int) = n.kids := by
  obtain ⟨b, off, x, e1, _, hx, hm, hc⟩ := h.out.at_ hk
  obtain ⟨h0, h1⟩ := hR.met.range x hm
  obtain ⟨i, rfl⟩ := Int.eq_ofNat_of_zero_le h0
  have hi : i < ns.length := by omega
  obtain ⟨b', off', n, e2, _, hn, _, hnd⟩ := h.nd.at_ hi
  injection e2 with e2
  injection e2 with e3 e4
  subst e3 e4
  obtain ⟨Ak, ck, k1, k2, _⟩ := hnd.kids
  rw [Nat.zero_add] at k1
  exact ⟨b, off, i, n, Ak, ck, e1, hx, hc, hi, k1, k2, kidsOf_at hn⟩

theorem not_in_take {R : List Int} {k : Nat} {x : Int} (h : R.Nodup) (hx : R[k]? = some x) : x ∉ R.take k := by
  intro hm
  obtain ⟨j, hj, e⟩ := List.getElem_of_mem hm
  have hj2 : j < k ∧ j < R.length := by simp at hj; omega
  rw [List.getElem_take] at e
  obtain ⟨hk, e2⟩ := List.getElem?_eq_some_iff.1 hx
  have := (List.getElem_inj h).1 (e.trans e2.symm)
  omega

theorem LawS.below {w wr w' : World} {bg g cap : Nat} {Ag : Option Addr} {ns : List Nd} {r : Int} {R : List Int} (h : LawS w wr bg g cap Ag ns r R) (hb : Below wr.heap.size wr w') : LawS w w' bg g cap Ag ns r R :=
  ⟨h.bel.trans (hb.mono h.bel.size), h.l.below hb h.l.lt, h.nd.later hb (Nat.le_refl _), h.out.later hb (Nat.le_refl _)⟩

theorem LawS.cells {w wr : World} {bg g cap : Nat} {Ag : Option Addr} {ns : List Nd} {r : Int} {R : List Int} (h : LawS w wr bg g cap Ag ns r R) : wr.cell? ⟨bg, 0, none⟩ = some (.slice (some ⟨g, 0, none⟩) ns.length cap) ∧ wr.cell? ⟨bg, 1, none⟩ = some (.int .i64 r) := by
  have e0 := h.l.cell 0
  have e1 := h.l.cell 1
  simp at e0 e1
  exact ⟨e0, e1⟩

/-- an element of the answer, and its node -/
theorem LawS.elem {w wr : World} {bg g cap : Nat} {Ag : Option Addr} {ns : List Nd} {r : Int} {S : List Int} (h : LawS w wr bg g cap Ag ns r S) (hS : ∀ x ∈ S, 0 ≤ x ∧ x < ns.length) {k : Nat} (hk : k < S.length) :
    ∃ (b off i : Nat) (n : Nd), Ag = some ⟨b, off, none⟩ ∧ S[k]? = some (i : Int) ∧ (i : Int) ∈ S ∧ wr.cell? ⟨b, off + k, none⟩ = some (.int .i64 (i : Int)) ∧ i < ns.length ∧ ns[i]? = some n ∧ wr.cell? ⟨g, i * 3, none⟩ = some (.int .i64 n.kind) := by
  obtain ⟨b, off, x, e1, _, hx, hm, hc⟩ := h.out.at_ hk
  obtain ⟨h0, h1⟩ := hS x hm
  obtain ⟨i, rfl⟩ := Int.eq_ofNat_of_zero_le h0
  have hi : i < ns.length := by omega
  obtain ⟨b', off', n, e2, _, hn, _, hnd⟩ := h.nd.at_ hi
  injection e2 with e2
  injection e2 with e3 e4
  subst e3 e4
  have hk2 := hnd.kind
  rw [Nat.zero_add] at hk2
  exact ⟨b, off, i, n, e1, hx, hm, hc, hi, hn, hk2⟩

end Go.Proofs.Ythdldkbeccmcmac
