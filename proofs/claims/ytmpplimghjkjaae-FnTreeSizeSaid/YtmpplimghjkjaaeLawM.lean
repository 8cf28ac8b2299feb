/-
  What stays while a law of graphs looks at an answer. No function of the program is walked here.
-/
import Derived.Test.YtmpplimghjkjaaeOrd
import Derived.Test.YtmpplimghjkjaaePkA
import Derived.Deep.LoopGhost
import Derived.Deep.QuietTactic
import Derived.BigQuiet
namespace Go.Proofs.Ytmpplimghjkjaae
open Go.RowKit
set_option linter.unusedVariables false

theorem OwnI.capLe {w : World} {base : Nat} {A : Option Addr} {c : Nat} {xs : List Int} (h : OwnI w base A c xs) : xs.length ≤ c := by
  rcases h.own with ⟨hl, hh⟩
  rcases hh with ⟨h1, h2⟩ | ⟨g, cap, cur, hv, hg, hh, hle, hm, hs, hx⟩
  · rw [h2]; exact Nat.zero_le _
  · injection hv with _ _ h3
    subst h3
    exact hle

theorem IntsAt.take {w : World} {B : Nat} {A : Option Addr} {xs : List Int} (h : IntsAt w B A xs) (k : Nat) : IntsAt w B A (xs.take k) := by
  refine ⟨fun hx => ?_, fun x hx => h.wf x (List.mem_of_mem_take hx), Nat.le_trans (by simp; omega) h.len⟩
  obtain ⟨b, off, e, hlt, hc⟩ := h.row (by intro e; subst e; simp at hx)
  refine ⟨b, off, e, hlt, fun j x hj => hc j x ?_⟩
  rw [List.getElem?_take] at hj
  split at hj
  · exact hj
  · cases hj

theorem IntsAt.drewN {w : World} {A : Option Addr} {xs : List Int} (h : IntsAt w w.heap.size A xs) (n : Nat) : IntsAt (w.drewN n) (w.drewN n).heap.size A xs :=
  h.later (below_drewN (Below.refl _ _) n) (Nat.le_refl _)

/-- what stays while the law looks at the answer -/
structure LawS (w wr : World) (bg g cap : Nat) (Ag : Option Addr) (ns : List Nd) (r : Int) (R : List Int) : Prop where
  bel : Below w.heap.size w wr
  l : Lies wr bg #[.slice (some ⟨g, 0, none⟩) ns.length cap, .int .i64 r] 25
  nd : NdsAt wr wr.heap.size (some ⟨g, 0, none⟩) ns
  out : IntsAt wr wr.heap.size Ag R

theorem LawS.drewN {w wr : World} {bg g cap : Nat} {Ag : Option Addr} {ns : List Nd} {r : Int} {R : List Int} (h : LawS w wr bg g cap Ag ns r R) (n : Nat) : LawS w (wr.drewN n) bg g cap Ag ns r R :=
  ⟨below_drewN h.bel n, h.l.below (below_drewN (Below.refl _ _) n) h.l.lt, h.nd.later (below_drewN (Below.refl _ _) n) (Nat.le_refl _), h.out.drewN n⟩

/-- a node that the answer names, as the law reads it -/
theorem LawS.at_ {w wr : World} {bg g cap : Nat} {Ag : Option Addr} {ns : List Nd} {r : Int} {R : List Int} (h : LawS w wr bg g cap Ag ns r R) (hR : Reached ns r R) {k : Nat} (hk : k < R.length) :
    ∃ (b off i : Nat) (n : Nd) (Ak : Option Addr) (ck : Nat), Ag = some ⟨b, off, none⟩ ∧ R[k]? = some (i : Int) ∧ wr.cell? ⟨b, off + k, none⟩ = some (.int .i64 (i : Int)) ∧ i < ns.length ∧ wr.cell? ⟨g, i * 3 + 2, none⟩ = some (.slice Ak n.kids.length ck) ∧ IntsAt wr wr.heap.size Ak n.kids ∧ kidsOf ns (i : Int) = n.kids := by
  obtain ⟨b, off, x, e1, _, hx, hm, hc⟩ := h.out.at_ hk
  obtain ⟨h0, h1⟩ := hR.met.range x hm
  obtain ⟨i, rfl⟩ := Int.eq_ofNat_of_zero_le h0
  have hi : i < ns.length := by omega
  obtain ⟨b', off', n, e2, _, hn, _, hnd⟩ := h.nd.at_ hi
  injection e2 with e2
  injection e2 with e3 e4
  subst e3 e4
  obtain ⟨Ak, ck, k1, k2, _⟩ := hnd.kids
  rw [Nat.zero_add] at k1
  exact ⟨b, off, i, n, Ak, ck, e1, hx, hc, hi, k1, k2, kidsOf_at hn⟩

theorem not_in_take {R : List Int} {k : Nat} {x : Int} (h : R.Nodup) (hx : R[k]? = some x) : x ∉ R.take k := by
  intro hm
  obtain ⟨j, hj, e⟩ := List.getElem_of_mem hm
  have hj2 : j < k ∧ j < R.length := by simp at hj; omega
  rw [List.getElem_take] at e
  obtain ⟨hk, e2⟩ := List.getElem?_eq_some_iff.1 hx
  have := (List.getElem_inj h).1 (e.trans e2.symm)
  omega

theorem LawS.below {w wr w' : World} {bg g cap : Nat} {Ag : Option Addr} {ns : List Nd} {r : Int} {R : List Int} (h : LawS w wr bg g cap Ag ns r R) (hb : Below wr.heap.size wr w') : LawS w w' bg g cap Ag ns r R :=
  ⟨h.bel.trans (hb.mono h.bel.size), h.l.below hb h.l.lt, h.nd.later hb (Nat.le_refl _), h.out.later hb (Nat.le_refl _)⟩

theorem LawS.cells {w wr : World} {bg g cap : Nat} {Ag : Option Addr} {ns : List Nd} {r : Int} {R : List Int} (h : LawS w wr bg g cap Ag ns r R) : wr.cell? ⟨bg, 0, none⟩ = some (.slice (some ⟨g, 0, none⟩) ns.length cap) ∧ wr.cell? ⟨bg, 1, none⟩ = some (.int .i64 r) := by
  have e0 := h.l.cell 0
  have e1 := h.l.cell 1
  simp at e0 e1
  exact ⟨e0, e1⟩

/-- an element of the answer, and its node -/
theorem LawS.elem {w wr : World} {bg g cap : Nat} {Ag : Option Addr} {ns : List Nd} {r : Int} {S : List Int} (h : LawS w wr bg g cap Ag ns r S) (hS : ∀ x ∈ S, 0 ≤ x ∧ x < ns.length) {k : Nat} (hk : k < S.length) :
    ∃ (b off i : Nat) (n : Nd), Ag = some ⟨b, off, none⟩ ∧ S[k]? = some (i : Int) ∧ (i : Int) ∈ S ∧ wr.cell? ⟨b, off + k, none⟩ = some (.int .i64 (i : Int)) ∧ i < ns.length ∧ ns[i]? = some n ∧ wr.cell? ⟨g, i * 3, none⟩ = some (.int .i64 n.kind) := by
  obtain ⟨b, off, x, e1, _, hx, hm, hc⟩ := h.out.at_ hk
  obtain ⟨h0, h1⟩ := hS x hm
  obtain ⟨i, rfl⟩ := Int.eq_ofNat_of_zero_le h0
  have hi : i < ns.length := by omega
  obtain ⟨b', off', n, e2, _, hn, _, hnd⟩ := h.nd.at_ hi
  injection e2 with e2
  injection e2 with e3 e4
  subst e3 e4
  have hk2 := hnd.kind
  rw [Nat.zero_add] at hk2
  exact ⟨b, off, i, n, e1, hx, hm, hc, hi, hn, hk2⟩

end Go.Proofs.Ytmpplimghjkjaae
