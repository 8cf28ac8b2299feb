/-
  Lemmas, several texts in one: PickA, PrunA, GivB, SmN, PrSm, InfoI, JoiM, EqI, GivNd.
-/
import Derived.Test.YtpcfjdhalglebaaPjAf
import Derived.Test.YtpcfjdhalglebaaPjAh
import Derived.Test.YtpcfjdhalglebaaMem
import Derived.Test.YtpcfjdhalglebaaPjAe
import Derived.Test.YtpcfjdhalglebaaPjAa
namespace Go.Proofs.Ytpcfjdhalglebaa
open Go.RowKit Go.Maps
set_option linter.unusedVariables false

/-- what the list of the picked nodes must be -/
structure Pickable (ns : List Nd) (r : Int) (L : List Int) : Prop where
  nodup : L.Nodup
  range : ∀ x ∈ L, 0 ≤ x ∧ x < ns.length
  closed : ∀ (i : Nat) (n : Nd), (i : Int) ∈ L → ns[i]? = some n → n.kids.length ≤ 1000 ∧ ∀ k ∈ n.kids, k ∈ L
  root : r ∈ L
  few : L.length ≤ 12
  many : ns.length ≤ 12

end Go.Proofs.Ytpcfjdhalglebaa

namespace Go.Proofs.Ytpcfjdhalglebaa
open Go.RowKit Go.Maps
set_option linter.unusedVariables false

theorem reach_pickable {ns : List Nd} {r : Int} (hv : ValidG ns r) : Pickable ns r (reachOf ns r) := by
  have hR := reachOf_reached hv
  have hm : r ∈ reachOf ns r := by
    unfold reachOf
    rw [if_pos hv]
    have w := walked ns anyB (kidsIn_of_valid hv) (ns.length + 1) r [] (Met.nil ns) hv.root0 hv.root (by simp)
    exact w.starts r (by simp) rfl
  refine ⟨hR.met.nodup, hR.met.range, fun i n hi hn => ⟨?_, fun k hk => hR.closed i hi k (by rw [kidsOf_at hn]; exact hk)⟩, hm, reachOf_few, hv.few⟩
  have := (hv.nodes n (List.mem_of_getElem? hn)).few
  omega

theorem reach_place {ns : List Nd} {r : Int} (hv : ValidG ns r) : place (reachOf ns r) r = 0 := by
  have hR := reachOf_reached hv
  have hp := reachOf_some hv
  have h0 : (reachOf ns r)[0]? = some (reachOf ns r)[0] := List.getElem?_eq_getElem hp
  have e := hR.ord.first _ h0
  have hm : r ∈ reachOf ns r := by
    have hm0 := List.getElem_mem hp
    generalize (reachOf ns r)[0] = x at e hm0
    subst e
    exact hm0
  rw [place_pos hm]
  cases hL : reachOf ns r with
  | nil => rw [hL] at hp; simp at hp
  | cons x xs =>
    have : x = r := by simpa [hL] using e
    subst this
    simp

open Classical in
/-- the graph without the nodes that are not reached -/
noncomputable def prunedOf (ns : List Nd) (r : Int) : List Nd := if ValidG ns r then pickNs ns (reachOf ns r) else []

end Go.Proofs.Ytpcfjdhalglebaa

namespace Go.Proofs.Ytpcfjdhalglebaa
open Go.RowKit Go.Maps
set_option linter.unusedVariables false

theorem GivesG.zero (w w' : World) (hb : Below w.heap.size w w') : GivesG w [] 0 (.returned (.agg #[.slice none 0 0, .int .i64 0])) w' :=
  ⟨none, 0, rfl, .inl ⟨rfl, rfl, rfl⟩, hb⟩

theorem OwnNs.lowB {w : World} {lo lo2 hi : Nat} {A : Option Addr} {c : Nat} {ns : List Nd} (h : OwnNs w lo hi A c ns) (h2 : lo2 ≤ lo) : OwnNs w lo2 hi A c ns := by
  rcases h with h | ⟨g, e, h⟩
  · exact .inl h
  · exact .inr ⟨g, e, h.low h2⟩

/-- the result is stored -/
theorem GivesG.put {w wd w2 w3 : World} {A : Option Addr} {c : Nat} {ms : List Nd} {r : Int} (hw : w.heap.size + 1 < wd.heap.size) (h0 : Below w.heap.size w wd) (h2 : Below wd.heap.size wd w2) (h3 : Below w2.heap.size w2 w3) (h : OwnNs w3 w2.heap.size w3.heap.size A c ms) :
    GivesG w ms r (.returned (.agg #[.slice A ms.length c, .int .i64 r])) ((w3.setCell ⟨w.heap.size + 1, 0, none⟩ (.slice A ms.length c)).setCell ⟨w.heap.size + 1, 1, none⟩ (.int .i64 r)) := by
  have hs2 := h2.size
  refine ⟨A, c, rfl, ?_, ((h0.trans ((h2.mono (by omega)).trans (h3.mono (by omega)))).setCell (p := ⟨w.heap.size + 1, 0, none⟩) (by show w.heap.size ≤ w.heap.size + 1; omega) _).setCell (p := ⟨w.heap.size + 1, 1, none⟩) (by show w.heap.size ≤ w.heap.size + 1; omega) _⟩
  have := (h.kept (w' := (w3.setCell ⟨w.heap.size + 1, 0, none⟩ (.slice A ms.length c)).setCell ⟨w.heap.size + 1, 1, none⟩ (.int .i64 r)) (fun b hb _ => (Below.heap_setCell _ _ _ _ (by show b ≠ w.heap.size + 1; omega)).trans (Below.heap_setCell _ _ _ _ (by show b ≠ w.heap.size + 1; omega)))).lowB (lo2 := w.heap.size) (by omega)
  simpa using this

end Go.Proofs.Ytpcfjdhalglebaa

namespace Go.Proofs.Ytpcfjdhalglebaa

/-- all lists of kids, and the marks, are small -/
structure SmallN (ns : List Nd) : Prop where
  len : ns.length ≤ 400
  kids : ∀ n ∈ ns, n.kids.length ≤ 2000

end Go.Proofs.Ytpcfjdhalglebaa

namespace Go.Proofs.Ytpcfjdhalglebaa
open Go.RowKit
set_option linter.unusedVariables false

theorem prunedOf_smallN (ns : List Nd) (r : Int) : SmallN (prunedOf ns r) := by
  unfold prunedOf
  split
  · next hv =>
    have hp := reach_pickable hv
    refine ⟨by rw [pickNs_len]; have := @reachOf_few ns r; omega, fun n hn => ?_⟩
    obtain ⟨x, hx, rfl⟩ := List.mem_map.1 hn
    have hR := reachOf_reached hv
    obtain ⟨h0, h1⟩ := hR.met.range x hx
    obtain ⟨i, rfl⟩ := Int.eq_ofNat_of_zero_le h0
    have hi : i < ns.length := by omega
    rw [pickN_at (List.getElem?_eq_getElem hi)]
    have := (hv.nodes _ (List.getElem_mem hi)).few
    simp
    omega
  · exact ⟨by simp, fun n hn => by simp at hn⟩

end Go.Proofs.Ytpcfjdhalglebaa

namespace Go.Proofs.Ytpcfjdhalglebaa

theorem infoInt : (Try.prog.info? 3).map (fun i => (i.zero, i.size, i.bytes)) = some (some (.int .i64 0), 1, 8) := by kernel_rfl

end Go.Proofs.Ytpcfjdhalglebaa

namespace Go.Proofs.Ytpcfjdhalglebaa
open Go.RowKit

/-- a node whose kids are counted from m on -/
def shiftNd (m : Nat) (n : Nd) : Nd := ⟨n.kind, n.value, n.kids.map (fun k => (m : Int) + k)⟩
def joinNs (ns ms : List Nd) : List Nd := ns ++ ms.map (shiftNd ns.length)

theorem joinNs_len (ns ms : List Nd) : (joinNs ns ms).length = ns.length + ms.length := by simp [joinNs]

end Go.Proofs.Ytpcfjdhalglebaa

namespace Go.Proofs.Ytpcfjdhalglebaa

theorem eq_of_prefix {α : Type} [DecidableEq α] {xs ys : List α} (h : xs.length = ys.length) {k : Nat} (hk : k = xs.length) (he : ∀ j, j < k → xs[j]? = ys[j]?) : xs = ys := by
  apply List.ext_getElem?
  intro j
  by_cases hj : j < k
  · exact he j hj
  · rw [List.getElem?_eq_none (by omega), List.getElem?_eq_none (by omega)]

end Go.Proofs.Ytpcfjdhalglebaa

namespace Go.Proofs.Ytpcfjdhalglebaa
open Go.RowKit
set_option linter.unusedVariables false

/-- a node, its kids in memory of the call's own -/
def GivesNd (w : World) (k v : Int) (ks : List Int) (e : Ending) (w' : World) : Prop := ∃ A c, e = .returned (.agg #[.int .i64 k, .int .i64 v, .slice A ks.length c]) ∧ OwnI w' w.heap.size A c ks ∧ Below w.heap.size w w'

end Go.Proofs.Ytpcfjdhalglebaa
