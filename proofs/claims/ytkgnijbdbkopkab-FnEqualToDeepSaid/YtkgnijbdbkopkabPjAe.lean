/-
  Lemmas, several texts in one: NewR, OwnNB, SmN, InfoI, JoiM, EqI, GivNd.
-/
import Derived.Test.YtkgnijbdbkopkabPjAc
import Derived.Test.YtkgnijbdbkopkabPjAd
import Derived.Test.YtkgnijbdbkopkabPjAb
import Derived.Test.YtkgnijbdbkopkabMem
import Derived.Test.YtkgnijbdbkopkabPjAa
namespace Go.Proofs.Ytkgnijbdbkopkab
open Go.RowKit
set_option linter.unusedVariables false

theorem BytesAt.less {w : World} {B : Nat} {A : Option Addr} {n m : Nat} (h : BytesAt w B A n) (hm : m ≤ n) : BytesAt w B A m := fun k hk => h k (by omega)
theorem BytesAt.more {w : World} {B B' : Nat} {A : Option Addr} {n : Nat} (h : BytesAt w B A n) (hB : B ≤ B') : BytesAt w B' A n := fun k hk => by
  obtain ⟨b, off, x, h1, h2, h3⟩ := h k hk
  exact ⟨b, off, x, h1, by omega, h3⟩

set_option maxHeartbeats 1000000 in
theorem newReader_any (A : Option Addr) (n c : Nat) (w : World) (h : BytesAt w w.heap.size A n) (hc : n ≤ c) (hn : n ≤ 9223372036854775807) :
    Calls Try.prog 9 #[.slice A n c] w fun e w' => e = .returned (.pointer (some ⟨w.heap.size, 0, none⟩)) ∧ (∃ n' c', Rd w' w.heap.size A n' c' 0) ∧ Below w.heap.size w w' := by
  by_cases h2 : n ≤ 2000
  · have d : decide ((2000 : Int) < (n : Int)) = false := by simp; omega
    have hB : Below w.heap.size w (w.alloc (.cells #[.slice A n c, .int .i64 0] 51)) := (Below.refl _ _).alloc (Nat.le_refl _) _
    have HR : Hid (Rd (w.alloc (.cells #[.slice A n c, .int .i64 0] 51)) w.heap.size A n c 0) := hide ⟨Lies.new w _ _, h.later hB, h2⟩
    clear h
    go_enter Try.func9, Try.ntmps9
    go_wp2
    go_ret
    exact ⟨rfl, ⟨n, c, HR.out⟩, hB⟩
  · have d : decide ((2000 : Int) < (n : Int)) = true := by simp; omega
    obtain ⟨b, off, _, rfl, _⟩ := h 0 (by omega)
    have hcap : ¬ ((c : Int) < 2000) := by omega
    have hB : Below w.heap.size w (w.alloc (.cells #[.slice (some ⟨b, off, none⟩) 2000 c, .int .i64 0] 51)) := (Below.refl _ _).alloc (Nat.le_refl _) _
    have HR : Hid (Rd (w.alloc (.cells #[.slice (some ⟨b, off, none⟩) 2000 c, .int .i64 0] 51)) w.heap.size (some ⟨b, off, none⟩) 2000 c 0) := hide ⟨Lies.new w _ _, (h.less (by omega)).later hB, Nat.le_refl _⟩
    clear h
    go_enter Try.func9, Try.ntmps9
    go_wp2
    go_ret
    exact ⟨rfl, ⟨2000, c, HR.out⟩, hB⟩

end Go.Proofs.Ytkgnijbdbkopkab

namespace Go.Proofs.Ytkgnijbdbkopkab
open Go.RowKit
set_option linter.unusedVariables false

/-- the world behind a store to the node j -/
def setN (w : World) (g j : Nat) (v0 v1 v2 : Value) : World := ((w.setCell ⟨g, j * 3, none⟩ v0).setCell ⟨g, j * 3 + 1, none⟩ v1).setCell ⟨g, j * 3 + 2, none⟩ v2

theorem setN_block {w : World} {g j k : Nat} {v0 v1 v2 : Value} (hk : k ≠ g) : (setN w g j v0 v1 v2).heap[k]? = w.heap[k]? := by
  unfold setN
  rw [Below.heap_setCell _ _ _ _ (by show k ≠ g; exact hk), Below.heap_setCell _ _ _ _ (by show k ≠ g; exact hk), Below.heap_setCell _ _ _ _ (by show k ≠ g; exact hk)]
theorem setN_size {w : World} {g j : Nat} {v0 v1 v2 : Value} : (setN w g j v0 v1 v2).heap.size = w.heap.size := by unfold setN; simp
theorem setN_far {w : World} {g j q : Nat} {v0 v1 v2 : Value} (hq : q < j * 3 ∨ j * 3 + 2 < q) : (setN w g j v0 v1 v2).cell? ⟨g, q, none⟩ = w.cell? ⟨g, q, none⟩ := by
  unfold setN
  rw [World.cell?_setCell_other, World.cell?_setCell_other, World.cell?_setCell_other] <;> (intro e; injection e with _ e; omega)
theorem setN_row {w : World} {g j n : Nat} {t : TypeId} {f : Nat → Value} (h : w.rowIs g t n f) (v0 v1 v2 : Value) : ∃ f', (setN w g j v0 v1 v2).rowIs g t n f' := ⟨_, ((h.set _ _).set _ _).set _ _⟩
theorem setN_at {w : World} {g j n : Nat} {t : TypeId} {f : Nat → Value} (h : w.rowIs g t n f) (hn : j * 3 + 2 < n) (v0 v1 v2 : Value) : (setN w g j v0 v1 v2).cell? ⟨g, j * 3, none⟩ = some v0 ∧ (setN w g j v0 v1 v2).cell? ⟨g, j * 3 + 1, none⟩ = some v1 ∧ (setN w g j v0 v1 v2).cell? ⟨g, j * 3 + 2, none⟩ = some v2 := by
  have hr := ((h.set (j * 3) v0).set (j * 3 + 1) v1).set (j * 3 + 2) v2
  unfold setN
  refine ⟨?_, ?_, ?_⟩
  · have := hr.cell (i := j * 3) (by omega)
    simpa using this
  · have := hr.cell (i := j * 3 + 1) (by omega)
    simpa using this
  · have := hr.cell (i := j * 3 + 2) (by omega)
    simpa using this
theorem setN_below {w w' : World} {B g j : Nat} {v0 v1 v2 : Value} (h : Below B w w') (hg : B ≤ g) : Below B w (setN w' g j v0 v1 v2) :=
  ((h.setCell (p := ⟨g, j * 3, none⟩) hg v0).setCell (p := ⟨g, j * 3 + 1, none⟩) hg v1).setCell (p := ⟨g, j * 3 + 2, none⟩) hg v2

theorem OwnI.lowB {w : World} {base base' : Nat} {A : Option Addr} {c : Nat} {xs : List Int} (h : OwnI w base A c xs) (hb : base' ≤ base) : OwnI w base' A c xs := by
  refine ⟨h.own.1, ?_⟩
  rcases h.own.2 with h2 | ⟨g, cap, cur, hv, hg, r⟩
  · exact .inl h2
  · exact .inr ⟨g, cap, cur, hv, by omega, r⟩

/-- a node is written behind the others; its kids' row is new -/
theorem OwnRow.snoc {w : World} {lo hi hi2 g cap c : Nat} {A : Option Addr} {ns : List Nd} {n : Nd} (h : OwnRow w lo hi g cap ns) (hcap : ns.length < cap) (hown : OwnI w hi A c n.kids) (h2 : hi ≤ hi2) (hA : ∀ b, blockOf A = some b → b < hi2) :
    OwnRow (setN w g ns.length (.int .i64 n.kind) (.int .i64 n.value) (.slice A n.kids.length c)) lo hi2 g cap (ns ++ [n]) := by
  obtain ⟨f, hf⟩ := h.row
  have hlo := h.hlo
  have hhi := h.hhi
  have hat := setN_at (j := ns.length) hf (by omega) (.int .i64 n.kind) (.int .i64 n.value) (.slice A n.kids.length c)
  have hAb : ∀ b, blockOf A = some b → hi ≤ b := fun b hb => (hown.blocks b hb).1
  have hgA : ∀ b, blockOf A = some b → b ≠ g := fun b hb => by have := hAb b hb; omega
  have hown2 : OwnI (setN w g ns.length (.int .i64 n.kind) (.int .i64 n.value) (.slice A n.kids.length c)) lo A c n.kids := (hown.of_blk (fun b hb => setN_block (hgA b hb))).lowB (by omega)
  refine ⟨setN_row hf _ _ _, by simp; omega, hlo, by omega, fun j m hj => ?_, fun i j A1 A2 k1 k2 c1 c2 hij hi' hj' e1 e2 b hb => ?_⟩
  · rw [List.getElem?_append] at hj
    split at hj
    next hlt =>
      have hn := h.nd j m hj
      obtain ⟨A1, c1, h1, h3, h4⟩ := hn.kids
      exact ⟨(setN_far (by omega)).trans hn.kind, (setN_far (by omega)).trans hn.value, ⟨A1, c1, (setN_far (by omega)).trans h1, h3.of_blk (fun b hb => setN_block (h4 b hb).2), fun b hb => ⟨by have := (h4 b hb).1; omega, (h4 b hb).2⟩⟩⟩
    next hlt =>
      have hjl := (List.getElem?_eq_some_iff.1 hj).1
      simp at hjl
      obtain rfl : j = ns.length := by omega
      simp at hj
      subst hj
      exact ⟨hat.1, hat.2.1, ⟨A, c, hat.2.2, hown2, fun b hb => ⟨hA b hb, hgA b hb⟩⟩⟩
  · simp at hi' hj'
    by_cases ei : i = ns.length
    · subst ei
      rw [hat.2.2] at e1
      injection e1 with e1
      injection e1 with e1 _ _
      subst e1
      have hj2 : j < ns.length := by omega
      rw [setN_far (by omega)] at e2
      intro e3
      obtain ⟨A3, c3, g1, _, g3⟩ := (h.nd j _ (List.getElem?_eq_getElem hj2)).kids
      rw [e2] at g1
      injection g1 with g1
      injection g1 with g1 _ _
      subst g1
      have := (g3 b e3).1
      have := hAb b hb
      omega
    · have hi2' : i < ns.length := by omega
      rw [setN_far (by omega)] at e1
      obtain ⟨A3, c3, g1, _, g3⟩ := (h.nd i _ (List.getElem?_eq_getElem hi2')).kids
      have e1' := e1
      rw [e1'] at g1
      injection g1 with g1
      injection g1 with g1 _ _
      subst g1
      by_cases ej : j = ns.length
      · subst ej
        rw [hat.2.2] at e2
        injection e2 with e2
        injection e2 with e2 _ _
        subst e2
        intro e3
        have := (g3 b hb).1
        have := hAb b e3
        omega
      · rw [setN_far (by omega)] at e2
        exact h.dis i j A1 A2 k1 k2 c1 c2 hij hi2' (by omega) e1 e2 b hb

/-- a row may be said to reach further up -/
theorem OwnRow.high {w : World} {lo hi hi2 g cap : Nat} {ns : List Nd} (h : OwnRow w lo hi g cap ns) (h2 : hi ≤ hi2) : OwnRow w lo hi2 g cap ns :=
  ⟨h.row, h.le, h.hlo, by have := h.hhi; omega, fun j n hj => by
    have hn := h.nd j n hj
    obtain ⟨A, c, h1, h3, h4⟩ := hn.kids
    exact ⟨hn.kind, hn.value, ⟨A, c, h1, h3, fun b hb => ⟨by have := (h4 b hb).1; omega, (h4 b hb).2⟩⟩⟩, h.dis⟩

theorem OwnRow.low {w : World} {lo lo2 hi g cap : Nat} {ns : List Nd} (h : OwnRow w lo hi g cap ns) (h2 : lo2 ≤ lo) : OwnRow w lo2 hi g cap ns :=
  ⟨h.row, h.le, by have := h.hlo; omega, h.hhi, fun j n hj => by
    have hn := h.nd j n hj
    obtain ⟨A, c, h1, h3, h4⟩ := hn.kids
    exact ⟨hn.kind, hn.value, ⟨A, c, h1, h3.lowB h2, h4⟩⟩, h.dis⟩

/-- the node x of ns, its kids by their places in L -/
def pickN (ns : List Nd) (L : List Int) (x : Int) : Nd := match ns[x.toNat]? with | some n => ⟨n.kind, n.value, n.kids.map (place L)⟩ | none => ⟨0, 0, []⟩

theorem pickN_at {ns : List Nd} {L : List Int} {i : Nat} {n : Nd} (h : ns[i]? = some n) : pickN ns L (i : Int) = ⟨n.kind, n.value, n.kids.map (place L)⟩ := by
  unfold pickN
  rw [Int.toNat_natCast, h]

/-- the nodes of L, in its order -/
def pickNs (ns : List Nd) (L : List Int) : List Nd := L.map (pickN ns L)

theorem pickNs_len (ns : List Nd) (L : List Int) : (pickNs ns L).length = L.length := by simp [pickNs]

theorem pickNs_take {ns : List Nd} {L : List Int} {k i : Nat} {n : Nd} (hk : L[k]? = some (i : Int)) (h : ns[i]? = some n) : (pickNs ns L).take (k + 1) = (pickNs ns L).take k ++ [⟨n.kind, n.value, n.kids.map (place L)⟩] := by
  have : (pickNs ns L)[k]? = some ⟨n.kind, n.value, n.kids.map (place L)⟩ := by
    unfold pickNs
    rw [List.getElem?_map, hk]
    simp [pickN_at h]
  rw [List.take_add_one, this]
  rfl

theorem place_in64 {L : List Int} (hl : L.length ≤ 1000) (x : Int) : In64 (place L x) := by
  by_cases h : x ∈ L
  · rw [place_pos h]
    have := List.idxOf_lt_length_of_mem h
    constructor <;> omega
  · rw [place_neg h]
    constructor <;> omega

/-- a graph of the call's own comes back -/
def GivesG (w : World) (ms : List Nd) (r : Int) (e : Ending) (w' : World) : Prop :=
  ∃ A c, e = .returned (.agg #[.slice A ms.length c, .int .i64 r]) ∧ OwnNs w' w.heap.size w'.heap.size A c ms ∧ Below w.heap.size w w'

end Go.Proofs.Ytkgnijbdbkopkab

namespace Go.Proofs.Ytkgnijbdbkopkab

/-- all lists of kids, and the marks, are small -/
structure SmallN (ns : List Nd) : Prop where
  len : ns.length ≤ 400
  kids : ∀ n ∈ ns, n.kids.length ≤ 2000

end Go.Proofs.Ytkgnijbdbkopkab

namespace Go.Proofs.Ytkgnijbdbkopkab

theorem infoInt : (Try.prog.info? 3).map (fun i => (i.zero, i.size, i.bytes)) = some (some (.int .i64 0), 1, 8) := by kernel_rfl

end Go.Proofs.Ytkgnijbdbkopkab

namespace Go.Proofs.Ytkgnijbdbkopkab
open Go.RowKit

/-- a node whose kids are counted from m on -/
def shiftNd (m : Nat) (n : Nd) : Nd := ⟨n.kind, n.value, n.kids.map (fun k => (m : Int) + k)⟩
def joinNs (ns ms : List Nd) : List Nd := ns ++ ms.map (shiftNd ns.length)

theorem joinNs_len (ns ms : List Nd) : (joinNs ns ms).length = ns.length + ms.length := by simp [joinNs]

end Go.Proofs.Ytkgnijbdbkopkab

namespace Go.Proofs.Ytkgnijbdbkopkab

theorem eq_of_prefix {α : Type} [DecidableEq α] {xs ys : List α} (h : xs.length = ys.length) {k : Nat} (hk : k = xs.length) (he : ∀ j, j < k → xs[j]? = ys[j]?) : xs = ys := by
  apply List.ext_getElem?
  intro j
  by_cases hj : j < k
  · exact he j hj
  · rw [List.getElem?_eq_none (by omega), List.getElem?_eq_none (by omega)]

end Go.Proofs.Ytkgnijbdbkopkab

namespace Go.Proofs.Ytkgnijbdbkopkab
open Go.RowKit
set_option linter.unusedVariables false

/-- a node, its kids in memory of the call's own -/
def GivesNd (w : World) (k v : Int) (ks : List Int) (e : Ending) (w' : World) : Prop := ∃ A c, e = .returned (.agg #[.int .i64 k, .int .i64 v, .slice A ks.length c]) ∧ OwnI w' w.heap.size A c ks ∧ Below w.heap.size w w'

end Go.Proofs.Ytkgnijbdbkopkab
