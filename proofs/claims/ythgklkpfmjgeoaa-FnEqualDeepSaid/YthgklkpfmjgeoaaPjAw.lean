/-
  Lemmas, several texts in one: AlkA, PickM.
-/
import Derived.Test.YthgklkpfmjgeoaaPjAo
import Derived.Test.YthgklkpfmjgeoaaMem
import Derived.Deep.LoopGhost
import Derived.Deep.RegionHeld3
import Derived.Deep.QuietTactic
import Derived.BigQuiet
import Derived.Test.YthgklkpfmjgeoaaPjAi
import Derived.Test.YthgklkpfmjgeoaaPjAr
namespace Go.Proofs.Ythgklkpfmjgeoaa
open Go.RowKit
set_option linter.unusedVariables false

set_option maxHeartbeats 400000 in
theorem alike_any (A A' : Option Addr) (c c' : Nat) (m n : Nd) (w : World) :
    Calls Try.prog 63 #[.agg #[.int .i64 m.kind, .int .i64 m.value, .slice A m.kids.length c], .agg #[.int .i64 n.kind, .int .i64 n.value, .slice A' n.kids.length c']] w fun e w' => e = .returned (.bool (tf (Alike m n))) ∧ Below w.heap.size w w' := by
  by_cases h0 : m.kind = n.kind
  · by_cases h1 : m.value = n.value
    · by_cases h2 : m.kids.length = n.kids.length
      · have HF := hide (show tf (Alike m n) = true from tf_true ⟨h0, h1, h2⟩)
        have t : (m.kind == n.kind) = true := by simpa using h0
        have t1 : (m.value == n.value) = true := by simpa using h1
        have t2 : ((m.kids.length : Int) == (n.kids.length : Int)) = true := beq_iff_eq.2 (by omega)
        clear h0 h1 h2
        go_enter Try.func63, Try.ntmps63
        go_wp2
        go_ret
        exact ⟨ret_bool HF.out.symm, ((Below.refl _ _).alloc (Nat.le_refl _) _).alloc (by simp) _⟩
      · have HF := hide (show tf (Alike m n) = false from tf_false (fun h => h2 h.2.2))
        have t : (m.kind == n.kind) = true := by simpa using h0
        have t1 : (m.value == n.value) = true := by simpa using h1
        have t2 : ((m.kids.length : Int) == (n.kids.length : Int)) = false := beq_eq_false_iff_ne.2 (by omega)
        clear h0 h1 h2
        go_enter Try.func63, Try.ntmps63
        go_wp2
        go_ret
        exact ⟨ret_bool HF.out.symm, ((Below.refl _ _).alloc (Nat.le_refl _) _).alloc (by simp) _⟩
    · have HF := hide (show tf (Alike m n) = false from tf_false (fun h => h1 h.2.1))
      have t : (m.kind == n.kind) = true := by simpa using h0
      have t1 : (m.value == n.value) = false := by simpa using h1
      clear h0 h1
      go_enter Try.func63, Try.ntmps63
      go_wp2
      go_ret
      exact ⟨ret_bool HF.out.symm, ((Below.refl _ _).alloc (Nat.le_refl _) _).alloc (by simp) _⟩
  · have HF := hide (show tf (Alike m n) = false from tf_false (fun h => h0 h.1))
    have t : (m.kind == n.kind) = false := by simpa using h0
    clear h0
    go_enter Try.func63, Try.ntmps63
    go_wp2
    go_ret
    exact ⟨ret_bool HF.out.symm, ((Below.refl _ _).alloc (Nat.le_refl _) _).alloc (by simp) _⟩

end Go.Proofs.Ythgklkpfmjgeoaa

namespace Go.Proofs.Ythgklkpfmjgeoaa
open Go.RowKit
set_option linter.unusedVariables false

theorem pick_at {ns : List Nd} {L : List Int} {j i : Nat} {n : Nd} (hj : L[j]? = some (i : Int)) (hn : ns[i]? = some n) : (pickNs ns L)[j]? = some ⟨n.kind, n.value, n.kids.map (place L)⟩ := by
  unfold pickNs
  rw [List.getElem?_map, hj]
  simp [pickN_at hn]

theorem place_inj {L : List Int} {x y : Int} (hx : x ∈ L) (hy : y ∈ L) (h : place L x = place L y) : x = y := by
  rw [place_pos hx, place_pos hy] at h
  have h1 : L.idxOf x = L.idxOf y := by omega
  have h2 := List.getElem_idxOf (List.idxOf_lt_length_of_mem hx)
  have h3 := List.getElem_idxOf (List.idxOf_lt_length_of_mem hy)
  rw [← h2, ← h3]
  congr 1

theorem place_get {L : List Int} (hn : L.Nodup) {j : Nat} {x : Int} (hj : L[j]? = some x) : place L x = (j : Int) := by
  refine place_at hj (fun i hi e => ?_)
  obtain ⟨h1, h2⟩ := List.getElem?_eq_some_iff.1 hj
  obtain ⟨h3, h4⟩ := List.getElem?_eq_some_iff.1 e
  have := (List.getElem_inj hn).1 (h4.trans h2.symm)
  omega

theorem iso_pick {ns : List Nd} {r : Int} {L : List Int} (hp : Pickable ns r L) : Iso ns (pickNs ns L) (fun x => x ∈ L) (place L) := by
  refine ⟨hp.range, fun x hx => ?_, fun x y hx hy => place_inj hx hy, fun i n hi hn => ?_, fun i n hi hn => (hp.closed i n hi hn).2⟩
  · have := place_lt hx
    rw [pickNs_len]
    exact this
  · rw [place_pos hi, Int.toNat_natCast]
    refine pick_at ?_ hn
    have h := List.idxOf_lt_length_of_mem hi
    rw [List.getElem?_eq_getElem h, List.getElem_idxOf h]

theorem pick_onto {ns : List Nd} {r : Int} {L : List Int} (hp : Pickable ns r L) : ∀ j : Nat, j < (pickNs ns L).length → ∃ x, x ∈ L ∧ place L x = (j : Int) := by
  intro j hj
  rw [pickNs_len] at hj
  exact ⟨L[j], List.getElem_mem hj, place_get hp.nodup (List.getElem?_eq_getElem hj)⟩

theorem pick_valid {ns : List Nd} {r : Int} {L : List Int} (hv : ValidG ns r) (hp : Pickable ns r L) : ValidG (pickNs ns L) (place L r) :=
  (iso_pick hp).valid hv hp.root (pick_onto hp) (by rw [pickNs_len]; exact hp.few)

theorem pick_wf {ns : List Nd} {r : Int} {L : List Int} (hv : ValidG ns r) (hp : Pickable ns r L) : Wf (pickNs ns L) := by
  have hw := pick_valid hv hp
  intro n hn
  have hok := hw.nodes n hn
  have hk := hok.kind
  unfold KindOk at hk
  have h6 := hok.few
  have hf := hw.few
  refine ⟨?_, ?_, fun x hx => ?_, by omega⟩
  · constructor <;> omega
  · constructor <;> omega
  · have := hok.inn x hx
    constructor <;> omega

theorem pick_code {ns : List Nd} {r : Int} {L : List Int} (hv : ValidG ns r) (hp : Pickable ns r L) : codeOf (pickNs ns L) (place L r) = codeOf ns r := by
  have hw := pick_valid hv hp
  unfold codeOf
  rw [if_pos hv, if_pos hw]
  refine (iso_pick hp).code hv hw (pick_wf hv hp) hp.root ?_
  rw [pickNs_len]
  exact nodup_le _ _ hp.nodup hp.range

end Go.Proofs.Ythgklkpfmjgeoaa
