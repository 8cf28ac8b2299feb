/-
  Lemmas, several texts in one: MrgM, OwnC, MrgN, EqdM, ReachM, EqdB.
-/
import Derived.Test.YtcblcmdfeoijpaaPjAj
import Derived.Test.YtcblcmdfeoijpaaSpecE
import Derived.Test.YtcblcmdfeoijpaaPjAa
import Derived.Maps.RangeWalk
import Derived.Test.YtcblcmdfeoijpaaPjAh
import Derived.Test.YtcblcmdfeoijpaaPjAk
import Derived.Test.YtcblcmdfeoijpaaPjAg
import Derived.Test.YtcblcmdfeoijpaaPjAe
import Derived.Test.YtcblcmdfeoijpaaPjAi
namespace Go.Proofs.Ytcblcmdfeoijpaa
open Go.RowKit Go.Maps
set_option linter.unusedVariables false

/-- a text of a value -/
def IsTx (v : Int) (m : Nd) : Prop := m.kind = 1 ∧ m.value = v
instance (v : Int) (m : Nd) : Decidable (IsTx v m) := inferInstanceAs (Decidable (_ ∧ _))
def firstT (ns : List Nd) (v : Int) : Nat := ns.findIdx (fun m => decide (IsTx v m))

theorem firstT_is {ns : List Nd} {v : Int} {j : Nat} {m : Nd} (hj : ns[j]? = some m) (hm : IsTx v m) (hf : ∀ (k : Nat) (q : Nd), k < j → ns[k]? = some q → ¬ IsTx v q) : firstT ns v = j := by
  obtain ⟨hl, he⟩ := List.getElem?_eq_some_iff.1 hj
  unfold firstT
  rw [List.findIdx_eq hl]
  refine ⟨by rw [he]; exact decide_eq_true hm, fun k hk => ?_⟩
  exact decide_eq_false (hf k _ hk (List.getElem?_eq_getElem (by omega)))

theorem firstT_le {ns : List Nd} {v : Int} {j : Nat} {m : Nd} (hj : ns[j]? = some m) (hm : IsTx v m) : firstT ns v ≤ j := by
  obtain ⟨hl, he⟩ := List.getElem?_eq_some_iff.1 hj
  apply Nat.le_of_not_lt
  intro h
  have := List.not_of_lt_findIdx (p := fun m => decide (IsTx v m)) h
  rw [he] at this
  simp [hm] at this

/-- the first one of the texts that are equal to a node, or the node itself -/
def ftx (ns : List Nd) (i : Nat) : Int := match ns[i]? with
  | some n => if n.kind = 1 then (firstT ns n.value : Int) else (i : Int)
  | none => (i : Int)
theorem ftx_text {ns : List Nd} {i : Nat} {n : Nd} (h : ns[i]? = some n) (hk : n.kind = 1) : ftx ns i = (firstT ns n.value : Int) := by
  unfold ftx
  rw [h]
  simp only
  rw [if_pos hk]
theorem ftx_else {ns : List Nd} {i : Nat} {n : Nd} (h : ns[i]? = some n) (hk : ¬ n.kind = 1) : ftx ns i = (i : Int) := by
  unfold ftx
  rw [h]
  simp only
  rw [if_neg hk]
theorem ftx_range {ns : List Nd} {i : Nat} (hi : i < ns.length) : 0 ≤ ftx ns i ∧ ftx ns i ≤ i := by
  have h : ns[i]? = some ns[i] := List.getElem?_eq_getElem hi
  by_cases hk : ns[i].kind = 1
  · rw [ftx_text h hk]
    have := firstT_le h ⟨hk, rfl⟩
    omega
  · rw [ftx_else h hk]; omega

def txtCl (ns : List Nd) : List Int := (List.range ns.length).map (ftx ns)
theorem txtCl_len (ns : List Nd) : (txtCl ns).length = ns.length := by simp [txtCl]
theorem txtCl_at {ns : List Nd} {i : Nat} (hi : i < ns.length) : (txtCl ns)[i]? = some (ftx ns i) := by
  unfold txtCl
  rw [List.getElem?_map, List.getElem?_range hi]
  rfl
theorem txtCl_64 {ns : List Nd} (hl : ns.length ≤ 1000) : ∀ x ∈ txtCl ns, In64 x := by
  intro x hx
  obtain ⟨i, hi, rfl⟩ := List.mem_map.1 hx
  have := ftx_range (List.mem_range.1 hi)
  have := List.mem_range.1 hi
  constructor <;> omega

open Classical in
/-- the graph in which equal texts are one node -/
noncomputable def mrgN (ns : List Nd) (r : Int) : List Nd := if ValidG ns r then replNs ns (txtCl ns) else []
open Classical in
noncomputable def mrgR (ns : List Nd) (r : Int) : Int := if ValidG ns r then look (txtCl ns) r else 0
theorem mrgN_yes {ns : List Nd} {r : Int} (h : ValidG ns r) : mrgN ns r = replNs ns (txtCl ns) := if_pos h
theorem mrgR_yes {ns : List Nd} {r : Int} (h : ValidG ns r) : mrgR ns r = look (txtCl ns) r := if_pos h
theorem mrgN_no {ns : List Nd} {r : Int} (h : ¬ ValidG ns r) : mrgN ns r = [] := if_neg h
theorem mrgR_no {ns : List Nd} {r : Int} (h : ¬ ValidG ns r) : mrgR ns r = 0 := if_neg h

end Go.Proofs.Ytcblcmdfeoijpaa

namespace Go.Proofs.Ytcblcmdfeoijpaa
open Go.RowKit
set_option linter.unusedVariables false

theorem OwnI.ofB {w w' : World} {base : Nat} {A : Option Addr} {c : Nat} {xs : List Int} (h : OwnI w base A c xs) (hA : ∀ g, blockOf A = some g → w'.heap[g]? = w.heap[g]?) : OwnI w' base A c xs := by
  refine ⟨h.own.1, ?_⟩
  rcases h.own.2 with h2 | ⟨g, cap, cur, hv, hg, hh, r⟩
  · exact .inl h2
  · refine .inr ⟨g, cap, cur, hv, hg, ?_, r⟩
    rw [hA g (by injection hv with hv; rw [hv]; rfl)]
    exact hh

theorem OwnI.setAt {w : World} {base g : Nat} {c : Nat} {xs : List Int} (h : OwnI w base (some ⟨g, 0, none⟩) c xs) (j : Nat) (x : Int) :
    OwnI (w.setCell ⟨g, j, none⟩ (.int .i64 x)) base (some ⟨g, 0, none⟩) c (xs.set j x) := by
  have := (h.own.stored j (.int .i64 x)).1
  refine ⟨?_⟩
  rw [List.length_set, List.map_set]
  exact this

/-- the first of its elements, with the same room behind them -/
theorem OwnI.cutAt {w : World} {base : Nat} {A : Option Addr} {c : Nat} {xs : List Int} (h : OwnI w base A c xs) {k : Nat} (hk : k ≤ xs.length) : OwnI w base A c (xs.take k) := by
  have hl : (xs.take k).length = k := by simp; omega
  obtain ⟨h1, h2⟩ := h.own
  refine ⟨⟨by simp, ?_⟩⟩
  rcases h2 with ⟨h3, h4⟩ | ⟨g, cap, cur, hv, hg, hh, hn, hm, hs, ht⟩
  · have : xs = [] := List.eq_nil_of_length_eq_zero h4
    subst this
    exact .inl ⟨by simpa using h3, by simp⟩
  · refine .inr ⟨g, cap, cur, ?_, hg, hh, by omega, hm, hs, ?_⟩
    · injection hv with e1 _ e3
      rw [e1, e3]
    · rw [hl]
      have := congrArg (fun l => l.take k) ht
      simp only [List.take_take, Nat.mul_one] at this
      rw [Nat.min_eq_left hk] at this
      rw [Nat.mul_one, this, List.map_take]

theorem OwnI.capLen {w : World} {base : Nat} {A : Option Addr} {c : Nat} {xs : List Int} (h : OwnI w base A c xs) : xs.length ≤ c := by
  rcases h.own with ⟨hl, hh⟩
  rcases hh with ⟨h1, h2⟩ | ⟨g, cap, cur, hv, hg, hh, hle, hm, hs, hx⟩
  · rw [h2]; exact Nat.zero_le _
  · injection hv with _ _ h3
    subst h3
    exact hle

theorem OwnI.frozenM {w : World} {base g : Nat} {c : Nat} {xs : List Int} (h : OwnI w base (some ⟨g, 0, none⟩) c xs) (j : Nat) : w.frozen? ⟨g, j, none⟩ = false := by
  rcases h.own.2 with ⟨h1, _⟩ | ⟨g', cap, cur, hv, hg, hh, _⟩
  · injection h1 with h1
    cases h1
  · injection hv with hv _ hc
    obtain rfl : g = g' := by simpa using hv
    exact Lies.frozen hh j
theorem OwnI.cellM {w : World} {base g : Nat} {c : Nat} {xs : List Int} (h : OwnI w base (some ⟨g, 0, none⟩) c xs) {j : Nat} {x : Int} (hj : xs[j]? = some x) : w.cell? ⟨g, j, none⟩ = some (.int .i64 x) := by
  rw [h.own.cellAt j (by have := (List.getElem?_eq_some_iff.1 hj).1; omega), List.getElem?_map, hj]
  rfl

end Go.Proofs.Ytcblcmdfeoijpaa

namespace Go.Proofs.Ytcblcmdfeoijpaa
open Go.RowKit
set_option linter.unusedVariables false

theorem replNs_smallN {ns : List Nd} {r : Int} (h : ValidG ns r) (cl : List Int) : SmallN (replNs ns cl) := by
  have hf := h.few
  refine ⟨by rw [replNs_len]; omega, fun n hn => ?_⟩
  obtain ⟨m, hm, rfl⟩ := List.mem_map.1 hn
  have := (h.nodes m hm).few
  simp [replNd]
  omega

theorem mrgN_smallN (ns : List Nd) (r : Int) : SmallN (mrgN ns r) := by
  by_cases h : ValidG ns r
  · rw [mrgN_yes h]; exact replNs_smallN h _
  · rw [mrgN_no h]; exact ⟨by simp, fun n hn => by simp at hn⟩

theorem mrgN_wf {ns : List Nd} (r : Int) (hw : WfN ns) : WfN (mrgN ns r) := by
  by_cases h : ValidG ns r
  · rw [mrgN_yes h]
    intro n hn
    obtain ⟨m, hm, rfl⟩ := List.mem_map.1 hn
    obtain ⟨a1, a2, a3, a4⟩ := hw m hm
    refine ⟨a1, a2, fun x hx => ?_, by simpa [replNd] using a4⟩
    obtain ⟨k, hk, rfl⟩ := List.mem_map.1 (show x ∈ m.kids.map (look (txtCl ns)) from hx)
    have h2 := (h.nodes m hm).inn k hk
    exact txtCl_64 (by have := h.few; omega) _ (look_mem h2.1 (by rw [txtCl_len]; omega))
  · rw [mrgN_no h]
    intro n hn
    simp at hn

end Go.Proofs.Ytcblcmdfeoijpaa

namespace Go.Proofs.Ytcblcmdfeoijpaa
open Go.RowKit Go.Maps
set_option linter.unusedVariables false

theorem joinNs_kids {ns ms : List Nd} (hn : KidsIn ns) (hm : KidsIn ms) : KidsIn (joinNs ns ms) := by
  intro n h k hk
  rw [joinNs_len]
  unfold joinNs at h
  rcases List.mem_append.1 h with h | h
  · have := hn n h k hk
    omega
  · obtain ⟨m, h1, rfl⟩ := List.mem_map.1 h
    obtain ⟨x, h2, rfl⟩ := List.mem_map.1 (show k ∈ m.kids.map (fun k => (ns.length : Int) + k) from hk)
    have := hm m h1 x h2
    omega

/-- the roots are in one class up to a depth -/
def RootsEq (ns : List Nd) (r : Int) (ms : List Nd) (s : Int) (d : Nat) : Prop := look (clsN (joinNs ns ms) d) r = look (clsN (joinNs ns ms) d) ((ns.length : Int) + s)
/-- the roots of valid graphs are equal however deep -/
def EqDeepG (ns : List Nd) (r : Int) (ms : List Nd) (s : Int) : Prop := ValidG ns r ∧ ValidG ms s ∧ RootsEq ns r ms s (joinNs ns ms).length
/-- .. up to a depth -/
def EqToG (ns : List Nd) (r : Int) (ms : List Nd) (s d : Int) : Prop := ValidG ns r ∧ ValidG ms s ∧ 0 ≤ d ∧ d ≤ 8 ∧ RootsEq ns r ms s d.toNat

theorem RootsEq.tf_def (ns : List Nd) (r : Int) (ms : List Nd) (s : Int) (d : Nat) : decide (look (clsN (joinNs ns ms) d) r = look (clsN (joinNs ns ms) d) ((ns.length : Int) + s)) = tf (RootsEq ns r ms s d) := by
  by_cases h : RootsEq ns r ms s d
  · rw [tf_true h]; exact decide_eq_true h
  · rw [tf_false h]; exact decide_eq_false h

theorem joined_small {ns ms : List Nd} {r s : Int} (hv : ValidG ns r) (hw : ValidG ms s) : (joinNs ns ms).length ≤ 24 := by
  have := hv.few
  have := hw.few
  rw [joinNs_len]
  omega

end Go.Proofs.Ytcblcmdfeoijpaa

namespace Go.Proofs.Ytcblcmdfeoijpaa
open Go.RowKit
set_option linter.unusedVariables false

/-- every node may be entered -/
def anyB (x : Int) : Bool := true

theorem kidsIn_of_valid {ns : List Nd} {r : Int} (h : ValidG ns r) : KidsIn ns := fun n hn => (h.nodes n hn).inn

theorem in64_met {ns : List Nd} {L : List Int} (h12 : ns.length ≤ 12) (h : Met ns L) : ∀ x ∈ L, In64 x := in64_of_range h12 h.range

open Classical in
/-- the nodes that are reached from the root of a valid graph; none for another one -/
noncomputable def reachOf (ns : List Nd) (r : Int) : List Int := if ValidG ns r then dfs ns anyB (ns.length + 1) r [] else []

theorem reachOf_met {ns : List Nd} {r : Int} : Met ns (reachOf ns r) := by
  unfold reachOf
  split
  next h => exact dfs_met ns anyB (kidsIn_of_valid h) _ _ _ (Met.nil ns) ⟨h.root0, h.root⟩
  next => exact Met.nil ns

theorem reachOf_few {ns : List Nd} {r : Int} : (reachOf ns r).length ≤ 12 := by
  unfold reachOf
  split
  next h => exact Nat.le_trans (dfs_met ns anyB (kidsIn_of_valid h) _ _ _ (Met.nil ns) ⟨h.root0, h.root⟩).len h.few
  next => simp

end Go.Proofs.Ytcblcmdfeoijpaa

namespace Go.Proofs.Ytcblcmdfeoijpaa
open Go.RowKit Go.Maps
set_option linter.unusedVariables false

theorem validG_bounds {ns : List Nd} {r : Int} (hv : ValidG ns r) : ns.length ≤ 12 ∧ (∀ n ∈ ns, n.kids.length ≤ 1000 ∧ ∀ k ∈ n.kids, 0 ≤ k ∧ k ≤ 1000000) := by
  refine ⟨hv.few, fun n hn => ⟨by have := (hv.nodes n hn).few; omega, fun k hk => ?_⟩⟩
  have h1 := validG_kids hv n hn k hk
  have h2 := hv.few
  omega

theorem RowN.wfJ {ns ms : List Nd} {r s : Int} {w : World} {B B2 : Nat} {A A2 : Option Addr} (hv : ValidG ns r) (hw : ValidG ms s) (h1 : NdsAt w B A ns) (h2 : NdsAt w B2 A2 ms) : WfN (joinNs ns ms) := by
  have w1 := h1.wf
  have w2 := h2.wf
  intro n hn
  unfold joinNs at hn
  rcases List.mem_append.1 hn with hn | hn
  · exact w1 n hn
  · obtain ⟨m, hm, rfl⟩ := List.mem_map.1 hn
    obtain ⟨a1, a2, a3, a4⟩ := w2 m hm
    refine ⟨a1, a2, fun x hx => ?_, by simpa [shiftNd] using a4⟩
    obtain ⟨k, hk, rfl⟩ := List.mem_map.1 (show x ∈ m.kids.map (fun k => (ns.length : Int) + k) from hx)
    have h3 := (validG_bounds hw).2 m hm
    have h4 := h3.2 k hk
    have h5 := hv.few
    constructor <;> omega

theorem RowN.capJ {w : World} {base : Nat} {A : Option Addr} {c : Nat} {ns : List Nd} (h : RowN w base A c ns) : ns.length ≤ c := by
  obtain ⟨cs, h1, _⟩ := h.row
  rcases h1.2 with ⟨_, h2⟩ | ⟨g, cap, cur, hv, _, _, hle, _⟩
  · omega
  · injection hv with _ _ hv
    omega

end Go.Proofs.Ytcblcmdfeoijpaa
