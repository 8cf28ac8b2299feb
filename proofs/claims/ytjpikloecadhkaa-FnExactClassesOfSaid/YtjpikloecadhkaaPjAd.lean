/-
  Lemmas, several texts in one: InfoI, ClsO, EqI, SzI.
-/
import Derived.Test.YtjpikloecadhkaaMem
import Derived.Test.YtjpikloecadhkaaEqvM
import Derived.Test.YtjpikloecadhkaaSpecE
namespace Go.Proofs.Ytjpikloecadhkaa

theorem infoInt : (Try.prog.info? 3).map (fun i => (i.zero, i.size, i.bytes)) = some (some (.int .i64 0), 1, 8) := by kernel_rfl

end Go.Proofs.Ytjpikloecadhkaa

namespace Go.Proofs.Ytjpikloecadhkaa
open Go.RowKit Go.Maps
set_option linter.unusedVariables false

open Classical in
/-- the class of each node of a valid graph; nothing for another one -/
noncomputable def clsOf (ns : List Nd) (r : Int) : List Int := if ValidG ns r then clsN ns ns.length else []
theorem cls_yes {ns : List Nd} {r : Int} (h : ValidG ns r) : clsOf ns r = clsN ns ns.length := by unfold clsOf; rw [if_pos h]
theorem cls_no {ns : List Nd} {r : Int} (h : ¬ ValidG ns r) : clsOf ns r = [] := by unfold clsOf; rw [if_neg h]
theorem validG_kids {ns : List Nd} {r : Int} (h : ValidG ns r) : KidsIn ns := fun n hn => (h.nodes n hn).inn
theorem clsOf_few {ns : List Nd} {r : Int} : (clsOf ns r).length ≤ 12 := by
  by_cases h : ValidG ns r
  · rw [cls_yes h, clsN_len]; exact h.few
  · rw [cls_no h]; simp
theorem clsOf_64 {ns : List Nd} {r : Int} : ∀ x ∈ clsOf ns r, In64 x := by
  by_cases h : ValidG ns r
  · rw [cls_yes h]
    intro x hx
    have := clsN_in ns _ x hx
    have := h.few
    constructor <;> omega
  · rw [cls_no h]; simp

end Go.Proofs.Ytjpikloecadhkaa

namespace Go.Proofs.Ytjpikloecadhkaa

theorem eq_of_prefix {α : Type} [DecidableEq α] {xs ys : List α} (h : xs.length = ys.length) {k : Nat} (hk : k = xs.length) (he : ∀ j, j < k → xs[j]? = ys[j]?) : xs = ys := by
  apply List.ext_getElem?
  intro j
  by_cases hj : j < k
  · exact he j hj
  · rw [List.getElem?_eq_none (by omega), List.getElem?_eq_none (by omega)]

end Go.Proofs.Ytjpikloecadhkaa

namespace Go.Proofs.Ytjpikloecadhkaa

/-- what szIntS counts -/
def szI (n : Nat) (left : Int) : Int := if left - n < 0 then -1 else left - n

theorem szI_le (n : Nat) (left : Int) (h1 : left ≤ 1048576) (h0 : 0 ≤ left) : szI n left ≤ left ∧ -1 ≤ szI n left := by
  unfold szI; split <;> omega

end Go.Proofs.Ytjpikloecadhkaa
