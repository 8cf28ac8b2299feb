/-
  The code of several roots: mathematics.
-/
import Derived.Test.YthdldkbeccmcmabCodM
namespace Go.Proofs.Ythdldkbeccmcmab
open Go.RowKit Go.Maps
set_option linter.unusedVariables false

/-- roots of a stream are nodes of a valid graph, at most five -/
def RootsOk (ns : List Nd) (r : Int) (rs : List Int) : Prop := ValidG ns r ∧ rs.length ≤ 5 ∧ ∀ x ∈ rs, 0 ≤ x ∧ x < ns.length

/-- the code of several roots, one after the other -/
def codesOf (ns : List Nd) (rs : List Int) : List Int := (codL ns (ns.length + 1) rs ([], [])).1

open Classical in
noncomputable def codeMany (ns : List Nd) (r : Int) (rs : List Int) : List Int := if RootsOk ns r rs then codesOf ns rs else []
theorem codeMany_ok {ns : List Nd} {r : Int} {rs : List Int} (h : RootsOk ns r rs) : codeMany ns r rs = codesOf ns rs := by unfold codeMany; rw [if_pos h]
theorem codeMany_no {ns : List Nd} {r : Int} {rs : List Int} (h : ¬ RootsOk ns r rs) : codeMany ns r rs = [] := by unfold codeMany; rw [if_neg h]

theorem codes_coded {ns : List Nd} {K : Nat} (hg : CodG ns K) (hl : ns.length ≤ 1048576) {rs : List Int} (hx : ∀ x ∈ rs, 0 ≤ x ∧ x < ns.length) : Coded ns K rs.length ([], []) (codL ns (ns.length + 1) rs ([], [])) :=
  codedAll ns K hg hl (ns.length + 1) rs ([], []) (CInv.start ns) hx (fun _ => by simp)
theorem codeMany_few {ns : List Nd} {r : Int} {rs : List Int} (hwf : Wf ns) : (codeMany ns r rs).length ≤ 300 := by
  by_cases h : RootsOk ns r rs
  · rw [codeMany_ok h]
    have hc := codes_coded (codG_of_valid h.1 hwf) (by have := h.1.few; omega) h.2.2
    have h1 := hc.len
    have h2 := hc.inv.met.len
    have := h.1.few
    have := h.2.1
    unfold codesOf
    simp at h1
    omega
  · rw [codeMany_no h]; simp
theorem codeMany_64 {ns : List Nd} {r : Int} {rs : List Int} (hwf : Wf ns) : ∀ x ∈ codeMany ns r rs, In64 x := by
  by_cases h : RootsOk ns r rs
  · rw [codeMany_ok h]
    exact (codes_coded (codG_of_valid h.1 hwf) (by have := h.1.few; omega) h.2.2).inv.wf
  · rw [codeMany_no h]; simp

end Go.Proofs.Ythdldkbeccmcmab
