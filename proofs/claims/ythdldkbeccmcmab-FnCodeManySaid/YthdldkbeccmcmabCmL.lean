/-
  Codes of several roots begin alike. Mathematics only.
-/
import Derived.Test.YthdldkbeccmcmabCmM
import Derived.Test.YthdldkbeccmcmabCodG
namespace Go.Proofs.Ythdldkbeccmcmab
open Go.RowKit Go.Maps
set_option linter.unusedVariables false

theorem codL_grows {ns : List Nd} (f : Nat) : ∀ (xs : List Int) (p : CM), ∃ l, (codL ns f xs p).1 = p.1 ++ l
  | [], p => ⟨[], by rw [codL_nil]; simp⟩
  | x :: xs, p => by
    obtain ⟨l1, h1⟩ := cod_grows (ns := ns) f x p
    obtain ⟨l2, h2⟩ := codL_grows f xs (cod ns f x p)
    exact ⟨l1 ++ l2, by show (codL ns f xs (cod ns f x p)).1 = _; rw [h2, h1, List.append_assoc]⟩

theorem codes_take (ns : List Nd) (rs : List Int) (k : Nat) : ∃ l, codesOf ns rs = codesOf ns (rs.take k) ++ l := by
  obtain ⟨l, hl⟩ := codL_grows (ns := ns) (ns.length + 1) (rs.drop k) (codL ns (ns.length + 1) (rs.take k) ([], []))
  refine ⟨l, ?_⟩
  unfold codesOf
  rw [← hl]
  unfold codL
  rw [← List.foldl_append, List.take_append_drop]

theorem ValidG.at_ {ns : List Nd} {r : Int} (h : ValidG ns r) {x : Int} (h0 : 0 ≤ x) (h1 : x < ns.length) : ValidG ns x := ⟨h.one, h.few, h0, h1, h.nodes, h.tuples⟩

/-- what the law on codes of several roots asks for -/
structure CmFacts (ns : List Nd) (r : Int) (rs : List Int) (x : Int) : Prop where
  ok : RootsOk ns r rs
  valid : ValidG ns x
  one : ∃ l, codeMany ns r rs = codeOf ns x ++ l
  early : ∀ k, ∃ l, codeMany ns r rs = codeMany ns r (rs.take k) ++ l

theorem codeMany_facts {ns : List Nd} {r : Int} {rs : List Int} (h : codeMany ns r rs ≠ []) : ∃ x xs, rs = x :: xs ∧ CmFacts ns r rs x := by
  have hok : RootsOk ns r rs := by
    refine Classical.byContradiction fun hn => ?_
    rw [codeMany_no hn] at h
    exact h rfl
  have hcm := codeMany_ok hok
  cases rs with
  | nil => rw [hcm] at h; exact absurd rfl h
  | cons x xs =>
    have hx := hok.2.2 x (by simp)
    have hv := hok.1.at_ hx.1 hx.2
    refine ⟨x, xs, rfl, hok, hv, ?_, fun k => ?_⟩
    · obtain ⟨l, hl⟩ := codes_take ns (x :: xs) 1
      refine ⟨l, ?_⟩
      rw [hcm, hl]
      congr 1
      unfold codeOf codesOf
      rw [if_pos hv]
      rfl
    · obtain ⟨l, hl⟩ := codes_take ns (x :: xs) k
      refine ⟨l, ?_⟩
      rw [hcm, hl, codeMany_ok ⟨hok.1, Nat.le_trans (List.length_take_le' _ _) hok.2.1, fun y hy => hok.2.2 y (List.mem_of_mem_take hy)⟩]

end Go.Proofs.Ythdldkbeccmcmab
