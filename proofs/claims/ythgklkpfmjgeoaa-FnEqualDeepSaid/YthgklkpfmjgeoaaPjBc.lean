/-
  Lemmas, several texts in one: MrgN, ShcN, HerI.
-/
import Derived.Test.YthgklkpfmjgeoaaPjAu
import Derived.Test.YthgklkpfmjgeoaaPjAo
import Derived.Test.YthgklkpfmjgeoaaPjAz
import Derived.Test.YthgklkpfmjgeoaaPjAl
import Derived.Test.YthgklkpfmjgeoaaPjAa
import Derived.IntWalk
import Derived.Deep.Cut
import Derived.Deep.QuietTactic
import Derived.BigQuiet
namespace Go.Proofs.Ythgklkpfmjgeoaa
open Go.RowKit
set_option linter.unusedVariables false

theorem replNs_smallN {ns : List Nd} {r : Int} (h : ValidG ns r) (cl : List Int) : SmallN (replNs ns cl) := by
  have hf := h.few
  refine ⟨by rw [replNs_len]; omega, fun n hn => ?_⟩
  obtain ⟨m, hm, rfl⟩ := List.mem_map.1 hn
  have := (h.nodes m hm).few
  simp [replNd]
  omega

theorem mrgN_smallN (ns : List Nd) (r : Int) : SmallN (mrgN ns r) := by
  by_cases h : ValidG ns r
  · rw [mrgN_yes h]; exact replNs_smallN h _
  · rw [mrgN_no h]; exact ⟨by simp, fun n hn => by simp at hn⟩

theorem mrgN_wf {ns : List Nd} (r : Int) (hw : WfN ns) : WfN (mrgN ns r) := by
  by_cases h : ValidG ns r
  · rw [mrgN_yes h]
    intro n hn
    obtain ⟨m, hm, rfl⟩ := List.mem_map.1 hn
    obtain ⟨a1, a2, a3, a4⟩ := hw m hm
    refine ⟨a1, a2, fun x hx => ?_, by simpa [replNd] using a4⟩
    obtain ⟨k, hk, rfl⟩ := List.mem_map.1 (show x ∈ m.kids.map (look (txtCl ns)) from hx)
    have h2 := (h.nodes m hm).inn k hk
    exact txtCl_64 (by have := h.few; omega) _ (look_mem h2.1 (by rw [txtCl_len]; omega))
  · rw [mrgN_no h]
    intro n hn
    simp at hn

end Go.Proofs.Ythgklkpfmjgeoaa

namespace Go.Proofs.Ythgklkpfmjgeoaa
open Go.RowKit
set_option linter.unusedVariables false

theorem rootNd_mem {ns : List Nd} {r : Int} (hv : ValidG ns r) : rootNd ns r ∈ ns := by
  obtain ⟨i, rfl⟩ := Int.eq_ofNat_of_zero_le hv.root0
  have hi : i < ns.length := by have := hv.root; omega
  rw [rootNd_at (List.getElem?_eq_getElem hi)]
  exact List.getElem_mem hi

theorem shalN_smallN (ns : List Nd) (r : Int) : SmallN (shalN ns r) := by
  by_cases h : ValidG ns r ∧ ns.length ≠ 12
  · rw [shalN_yes h.1 h.2]
    have hf := h.1.few
    refine ⟨by simp; omega, fun n hn => ?_⟩
    have hm : n ∈ ns := by
      rcases List.mem_append.1 hn with h2 | h2
      · exact h2
      · rw [List.mem_singleton.1 h2]
        exact rootNd_mem h.1
    have := (h.1.nodes n hm).few
    omega
  · rw [shalN_no h]
    exact ⟨by simp, fun n hn => by simp at hn⟩

theorem shalN_wf {ns : List Nd} (r : Int) (hw : WfN ns) : WfN (shalN ns r) := by
  by_cases h : ValidG ns r ∧ ns.length ≠ 12
  · rw [shalN_yes h.1 h.2]
    intro n hn
    refine hw n ?_
    rcases List.mem_append.1 hn with h2 | h2
    · exact h2
    · rw [List.mem_singleton.1 h2]
      exact rootNd_mem h.1
  · rw [shalN_no h]
    exact fun n hn => by simp at hn

end Go.Proofs.Ythgklkpfmjgeoaa

namespace Go.Proofs.Ythgklkpfmjgeoaa
open Go.RowKit Go.Maps
set_option linter.unusedVariables false

set_option maxHeartbeats 1000000 in
theorem haveEqualRoots_any (A B C : Option Addr) (nl ml ca cb cc : Nat) (r s : Int) (cls : List Int) (w : World) (hC : IntsAt w w.heap.size C cls) (hr0 : 0 ≤ r) (hr1 : r < cls.length) (hs0 : 0 ≤ s) (hs1 : nl + s < cls.length) (hl : cls.length ≤ 1000) :
    Calls Try.prog 14 #[.agg #[.slice A nl ca, .int .i64 r], .agg #[.slice B ml cb, .int .i64 s], .slice C cls.length cc] w fun e w' => e = .returned (.bool (decide (look cls r = look cls ((nl : Int) + s)))) ∧ Below w.heap.size w w' := by
  obtain ⟨i, rfl⟩ := Int.eq_ofNat_of_zero_le hr0
  obtain ⟨j, rfl⟩ := Int.eq_ofNat_of_zero_le hs0
  obtain ⟨b, off, x, rfl, hbl, hx, _, cx⟩ := hC.at_ (k := i) (by omega)
  obtain ⟨b2, off2, y, hb2, _, hy, _, cy⟩ := hC.at_ (k := nl + j) (by omega)
  injection hb2 with hb2
  injection hb2 with e1 e2 _
  subst e1
  subst e2
  have hB2 : Below w.heap.size w ((w.alloc (.cells #[.slice A nl ca, .int .i64 (i : Int)] 25)).alloc (.cells #[.slice B ml cb, .int .i64 (j : Int)] 25)) := ((Below.refl _ _).alloc (Nat.le_refl _) _).alloc (by simp) _
  have lA := (Lies.new w #[.slice A nl ca, .int .i64 (i : Int)] 25).alloc (.cells #[.slice B ml cb, .int .i64 (j : Int)] 25)
  have lB := Lies.new (w.alloc (.cells #[.slice A nl ca, .int .i64 (i : Int)] 25)) #[.slice B ml cb, .int .i64 (j : Int)] 25
  simp only [World.size_alloc] at lB
  have hx2 : look cls (i : Int) = x := look_at hx
  have hy2 : look cls ((nl : Int) + (j : Int)) = y := by
    have := look_at hy
    rwa [Int.natCast_add] at this
  have cx := (hB2.cell (p := ⟨b, off + i, none⟩) hbl).trans cx
  have cy := (hB2.cell (p := ⟨b, off + (nl + j), none⟩) hbl).trans cy
  have H1 := hide hx2
  have H2 := hide hy2
  clear hC hx hy hx2 hy2
  go_enter Try.func14, Try.ntmps14
  go_upto_region 1 with fail
  generalize (w.alloc (.cells #[.slice A nl ca, .int .i64 (i : Int)] 25)).alloc (.cells #[.slice B ml cb, .int .i64 (j : Int)] 25) = W at hB2 lA lB cx cy ⊢
  have e0 := lA.cell 0
  have e1 := lA.cell 1
  have d1 := lB.cell 1
  simp only [List.getElem?_toArray, List.getElem?_cons_zero, List.getElem?_cons_succ] at e0 e1 d1
  have HB := hide hB2
  have q1 : (0 : Int) ≤ (i : Int) := by omega
  have q2 : (i : Int) < (cls.length : Int) := by omega
  have q3 : (0 : Int) ≤ (nl : Int) + (j : Int) := by omega
  have q4 : (nl : Int) + (j : Int) < (cls.length : Int) := by omega
  have q5 : IntKind.i64.wrap ((nl : Int) + (j : Int)) = (nl : Int) + (j : Int) := by rw [IntKind.wrap_i64]; omega
  have q6 : ((nl : Int) + (j : Int)).toNat = nl + j := by omega
  clear lA lB hB2
  go_quiet (fail)
  go_wp2
  go_ret
  exact ⟨ret_bool (by rw [H1.out, H2.out]; first | rfl | simp), below_drewN HB.out _⟩

end Go.Proofs.Ythgklkpfmjgeoaa
