/-
  Lemmas, several texts in one: ShcM, LsqM, TwnM, CdwM.
-/
import Derived.Test.YthgklkpfmjgeoaaPjAj
import Derived.Test.YthgklkpfmjgeoaaPjAo
import Derived.Test.YthgklkpfmjgeoaaPjAf
import Derived.Test.YthgklkpfmjgeoaaPjAt
import Derived.Test.YthgklkpfmjgeoaaPjAx
import Derived.Test.YthgklkpfmjgeoaaPjAw
import Derived.Test.YthgklkpfmjgeoaaPjAv
namespace Go.Proofs.Ythgklkpfmjgeoaa
open Go.RowKit
set_option linter.unusedVariables false

/-- the root's node once more behind the others -/
def rootNd (ns : List Nd) (r : Int) : Nd := (ns[r.toNat]?).getD ⟨0, 0, []⟩
theorem rootNd_at {ns : List Nd} {i : Nat} {n : Nd} (h : ns[i]? = some n) : rootNd ns (i : Int) = n := by
  unfold rootNd
  rw [Int.toNat_natCast, h]
  rfl

open Classical in
noncomputable def shalN (ns : List Nd) (r : Int) : List Nd := if ValidG ns r ∧ ns.length ≠ 12 then ns ++ [rootNd ns r] else []
open Classical in
noncomputable def shalR (ns : List Nd) (r : Int) : Int := if ValidG ns r ∧ ns.length ≠ 12 then (ns.length : Int) else 0

theorem shalN_yes {ns : List Nd} {r : Int} (h : ValidG ns r) (h2 : ns.length ≠ 12) : shalN ns r = ns ++ [rootNd ns r] := if_pos ⟨h, h2⟩
theorem shalR_yes {ns : List Nd} {r : Int} (h : ValidG ns r) (h2 : ns.length ≠ 12) : shalR ns r = ns.length := if_pos ⟨h, h2⟩
theorem shalN_no {ns : List Nd} {r : Int} (h : ¬ (ValidG ns r ∧ ns.length ≠ 12)) : shalN ns r = [] := if_neg h
theorem shalR_no {ns : List Nd} {r : Int} (h : ¬ (ValidG ns r ∧ ns.length ≠ 12)) : shalR ns r = 0 := if_neg h

end Go.Proofs.Ythgklkpfmjgeoaa

namespace Go.Proofs.Ythgklkpfmjgeoaa
open Go.RowKit
set_option linter.unusedVariables false

theorem nodup_sub_len : ∀ (a b : List Int), a.Nodup → (∀ x ∈ a, x ∈ b) → a.length ≤ b.length
  | [], _, _, _ => Nat.zero_le _
  | x :: a, b, hd, hs => by
    have hx := hs x (by simp)
    have hn := List.nodup_cons.1 hd
    have h1 := nodup_sub_len a (b.erase x) hn.2 (fun y hy => by
      have hne : y ≠ x := fun e => hn.1 (by rw [← e]; exact hy)
      exact (List.mem_erase_of_ne hne).2 (hs y (by simp [hy])))
    have h2 := List.length_erase_of_mem hx
    have h3 : 0 < b.length := List.length_pos_of_mem hx
    rw [List.length_cons]
    omega

/-- the numbers from 0 on -/
def idNums (n : Nat) : List Int := (List.range n).map fun (i : Nat) => (i : Int)
theorem idNums_len (n : Nat) : (idNums n).length = n := by simp [idNums]
theorem idNums_at {n k : Nat} (h : k < n) : (idNums n)[k]? = some (k : Int) := by
  unfold idNums
  rw [List.getElem?_map, List.getElem?_range h]
  rfl
theorem idNums_64 {n : Nat} (h : n ≤ 1000) : ∀ x ∈ idNums n, In64 x := by
  intro x hx
  obtain ⟨i, hi, rfl⟩ := List.mem_map.1 hx
  have := List.mem_range.1 hi
  constructor <;> omega
theorem look_id {n : Nat} {x : Int} (h0 : 0 ≤ x) (h1 : x < n) : look (idNums n) x = x := by
  obtain ⟨i, rfl⟩ := Int.eq_ofNat_of_zero_le h0
  exact look_at (idNums_at (by omega))
theorem repl_id {ns : List Nd} (hk : KidsIn ns) : replNs ns (idNums ns.length) = ns := by
  unfold replNs
  conv => rhs; rw [← List.map_id ns]
  apply List.map_congr_left
  intro n hn
  unfold replNd
  have : n.kids.map (look (idNums ns.length)) = n.kids := by
    conv => rhs; rw [← List.map_id n.kids]
    apply List.map_congr_left
    intro x hx
    have := hk n hn x hx
    exact look_id this.1 this.2
  rw [this]
  rfl

/-- all that the laws ask of the least graph, of one that is found valid -/
theorem least_facts {ns : List Nd} {r : Int} (hv : ValidG ns r) :
    ValidG (lstN ns r) 0 ∧ EqDeepG (lstN ns r) 0 ns r ∧ clsN (lstN ns r) (lstN ns r).length = idNums (lstN ns r).length ∧ lstN (lstN ns r) 0 = lstN ns r ∧ (lstN ns r).length ≤ (reachOf ns r).length ∧ 0 < (lstN ns r).length := by
  have hk := validG_kids hv
  have hc := cong_cls hk
  have hg := least_valid hv
  rw [lstN_yes hv]
  generalize hcl : clsN ns ns.length = cl at hc hg ⊢
  have hvo := pruned_valid hg
  have hR := reachOf_reached hg
  have hstay := repl_reached hv hc hR
  have hp := reach_pickable hg
  have hiso := iso_pick hp
  have hrp := reach_place hg
  have hpy := pruned_yes hg
  have hlen := pruned_len hg
  have hag := pruned_again hg
  have hpos : 0 < (prunedOf (replNs ns cl) (look cl r)).length := by rw [hlen]; exact reachOf_some hg
  -- each reached node is equal to the one of its place
  have heq : ∀ (j : Nat) (x : Int), (reachOf (replNs ns cl) (look cl r))[j]? = some x → EqqAll (prunedOf (replNs ns cl) (look cl r)) ns (j : Int) x := by
    intro j x hj
    have hm := List.mem_of_getElem? hj
    obtain ⟨⟨x0, x1⟩, hs⟩ := hstay x hm
    have h1 := (hiso.eqAll hm).symm
    rw [place_get hp.nodup hj, ← hpy] at h1
    have h2 := repl_eqAll hk hc x0 x1
    rw [hs] at h2
    exact h1.trans h2
  have hcls : clsN (prunedOf (replNs ns cl) (look cl r)) (prunedOf (replNs ns cl) (look cl r)).length = idNums (prunedOf (replNs ns cl) (look cl r)).length := by
    apply List.ext_getElem?
    intro i
    by_cases hi : i < (prunedOf (replNs ns cl) (look cl r)).length
    · rw [idNums_at hi]
      obtain ⟨j, g1, g2, g3⟩ := cls_self (ns := prunedOf (replNs ns cl) (look cl r)) (prunedOf (replNs ns cl) (look cl r)).length hi
      rw [g1]
      have hji : j < (prunedOf (replNs ns cl) (look cl r)).length := by omega
      have e1 := (cls_all_iff (validG_kids hvo) (x := (i : Int)) (y := (j : Int)) (by omega) (by omega) (by omega) (by omega)).1 (by rw [look_at g1, look_at g3])
      have hil : i < (reachOf (replNs ns cl) (look cl r)).length := by omega
      have hjl : j < (reachOf (replNs ns cl) (look cl r)).length := by omega
      have a1 := List.getElem?_eq_getElem hil
      have a2 := List.getElem?_eq_getElem hjl
      have e2 := (heq i _ a1).symm.trans (e1.trans (heq j _ a2))
      obtain ⟨⟨x0, x1⟩, hs1⟩ := hstay _ (List.getElem_mem hil)
      obtain ⟨⟨y0, y1⟩, hs2⟩ := hstay _ (List.getElem_mem hjl)
      have e3 := (cls_all_iff hk x0 x1 y0 y1).2 e2
      rw [hcl, hs1, hs2] at e3
      have := (List.getElem_inj hp.nodup).1 e3
      subst this
      rfl
    · rw [List.getElem?_eq_none (by rw [clsN_len]; omega), List.getElem?_eq_none (by rw [idNums_len]; omega)]
  refine ⟨hvo, (eqDeep_iff hvo hv).2 ?_, hcls, ?_, ?_, hpos⟩
  · have hm : look cl r ∈ reachOf (replNs ns cl) (look cl r) := hp.root
    have h1 := (hiso.eqAll hm).symm
    rw [hrp, ← hpy] at h1
    exact h1.trans (repl_eqAll hk hc hv.root0 hv.root)
  · rw [lstN_yes hvo, hcls, repl_id (validG_kids hvo), look_id (Int.le_refl 0) (by omega)]
    exact hag
  · rw [hlen]
    have hsub : ∀ x ∈ reachOf (replNs ns cl) (look cl r), x ∈ (reachOf ns r).map (look cl) := by
      have hRn := reachOf_reached hv
      have key : ∀ (k : Nat) (x : Int), (reachOf (replNs ns cl) (look cl r))[k]? = some x → x ∈ (reachOf ns r).map (look cl) := by
        intro k
        induction k using Nat.strongRecOn with
        | _ k ih =>
          intro x hx
          rcases Nat.eq_zero_or_pos k with h0 | h0
          · subst h0
            rw [hR.ord.first x hx]
            exact List.mem_map_of_mem (by
              have := reach_pickable hv
              exact this.root)
          · obtain ⟨m, y, hm, hy, hin⟩ := hR.ord.later k x h0 hx
            obtain ⟨z, hz, ez⟩ := List.mem_map.1 (ih m hm y hy)
            have hzr := hRn.met.range z hz
            obtain ⟨⟨y0, y1⟩, hys⟩ := hstay y (List.mem_of_getElem? hy)
            obtain ⟨a, n, rfl, hn⟩ := nd_of y0 y1
            obtain ⟨b, q, rfl, hq⟩ := nd_of hzr.1 hzr.2
            rw [kidsOf_repl hn] at hin
            obtain ⟨u, hu, rfl⟩ := List.mem_map.1 hin
            obtain ⟨v, hvm, ev⟩ := sig_kid (hc.same a b n q hn hq (by rw [hys, ez])) hu
            rw [← ev]
            exact List.mem_map_of_mem (hRn.closed (b : Int) hz v (by rw [kidsOf_at hq]; exact hvm))
      intro x hx
      obtain ⟨k, hk2, e⟩ := List.getElem_of_mem hx
      exact key k x (by rw [List.getElem?_eq_getElem hk2, e])
    have := nodup_sub_len _ _ hp.nodup hsub
    simpa using this

end Go.Proofs.Ythgklkpfmjgeoaa

namespace Go.Proofs.Ythgklkpfmjgeoaa
open Go.RowKit
set_option linter.unusedVariables false

/-- no two nodes are equal -/
def NoTwins (ns : List Nd) : Prop := ∀ x y : Int, 0 ≤ x → x < ns.length → 0 ≤ y → y < ns.length → EqqAll ns ns x y → x = y

theorem least_twins {ns : List Nd} {r : Int} (hv : ValidG ns r) : NoTwins (lstN ns r) := by
  obtain ⟨h1, _, h3, _⟩ := least_facts hv
  intro x y x0 x1 y0 y1 h
  have h4 := (cls_all_iff (validG_kids h1) x0 x1 y0 y1).2 h
  rw [h3, look_id x0 x1, look_id y0 y1] at h4
  exact h4

theorem EqqAll.kids {ns ms : List Nd} {i j : Nat} {n m : Nd} (hn : ns[i]? = some n) (hm : ms[j]? = some m) (h : EqqAll ns ms (i : Int) (j : Int)) : Alike n m ∧ ∀ (p : Nat) (a b : Int), n.kids[p]? = some a → m.kids[p]? = some b → EqqAll ns ms a b :=
  ⟨((eqq_step hn hm 0).1 (h 1)).1, fun p a b ha hb d => ((eqq_step hn hm d).1 (h (d + 1))).2 p a b ha hb⟩

open Classical in
/-- the node that is equal -/
noncomputable def twin (ns ms : List Nd) (x : Int) : Int := if h : ∃ y : Int, (0 ≤ y ∧ y < ms.length) ∧ EqqAll ns ms x y then h.choose else 0

theorem twin_ok {ns ms : List Nd} {x : Int} (h : ∃ y : Int, (0 ≤ y ∧ y < ms.length) ∧ EqqAll ns ms x y) : (0 ≤ twin ns ms x ∧ twin ns ms x < ms.length) ∧ EqqAll ns ms x (twin ns ms x) := by
  unfold twin
  rw [dif_pos h]
  exact h.choose_spec

theorem twin_is {ns ms : List Nd} (ht : NoTwins ms) {x y : Int} (h0 : 0 ≤ y) (h1 : y < ms.length) (h : EqqAll ns ms x y) : twin ns ms x = y := by
  have h2 := twin_ok ⟨y, ⟨h0, h1⟩, h⟩
  exact ht _ _ h2.1.1 h2.1.2 h0 h1 (h2.2.symm.trans h)

theorem twin_iso {ns ms : List Nd} (hk : KidsIn ns) (hl : KidsIn ms) (hs : NoTwins ns) (ht : NoTwins ms) : Iso ns ms (fun x => (0 ≤ x ∧ x < ns.length) ∧ ∃ y : Int, (0 ≤ y ∧ y < ms.length) ∧ EqqAll ns ms x y) (twin ns ms) := by
  refine ⟨fun x h => h.1, fun x h => (twin_ok h.2).1, fun x y hx hy e => ?_, fun i n hD hn => ?_, fun i n hD hn k hkm => ?_⟩
  · have h1 := (twin_ok hx.2).2
    have h2 := (twin_ok hy.2).2
    rw [← e] at h2
    exact hs x y hx.1.1 hx.1.2 hy.1.1 hy.1.2 (h1.trans h2.symm)
  · have h1 := twin_ok hD.2
    obtain ⟨j, m, hj, hm⟩ := in_at h1.1
    rw [hj] at h1 ⊢
    obtain ⟨ha, hq⟩ := EqqAll.kids hn hm h1.2
    obtain ⟨a1, a2, a3⟩ := ha
    rw [Int.toNat_natCast, hm]
    obtain ⟨mk, mv, mks⟩ := m
    simp only at a1 a2 a3 hq ⊢
    rw [a1, a2]
    refine congrArg some (congrArg (Nd.mk mk mv) ?_)
    apply List.ext_getElem?
    intro p
    rw [List.getElem?_map]
    cases hp : n.kids[p]? with
    | none =>
      have hpl := List.getElem?_eq_none_iff.1 hp
      rw [List.getElem?_eq_none (show mks.length ≤ p by omega)]
      rfl
    | some a =>
      have hpl := (List.getElem?_eq_some_iff.1 hp).1
      have hp2 : mks[p]? = some mks[p] := List.getElem?_eq_getElem (by omega)
      have hb := hl _ (List.mem_of_getElem? hm) mks[p] (List.getElem_mem _)
      rw [hp2]
      simp only [Option.map_some]
      rw [twin_is ht hb.1 hb.2 (hq p a _ hp hp2)]
  · have h1 := twin_ok hD.2
    obtain ⟨j, m, hj, hm⟩ := in_at h1.1
    rw [hj] at h1
    obtain ⟨ha, hq⟩ := EqqAll.kids hn hm h1.2
    obtain ⟨p, hp⟩ := List.getElem?_of_mem hkm
    have hpl := (List.getElem?_eq_some_iff.1 hp).1
    have hml : p < m.kids.length := by have := ha.2.2; omega
    have hp2 : m.kids[p]? = some m.kids[p] := List.getElem?_eq_getElem hml
    exact ⟨hk _ (List.mem_of_getElem? hn) k hkm, m.kids[p], hl _ (List.mem_of_getElem? hm) _ (List.getElem_mem _), hq p k _ hp hp2⟩

theorem twins_code {ns ms : List Nd} (hv : ValidG ns 0) (hw : ValidG ms 0) (hwn : Wf ns) (hwm : Wf ms) (hs : NoTwins ns) (ht : NoTwins ms) (h : EqqAll ns ms 0 0) : codeOf ns 0 = codeOf ms 0 := by
  have main : ∀ {ns ms : List Nd}, ValidG ns 0 → ValidG ms 0 → Wf ms → NoTwins ns → NoTwins ms → EqqAll ns ms 0 0 → ms.length ≤ ns.length → codeOf ns 0 = codeOf ms 0 := by
    intro ns ms hv hw hwm hs ht h hle
    have hi := twin_iso (validG_kids hv) (validG_kids hw) hs ht
    have h0 : twin ns ms 0 = 0 := twin_is ht hw.root0 hw.root h
    have hc := hi.code (r := 0) hv (by rw [h0]; exact hw) hwm ⟨⟨hv.root0, hv.root⟩, 0, ⟨hw.root0, hw.root⟩, h⟩ hle
    rw [h0] at hc
    unfold codeOf
    rw [if_pos hv, if_pos hw]
    exact hc.symm
  rcases Nat.le_total ms.length ns.length with hle | hle
  · exact main hv hw hwm hs ht h hle
  · exact (main hw hv hwn ht hs h.symm hle).symm

/-- equal graphs have the same least graph -/
theorem least_same {ns ms : List Nd} {r s : Int} (hv : ValidG ns r) (hw : ValidG ms s) (hwn : Wf (lstN ns r)) (hwm : Wf (lstN ms s)) (h : EqDeepG ns r ms s) : codeOf (lstN ns r) 0 = codeOf (lstN ms s) 0 := by
  obtain ⟨h1, h2, _⟩ := least_facts hv
  obtain ⟨g1, g2, _⟩ := least_facts hw
  have e1 := (eqDeep_iff h1 hv).1 h2
  have e2 := (eqDeep_iff g1 hw).1 g2
  exact twins_code h1 g1 hwn hwm (least_twins hv) (least_twins hw) ((e1.trans ((eqDeep_iff hv hw).1 h)).trans e2.symm)

end Go.Proofs.Ythgklkpfmjgeoaa

namespace Go.Proofs.Ythgklkpfmjgeoaa
open Go.RowKit
set_option linter.unusedVariables false

theorem least_decides {ns ms : List Nd} {r s : Int} (hv : ValidG ns r) (hw : ValidG ms s) (hwn : Wf (lstN ns r)) (hwm : Wf (lstN ms s)) : EqDeepG ns r ms s ↔ (ValidG (lstN ns r) 0 ∧ ValidG (lstN ms s) 0 ∧ codeOf (lstN ns r) 0 = codeOf (lstN ms s) 0) := by
  obtain ⟨h1, h2, _⟩ := least_facts hv
  obtain ⟨g1, g2, _⟩ := least_facts hw
  constructor
  · intro h
    exact ⟨h1, g1, least_same hv hw hwn hwm h⟩
  · rintro ⟨_, _, h⟩
    have e1 := (eqDeep_iff h1 hv).1 h2
    have e2 := (eqDeep_iff g1 hw).1 g2
    exact (eqDeep_iff hv hw).2 ((e1.symm.trans (code_eqq h1 g1 hwn hwm h)).trans e2)

theorem deep_symm {ns ms : List Nd} {r s : Int} : EqDeepG ns r ms s ↔ EqDeepG ms s ns r := by
  constructor
  · intro h
    exact (eqDeep_iff h.2.1 h.1).2 ((eqDeep_iff h.1 h.2.1).1 h).symm
  · intro h
    exact (eqDeep_iff h.2.1 h.1).2 ((eqDeep_iff h.1 h.2.1).1 h).symm

/-- the same graphs are equal -/
theorem same_deep {ns ms : List Nd} {r s : Int} (hv : ValidG ns r) (hw : ValidG ms s) (hwn : Wf ns) (hwm : Wf ms) (h : codeOf ns r = codeOf ms s) : EqDeepG ns r ms s :=
  (eqDeep_iff hv hw).2 (code_eqq hv hw hwn hwm h)

end Go.Proofs.Ythgklkpfmjgeoaa
