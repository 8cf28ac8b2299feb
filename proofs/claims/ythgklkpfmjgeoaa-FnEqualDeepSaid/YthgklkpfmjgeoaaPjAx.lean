/-
  Lemmas, several texts in one: PrM, ClaD, IsqM.
-/
import Derived.Test.YthgklkpfmjgeoaaPjAm
import Derived.Test.YthgklkpfmjgeoaaPjAw
import Derived.Test.YthgklkpfmjgeoaaPjAe
import Derived.Test.YthgklkpfmjgeoaaPjAp
import Derived.Test.YthgklkpfmjgeoaaPjAr
import Derived.Test.YthgklkpfmjgeoaaPjAo
namespace Go.Proofs.Ythgklkpfmjgeoaa
open Go.RowKit
set_option linter.unusedVariables false

theorem pruned_yes {ns : List Nd} {r : Int} (hv : ValidG ns r) : prunedOf ns r = pickNs ns (reachOf ns r) := by
  unfold prunedOf
  rw [if_pos hv]
theorem pruned_no {ns : List Nd} {r : Int} (hv : ¬ ValidG ns r) : prunedOf ns r = [] := by
  unfold prunedOf
  rw [if_neg hv]

/-- the pruned graph has the same code -/
theorem pruned_code {ns : List Nd} {r : Int} (hv : ValidG ns r) : codeOf (prunedOf ns r) 0 = codeOf ns r := by
  have h := pick_code hv (reach_pickable hv)
  rw [reach_place hv] at h
  rw [pruned_yes hv]
  exact h
theorem pruned_valid {ns : List Nd} {r : Int} (hv : ValidG ns r) : ValidG (prunedOf ns r) 0 := by
  have h := pick_valid hv (reach_pickable hv)
  rw [reach_place hv] at h
  rw [pruned_yes hv]
  exact h
theorem pruned_len {ns : List Nd} {r : Int} (hv : ValidG ns r) : (prunedOf ns r).length = (reachOf ns r).length := by
  rw [pruned_yes hv, pickNs_len]

theorem map_place_self {L : List Int} (hn : L.Nodup) : L.map (place L) = (List.range L.length).map (fun (i : Nat) => (i : Int)) := by
  apply List.ext_getElem?
  intro j
  rw [List.getElem?_map, List.getElem?_map]
  by_cases hj : j < L.length
  · rw [List.getElem?_eq_getElem hj, List.getElem?_range hj]
    simp only [Option.map_some, Option.some.injEq]
    exact place_get hn (List.getElem?_eq_getElem hj)
  · rw [List.getElem?_eq_none (by omega), List.getElem?_eq_none (by simpa using hj)]
    rfl

/-- all of the pruned graph is reached, in order -/
theorem pruned_reach {ns : List Nd} {r : Int} (hv : ValidG ns r) : reachOf (prunedOf ns r) 0 = (List.range (reachOf ns r).length).map (fun (i : Nat) => (i : Int)) := by
  have hp := reach_pickable hv
  have hR := reachOf_reached hv
  have hw := pruned_valid hv
  have hrch : ∀ y ∈ reachOf ns r, y ∈ reachOf ns r := fun y hy => hy
  rw [← map_place_self hR.met.nodup]
  have h := (dfs_iso (iso_pick hp) (ns.length + 1) r [] hp.root (fun y hy => by cases hy)).1
  rw [reach_place hv] at h
  have e1 : reachOf ns r = dfs ns anyB (ns.length + 1) r [] := by unfold reachOf; rw [if_pos hv]
  have e2 : reachOf (prunedOf ns r) 0 = dfs (prunedOf ns r) anyB ((prunedOf ns r).length + 1) 0 [] := by unfold reachOf; rw [if_pos hw]
  rw [e2]
  conv => rhs; arg 2; rw [e1]
  rw [← h, pruned_yes hv]
  have hle : (pickNs ns (reachOf ns r)).length ≤ ns.length := by rw [pickNs_len]; exact nodup_le _ _ hp.nodup hp.range
  obtain ⟨d, hd⟩ := Nat.exists_eq_add_of_le hle
  have hw2 := hw
  rw [pruned_yes hv] at hw2
  have := dfs_fuels (kidsIn_of_valid hw2) ((pickNs ns (reachOf ns r)).length + 1) 0 [] (Met.nil _) hw2.root0 hw2.root (by simp) d
  have e : (pickNs ns (reachOf ns r)).length + 1 + d = ns.length + 1 := by omega
  rw [e] at this
  exact this.symm

theorem place_range {m : Nat} {x : Int} (h0 : 0 ≤ x) (h1 : x < m) : place ((List.range m).map (fun (i : Nat) => (i : Int))) x = x := by
  obtain ⟨j, rfl⟩ := Int.eq_ofNat_of_zero_le h0
  refine place_get ?_ (j := j) (by rw [List.getElem?_map, List.getElem?_range (by omega)]; rfl)
  exact List.Pairwise.map _ (fun a b hab => by omega) (List.pairwise_lt_range (n := m) |>.imp (fun h => Nat.ne_of_lt h))

/-- pruned again it is the same -/
theorem pruned_again {ns : List Nd} {r : Int} (hv : ValidG ns r) : prunedOf (prunedOf ns r) 0 = prunedOf ns r := by
  have hw := pruned_valid hv
  rw [pruned_yes hw, pruned_reach hv, ← pruned_len hv]
  generalize prunedOf ns r = ms at hw
  apply List.ext_getElem?
  intro j
  unfold pickNs
  rw [List.getElem?_map, List.getElem?_map]
  by_cases hj : j < ms.length
  · rw [List.getElem?_range hj, List.getElem?_eq_getElem hj]
    simp only [Option.map_some, Option.some.injEq]
    rw [pickN_at (List.getElem?_eq_getElem hj)]
    have hok := hw.nodes _ (List.getElem_mem hj)
    generalize ms[j] = n at hok
    have e : n.kids.map (place ((List.range ms.length).map (fun (i : Nat) => (i : Int)))) = n.kids := by
      conv => rhs; rw [← List.map_id n.kids]
      apply List.map_congr_left
      intro k hk
      have := hok.inn k hk
      exact place_range this.1 this.2
    rw [e]
  · rw [List.getElem?_eq_none (by simpa using hj), List.getElem?_eq_none (by omega)]
    rfl

/-- the first numbers of a code -/
theorem code_first {ns : List Nd} {r : Int} (hv : ValidG ns r) : ∃ l, codeOf ns r = kindOf ns r :: valueOf ns r :: l := by
  unfold codeOf
  rw [if_pos hv, cod_new (by simp)]
  have key : ∀ (xs : List Int) (q : CM), ∃ l, (codL ns ns.length xs q).1 = q.1 ++ l := by
    intro xs
    induction xs with
    | nil => intro q; exact ⟨[], by simp [codL]⟩
    | cons a xs ih =>
      intro q
      obtain ⟨l1, h1⟩ := cod_grows (ns := ns) ns.length a q
      obtain ⟨l2, h2⟩ := ih (cod ns ns.length a q)
      refine ⟨l1 ++ l2, ?_⟩
      show (codL ns ns.length xs (cod ns ns.length a q)).1 = _
      rw [h2, h1, List.append_assoc]
  obtain ⟨l, h⟩ := key (kidsOf ns r) (codPut ns r ([], []))
  refine ⟨((kidsOf ns r).length : Int) :: l, ?_⟩
  rw [h]
  unfold codPut
  simp

end Go.Proofs.Ythgklkpfmjgeoaa

namespace Go.Proofs.Ythgklkpfmjgeoaa
open Go.RowKit Go.Maps
set_option linter.unusedVariables false

set_option maxHeartbeats 1000000 in
theorem deepClasses_any (A : Option Addr) (ns : List Nd) (c : Nat) (w : World) (hr : NdsAt w w.heap.size A ns) (hK : KidsIn ns) (hn : ns.length ≤ 1000) (hc : ns.length ≤ c) :
    Calls Try.prog 12 #[.slice A ns.length c] w (GivesInts w (clsN ns ns.length)) := by
  have HC := hide (classesUpTo_any A ns c ns.length w hr hK hn hn hc)
  clear hr hK
  generalize clsN ns ns.length = R at HC ⊢
  go_enter Try.func12, Try.ntmps12
  go_wp2_with fail
  refine HC.out.mono ?_
  rintro e w2 ⟨Ag, cg, rfl, ho, hb⟩
  have H := hide (And.intro ho hb)
  clear ho hb
  go_wp2
  go_ret
  exact ⟨Ag, cg, rfl, H.out.1, H.out.2⟩

end Go.Proofs.Ythgklkpfmjgeoaa

namespace Go.Proofs.Ythgklkpfmjgeoaa
open Go.RowKit
set_option linter.unusedVariables false

theorem Iso.eqq {ns ms : List Nd} {D : Int → Prop} {g : Int → Int} (h : Iso ns ms D g) : ∀ (d : Nat) (x : Int), D x → Eqq ns ms d x (g x)
  | 0, _, _ => trivial
  | d + 1, x, hx => by
    obtain ⟨i, n, rfl, h1, h2⟩ := h.get hx
    obtain ⟨g0, g1⟩ := h.rng _ hx
    obtain ⟨j, hj⟩ := Int.eq_ofNat_of_zero_le g0
    rw [hj, Int.toNat_natCast] at h2
    rw [hj]
    refine (eqq_step h1 h2 d).2 ⟨⟨rfl, rfl, by simp⟩, fun p a b ha hb => ?_⟩
    rw [List.getElem?_map, ha] at hb
    obtain rfl := Option.some.inj hb
    exact Iso.eqq h d a (h.closed i n hx h1 a (List.mem_of_getElem? ha))

theorem Iso.eqAll {ns ms : List Nd} {D : Int → Prop} {g : Int → Int} (h : Iso ns ms D g) {x : Int} (hx : D x) : EqqAll ns ms x (g x) := fun d => h.eqq d x hx

end Go.Proofs.Ythgklkpfmjgeoaa
