/-
  Lemmas, several texts in one: Dif, RenM.
-/
import Derived.Test.YtigelbilfddhgabSetI
import Derived.Test.YtigelbilfddhgabPjAe
import Derived.Test.YtigelbilfddhgabPjAd
import Derived.Deep.LoopGhost
import Derived.Test.YtigelbilfddhgabPjAi
namespace Go.Proofs.Ytigelbilfddhgab
open Go.RowKit Go.Maps
set_option linter.unusedVariables false

/-- the memory of areDifferent: the set grows -/
structure DifS (w wr : World) (os : List Int) (m : Int) (k : Nat) : Prop where
  bel : Below w.heap.size w wr
  set : ∃ mp As cs, SetI wr w.heap.size (w.heap.size + 1) mp As cs (os.take k)
  size : w.heap.size + 1 ≤ wr.heap.size
  rng : ∀ x ∈ os.take k, 0 ≤ x ∧ x ≤ m
  nd : (os.take k).Nodup

theorem DifS.step {w wr w' : World} {os : List Int} {m : Int} {k : Nat} {x : Int} (h : DifS w wr os m k) (hx : os[k]? = some x) (hb : But (w.heap.size + 1) w.heap.size wr w') (hs : ∃ mp As cs, SetI w' w.heap.size (w.heap.size + 1) mp As cs (os.take k ++ [x]))
    (hr : 0 ≤ x ∧ x ≤ m) (hno : x ∉ os.take k) : DifS w w' os m (k + 1) := by
  have e : os.take (k + 1) = os.take k ++ [x] := by rw [List.take_add_one, hx]; rfl
  refine ⟨hb.below h.bel (Nat.le_refl _) (by omega), by rw [e]; exact hs, Nat.le_trans h.size hb.size, fun y hy => ?_, ?_⟩
  · rw [e] at hy
    rcases List.mem_append.1 hy with hy | hy
    · exact h.rng y hy
    · simp at hy; subst hy; exact hr
  · rw [e, List.nodup_append]
    exact ⟨h.nd, by simp, fun a ha b hb => by simp at hb; subst hb; intro e; subst e; exact hno ha⟩

set_option maxHeartbeats 1000000 in
theorem areDifferent_any (A : Option Addr) (os : List Int) (c : Nat) (m : Int) (w : World) (h : IntsAt w w.heap.size A os) (hl : os.length ≤ 1048576) :
    Calls Try.prog 28 #[.slice A os.length c, .int .i64 m] w fun e w' => e = .returned (.bool (tf (Diff os m))) ∧ Below w.heap.size w w' := by
  have hS0 : DifS w (w.alloc (.cells #[.map none, .slice none 0 0] 54)) os m 0 :=
    ⟨(Below.refl _ _).alloc (Nat.le_refl _) _, ⟨none, none, 0, SetI.start (Lies.new w _ _) (by omega)⟩, by simp, fun x hx => by simp at hx, by simp⟩
  have HS0 := hide hS0
  have H := hide h
  clear hS0 h
  go_enter Try.func28, Try.ntmps28
  go_wp2_with fail
  generalize w.alloc (.cells #[.map none, .slice none 0 0] 54) = W at HS0 ⊢
  go_loopg [10] os.length (fun gk iv wr => ∃ k : Nat, k ≤ os.length ∧ gk = os.length - k ∧ iv = .int .i64 (k : Int) ∧ DifS w wr os m k)
  case atStart => exact ⟨0, Nat.zero_le _, rfl, rfl, HS0.out⟩
  case round =>
    clear HS0
    obtain ⟨k, hk, rfl, rfl, hS⟩ := hrel
    by_cases hlt : k < os.length
    · obtain ⟨b, off, x, rfl, hbl, hx, hm, hc⟩ := (H.out.below hS.bel).at_ hlt
      obtain ⟨mp, As, cs, hset⟩ := hS.set
      have hx64 := hide (H.out.wf x hm)
      have HX := hide hx
      have HSet := hide hset
      have HS := hide hS
      have HM := hide hm
      have hq1 : (0 : Int) ≤ (k : Int) := by omega
      have hq2 : (k : Int) < (os.length : Int) := by omega
      clear hx hset hS hm hbl
      by_cases hr : 0 ≤ x ∧ x ≤ m
      · by_cases hin : x ∈ os.take k
        · have HF := hide (show tf (Diff os m) = false from tf_false (fun ho => by
            obtain ⟨j, hj, e⟩ := List.getElem_of_mem hin
            have hj2 : j < k ∧ j < os.length := by simp at hj; omega
            rw [List.getElem_take] at e
            obtain ⟨hk2, e2⟩ := List.getElem?_eq_some_iff.1 HX.out
            have := (List.getElem_inj ho.nd).1 (e.trans e2.symm)
            omega))
          have HIn := hide hin
          obtain ⟨hr1, hr2⟩ := hr
          clear hin
          go_wp2_with fail
          refine (isUpTo_yes x m wr hr1 hr2).mono ?_
          rintro e w' ⟨rfl, rfl⟩
          go_wp2_with fail
          refine (addI_seen _ _ mp As cs (os.take k) x _ HSet.out hx64.out HIn.out).mono ?_
          rintro e w' ⟨rfl, rfl⟩
          have HB := hide HS.out.bel
          clear HSet HS HIn
          go_wp2
          go_ret
          exact ⟨ret_bool HF.out.symm, HB.out⟩
        · have HNo := hide hin
          obtain ⟨hr1, hr2⟩ := hr
          clear hin
          go_wp2_with fail
          refine (isUpTo_yes x m wr hr1 hr2).mono ?_
          rintro e w' ⟨rfl, rfl⟩
          go_wp2_with fail
          refine (addI_new _ _ mp cs As (os.take k) x _ HSet.out hx64.out HS.out.size HNo.out (by simp; omega)).mono ?_
          rintro e w' ⟨rfl, hs', hbut⟩
          have HN := hide (HS.out.step HX.out hbut hs' ⟨hr1, hr2⟩ HNo.out)
          clear hs' hbut HSet HS HNo hc
          go_wp2
          go_roundg (os.length - (k + 1))
          case measure => omega
          case rel => exact ⟨k + 1, by omega, rfl, by go_num, HN.out⟩
      · have HF := hide (show tf (Diff os m) = false from tf_false (fun ho => hr (ho.rng x HM.out)))
        have HB := hide HS.out.bel
        clear HSet
        go_wp2_with fail
        refine (isUpTo_no x m wr (by omega)).mono ?_
        rintro e w' ⟨rfl, rfl⟩
        clear hr
        go_wp2
        go_ret
        exact ⟨ret_bool HF.out.symm, HB.out⟩
    · obtain rfl : k = os.length := by omega
      have HF := hide (show tf (Diff os m) = true from tf_true ⟨by have := hS.rng; rwa [List.take_length] at this, by have := hS.nd; rwa [List.take_length] at this⟩)
      have HB := hide hS.bel
      clear hS hlt
      go_wp2
      go_ret
      exact ⟨ret_bool HF.out.symm, HB.out⟩

end Go.Proofs.Ytigelbilfddhgab

namespace Go.Proofs.Ytigelbilfddhgab
open Go.RowKit
set_option linter.unusedVariables false

/-- a list that has each of n indices once -/
structure IsOrd (os : List Int) (n : Nat) : Prop where
  len : os.length = n
  rng : ∀ x ∈ os, 0 ≤ x ∧ x < n
  nd : os.Nodup

/-- the nodes by their new indices -/
def invOf (os : List Int) : List Int := (List.range os.length).map fun (j : Nat) => place os (j : Int)

theorem invOf_len (os : List Int) : (invOf os).length = os.length := by simp [invOf]
theorem invOf_at {os : List Int} {j : Nat} (h : j < os.length) : (invOf os)[j]? = some (place os (j : Int)) := by
  unfold invOf
  rw [List.getElem?_map, List.getElem?_range h]
  rfl

theorem IsOrd.onto {os : List Int} {n : Nat} (h : IsOrd os n) {j : Int} (h0 : 0 ≤ j) (h1 : j < n) : j ∈ os := by
  by_cases hm : j ∈ os
  · exact hm
  · exfalso
    have hup : ((List.range n).map fun (i : Nat) => (i : Int)).length = n := by simp
    have hjm : j ∈ (List.range n).map fun (i : Nat) => (i : Int) := by
      obtain ⟨i, rfl⟩ := Int.eq_ofNat_of_zero_le h0
      exact List.mem_map.2 ⟨i, List.mem_range.2 (by omega), rfl⟩
    have h2 := nodup_le_len os (((List.range n).map fun (i : Nat) => (i : Int)).erase j) h.nd (fun x hx => by
      have hx2 := h.rng x hx
      obtain ⟨i, rfl⟩ := Int.eq_ofNat_of_zero_le hx2.1
      exact (List.mem_erase_of_ne (fun e => hm (by rw [← e]; exact hx))).2 (List.mem_map.2 ⟨i, List.mem_range.2 (by omega), rfl⟩))
    have h3 := List.length_erase_of_mem hjm
    have h4 := h.len
    rw [hup] at h3
    omega

theorem IsOrd.inv {os : List Int} {n : Nat} (h : IsOrd os n) {i : Nat} {x : Int} (hi : os[i]? = some x) : (invOf os)[x.toNat]? = some (i : Int) := by
  have hx := h.rng x (List.mem_of_getElem? hi)
  obtain ⟨j, rfl⟩ := Int.eq_ofNat_of_zero_le hx.1
  rw [Int.toNat_natCast, invOf_at (by rw [h.len]; omega), place_get h.nd hi]

theorem IsOrd.inv_nodup {os : List Int} {n : Nat} (h : IsOrd os n) : (invOf os).Nodup := by
  rw [List.nodup_iff_pairwise_ne, List.pairwise_iff_getElem]
  intro i j hi hj hij e
  rw [invOf_len] at hi hj
  have e1 := invOf_at hi
  have e2 := invOf_at hj
  have hi2 : i < (invOf os).length := by rw [invOf_len]; exact hi
  have hj2 : j < (invOf os).length := by rw [invOf_len]; exact hj
  rw [List.getElem?_eq_getElem hi2] at e1
  rw [List.getElem?_eq_getElem hj2] at e2
  injection e1 with e1
  injection e2 with e2
  have m1 := h.onto (j := (i : Int)) (by omega) (by rw [← h.len]; omega)
  have m2 := h.onto (j := (j : Int)) (by omega) (by rw [← h.len]; omega)
  have := place_inj m1 m2 (e1.symm.trans (e.trans e2))
  omega

theorem IsOrd.place {os : List Int} {n : Nat} (h : IsOrd os n) {i : Nat} {x : Int} (hi : os[i]? = some x) : place (invOf os) (i : Int) = x := by
  have hx := h.rng x (List.mem_of_getElem? hi)
  obtain ⟨j, rfl⟩ := Int.eq_ofNat_of_zero_le hx.1
  have := h.inv hi
  rw [Int.toNat_natCast] at this
  exact place_get h.inv_nodup this

theorem IsOrd.mem {os : List Int} {n : Nat} (h : IsOrd os n) {i : Nat} (hi : i < n) : (i : Int) ∈ invOf os := by
  have hi2 : i < os.length := by rw [h.len]; exact hi
  exact List.mem_of_getElem? (h.inv (List.getElem?_eq_getElem hi2))

theorem IsOrd.pickable {ns : List Nd} {r : Int} {os : List Int} (hv : ValidG ns r) (h : IsOrd os ns.length) : Pickable ns r (invOf os) := by
  have hall : ∀ x : Int, 0 ≤ x → x < ns.length → x ∈ invOf os := by
    intro x h0 h1
    obtain ⟨i, rfl⟩ := Int.eq_ofNat_of_zero_le h0
    exact h.mem (by omega)
  refine ⟨h.inv_nodup, fun x hx => ?_, fun i n hi hn => ⟨?_, fun k hk => ?_⟩, hall r hv.root0 hv.root, by rw [invOf_len, h.len]; exact hv.few, hv.few⟩
  · obtain ⟨j, hj, rfl⟩ := List.mem_map.1 hx
    have hj2 := List.mem_range.1 hj
    have := place_lt (h.onto (j := (j : Int)) (by omega) (by rw [← h.len]; omega))
    rw [h.len] at this
    exact this
  · have := (hv.nodes n (List.mem_of_getElem? hn)).few
    omega
  · have := (hv.nodes n (List.mem_of_getElem? hn)).inn k hk
    exact hall k this.1 this.2

open Classical in
/-- the graph with new indices; none for other arguments -/
noncomputable def renNs (ns : List Nd) (r : Int) (os : List Int) : List Nd := if ValidG ns r ∧ IsOrd os ns.length then pickNs ns (invOf os) else []
open Classical in
noncomputable def renR (ns : List Nd) (r : Int) (os : List Int) : Int := if ValidG ns r ∧ IsOrd os ns.length then Go.Proofs.Ytigelbilfddhgab.place (invOf os) r else 0

end Go.Proofs.Ytigelbilfddhgab
