/-
  Lemmas, several texts in one: JoiM, ClsO, EqI, ToI.
-/
import Derived.Test.YtbpjoiccjpiknabOwnN
import Derived.Test.YtbpjoiccjpiknabEqvM
import Derived.Test.YtbpjoiccjpiknabSpecE
import Derived.Test.YtbpjoiccjpiknabMem
import Derived.Test.YtbpjoiccjpiknabPjAb
import Derived.Test.YtbpjoiccjpiknabPjAa
namespace Go.Proofs.Ytbpjoiccjpiknab
open Go.RowKit

/-- a node whose kids are counted from m on -/
def shiftNd (m : Nat) (n : Nd) : Nd := ⟨n.kind, n.value, n.kids.map (fun k => (m : Int) + k)⟩
def joinNs (ns ms : List Nd) : List Nd := ns ++ ms.map (shiftNd ns.length)

theorem joinNs_len (ns ms : List Nd) : (joinNs ns ms).length = ns.length + ms.length := by simp [joinNs]

end Go.Proofs.Ytbpjoiccjpiknab

namespace Go.Proofs.Ytbpjoiccjpiknab
open Go.RowKit Go.Maps
set_option linter.unusedVariables false

open Classical in
/-- the class of each node of a valid graph; nothing for another one -/
noncomputable def clsOf (ns : List Nd) (r : Int) : List Int := if ValidG ns r then clsN ns ns.length else []
theorem cls_yes {ns : List Nd} {r : Int} (h : ValidG ns r) : clsOf ns r = clsN ns ns.length := by unfold clsOf; rw [if_pos h]
theorem cls_no {ns : List Nd} {r : Int} (h : ¬ ValidG ns r) : clsOf ns r = [] := by unfold clsOf; rw [if_neg h]
theorem validG_kids {ns : List Nd} {r : Int} (h : ValidG ns r) : KidsIn ns := fun n hn => (h.nodes n hn).inn
theorem clsOf_few {ns : List Nd} {r : Int} : (clsOf ns r).length ≤ 12 := by
  by_cases h : ValidG ns r
  · rw [cls_yes h, clsN_len]; exact h.few
  · rw [cls_no h]; simp
theorem clsOf_64 {ns : List Nd} {r : Int} : ∀ x ∈ clsOf ns r, In64 x := by
  by_cases h : ValidG ns r
  · rw [cls_yes h]
    intro x hx
    have := clsN_in ns _ x hx
    have := h.few
    constructor <;> omega
  · rw [cls_no h]; simp

end Go.Proofs.Ytbpjoiccjpiknab

namespace Go.Proofs.Ytbpjoiccjpiknab

theorem eq_of_prefix {α : Type} [DecidableEq α] {xs ys : List α} (h : xs.length = ys.length) {k : Nat} (hk : k = xs.length) (he : ∀ j, j < k → xs[j]? = ys[j]?) : xs = ys := by
  apply List.ext_getElem?
  intro j
  by_cases hj : j < k
  · exact he j hj
  · rw [List.getElem?_eq_none (by omega), List.getElem?_eq_none (by omega)]

end Go.Proofs.Ytbpjoiccjpiknab

namespace Go.Proofs.Ytbpjoiccjpiknab
open Go.RowKit

set_option maxHeartbeats 1000000 in
theorem toIntS_any (A : Option Addr) (xs : List Int) (c : Nat) (w : World) (h : IntsAt w w.heap.size A xs) (hs : xs.length ≤ 1048576) :
    Calls Try.prog 39 #[.slice A xs.length c] w fun e w' => e = .returned (.slice (some ⟨w.heap.size, 0, none⟩) xs.length xs.length) ∧
      w'.rowIs w.heap.size 3 xs.length (intCell xs) ∧ Below w.heap.size w w' := by
  have hmk := run_make_row' (P := Try.prog) 39 3 (.int .i64 0) 8 Try.underlying39 infoInt rfl .i64 .i64 xs.length (by omega) (by omega)
  have hrow0 := World.rowIs_made w (.int .i64 0) xs.length 3
  go_enter Try.func39, Try.ntmps39
  go_wp2_with fail
  clear hmk
  go_loopw [4] (fun i wr => ∃ k : Nat, k ≤ xs.length ∧ i = .int .i64 k ∧ Below w.heap.size w wr ∧ wr.rowIs w.heap.size 3 xs.length (fun j => if j < k then intCell xs j else .int .i64 0)) (fun i _ => xs.length - (intOf i).toNat)
  case atStart => exact ⟨0, Nat.zero_le _, rfl, (Below.refl _ _).alloc (Nat.le_refl _) _, hrow0.congr (fun i _ => by simp)⟩
  case round =>
    obtain ⟨k, hk, rfl, hb, hrow⟩ := hrel
    clear hrow0
    by_cases hlt : k < xs.length
    · obtain ⟨b, off, x, rfl, hbl, hx, _, hc⟩ := (h.below hb).at_ hlt
      have Hx := hide hx
      clear hx
      have hc2 := hrow.cell hlt
      have hf2 := hrow.frozen k
      have hnext := hrow.set k (.int .i64 x)
      have hb2 := hb.setCell (p := ⟨w.heap.size, k, none⟩) (Nat.le_refl _) (.int .i64 x)
      clear hrow hb
      go_wp2
      go_roundw
      case rel => exact ⟨k + 1, by omega, by go_num, hb2, hnext.congr (fun i _ => by
        by_cases e : i = k
        · subst e; rw [if_pos rfl, if_pos (by omega), intCell_at Hx.out]
        · rw [if_neg e]
          by_cases e2 : i < k
          · rw [if_pos e2, if_pos (by omega)]
          · rw [if_neg e2, if_neg (by omega)])⟩
      case measure => simp [intOf]; omega
    · obtain rfl : k = xs.length := by omega
      clear hlt
      go_wp2
      go_ret
      exact ⟨rfl, hrow.congr (fun i hi => by rw [if_pos hi]), hb⟩

end Go.Proofs.Ytbpjoiccjpiknab
