/-
  The program's firstFrame: what it returns.
-/
import Derived.Test.YtngohlegdjppeacDoorFSz
import Derived.Test.YtngohlegdjppeacDoorFrM
import Derived.Test.YtngohlegdjppeacDoorSub
namespace Go.Proofs.YtngohlegdjppeacDoor
open Go.RowKit
set_option linter.unusedVariables false

/-- a part of old memory comes back that reads as ys -/
def GivesPart (w : World) (ys : List Int) (e : Ending) (w' : World) : Prop := ∃ A c, e = .returned (.slice A ys.length c) ∧ IntsAt w w.heap.size A ys ∧ (A = none → c = 0) ∧ w = w'

set_option maxHeartbeats 1000000 in
theorem firstFrame_yes (A : Option Addr) (xs : List Int) (c : Nat) (q : Nat) (w : World) (h : IntsAt w w.heap.size A xs) (hc : xs.length ≤ c) (hx : xs[0]? = some (q : Int)) (h1 : 1 ≤ q) (h2 : q ≤ 200) (h3 : q < xs.length) (hl : xs.length ≤ 2000) :
    Calls Tryd.prog 26 #[.slice A xs.length c] w (GivesPart w ((xs.drop 1).take q)) := by
  obtain ⟨b, off, y, rfl, hbl, hy, _, hcell⟩ := h.at_ (k := 0) (by omega)
  obtain rfl : (q : Int) = y := by have := hx.symm.trans hy; injection this
  have HP : Hid (IntsAt w w.heap.size (some ⟨b, off + 1, none⟩) ((xs.drop 1).take q)) := hide ((h.behind 1).upto q)
  have HT : Hid (((xs.drop 1).take q).length = q) := hide (by simp; omega)
  have d1 : decide (xs.length ≤ q) = false := by simp; omega
  have d2 : ((xs.length : Int) == 0) = false := by simp only [beq_eq_false_iff_ne, ne_eq]; omega
  have d3 : (0 : Int) < (xs.length : Int) := by omega
  have d4 : 0 < xs.length := by omega
  have d5 : (1 : Int) + (q : Int) ≤ (c : Int) := by omega
  rw [Nat.add_zero] at hcell
  clear hx hy h
  go_enter Tryd.func26, Tryd.ntmps26
  go_wp2_with fail
  refine (isFrameSize_yes (q : Int) w (by omega) (by omega)).mono ?_
  rintro e w' ⟨rfl, rfl⟩
  go_wp2
  go_ret
  have e1 : 1 + q - 1 = q := by omega
  refine ⟨some ⟨b, off + 1, none⟩, q, ?_, HP.out, (fun e => by cases e), rfl⟩
  show Ending.returned (Value.slice (some ⟨b, off + 1, none⟩) (1 + q - 1) (1 + q - 1)) = _
  rw [HT.out, e1]

set_option maxHeartbeats 1000000 in
theorem firstFrame_no (A : Option Addr) (xs : List Int) (c : Nat) (w : World) (h : IntsAt w w.heap.size A xs) (hn : ∀ h, xs[0]? = some h → ¬ (1 ≤ h ∧ h ≤ 200 ∧ h.toNat < xs.length)) (hl : xs.length ≤ 2000) :
    Calls Tryd.prog 26 #[.slice A xs.length c] w (GivesPart w []) := by
  by_cases hx : 0 < xs.length
  · obtain ⟨b, off, y, rfl, hbl, hy, _, hcell⟩ := h.at_ hx
    have hno := hn y hy
    rw [Nat.add_zero] at hcell
    have d2 : ((xs.length : Int) == 0) = false := by simp only [beq_eq_false_iff_ne, ne_eq]; omega
    have d3 : (0 : Int) < (xs.length : Int) := by omega
    by_cases h12 : 1 ≤ y ∧ y ≤ 200
    · obtain ⟨q, rfl⟩ := Int.eq_ofNat_of_zero_le (show 0 ≤ y by omega)
      have d1 : decide (xs.length ≤ q) = true := by simp; omega
      clear hn hy h hno
      go_enter Tryd.func26, Tryd.ntmps26
      go_wp2_with fail
      refine (isFrameSize_yes (q : Int) w (by omega) (by omega)).mono ?_
      rintro e w' ⟨rfl, rfl⟩
      go_wp2
      go_ret
      exact ⟨none, 0, rfl, IntsAt.empt _, fun _ => rfl, rfl⟩
    · clear hn hy h hno
      go_enter Tryd.func26, Tryd.ntmps26
      go_wp2_with fail
      refine (isFrameSize_no y w h12).mono ?_
      rintro e w' ⟨rfl, rfl⟩
      clear h12
      go_wp2
      go_ret
      exact ⟨none, 0, rfl, IntsAt.empt _, fun _ => rfl, rfl⟩
  · obtain rfl : xs = [] := List.eq_nil_of_length_eq_zero (by omega)
    clear hn h hx hl
    go_enter Tryd.func26, Tryd.ntmps26
    go_wp2
    go_ret
    exact ⟨none, 0, rfl, IntsAt.empt _, fun _ => rfl, rfl⟩

end Go.Proofs.YtngohlegdjppeacDoor
