/-
  The model's shapeAt: what it returns.
-/
import Derived.Test.YtanicidkmfoooabDoorShpR
import Derived.Deep.QuietTactic
import Derived.Deep.Cut
import Derived.BigQuiet
namespace Go.Proofs.YtanicidkmfoooabDoor
open Go.RowKit
set_option linter.unusedVariables false

set_option maxRecDepth 100000 in
set_option maxHeartbeats 1000000 in
theorem shapeAt_any (p : ShPtr) (s : Shp) (d : Nat) (w : World) (h : ShAt w w.heap.size p s) (hs : s.Small) (hd2 : d ≤ 1000) :
    Calls Tryd.prog 44 #[shVal p s, .int .i64 (d : Int)] w fun e w' => e = .returned (.int .i64 (s.kindAt d)) ∧ Below w.heap.size w w' := by
  obtain ⟨K, c1, F, c2, S, c3, M, c4⟩ := p
  have hB : Below w.heap.size w (w.alloc (.cells (shCells ⟨K, c1, F, c2, S, c3, M, c4⟩ s) 27)) := (Below.refl _ _).alloc (Nat.le_refl _) _
  have hr := h.later hB (Nat.le_refl _)
  have hst := hs.t
  have hkl := hs.k
  have l := Lies.new w (shCells ⟨K, c1, F, c2, S, c3, M, c4⟩ s) 27
  have e0 : (w.alloc (.cells (shCells ⟨K, c1, F, c2, S, c3, M, c4⟩ s) 27)).cell? ⟨w.heap.size, 0, none⟩ = some (.slice K s.kinds.length c1) := l.cell 0
  have e2 : (w.alloc (.cells (shCells ⟨K, c1, F, c2, S, c3, M, c4⟩ s) 27)).cell? ⟨w.heap.size, 2, none⟩ = some (.slice S s.stack.length c3) := l.cell 2
  have HO := hide hs.ok
  have hrK := hr.k
  have hrT := hr.t
  clear h hs l hr
  dsimp only at hrK hrT
  unfold shVal shCells at *
  dsimp only at *
  have hw1 : IntKind.i64.wrap ((s.stack.length : Int) - 1) = (s.stack.length : Int) - 1 := by rw [IntKind.wrap_i64]; omega
  go_enter Tryd.func44, Tryd.ntmps44
  go_upto_region 1 with fail
  generalize w.alloc (.cells #[.slice K s.kinds.length c1, .slice F s.full.length c2, .slice S s.stack.length c3, .slice M s.memo.length c4, .bool s.done] 27) = W at hB hrK hrT e0 e2 ⊢
  by_cases hd : d < s.stack.length
  · obtain ⟨k, hk⟩ : ∃ k : Nat, s.stack.length = k + 1 + d := ⟨s.stack.length - 1 - d, by omega⟩
    obtain ⟨b, off, x, rfl, hbl, hx, hm, hc⟩ := hrT.at_ (k := k) (by omega)
    have hth : s.thing d = x := by
      unfold Shp.thing
      rw [if_pos hd, show s.stack.length - 1 - d = k by omega, List.getD_eq_getElem?_getD, hx]
      rfl
    have hxr := HO.out.st x hm
    have hk1 : (0 : Int) ≤ (k : Int) := by omega
    have hk2 : (k : Int) < (s.stack.length : Int) := by omega
    have hidx : (s.stack.length : Int) - 1 - (d : Int) = (k : Int) := by omega
    have tk : decide ((k : Int) < 0) = false := by simp
    have hwm : IntKind.i64.wrap (k : Int) = (k : Int) := by rw [IntKind.wrap_i64]; omega
    by_cases hx0 : x < 0
    · have HF := hide (show s.kindAt d = -1 by unfold Shp.kindAt; rw [hth, if_pos hx0])
      have tx : decide (x < 0) = true := by simpa using hx0
      clear hx hm hth hd hx0 hxr hk
      go_wp2
      go_ret
      exact ⟨ret_int HF.out.symm, hB⟩
    · obtain ⟨y, rfl⟩ := Int.eq_ofNat_of_zero_le (show 0 ≤ x by omega)
      obtain ⟨b2, off2, z, rfl, hbl2, hz, hm2, hc2⟩ := hrK.at_ (k := y) (by omega)
      have HF := hide (show s.kindAt d = z by
        unfold Shp.kindAt
        rw [hth, if_neg hx0, Int.toNat_natCast, List.getD_eq_getElem?_getD, hz]
        rfl)
      have tx : decide ((y : Int) < 0) = false := by simp
      have hy1 : (0 : Int) ≤ (y : Int) := by omega
      have hy2 : (y : Int) < (s.kinds.length : Int) := by omega
      clear hx hm hth hd hx0 hxr hk hz hm2
      go_wp2_with fail
      go_quiet (fail)
      go_wp2
      go_ret
      exact ⟨ret_int HF.out.symm, below_drewN hB _⟩
  · have HF := hide (show s.kindAt d = -1 by unfold Shp.kindAt Shp.thing; rw [if_neg hd]; simp)
    have hd3 : (s.stack.length : Int) ≤ (d : Int) := by omega
    have tk : decide ((s.stack.length : Int) - 1 - (d : Int) < 0) = true := by simp; omega
    clear hd hrK hrT
    go_wp2
    go_ret
    exact ⟨ret_int HF.out.symm, hB⟩

end Go.Proofs.YtanicidkmfoooabDoor
