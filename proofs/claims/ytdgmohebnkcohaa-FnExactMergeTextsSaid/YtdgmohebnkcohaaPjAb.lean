/-
  Lemmas, several texts in one: OwnRD, SzI, EqI, EqS.
-/
import Derived.Test.YtdgmohebnkcohaaRowD
import Derived.Test.YtdgmohebnkcohaaMem
import Derived.Deep.QuietTactic
import Derived.BigQuiet
import Derived.StillTailTactics
namespace Go.Proofs.Ytdgmohebnkcohaa
open Go.RowKit
set_option linter.unusedVariables false

theorem OwnRow.rowD {w : World} {lo hi g cap : Nat} {ns : List Nd} (h : OwnRow w lo hi g cap ns) (hc : cap ≤ maxLen) : RowD w lo hi (some ⟨g, 0, none⟩) cap ns := by
  obtain ⟨f, cur, h1, h2, h3⟩ := h.row
  have hle := h.le
  have hat : ∀ i, i < ns.length * 3 → (cur.toList.take (ns.length * 3))[i]? = w.cell? ⟨g, i, none⟩ := fun i hi => by
    rw [List.getElem?_take_of_lt hi, Array.getElem?_toList, cell_of_row w g i cur _ _ h1]
  refine ⟨⟨cur.toList.take (ns.length * 3), ⟨by simp; omega, .inr ⟨g, cap, cur, rfl, h.hlo, h1, hle, hc, h2, rfl⟩⟩, fun j n hj => ?_, fun i j A1 A2 n1 n2 c1 c2 hij hj d1 d2 => ?_, fun i A1 n1 c1 hi d1 b hb => ?_⟩⟩
  · have hjl := (List.getElem?_eq_some_iff.1 hj).1
    have hn := h.nd j n hj
    obtain ⟨A1, c1, k1, k2, _⟩ := hn.kids
    exact ⟨A1, c1, (hat _ (by omega)).trans hn.kind, (hat _ (by omega)).trans hn.value, (hat _ (by omega)).trans k1, k2⟩
  · rw [hat _ (by omega)] at d1 d2
    exact h.dis i j A1 A2 n1 n2 c1 c2 (by omega) (by omega) hj d1 d2
  · rw [hat _ (by omega)] at d1
    obtain ⟨A3, c3, k1, _, k3⟩ := (h.nd i _ (List.getElem?_eq_getElem hi)).kids
    rw [d1] at k1
    injection k1 with k1
    injection k1 with k1 _ _
    subst k1
    exact (k3 b hb).1

end Go.Proofs.Ytdgmohebnkcohaa

namespace Go.Proofs.Ytdgmohebnkcohaa

/-- what szIntS counts -/
def szI (n : Nat) (left : Int) : Int := if left - n < 0 then -1 else left - n

theorem szI_le (n : Nat) (left : Int) (h1 : left ≤ 1048576) (h0 : 0 ≤ left) : szI n left ≤ left ∧ -1 ≤ szI n left := by
  unfold szI; split <;> omega

end Go.Proofs.Ytdgmohebnkcohaa

namespace Go.Proofs.Ytdgmohebnkcohaa

theorem eq_of_prefix {α : Type} [DecidableEq α] {xs ys : List α} (h : xs.length = ys.length) {k : Nat} (hk : k = xs.length) (he : ∀ j, j < k → xs[j]? = ys[j]?) : xs = ys := by
  apply List.ext_getElem?
  intro j
  by_cases hj : j < k
  · exact he j hj
  · rw [List.getElem?_eq_none (by omega), List.getElem?_eq_none (by omega)]

end Go.Proofs.Ytdgmohebnkcohaa

namespace Go.Proofs.Ytdgmohebnkcohaa
open Go.RowKit

set_option maxHeartbeats 1000000 in
theorem eqIntS_any (A A' : Option Addr) (xs ys : List Int) (c c' : Nat) (w : World) (h : IntsAt w w.heap.size A xs) (h' : IntsAt w w.heap.size A' ys) :
    Calls Try.prog 49 #[.slice A xs.length c, .slice A' ys.length c'] w fun e w' => e = .returned (.bool (decide (xs = ys))) ∧ Below w.heap.size w w' := by
  have hl := h.len
  by_cases hne : xs.length = ys.length
  · have hb0 : ((xs.length : Int) != (ys.length : Int)) = false := by simp [hne]
    go_enter Try.func49, Try.ntmps49
    go_wp2_with fail
    go_loopw [5] (fun i wr => ∃ k : Nat, k ≤ xs.length ∧ i = .int .i64 k ∧ Below w.heap.size w wr ∧ ∀ j, j < k → xs[j]? = ys[j]?) (fun i _ => xs.length - (intOf i).toNat)
    case atStart => exact ⟨0, Nat.zero_le _, rfl, Below.refl _ _, fun j hj => absurd hj (by omega)⟩
    case round =>
      obtain ⟨k, hk, rfl, hb, he0⟩ := hrel
      have he := hide he0
      clear he0
      by_cases hlt : k < xs.length
      · obtain ⟨b, off, x, rfl, hbl, hx, _, hcx⟩ := (h.below hb).at_ hlt
        obtain ⟨b', off', y, rfl, hbl', hy, _, hcy⟩ := (h'.below hb).at_ (k := k) (by omega)
        have Hx := hide hx
        have Hy := hide hy
        clear hx hy
        have hk1 : (0 : Int) ≤ (k : Int) := by omega
        have hk2 : (k : Int) < (xs.length : Int) := by omega
        have hk3 : (k : Int) < (ys.length : Int) := by omega
        by_cases hxy : x = y
        · subst hxy
          go_wp2_with fail
          go_quiet (fail)
          go_wp2
          go_roundw
          case rel => exact ⟨k + 1, by omega, by go_num, below_drewN hb _, fun j hj => by
            by_cases e : j = k
            · subst e; rw [Hx.out, Hy.out]
            · exact he.out j (by omega)⟩
          case measure => simp [intOf]; omega
        · have hn1 : (x != y) = true := by simpa using hxy
          have hF : decide (xs = ys) = false := by
            simp only [decide_eq_false_iff_not]
            intro e
            subst e
            have := Hx.out.symm.trans Hy.out
            injection this with this
            exact hxy this
          have HF := hide hF
          clear hF
          go_wp2_with fail
          go_quiet (fail)
          go_wp2
          go_ret
          exact ⟨ret_bool HF.out.symm, below_drewN hb _⟩
      · obtain rfl : k = xs.length := by omega
        have hF : decide (xs = ys) = true := by
          simp only [decide_eq_true_eq]
          exact eq_of_prefix hne rfl he.out
        have HF := hide hF
        clear hF hlt
        go_wp2
        go_ret
        exact ⟨ret_bool HF.out.symm, hb⟩
  · have hb1 : ((xs.length : Int) != (ys.length : Int)) = true := by simp; omega
    have hF : decide (xs = ys) = false := by
      simp only [decide_eq_false_iff_not]
      intro e
      exact hne (by rw [e])
    have HF := hide hF
    clear hF
    go_enter Try.func49, Try.ntmps49
    go_wp2
    go_ret
    exact ⟨ret_bool HF.out.symm, Below.refl _ _⟩

end Go.Proofs.Ytdgmohebnkcohaa
