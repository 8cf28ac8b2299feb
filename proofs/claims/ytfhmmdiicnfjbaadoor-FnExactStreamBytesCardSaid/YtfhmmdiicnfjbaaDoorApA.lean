/-
  The program's appendArg: what it returns.
-/
import Derived.Test.YtfhmmdiicnfjbaaDoorEncM
import Derived.Test.YtfhmmdiicnfjbaaDoorOwnS
namespace Go.Proofs.YtfhmmdiicnfjbaaDoor
open Go.RowKit
set_option linter.unusedVariables false

/-- a slice of the call's own has grown to zs -/
def GrowsI (base : Nat) (A : Option Addr) (w : World) (zs : List Int) (e : Ending) (w' : World) : Prop := ∃ A' c', e = .returned (.slice A' zs.length c') ∧ OwnI w' base A' c' zs ∧ Below base w w' ∧ (∀ k, k < w.heap.size → blockOf A ≠ some k → w'.heap[k]? = w.heap[k]?)

set_option maxHeartbeats 1000000 in
theorem appendArg_any (base : Nat) (A : Option Addr) (c : Nat) (xs : List Int) (a : Int) (w : World) (h : OwnI w base A c xs) (hbase : base ≤ w.heap.size) (h1 : 0 ≤ a) (h2 : a ≤ 999) (hl : xs.length ≤ 100000) :
    Calls Tryd.prog 31 #[.slice A xs.length c, .int .i64 a] w (GrowsI base A w (xs ++ encA a)) := by
  have HO := hide h
  have hbl := hide (h.blocks)
  clear h
  by_cases hs : a < 128
  · rw [encA_short hs]
    have d : decide (a < 128) = true := by simpa using hs
    go_enter Tryd.func31, Tryd.ntmps31
    go_wp2_with (at_builtin; refine append_ints rfl (.tmp 7) (.tmp 9) rfl base A c xs rfl (HO.out.alloc _) _ _ 1 [a] rfl (fun e => by cases e) (IntsAt.one w a (by constructor <;> omega)) (by simp; omega) (by simp; omega) ?_; intro zs A3 c3 w3 e3 own3 hg3 _; have HG3 := hide hg3; have HO3 := hide own3; clear hg3 own3)
    go_ret
    have e3 := e3.out
    subst e3
    exact ⟨A3, c3, rfl, HO3.out, below_grown ((Below.refl _ _).alloc hbase _) HG3.out (by simp; omega) (fun q hq => (hbl.out q hq).1), fun k hk hne => (HG3.out.block k (by simp; omega) (Ne.symm hne)).trans (Below.heap_alloc w _ k hk)⟩
  · rw [encA_long hs]
    have d : decide (a < 128) = false := by simpa using hs
    go_enter Tryd.func31, Tryd.ntmps31
    go_wp2_with (at_builtin; refine append_ints rfl (.tmp 11) (.tmp 17) rfl base A c xs rfl (HO.out.alloc _) _ _ 2 [128 + a % 128, a / 128] rfl (fun e => by cases e) (by simpa using IntsAt.lit w [128 + a % 128, a / 128] (by intro x hx; simp at hx; rcases hx with rfl | rfl <;> constructor <;> omega) (by simp)) (by simp; omega) (by simp; omega) ?_; intro zs A3 c3 w3 e3 own3 hg3 _; have HG3 := hide hg3; have HO3 := hide own3; clear hg3 own3)
    go_ret
    have e3 := e3.out
    subst e3
    exact ⟨A3, c3, rfl, HO3.out, below_grown ((Below.refl _ _).alloc hbase _) HG3.out (by simp; omega) (fun q hq => (hbl.out q hq).1), fun k hk hne => (HG3.out.block k (by simp; omega) (Ne.symm hne)).trans (Below.heap_alloc w _ k hk)⟩

end Go.Proofs.YtfhmmdiicnfjbaaDoor
