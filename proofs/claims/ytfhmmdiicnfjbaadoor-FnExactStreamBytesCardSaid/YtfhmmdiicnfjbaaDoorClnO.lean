/-
  slices.Clone of orders: what it returns.
-/
import Derived.Test.YtfhmmdiicnfjbaaDoorOwnX
import Derived.Test.YtfhmmdiicnfjbaaDoorOwnOO
namespace Go.Proofs.YtfhmmdiicnfjbaaDoor
open Go.RowKit
set_option linter.unusedVariables false

set_option maxHeartbeats 1000000 in
theorem cloneO_any (A : Option Addr) (os : List Od) (c : Nat) (w : World) (h : OpsAt w w.heap.size A os) (hnil : A = none → c = 0) (hl : os.length ≤ 1000) :
    Calls Tryd.prog 27 #[.slice A os.length c] w (GivesOw w os) := by
  cases A with
  | none =>
    have hos : os = [] := by
      cases os with
      | nil => rfl
      | cons o os =>
        obtain ⟨b, off, e, _⟩ := h.row (by simp)
        cases e
    have hq := fun W : World => Go.Lib.run_eql_slice_nil (P := Tryd.prog) W 26 40 none 0 0 0 0 Tryd.underlying26
    subst hos
    obtain rfl := hnil rfl
    clear h hnil
    show Calls _ _ #[.slice none 0 0] _ _
    go_enter Tryd.func27, Tryd.ntmps27
    go_wp2
    go_ret
    exact ⟨none, 0, rfl, OwnO.empty _ _, Below.refl _ _⟩
  | some ad =>
    have hq := fun W : World => Go.Lib.run_eql_slice_nil (P := Tryd.prog) W 26 40 (some ad) os.length c 0 0 Tryd.underlying26
    have HO := hide (OwnO.bare w)
    have HB := hide ((Below.refl w.heap.size w).alloc (Nat.le_refl _) (.cells #[] 40))
    have HA := hide (h.below HB.out)
    clear h
    go_enter Tryd.func27, Tryd.ntmps27
    go_wp2_with (at_builtin; refine append_ops rfl (.tmp 5) (.tmp 6) rfl w.heap.size _ 0 [] rfl HO.out w.heap.size (some ad) c os rfl (fun e => by cases e) HA.out (by simp; omega) HB.out.size ?_; intro zs A5 c5 w5 e5 own5 hg5 _; have HG5 := hide hg5; have HO5 := hide own5; clear hg5 own5)
    go_ret
    have e6 : zs = os := by rw [e5.out, List.nil_append]
    subst e6
    exact ⟨A5, c5, rfl, HO5.out, below_grown HB.out HG5.out HB.out.size (fun q hq => (HO.out.blocks q hq).1)⟩

end Go.Proofs.YtfhmmdiicnfjbaaDoor
