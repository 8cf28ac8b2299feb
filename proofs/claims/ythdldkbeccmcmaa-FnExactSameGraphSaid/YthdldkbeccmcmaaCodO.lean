/-
  The model's codeOf.
-/
import Derived.Test.YthdldkbeccmcmaaCodS
import Derived.Test.YthdldkbeccmcmaaCodM
namespace Go.Proofs.Ythdldkbeccmcmaa
open Go.RowKit Go.Maps
set_option linter.unusedVariables false

set_option maxHeartbeats 1000000 in
theorem specCodeOf1_any (A : Option Addr) (ns : List Nd) (K : Nat) (hg : CodG ns K) (hl : ns.length ≤ 1048576) (hM : 3 + 3 * (K * ns.length) ≤ 16000000) (c : Nat) (i : Nat) (w : World) (hr : NdsAt w w.heap.size A ns) (hi : i < ns.length) :
    Calls Try.prog 12 #[.agg #[.slice A ns.length c, .int .i64 (i : Int)]] w (GivesInts w (cod ns (ns.length + 1) i ([], [])).1) := by
  have Hg := hide hg
  have hMh := hide hM
  have hB : Below w.heap.size w (((w.alloc (.cells #[.slice A ns.length c, .int .i64 (i : Int)] 29)).alloc (.cells #[] 3)).alloc (.cells #[] 3)) := (((Below.refl _ _).alloc (Nat.le_refl _) _).alloc (by simp) _).alloc (by simp; omega) _
  have hr2 := hr.later hB (Nat.le_refl _)
  have o1 := (OwnI.bare (w.alloc (.cells #[.slice A ns.length c, .int .i64 (i : Int)] 29))).alloc (.cells #[] 3)
  have o2 := OwnI.bare ((w.alloc (.cells #[.slice A ns.length c, .int .i64 (i : Int)] 29)).alloc (.cells #[] 3))
  simp only [World.size_alloc] at o1 o2
  clear hr hg hM
  go_enter Try.func12, Try.ntmps12
  go_wp2_with fail
  generalize ((w.alloc (.cells #[.slice A ns.length c, .int .i64 (i : Int)] 29)).alloc (.cells #[] 3)).alloc (.cells #[] 3) = W at hB hr2 o1 o2 ⊢
  have i1 := o1.ints (by simp) (by simp)
  have i2 := o2.ints (by simp) (by simp)
  refine (code_any ns K 16000000 Hg.out hl (by omega) A c i (ns.length + 1) i [] [] _ 0 _ 0 W hi (CInv.start ns) hr2 i1 (fun e => by cases e) i2 (fun e => by cases e) (by simp) (by have := hMh.out; simp; omega)).mono ?_
  rintro e w1 ⟨Ao, co, Am, cm, rfl, hb, hown, _, _, _⟩
  have Hfin : Hid (GivesInts w (cod ns (ns.length + 1) i ([], [])).1 (.returned (.slice Ao (cod ns (ns.length + 1) i ([], [])).1.length co)) w1) := ⟨Ao, co, rfl, hown.mono hB.size, hB.trans (hb.mono hB.size)⟩
  clear hown hb i1 i2 o1 o2
  generalize hR2 : (cod ns (ns.length + 1) i ([], [])).2 = R2
  clear hR2
  go_wp2
  go_ret
  exact Hfin.out

end Go.Proofs.Ythdldkbeccmcmaa
