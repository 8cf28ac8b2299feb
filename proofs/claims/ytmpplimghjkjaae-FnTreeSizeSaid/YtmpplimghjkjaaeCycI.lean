/-
  The program's leadsBack over all nodes: whether a way leads from a node back to it.
-/
import Derived.Test.YtmpplimghjkjaaeImplR
import Derived.Test.YtmpplimghjkjaaeCycP
namespace Go.Proofs.Ytmpplimghjkjaae
open Go.RowKit Go.Maps
set_option linter.unusedVariables false

set_option maxHeartbeats 1000000 in
theorem leadsBackA_any (A : Option Addr) (ns : List Nd) (c : Nat) (i : Nat) (w : World) (hr : NdsAt w w.heap.size A ns) (hk : KidsIn ns) (hsm : ns.length ≤ 1048576) (hi : i < ns.length) :
    Calls Try.prog 25 #[.slice A ns.length c, .int .i64 (i : Int), .func (.func 26) #[] #[]] w fun e w' =>
      e = .returned (.bool (tf ((i : Int) ∈ dfsL ns anyB (ns.length + 1) (kidsOf ns i) []))) ∧ Below w.heap.size w w' := by
  have hr2 := hr
  obtain ⟨b, off, n, rfl, hbl, hat, hmem, hN⟩ := hr.at_ hi
  obtain ⟨hn_k, hn_v, ⟨A1, c1, hn_s, hI1, _⟩, _, _⟩ := hN
  have hi1 : (0 : Int) ≤ (i : Int) := by omega
  have hi2 : (i : Int) < (ns.length : Int) := by omega
  have hkids := kidsOf_at hat
  have Hkids := hide hkids
  have hin : ∀ x ∈ n.kids, 0 ≤ x ∧ x < (ns.length : Int) := fun x hx => hk n hmem x hx
  have hw := walkedAll ns anyB hk n.kids [] (ns.length + 1) (Met.nil ns) hin (by simp)
  have Hin := hide hin
  have Hw := hide hw.met
  have hwl := hw.met.len
  clear hat hmem hkids hin hw
  go_enter Try.func25, Try.ntmps25
  go_wp2_with fail
  refine (WalkA.walkFrom_any ns anyB (enters_any ns) hk hsm _ c A1 n.kids c1 w hr2 hI1 Hin.out).mono ?_
  rintro e w2 ⟨A2, c2, rfl, hown, hb⟩
  have hio := hown.ints (fun x hx => by have := Hw.out.range x hx; constructor <;> omega) (by omega)
  clear hown
  generalize hR : dfsL ns anyB (ns.length + 1) n.kids [] = R at hio ⊢
  have HR := hide hR
  clear hR hwl Hw
  go_wp2_with fail
  refine (contains_any A2 R c2 i w2 hio).mono ?_
  rintro e w3 ⟨rfl, rfl⟩
  generalize hx : tf ((i : Int) ∈ R) = x
  have HF := hide (show tf ((i : Int) ∈ dfsL ns anyB (ns.length + 1) (kidsOf ns i) []) = x by rw [Hkids.out, HR.out, hx])
  clear hx
  go_wp2
  go_ret
  exact ⟨ret_bool HF.out.symm, hb⟩

end Go.Proofs.Ytmpplimghjkjaae
