import Derived.Test.YtaolnnjcpnhghabRuS
namespace Go.Proofs.Ytaolnnjcpnhghab
open Go.RowKit
set_option linter.unusedVariables false
set_option maxHeartbeats 400000 in
theorem specValidRulesX_any (A : Option Addr) (r : Ru) (c : Nat) (w : World) (h : RuAt w w.heap.size A r) (hl : r.cls.length ≤ 1048576) (hcap : r.cls.length ≤ c) :
    Calls Try.prog 5 #[ruVal r A c] w fun e w' => e = .returned (.bool (tf (RuOk r))) ∧ Below w.heap.size w w' := by
  have hB : Below w.heap.size w (w.alloc (.cells (ruCells r A c) 27)) := (Below.refl _ _).alloc (Nat.le_refl _) _
  have hr2 := h.later hB (Nat.le_refl _)
  have HC := hide fun W (hW : RuAt W W.heap.size A r) => specValid_any A r c W hW hl hcap
  obtain ⟨b, hb⟩ : ∃ b, tf (RuOk r) = b := ⟨_, rfl⟩
  rw [hb] at HC ⊢
  unfold ruVal at *
  unfold ruCells at *
  go_enter Try.func5, Try.ntmps5
  go_wp2_with fail
  refine (HC.out _ hr2).mono ?_
  rintro e w' ⟨rfl, hb⟩
  go_wp2
  go_ret
  exact ⟨rfl, hB.trans (hb.mono hB.size)⟩
end Go.Proofs.Ytaolnnjcpnhghab
