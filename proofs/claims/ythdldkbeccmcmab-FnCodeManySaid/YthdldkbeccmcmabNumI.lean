/-
  A set of ints: the method numberOf of the program's ordered set.
-/
import Derived.Test.YthdldkbeccmcmabSetI
import Derived.Maps.OwnOps
namespace Go.Proofs.Ythdldkbeccmcmab
open Go.RowKit Go.Maps
set_option linter.unusedVariables false

theorem place_idx {L : List Int} {x : Int} (h : x ∈ L) : (L.idxOf x : Int) = place L x := (place_pos h).symm

set_option maxHeartbeats 1000000 in
theorem numI_any (g base : Nat) (m : Option Nat) (A : Option Addr) (c : Nat) (L : List Int) (x : Int) (w : World) (h : SetI w g base m A c L) (hx : In64 x) (hin : x ∈ L) :
    Calls Try.prog 22 #[.pointer (some ⟨g, 0, none⟩), .int .i64 x] w fun e w' => e = .returned (.int .i64 (place L x)) ∧ w = w' := by
  obtain ⟨hbox, _, hmap, hlt, _⟩ := h
  rcases hmap with ⟨rfl, rfl⟩ | ⟨b, n, D, rfl, hb, hown, hn, hhas, hat⟩
  · cases hin
  · have b0 := hbox.cell 0
    simp at b0
    have hat1 := hat x hin
    have HP := hide (place_idx hin)
    clear hbox hhas hat hin
    go_enter Try.func22, Try.ntmps22
    go_wp2_with (at_lookup; refine wpList_lookup_own_int _ rfl _ _ 45 rfl 3 3 .i64 lawI Try.underlying45 Try.underlying3 (zeroI _) b n _ rfl hown _ _ rfl (keyOf_i hx) ?_; intro cc hat2 hwc)
    go_ret
    rw [hat1] at hat2
    injection hat2 with hat2
    injection hat2 with _ hat2
    exact ⟨ret_int (by rw [← HP.out, ← hat2]), rfl⟩

end Go.Proofs.Ythdldkbeccmcmab
