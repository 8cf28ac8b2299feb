/-
  Lemmas, several texts in one: NumI, Reach2.
-/
import Derived.Test.YtgjokdfjngpmcabSetI
import Derived.Maps.OwnOps
import Derived.Test.YtgjokdfjngpmcabReach
namespace Go.Proofs.Ytgjokdfjngpmcab
open Go.RowKit Go.Maps
set_option linter.unusedVariables false

theorem place_idx {L : List Int} {x : Int} (h : x ∈ L) : (L.idxOf x : Int) = place L x := (place_pos h).symm

set_option maxHeartbeats 1000000 in
theorem numI_any (g base : Nat) (m : Option Nat) (A : Option Addr) (c : Nat) (L : List Int) (x : Int) (w : World) (h : SetI w g base m A c L) (hx : In64 x) (hin : x ∈ L) :
    Calls Try.prog 34 #[.pointer (some ⟨g, 0, none⟩), .int .i64 x] w fun e w' => e = .returned (.int .i64 (place L x)) ∧ w = w' := by
  obtain ⟨hbox, _, hmap, hlt, _⟩ := h
  rcases hmap with ⟨rfl, rfl⟩ | ⟨b, n, D, rfl, hb, hown, hn, hhas, hat⟩
  · cases hin
  · have b0 := hbox.cell 0
    simp at b0
    have hat1 := hat x hin
    have HP := hide (place_idx hin)
    clear hbox hhas hat hin
    go_enter Try.func34, Try.ntmps34
    go_wp2_with (at_lookup; refine wpList_lookup_own_int _ rfl _ _ 56 rfl 3 3 .i64 lawI Try.underlying56 Try.underlying3 (zeroI _) b n _ rfl hown _ _ rfl (keyOf_i hx) ?_; intro cc hat2 hwc)
    go_ret
    rw [hat1] at hat2
    injection hat2 with hat2
    injection hat2 with _ hat2
    exact ⟨ret_int (by rw [← HP.out, ← hat2]), rfl⟩

end Go.Proofs.Ytgjokdfjngpmcab

namespace Go.Proofs.Ytgjokdfjngpmcab
open Go.RowKit
set_option linter.unusedVariables false

theorem reach_any (ns : List Nd) (hk : KidsIn ns) (h6 : ∀ n ∈ ns, n.kids.length ≤ 6) (h12 : ns.length ≤ 12) (A : Option Addr) (c : Nat) (r : Int) : ∀ (f i : Nat) (L : List Int) (A2 : Option Addr) (c2 : Nat) (w : World), i < ns.length → Met ns L → NdsAt w w.heap.size A ns → IntsAt w w.heap.size A2 L → (A2 = none → c2 = 0) → ns.length < f + L.length →
    Calls Try.prog 26 #[.agg #[.slice A ns.length c, .int .i64 r], .int .i64 (i : Int), .slice A2 L.length c2] w (GivesReachI w A2 c2 L (dfs ns anyB f i L))
  | 0, _, _, _, _, _, _, hL, _, _, _, hf => by have := hL.len; omega
  | f + 1, i, L, A2, c2, w, hi, hL, hr, hI, hn, hf => reach1_any ns hk h6 h12 A c r f (fun i L A2 c2 w h1 h2 h3 h4 h5 h6' => reach_any ns hk h6 h12 A c r f i L A2 c2 w h1 h2 h3 h4 h5 h6') i L A2 c2 w hi hL hr hI hn hf

end Go.Proofs.Ytgjokdfjngpmcab
