/-
  The generator's draw for TakesOf: some number comes back.
-/
import Derived.Test.YtkkkhdcpkcjhfaaDoorNewR
import Derived.Test.YtkkkhdcpkcjhfaaDoorOne
namespace Go.Proofs.YtkkkhdcpkcjhfaaDoor
open Go.RowKit
set_option linter.unusedVariables false

set_option maxHeartbeats 1000000 in
theorem drawTakesOf_any (A : Option Addr) (n c : Nat) (w : World) (h : BytesAt w w.heap.size A n) (hc : n ≤ c) (hn : n ≤ 9223372036854775807) :
    Calls Tryd.prog 4 #[.slice A n c] w fun e w' => (∃ x : Int, e = .returned (.int .i64 x)) ∧ Below w.heap.size w w' := by
  go_enter Tryd.func4, Tryd.ntmps4
  go_wp2_with fail
  refine (newReader_any A n c w h hc hn).mono ?_
  rintro e w1 ⟨rfl, ⟨n', c', hrd⟩, hb1⟩
  clear h
  generalize hrb : w.heap.size = rb at hrd hb1 ⊢
  have HRB := hide hrb
  clear hrb
  have hs0 := hrd.box.lt
  go_wp2_with fail
  refine (pick_any rb A n' c' 0 20 w1 hrd (by omega) (by omega)).mono ?_
  rintro e w2 ⟨⟨x, rfl, hx, _⟩, hr2, ht2⟩
  have hb2 : Below rb w w2 := (Grew.of_turn ht2).below hb1 (Nat.le_refl _) (by omega)
  have hs2 := hr2.box.lt
  have hB3 := hb2.alloc (by omega) (.cells #[.int .i64 (x : Int), .int .i64 0, .int .i64 19, .int .i64 20, .int .i64 (-1)] 3)
  have l3 := Lies.new w2 #[.int .i64 (x : Int), .int .i64 0, .int .i64 19, .int .i64 20, .int .i64 (-1)] 3
  have hr3 := hr2.below (w' := w2.alloc (.cells #[.int .i64 (x : Int), .int .i64 0, .int .i64 19, .int .i64 20, .int .i64 (-1)] 3)) ((Below.refl _ _).alloc (Nat.le_refl _) _)
  clear hx ht2 hb1 hb2 hrd hr2
  go_wp2_with fail
  generalize w2.alloc (.cells #[.int .i64 (x : Int), .int .i64 0, .int .i64 19, .int .i64 20, .int .i64 (-1)] 3) = w3 at hB3 l3 hr3 ⊢
  generalize w2.heap.size = g at l3 hs2 ⊢
  refine (one_any rb A n' c' 1 g 5 5 [(x : Int), 0, 19, 20, -1] w3 hr3 (by omega) rfl (by omega) (by omega) (by omega) (fun k y hk => ?_)).mono ?_
  · rw [l3.cell]
    match k, hk with
    | 0, hk => simp at hk; subst hk; rfl
    | 1, hk => simp at hk; subst hk; rfl
    | 2, hk => simp at hk; subst hk; rfl
    | 3, hk => simp at hk; subst hk; rfl
    | 4, hk => simp at hk; subst hk; rfl
    | k + 5, hk => simp at hk
  · rintro e w4 ⟨⟨y, hy, rfl⟩, hr4, ht4⟩
    have HB := hide (show Below rb w w4 from (Grew.of_turn ht4).below hB3 (Nat.le_refl _) (by have := l3.lt; omega))
    clear hy hr4 ht4 hB3 l3 hr3
    go_wp2
    go_ret
    exact ⟨⟨y, rfl⟩, by rw [HRB.out]; exact HB.out⟩

end Go.Proofs.YtkkkhdcpkcjhfaaDoor
