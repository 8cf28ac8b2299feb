/-
  The laws' helpers isIn and within: what each returns.
-/
import Derived.Test.YtmpplimghjkjaacPkA
import Derived.Deep.QuietTactic
import Derived.BigQuiet
namespace Go.Proofs.Ytmpplimghjkjaac
open Go.RowKit

set_option maxHeartbeats 1000000 in
theorem isIn_any (A : Option Addr) (xs : List Int) (c : Nat) (n : Int) (w : World) (h : IntsAt w w.heap.size A xs) :
    Calls Try.prog 9 #[.slice A xs.length c, .int .i64 n] w fun e w' => e = .returned (.bool (tf (n ∈ xs))) ∧ w = w' := by
  have hl := h.len
  go_enter Try.func9, Try.ntmps9
  go_wp2_with fail
  go_loop [5] (fun i => ∃ k : Nat, k ≤ xs.length ∧ i = .int .i64 k ∧ ∀ j, j < k → xs[j]? ≠ some n) (fun i => xs.length - (intOf i).toNat)
  case atStart => exact ⟨0, Nat.zero_le _, rfl, fun j hj => absurd hj (by omega)⟩
  case round =>
    obtain ⟨k, hk, rfl, he0⟩ := hrel
    have he := hide he0
    clear he0
    by_cases hlt : k < xs.length
    · obtain ⟨b, off, x, rfl, hbl, hx, hm, hc⟩ := h.at_ hlt
      have Hx := hide hx
      clear hx
      by_cases hxn : x = n
      · subst hxn
        have HF := hide (tf_true hm)
        clear hm
        go_wp2
        go_ret
        exact ⟨ret_bool HF.out.symm, rfl⟩
      · have t : (x == n) = false := by simpa using hxn
        have he2 : ∀ j, j < k + 1 → xs[j]? ≠ some n := by
          intro j hj
          by_cases e : j = k
          · subst e; rw [Hx.out]; intro e; injection e with e; exact hxn e
          · exact he.out j (by omega)
        have He := hide he2
        clear he2 he hxn hm
        go_wp2
        go_round
        case rel => exact ⟨k + 1, by omega, by go_num, He.out⟩
        case measure => simp [intOf]; omega
    · obtain rfl : k = xs.length := by omega
      have HF := hide (show tf (n ∈ xs) = false from tf_false fun hm => by
        obtain ⟨j, hj, e⟩ := List.getElem_of_mem hm
        exact he.out j hj (by rw [List.getElem?_eq_getElem hj, e]))
      clear hlt
      go_wp2
      go_ret
      exact ⟨ret_bool HF.out.symm, rfl⟩

set_option maxHeartbeats 1000000 in
theorem within_any (A A' : Option Addr) (xs ys : List Int) (c c' : Nat) (w : World) (h : IntsAt w w.heap.size A xs) (h' : IntsAt w w.heap.size A' ys) :
    Calls Try.prog 11 #[.slice A xs.length c, .slice A' ys.length c'] w fun e w' => e = .returned (.bool (tf (∀ x ∈ xs, x ∈ ys))) ∧ w = w' := by
  have hl := h.len
  go_enter Try.func11, Try.ntmps11
  go_wp2_with fail
  go_loop [5] (fun i => ∃ k : Nat, k ≤ xs.length ∧ i = .int .i64 k ∧ ∀ j x, j < k → xs[j]? = some x → x ∈ ys) (fun i => xs.length - (intOf i).toNat)
  case atStart => exact ⟨0, Nat.zero_le _, rfl, fun j x hj => absurd hj (by omega)⟩
  case round =>
    obtain ⟨k, hk, rfl, he0⟩ := hrel
    have he := hide he0
    clear he0
    by_cases hlt : k < xs.length
    · obtain ⟨b, off, x, rfl, hbl, hx, hm, hc⟩ := h.at_ hlt
      have Hx := hide hx
      have Hm := hide hm
      clear hx hm
      by_cases hxn : x ∈ ys
      · have ht := hide (tf_true hxn)
        have He : Hid (∀ j y, j < k + 1 → xs[j]? = some y → y ∈ ys) := hide (by
          intro j y hj hy
          by_cases e : j = k
          · subst e
            obtain rfl := Option.some.inj (Hx.out.symm.trans hy)
            exact hxn
          · exact he.out j y (by omega) hy)
        clear he hxn
        go_wp2_with fail
        refine (isIn_any A' ys c' x w h').mono ?_
        rintro e w' ⟨rfl, rfl⟩
        rw [ht.out]
        go_wp2
        go_round
        case rel => exact ⟨k + 1, by omega, by go_num, He.out⟩
        case measure => simp [intOf]; omega
      · have ht := hide (tf_false hxn)
        have HF := hide (show tf (∀ x ∈ xs, x ∈ ys) = false from tf_false fun hall => hxn (hall x Hm.out))
        clear he hxn
        go_wp2_with fail
        refine (isIn_any A' ys c' x w h').mono ?_
        rintro e w' ⟨rfl, rfl⟩
        rw [ht.out]
        go_wp2
        go_ret
        exact ⟨ret_bool HF.out.symm, rfl⟩
    · obtain rfl : k = xs.length := by omega
      have HF := hide (show tf (∀ x ∈ xs, x ∈ ys) = true from tf_true fun x hx => by
        obtain ⟨j, hj, rfl⟩ := List.getElem_of_mem hx
        exact he.out j _ hj (List.getElem?_eq_getElem hj))
      clear hlt he
      go_wp2
      go_ret
      exact ⟨ret_bool HF.out.symm, rfl⟩

end Go.Proofs.Ytmpplimghjkjaac
