/-
  Lists without repeats are no longer than lists that hold them. Plain lemmas on lists, no program.
-/
import Derived.Test.YtodilbofjcgjbaaPkA
namespace Go.Proofs.Ytodilbofjcgjbaa

theorem nodup_le_len : ∀ (R D : List Int), R.Nodup → (∀ x ∈ R, x ∈ D) → R.length ≤ D.length
  | [], _, _, _ => by simp
  | a :: R, D, hn, hs => by
    rw [List.nodup_cons] at hn
    have h1 := nodup_le_len R (D.erase a) hn.2 (fun x hx => (List.mem_erase_of_ne (by intro e; subst e; exact hn.1 hx)).2 (hs x (by simp [hx])))
    have h2 := List.length_erase_of_mem (hs a (by simp))
    have h3 : 0 < D.length := List.length_pos_of_mem (hs a (by simp))
    rw [List.length_cons]
    omega

end Go.Proofs.Ytodilbofjcgjbaa
