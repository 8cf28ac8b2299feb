/-
  Lemmas, several texts in one: SpecCp, Sub.
-/
import Derived.Test.YtochdhibmmohfacOwn
namespace Go.Proofs.Ytochdhibmmohfac
open Go.RowKit

set_option maxHeartbeats 400000 in
theorem copyInts_any (A : Option Addr) (xs : List Int) (c : Nat) (w : World) (h : IntsAt w w.heap.size A xs) (hnil : A = none → c = 0) (hs : xs.length ≤ 16777000) :
    Calls Try.prog 30 #[.slice A xs.length c] w (GivesInts w xs) := by
  go_enter Try.func30, Try.ntmps30
  go_wp2_with (at_builtin; refine append_ints rfl (.tmp 3) (.tmp 4) rfl w.heap.size _ 0 [] rfl (OwnI.bare w) w.heap.size A c xs rfl hnil (h.below ((Below.refl _ _).alloc (Nat.le_refl _) _)) (by simp; omega) (by simp) ?_; intro zs A' c' w' hz hown hg hat)
  go_ret
  obtain rfl : zs = xs := by simpa [Hid] using hz
  exact ⟨A', c', rfl, hown, below_grown ((Below.refl _ _).alloc (Nat.le_refl _) _) hg (by simp) (by simp [blockOf])⟩

end Go.Proofs.Ytochdhibmmohfac

namespace Go.Proofs.Ytochdhibmmohfac
open Go.RowKit

theorem IntsAt.upto {w : World} {B : Nat} {A : Option Addr} {xs : List Int} (h : IntsAt w B A xs) (n : Nat) : IntsAt w B A (xs.take n) := by
  refine ⟨fun hx => ?_, fun x hx => h.wf x (List.mem_of_mem_take hx), Nat.le_trans (by simp; omega) h.len⟩
  obtain ⟨b, off, e, hlt, hc⟩ := h.row (by intro e; subst e; simp at hx)
  refine ⟨b, off, e, hlt, fun j x hj => hc j x ?_⟩
  rw [List.getElem?_take] at hj
  split at hj
  · exact hj
  · cases hj

theorem IntsAt.behind {w : World} {B b off : Nat} {xs : List Int} (h : IntsAt w B (some ⟨b, off, none⟩) xs) (k : Nat) : IntsAt w B (some ⟨b, off + k, none⟩) (xs.drop k) := by
  refine ⟨fun hx => ?_, fun x hx => h.wf x (List.mem_of_mem_drop hx), Nat.le_trans (by simp) h.len⟩
  obtain ⟨b', off', e, hlt, hc⟩ := h.row (by intro e; subst e; simp at hx)
  injection e with e
  injection e with e1 e2
  subst e1 e2
  refine ⟨b, off + k, rfl, hlt, fun j x hj => ?_⟩
  rw [List.getElem?_drop] at hj
  have := hc (k + j) x hj
  rwa [← Nat.add_assoc] at this

theorem IntsAt.empt {w : World} {B : Nat} (A : Option Addr) : IntsAt w B A [] := ⟨fun h => absurd rfl h, fun _ h => (by cases h), by simp⟩

end Go.Proofs.Ytochdhibmmohfac
