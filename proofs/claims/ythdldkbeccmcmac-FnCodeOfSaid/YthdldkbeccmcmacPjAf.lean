/-
  Lemmas, several texts in one: NewR, ReachM, CodG.
-/
import Derived.Test.YthdldkbeccmcmacPick
import Derived.Test.YthdldkbeccmcmacPjAe
import Derived.Test.YthdldkbeccmcmacSpecE
import Derived.Test.YthdldkbeccmcmacDfs
import Derived.Test.YthdldkbeccmcmacCod
namespace Go.Proofs.Ythdldkbeccmcmac
open Go.RowKit
set_option linter.unusedVariables false

theorem BytesAt.less {w : World} {B : Nat} {A : Option Addr} {n m : Nat} (h : BytesAt w B A n) (hm : m ≤ n) : BytesAt w B A m := fun k hk => h k (by omega)
theorem BytesAt.more {w : World} {B B' : Nat} {A : Option Addr} {n : Nat} (h : BytesAt w B A n) (hB : B ≤ B') : BytesAt w B' A n := fun k hk => by
  obtain ⟨b, off, x, h1, h2, h3⟩ := h k hk
  exact ⟨b, off, x, h1, by omega, h3⟩

set_option maxHeartbeats 1000000 in
theorem newReader_any (A : Option Addr) (n c : Nat) (w : World) (h : BytesAt w w.heap.size A n) (hc : n ≤ c) (hn : n ≤ 9223372036854775807) :
    Calls Try.prog 10 #[.slice A n c] w fun e w' => e = .returned (.pointer (some ⟨w.heap.size, 0, none⟩)) ∧ (∃ n' c', Rd w' w.heap.size A n' c' 0) ∧ Below w.heap.size w w' := by
  by_cases h2 : n ≤ 2000
  · have d : decide ((2000 : Int) < (n : Int)) = false := by simp; omega
    have hB : Below w.heap.size w (w.alloc (.cells #[.slice A n c, .int .i64 0] 43)) := (Below.refl _ _).alloc (Nat.le_refl _) _
    have HR : Hid (Rd (w.alloc (.cells #[.slice A n c, .int .i64 0] 43)) w.heap.size A n c 0) := hide ⟨Lies.new w _ _, h.later hB, h2⟩
    clear h
    go_enter Try.func10, Try.ntmps10
    go_wp2
    go_ret
    exact ⟨rfl, ⟨n, c, HR.out⟩, hB⟩
  · have d : decide ((2000 : Int) < (n : Int)) = true := by simp; omega
    obtain ⟨b, off, _, rfl, _⟩ := h 0 (by omega)
    have hcap : ¬ ((c : Int) < 2000) := by omega
    have hB : Below w.heap.size w (w.alloc (.cells #[.slice (some ⟨b, off, none⟩) 2000 c, .int .i64 0] 43)) := (Below.refl _ _).alloc (Nat.le_refl _) _
    have HR : Hid (Rd (w.alloc (.cells #[.slice (some ⟨b, off, none⟩) 2000 c, .int .i64 0] 43)) w.heap.size (some ⟨b, off, none⟩) 2000 c 0) := hide ⟨Lies.new w _ _, (h.less (by omega)).later hB, Nat.le_refl _⟩
    clear h
    go_enter Try.func10, Try.ntmps10
    go_wp2
    go_ret
    exact ⟨rfl, ⟨2000, c, HR.out⟩, hB⟩

end Go.Proofs.Ythdldkbeccmcmac

namespace Go.Proofs.Ythdldkbeccmcmac
open Go.RowKit
set_option linter.unusedVariables false

/-- every node may be entered -/
def anyB (x : Int) : Bool := true

theorem kidsIn_of_valid {ns : List Nd} {r : Int} (h : ValidG ns r) : KidsIn ns := fun n hn => (h.nodes n hn).inn

theorem in64_met {ns : List Nd} {L : List Int} (h12 : ns.length ≤ 12) (h : Met ns L) : ∀ x ∈ L, In64 x := in64_of_range h12 h.range

open Classical in
/-- the nodes that are reached from the root of a valid graph; none for another one -/
noncomputable def reachOf (ns : List Nd) (r : Int) : List Int := if ValidG ns r then dfs ns anyB (ns.length + 1) r [] else []

theorem reachOf_met {ns : List Nd} {r : Int} : Met ns (reachOf ns r) := by
  unfold reachOf
  split
  next h => exact dfs_met ns anyB (kidsIn_of_valid h) _ _ _ (Met.nil ns) ⟨h.root0, h.root⟩
  next => exact Met.nil ns

theorem reachOf_few {ns : List Nd} {r : Int} : (reachOf ns r).length ≤ 12 := by
  unfold reachOf
  split
  next h => exact Nat.le_trans (dfs_met ns anyB (kidsIn_of_valid h) _ _ _ (Met.nil ns) ⟨h.root0, h.root⟩).len h.few
  next => simp

end Go.Proofs.Ythdldkbeccmcmac

namespace Go.Proofs.Ythdldkbeccmcmac
open Go.RowKit Go.Maps
set_option linter.unusedVariables false

theorem cod_grows {ns : List Nd} : ∀ (f : Nat) (x : Int) (p : CM), ∃ l, (cod ns f x p).1 = p.1 ++ l
  | 0, _, _ => ⟨[], by simp [cod]⟩
  | f + 1, x, p => by
    by_cases hs : x ∈ p.2
    · rw [cod_seen hs]
      exact ⟨_, rfl⟩
    · rw [cod_new hs]
      have key : ∀ (xs : List Int) (q : CM), ∃ l, (codL ns f xs q).1 = q.1 ++ l := by
        intro xs
        induction xs with
        | nil => intro q; exact ⟨[], by simp [codL]⟩
        | cons a xs ih =>
          intro q
          obtain ⟨l1, h1⟩ := cod_grows f a q
          obtain ⟨l2, h2⟩ := ih (cod ns f a q)
          refine ⟨l1 ++ l2, ?_⟩
          show (codL ns f xs (cod ns f a q)).1 = _
          rw [h2, h1, List.append_assoc]
      obtain ⟨l, h⟩ := key (kidsOf ns x) (codPut ns x p)
      refine ⟨[kindOf ns x, valueOf ns x, ((kidsOf ns x).length : Int)] ++ l, ?_⟩
      rw [h]
      unfold codPut
      simp

end Go.Proofs.Ythdldkbeccmcmac
