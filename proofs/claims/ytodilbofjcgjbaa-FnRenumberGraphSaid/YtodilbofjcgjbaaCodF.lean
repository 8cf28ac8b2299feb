/-
  The program's codeFrom, whole.
-/
import Derived.Test.YtodilbofjcgjbaaCodI
import Derived.Test.YtodilbofjcgjbaaCodM
namespace Go.Proofs.Ytodilbofjcgjbaa
open Go.RowKit Go.Maps
set_option linter.unusedVariables false


set_option maxRecDepth 100000 in
set_option maxHeartbeats 2000000 in
theorem codeFrom_any (ns : List Nd) (K : Nat) (hg : CodG ns K) (hl : ns.length ≤ 1048576) (hM : 3 + 3 * (K * ns.length) ≤ 16000000) (A : Option Addr) (c : Nat) (i : Nat) (w : World) (hr : NdsAt w w.heap.size A ns) (hi : i < ns.length) :
    Calls Try.prog 38 #[.slice A ns.length c, .int .i64 (i : Int)] w (GivesInts w (cod ns (ns.length + 1) i ([], [])).1) := by
  have Hg := hide hg
  have hMh := hide hM
  have hB : Below w.heap.size w ((((w.alloc (.cells #[.slice A ns.length c] 23)).alloc (.cells #[.slice none 0 0] 26)).alloc (.cells #[.map none, .slice none 0 0] 54)).alloc
    (.cells #[.func (.func 47) #[] #[.pointer (some ⟨w.heap.size, 0, none⟩), .pointer (some ⟨w.heap.size + 1 + 1, 0, none⟩), .pointer (some ⟨w.heap.size + 1, 0, none⟩), .pointer (some ⟨w.heap.size + 1 + 1 + 1, 0, none⟩)]] 75)) :=
    ((((Below.refl _ w).alloc (Nat.le_refl _) _).alloc (by simp) _).alloc (by simp <;> omega) _).alloc (by simp <;> omega) _
  have henv : CEnv ((((w.alloc (.cells #[.slice A ns.length c] 23)).alloc (.cells #[.slice none 0 0] 26)).alloc (.cells #[.map none, .slice none 0 0] 54)).alloc
    (.cells #[.func (.func 47) #[] #[.pointer (some ⟨w.heap.size, 0, none⟩), .pointer (some ⟨w.heap.size + 1 + 1, 0, none⟩), .pointer (some ⟨w.heap.size + 1, 0, none⟩), .pointer (some ⟨w.heap.size + 1 + 1 + 1, 0, none⟩)]] 75)) (w.heap.size + 1 + 1 + 1 + 1) w.heap.size (w.heap.size + 1) (w.heap.size + 1 + 1) (w.heap.size + 1 + 1 + 1) A c ns [] [] := by
    refine ⟨?_, ?_, ⟨none, none, 0, none, 0, SetI.start ?_ (by omega), ?_, OwnI.empty _ _, fun g hg => by cases hg⟩, hr.below hB, by omega, by omega, by omega, by omega, by simp⟩
    · exact (((Lies.new w #[.slice A ns.length c] 23).alloc _).alloc _).alloc _
    · have := Lies.new (((w.alloc (.cells #[.slice A ns.length c] 23)).alloc (.cells #[.slice none 0 0] 26)).alloc (.cells #[.map none, .slice none 0 0] 54)) #[.func (.func 47) #[] #[.pointer (some ⟨w.heap.size, 0, none⟩), .pointer (some ⟨w.heap.size + 1 + 1, 0, none⟩), .pointer (some ⟨w.heap.size + 1, 0, none⟩), .pointer (some ⟨w.heap.size + 1 + 1 + 1, 0, none⟩)]] 75
      simpa using this
    · have := (Lies.new ((w.alloc (.cells #[.slice A ns.length c] 23)).alloc (.cells #[.slice none 0 0] 26)) #[.map none, .slice none 0 0] 54).alloc (.cells #[.func (.func 47) #[] #[.pointer (some ⟨w.heap.size, 0, none⟩), .pointer (some ⟨w.heap.size + 1 + 1, 0, none⟩), .pointer (some ⟨w.heap.size + 1, 0, none⟩), .pointer (some ⟨w.heap.size + 1 + 1 + 1, 0, none⟩)]] 75)
      simpa using this
    · have := ((Lies.new (w.alloc (.cells #[.slice A ns.length c] 23)) #[.slice none 0 0] 26).alloc (.cells #[.map none, .slice none 0 0] 54)).alloc (.cells #[.func (.func 47) #[] #[.pointer (some ⟨w.heap.size, 0, none⟩), .pointer (some ⟨w.heap.size + 1 + 1, 0, none⟩), .pointer (some ⟨w.heap.size + 1, 0, none⟩), .pointer (some ⟨w.heap.size + 1 + 1 + 1, 0, none⟩)]] 75)
      simpa using this
  have Henv := hide henv
  clear hg henv hr hM
  go_enter Try.func38, Try.ntmps38
  go_wp2_with fail
  generalize ((((w.alloc (.cells #[.slice A ns.length c] 23)).alloc (.cells #[.slice none 0 0] 26)).alloc (.cells #[.map none, .slice none 0 0] 54)).alloc
    (.cells #[.func (.func 47) #[] #[.pointer (some ⟨w.heap.size, 0, none⟩), .pointer (some ⟨w.heap.size + 1 + 1, 0, none⟩), .pointer (some ⟨w.heap.size + 1, 0, none⟩), .pointer (some ⟨w.heap.size + 1 + 1 + 1, 0, none⟩)]] 75)) = W at hB Henv ⊢
  refine (codw_any ns K 16000000 Hg.out hl (by omega) _ _ _ _ _ A c (ns.length + 1) i [] [] W hi (CInv.start ns) Henv.out (by simp) (by have := hMh.out; simp; omega)).mono ?_
  rintro e w1 ⟨rfl, he, hb⟩
  obtain ⟨m, Am, cm, Ac, cc, _, hcode, hown, _⟩ := he.st
  have z0 := hcode.cell 0
  simp at z0
  have hB1 := hb.below hB (by omega) (by omega) (by omega)
  generalize hR : (cod ns (ns.length + 1) i ([], [])).1 = R at z0 hown
  have Hfin : Hid (GivesInts w (cod ns (ns.length + 1) i ([], [])).1 (.returned (.slice Ac R.length cc)) w1) := by
    show GivesInts _ _ _ _
    rw [hR]
    exact ⟨Ac, cc, rfl, hown.mono (by omega), hB1⟩
  clear hcode hown he hb hR
  go_wp2
  go_ret
  exact Hfin.out

end Go.Proofs.Ytodilbofjcgjbaa
